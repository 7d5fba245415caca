import Derived.Test.YtminceigjejipaaYardIs
import Derived.Test.YtminceigjejipaaG10
import Derived.Test.YtminceigjejipaaG18
import Derived.Test.YtminceigjejipaaYp9
/-
  THE LANDED MARKET MEETS TickY.
-/
namespace Go.Proofs.Ytminceigjejipaa
open Go.RowKit

set_option maxRecDepth 100000 in
set_option maxHeartbeats 2000000 in
theorem tickY : TickY YAt := by
  intro w p F m hy hok hg
  obtain ⟨V, L, hF, hv, har, hch⟩ := hy
  have HF := hide hF
  have HV := hide hv
  have HOK := hide hok
  have HG := hide hg
  have HAR := hide har
  have HCH := hide hch
  clear hF hv hok hg har hch
  by_cases hl : m.log.length = 300
  · have HL := hide hl
    clear hl
    go_enter Try.func49, Try.ntmps49
    go_wp2_with fail
    refine (log_full p V L m (ycallOf callTick) _ HV.out HL.out).mono ?_
    rintro e w' ⟨rfl, hq⟩
    have HQ := hide hq
    clear hq
    go_wp2
    go_ret2
    exact ⟨_, [], 2, m, F, rfl, .inl ⟨HL.out, rfl, rfl, rfl⟩, ⟨V, L, HF.out, HV.out.chg0 HQ.out, HAR.out, HCH.out⟩, HQ.out.mono (fun _ _ h => h.elim), fun _ hk => .inl hk, World.ownsRow_nil _ _ _ _, fun k hk => by simp [Value.ownBlock] at hk, fun _ => rfl⟩
  · have hl' : m.log.length < 300 := by have := HOK.out.nl; omega
    have HL := hide hl'
    clear hl hl'
    go_enter Try.func49, Try.ntmps49
    go_wp2_with fail
    refine (log_ok p V L m (ycallOf callTick) callTick rfl _ HV.out HL.out).mono ?_
    rintro e w2 ⟨rfl, V1, L1, a1, a2, a3⟩
    have cq : w2.cell? ⟨p, 0, none⟩ = some (.pointer (some ⟨V1.q, 0, none⟩)) := a1.cq
    have HSUB := hide (ytick_any V1 (m.logs callTick) w2 a1.mkt (HOK.out.logs HL.out _) (HAR.out.logs _) HG.out)
    have A1 := hide a1
    have A2 := hide a2
    have A3 := hide a3
    clear a1 a2 a3
    go_wp2_with (go_at_call 69; refine HSUB.out.mono ?_; rintro e w3 ⟨lv, z, names, m', rfl, hres, hm3, hc3, how, hnew, hnil⟩; have HRES := hide hres; have HM3 := hide hm3; have HC3 := hide hc3; have HOW := hide how; have HNEW := hide hnew; have HNIL := hide hnil; clear hres hm3 hc3 how hnew hnil)
    go_ret2
    have hres := HRES.out.res (HOK.out.logs HL.out _) HG.out HL.out
    have hm' := hres.fn HOK.out HL.out
    subst hm'
    have hch := tickF_charges HOK.out HG.out HL.out
    refine ⟨lv, names, z, tickF m, yfoot p V1 L1, rfl, hres, ⟨V1, L1, fun _ => Iff.rfl, ⟨?_, HM3.out, A1.out.out⟩, HAR.out.tickF HOK.out HG.out HL.out, HCH.out.tick HOK.out HG.out HL.out⟩, ?_, ?_, HOW.out, fun k hk => ⟨Nat.le_trans A2.out.size (HNEW.out k hk), fun hf => ?_⟩, HNIL.out⟩
    · rw [tickF_log' m, ents_key (key_tick m), hch.1, hch.2]
      exact A1.out.yb.chg HC3.out (fun k hk e => A1.out.out k hk e)
    · refine (A2.out.mono (fun k _ hk => (HF.out k).2 hk)).trans HC3.out (fun k hk hf => (HF.out k).2 ?_)
      rcases A3.out k (.inr hf) with h | h
      · exact h
      · omega
    · intro k hk
      rcases A3.out k hk with h | h
      · exact .inl ((HF.out k).2 h)
      · exact .inr h
    · have h1 := HNEW.out k hk
      have h2 := A1.out.foot_lt k hf
      omega
end Go.Proofs.Ytminceigjejipaa

/-
  THE LANDED MARKET MEETS PaidY.
-/
namespace Go.Proofs.Ytminceigjejipaa
open Go.RowKit

set_option maxRecDepth 100000 in
set_option maxHeartbeats 4000000 in
theorem yPrice (w : World) (p : Nat) (F : Nat → Prop) (m : MkG) (ten ref : Int) (hy : YAt w p F m) (hg : GoodM m) :
    Calls Try.prog 24 #[.pointer (some ⟨p, 0, none⟩), .int .i64 ten, .int .i64 ref] w fun e w' => e = .returned (.tuple #[.int .i64 (priceV m ten ref), .int .i64 (priceE m ten ref)]) ∧ YTo YAt w p F m w' := by
  obtain ⟨V, L, hF, hv, har, hch⟩ := hy
  have HFIN := hide (fun (w' : World) (h : Chg (fun _ => False) w w') => show YTo YAt w p F m w' from (YvTo.same hv h).yto hF har hch)
  have HV := hide hv
  have HG := hide hg
  have cq : w.cell? ⟨p, 0, none⟩ = some (.pointer (some ⟨V.q, 0, none⟩)) := hv.cq
  have HFD := hide (yfind_any V m ten ref w hv.mkt hg.ok)
  clear hF hv har hch hg
  go_enter Try.func24, Try.ntmps24
  go_wp2_with fail
  refine HFD.out.mono ?_
  rintro e w1 ⟨rfl, hq⟩
  have HQ := hide hq
  have H1 := hide (HV.out.chg0 hq)
  clear hq HFD cq
  rcases lookE_cases m ten ref with ⟨h1, hT⟩ | ⟨h1, hT, hf⟩ | ⟨h1, hT, hf⟩
  · have E1 := hide (show priceE m ten ref = 3 by rw [priceE, h1]; rfl)
    have E2 := hide (show priceV m ten ref = 0 by rw [priceV, E1.out]; rfl)
    rw [h1]
    clear h1 hT
    generalize yfindI m ten ref = z at *
    go_wp2
    go_ret2
    exact ⟨ret_two E2.out.symm E1.out.symm, HFIN.out _ HQ.out⟩
  · have E1 := hide (show priceE m ten ref = 5 by rw [priceE, h1]; rfl)
    have E2 := hide (show priceV m ten ref = 0 by rw [priceV, E1.out]; rfl)
    rw [h1]
    clear h1 hT hf
    generalize yfindI m ten ref = z at *
    go_wp2
    go_ret2
    exact ⟨ret_two E2.out.symm E1.out.symm, HFIN.out _ HQ.out⟩
  · have e2 : yfindI m ten ref = findZ m.bids ten ref := by rw [yfindI, h1]; rfl
    rw [h1, e2]
    have hfl := findZ_lt m.bids ten ref
    have hbl := HG.out.ok.bl
    obtain ⟨i, hi⟩ := Int.eq_ofNat_of_zero_le (show 0 ≤ findZ m.bids ten ref by omega)
    obtain ⟨b, hb⟩ : ∃ b, m.bids[i]? = some b := ⟨_, List.getElem?_eq_getElem (by omega)⟩
    have hls : lookS m ten ref = b.state := by rw [lookS, h1, if_pos rfl, hi]; simp [stateAt, hb]
    have hen : entryAt m (findZ m.bids ten ref) = b.entry := by rw [hi]; simp [entryAt, hb]
    obtain ⟨ao, cap, hv, hel⟩ := H1.out.mkt.bid_form
    obtain ⟨g, hao, _, hcl, _⟩ := hel i b hb
    subst hao
    have hil : (i : Int) < (m.bids.length : Int) := by omega
    have i0 : (0 : Int) ≤ (i : Int) := by omega
    have cq : w1.cell? ⟨p, 0, none⟩ = some (.pointer (some ⟨V.q, 0, none⟩)) := H1.out.cq
    have c6 : w1.cell? ⟨V.q, 6, none⟩ = some (.slice (some ⟨g, 0, none⟩) m.bids.length cap) := by rw [← hv]; exact H1.out.mkt.cell 6
    have c7 : w1.cell? ⟨g, i * 9 + 7, none⟩ = some (.int .i64 b.state) := hcl 7 _ rfl
    rw [hi]
    have HB := hide hb
    cases hs : b.state == 2
    · have hs' : ¬ b.state = 2 := by simpa using hs
      have E1 := hide (show priceE m ten ref = 8 by rw [priceE, if_pos h1, hls, if_neg hs'])
      have E2 := hide (show priceV m ten ref = 0 by rw [priceV, E1.out]; rfl)
      clear h1 hT hf hfl hls hen hv hel hcl hi e2 hb hs'
      generalize m.bids.length = n at *
      go_wp2
      go_ret2
      exact ⟨ret_two E2.out.symm E1.out.symm, HFIN.out _ HQ.out⟩
    · have hs' : b.state = 2 := by simpa using hs
      have E1 := hide (show priceE m ten ref = 0 by rw [priceE, if_pos h1, hls, if_pos hs'])
      have E2 := hide (show priceV m ten ref = priceM m b.entry by rw [priceV, if_pos E1.out, hen])
      have HPR := hide (yprice_any p V L m i b w1 H1.out HG.out.ok HG.out.cash.hist hb hs')
      clear h1 hT hf hfl hls hen hv hel hcl hi e2 hb hs'
      generalize m.bids.length = n at *
      go_wp2_with fail
      refine HPR.out.mono ?_
      rintro e w2 ⟨rfl, hq2⟩
      have HQ2 := hide (HQ.out.trans hq2 (fun _ _ h => h))
      clear hq2 HPR cq c6 c7
      go_wp2
      go_ret2
      exact ⟨ret_two E2.out.symm E1.out.symm, HFIN.out _ HQ2.out⟩

theorem payM_rest (m : MkG) (ten cents : Int) : (payM m ten cents).log = m.log ++ [callPay ten cents] ∧ (payM m ten cents).charges = m.charges ∧ (payM m ten cents).bids = m.bids := by
  unfold payM
  simp only
  split <;> exact ⟨rfl, rfl, rfl⟩
theorem ArrOk.pay {m : MkG} (h : ArrOk m) (ten cents : Int) : ArrOk (payM m ten cents) := by
  have e : (payM m ten cents).bids = m.bids ∧ (payM m ten cents).time = m.time := by
    unfold payM
    simp only
    split <;> exact ⟨rfl, rfl⟩
  intro b hb
  rw [e.1] at hb
  rw [e.2]
  exact h b hb

set_option maxRecDepth 100000 in
set_option maxHeartbeats 4000000 in
theorem yPay (w : World) (p : Nat) (F : Nat → Prop) (m : MkG) (ten cents : Int) (hy : YAt w p F m) (hg : GoodM m) :
    Calls Try.prog 51 #[.pointer (some ⟨p, 0, none⟩), .int .i64 ten, .int .i64 cents] w fun e w' => ∃ z m', e = .returned (.int .i64 z) ∧ PayRes m ten cents z m' ∧ YTo YAt w p F m' w' := by
  obtain ⟨V, L, hF, hv, har, hch⟩ := hy
  have HF := hide hF
  have HV := hide hv
  have HG := hide hg
  have HAR := hide har
  have HCH := hide hch
  clear hF hv hg har hch
  by_cases hl : m.log.length = 300
  · have HL := hide hl
    clear hl
    go_enter Try.func51, Try.ntmps51
    go_wp2_with fail
    refine (log_full p V L m (ycallOf (callPay ten cents)) _ HV.out HL.out).mono ?_
    rintro e w' ⟨rfl, hq⟩
    have HQ := hide hq
    clear hq
    go_wp2
    go_ret
    exact ⟨2, m, rfl, .inl ⟨HL.out, rfl, rfl⟩, (YvTo.same HV.out HQ.out).yto HF.out HAR.out HCH.out⟩
  · have hl' : m.log.length < 300 := by have := HG.out.ok.nl; omega
    have HL := hide hl'
    clear hl hl'
    have HFIN := hide (fun (w' : World) (h : YvTo w p V L (payM m ten cents) w') => show ∃ z m', (Ending.returned (.int .i64 (payE m ten cents)) = .returned (.int .i64 z)) ∧ PayRes m ten cents z m' ∧ YTo YAt w p F m' w' from ⟨_, _, rfl, .inr ⟨HL.out, rfl, rfl⟩, h.yto HF.out (HAR.out.pay _ _) (HCH.out.pay _ _)⟩)
    go_enter Try.func51, Try.ntmps51
    go_wp2_with fail
    refine (log_ok p V L m (ycallOf (callPay ten cents)) (callPay ten cents) rfl _ HV.out HL.out).mono ?_
    rintro e w1 ⟨rfl, V1, L1, a1, a2, a3⟩
    have A1 := hide a1
    have HSAME := hide (fun (hz : ¬ payE m ten cents = 0) => show YvTo w p V L (payM m ten cents) w1 from by
      rw [show payM m ten cents = m.logs (callPay ten cents) by simp [payM, hz]]
      exact ⟨V1, L1, a1, a2, a3⟩)
    have HAF := hide (fun (m2 : MkG) (w2 : World) (h : YvTo w1 p V1 L1 m2 w2) => YvTo.after (V := V) (L := L) a2 a3 h)
    have cq : w1.cell? ⟨p, 0, none⟩ = some (.pointer (some ⟨V1.q, 0, none⟩)) := a1.cq
    have HTN := hide (hasTenant_any V1 (m.logs (callPay ten cents)) ten w1 a1.mkt (HG.out.ok.logs HL.out _).ck)
    clear a1 a2 a3
    go_wp2_with fail
    refine HTN.out.mono ?_
    rintro e w2 ⟨rfl, hw⟩
    subst w2
    have et : (m.logs (callPay ten cents)).tenB ten = m.tenB ten := rfl
    rw [et]
    clear et HTN
    cases hT : m.tenB ten
    · have E1 := hide (show payE m ten cents = 3 by simp [payE, hT])
      clear hT
      go_wp2
      go_ret
      have h := HFIN.out _ (HSAME.out (by rw [E1.out]; decide))
      rw [E1.out] at h
      exact h
    · go_wp2_with fail
      refine (within_any _ _ _ _).mono ?_
      rintro e w2 ⟨rfl, hw⟩
      subst w2
      cases hR : inB cents 1 1073741824
      · have hcs : cents < 1 ∨ 1073741824 < cents := by have := inB_false hR; omega
        have E1 := hide (show payE m ten cents = 9 by simp [payE, hT, hcs])
        clear hT hR hcs
        go_wp2
        go_ret
        have h := HFIN.out _ (HSAME.out (by rw [E1.out]; decide))
        rw [E1.out] at h
        exact h
      · have hcs : ¬ (cents < 1 ∨ 1073741824 < cents) := by have := inB_true hR; omega
        obtain ⟨t0, t1⟩ := tenB_true hT
        have hnp := HG.out.ok.np
        have hcf := cfgOk_true HG.out.ok.ck
        obtain ⟨i, rfl⟩ := Int.eq_ofNat_of_zero_le t0
        have E1 := hide (show payE m i cents = 0 by simp [payE, hT, hcs])
        have hin : i < m.paid.length := by omega
        obtain ⟨ao, cap, hpv, hel⟩ := A1.out.yb.paid_form
        obtain ⟨g, hao, hown, hcl, hfr⟩ := hel i hin
        subst hao
        have hil : (i : Int) < (m.paid.length : Int) := by omega
        have i0 : (0 : Int) ≤ (i : Int) := by omega
        have c4 : w1.cell? ⟨p, 4, none⟩ = some (.slice (some ⟨g, 0, none⟩) m.paid.length cap) := by
          have : w1.cell? ⟨p, 4, none⟩ = some L1.pv := A1.out.yb.cell 4
          rw [this, hpv]
          rfl
        have hx := HG.out.cash.paid (m.paid.getD i 0) (by simp [List.getD, List.getElem?_eq_getElem hin])
        have hl3 := HL.out
        have hcl' : w1.cell? ⟨g, i, none⟩ = some (.int .i64 (m.paid.getD i 0)) := hcl
        have hfr' : w1.frozen? ⟨g, i, none⟩ = false := hfr
        have HPAY := hide (show YvTo w p V L (payM m i cents) (w1.setCell ⟨g, i, none⟩ (.int .i64 (m.paid.getD i 0 + cents))) by
          rw [show payM m i cents = { m.logs (callPay i cents) with paid := m.paid.set i (m.paid.getD i 0 + cents) } by simp [payM, E1.out, MkG.logs]]
          refine HAF.out _ _ (A1.out.own (lg := m.log ++ [callPay i cents]) (es := m.bids.map (·.entry)) (ch := m.charges) (pd := m.paid.set i (m.paid.getD i 0 + cents)) ⟨L1, A1.out.yb.setPaid hin hown, (Chg.refl _ _).setCell (.inl (.inr (.inr (.inr (.inr hown))))) _, fun _ h => .inl h⟩ (fun h => ⟨h.box, h.bids, h.susp, h.units, h.cal, h.ne⟩) rfl rfl rfl rfl))
        have hcr := inB_true hR
        have hww : IntKind.i64.wrap (m.paid.getD i 0 + cents) = m.paid.getD i 0 + cents := by rw [IntKind.wrap_i64]; omega
        have hpl := A1.out.lt
        clear hT hR hcs t0 t1 hnp hcf hel hpv hown hcl hfr hin hx hl3 cq hcr
        obtain ⟨old, hold⟩ : ∃ old, old = m.paid.getD i 0 := ⟨_, rfl⟩
        rw [← hold] at hcl' hww HPAY
        clear hold
        generalize m.paid.length = n at *
        go_wp2
        go_ret
        have h := HFIN.out _ HPAY.out
        rw [E1.out] at h
        exact h

set_option maxRecDepth 100000 in
set_option maxHeartbeats 4000000 in
theorem yBalance (w : World) (p : Nat) (F : Nat → Prop) (m : MkG) (ten : Int) (hy : YAt w p F m) (hg : GoodM m) :
    Calls Try.prog 37 #[.pointer (some ⟨p, 0, none⟩), .int .i64 ten] w fun e w' => e = .returned (.tuple #[.int .i64 (balV m ten), .int .i64 (invE m ten)]) ∧ YTo YAt w p F m w' := by
  obtain ⟨V, L, hF, hv, har, hch⟩ := hy
  have HFIN := hide (fun (w' : World) (h : Chg (fun _ => False) w w') => show YTo YAt w p F m w' from (YvTo.same hv h).yto hF har hch)
  have cq : w.cell? ⟨p, 0, none⟩ = some (.pointer (some ⟨V.q, 0, none⟩)) := hv.cq
  have HTN := hide (hasTenant_any V m ten w hv.mkt hg.ok.ck)
  have HBA := hide (fun (i : Nat) (hi : i < m.paid.length) => balanceOf_any p V L m i w hv hg.ok hg.cash.paid hg.cash.chg hi)
  have HOK := hide hg.ok
  clear hF hv har hch hg
  go_enter Try.func37, Try.ntmps37
  go_wp2_with fail
  refine HTN.out.mono ?_
  rintro e w2 ⟨rfl, hw⟩
  subst w2
  clear HTN
  cases hT : m.tenB ten
  · have E1 := hide (show invE m ten = 3 by simp [invE, hT])
    have E2 := hide (show balV m ten = 0 by simp [balV, hT])
    clear hT cq
    go_wp2
    go_ret2
    exact ⟨ret_two E2.out.symm E1.out.symm, HFIN.out _ (Chg.refl _ _)⟩
  · obtain ⟨t0, t1⟩ := tenB_true hT
    have hnp := HOK.out.np
    obtain ⟨i, rfl⟩ := Int.eq_ofNat_of_zero_le t0
    have E1 := hide (show invE m i = 0 by simp [invE, hT])
    have E2 := hide (show balV m i = m.paid.getD i 0 - sumC (ofTen m.charges i) by simp [balV, hT])
    have HB := hide (HBA.out i (by omega))
    clear hT t0 t1 hnp HBA cq
    go_wp2_with fail
    refine HB.out.mono ?_
    rintro e w2 ⟨rfl, hq⟩
    have HQ := hide hq
    clear hq HB
    go_wp2
    go_ret2
    exact ⟨ret_two E2.out.symm E1.out.symm, HFIN.out _ HQ.out⟩

set_option maxRecDepth 100000 in
set_option maxHeartbeats 4000000 in
theorem yInvoices (w : World) (p : Nat) (F : Nat → Prop) (m : MkG) (ten : Int) (hy : YAt w p F m) (hg : GoodM m) :
    Calls Try.prog 36 #[.pointer (some ⟨p, 0, none⟩), .int .i64 ten] w fun e w' => ∃ lv F', e = .returned (.tuple #[lv, .int .i64 (invE m ten)]) ∧ InvOut YAt w p F m (invE m ten) (invL m ten) lv F' w' := by
  obtain ⟨V, L, hF, hv, har, hch⟩ := hy
  have HY := hide (show ∀ (w' : World), Chg (fun _ => False) w w' → YAt w' p F m from fun w' h => ⟨V, L, hF, hv.chg0 h, har, hch⟩)
  have HFL := hide (fun k (hk : F k) => show k < w.heap.size from hv.foot_lt k ((hF k).1 hk))
  have cq : w.cell? ⟨p, 0, none⟩ = some (.pointer (some ⟨V.q, 0, none⟩)) := hv.cq
  have HTN := hide (hasTenant_any V m ten w hv.mkt hg.ok.ck)
  have HIN := hide (invoicesOf_any p V L m ten w hv hg.cash.chg.len)
  clear hF hv har hch hg
  go_enter Try.func36, Try.ntmps36
  go_wp2_with fail
  refine HTN.out.mono ?_
  rintro e w2 ⟨rfl, hw⟩
  subst w2
  clear HTN
  cases hT : m.tenB ten
  · have E1 := hide (show invE m ten = 3 by simp [invE, hT])
    have E2 := hide (show invL m ten = [] by simp [invL, hT])
    clear hT cq
    go_wp2
    go_ret2
    exact ⟨_, F, by rw [E1.out]; rfl, by rw [E2.out]; exact ⟨HY.out _ (Chg.refl _ _), Chg.refl _ _, fun _ hk => .inl hk, World.ownsRow_nil _ _ _ _, fun k hk => by simp [Value.ownBlock] at hk, fun _ => rfl⟩⟩
  · have E1 := hide (show invE m ten = 0 by simp [invE, hT])
    have E2 := hide (show invL m ten = ofTen m.charges ten by simp [invL, hT])
    clear hT cq
    go_wp2_with fail
    refine HIN.out.mono ?_
    rintro e w2 ⟨lv, rfl, hst⟩
    have HST := hide hst
    clear hst HIN
    go_wp2
    go_ret2
    exact ⟨lv, F, by rw [E1.out]; rfl, by rw [E1.out, E2.out]; exact ⟨HY.out _ HST.out.chg, HST.out.chg.mono (fun _ _ h => h.elim), fun _ hk => .inl hk, HST.out.own, fun k hk => ⟨HST.out.new k hk, fun hf => by have h1 := HFL.out k hf; have h2 := HST.out.new k hk; omega⟩, fun h => absurd rfl h⟩⟩

theorem paidY : PaidY YAt where
  price := fun w p F m ten ref hy hg _ _ => yPrice w p F m ten ref hy hg
  bill := fun w p F m hy hg => yBill w p F m hy hg
  pay := fun w p F m ten cents hy hg _ _ => yPay w p F m ten cents hy hg
  balance := fun w p F m ten hy hg _ => yBalance w p F m ten hy hg
  invoices := fun w p F m ten hy hg _ => yInvoices w p F m ten hy hg
end Go.Proofs.Ytminceigjejipaa
