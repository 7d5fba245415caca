import Derived.Test.YtminceigjejipaaYp8
import Derived.Test.YtminceigjejipaaG10
/-
  BILL IN THE PROGRAM.
-/
namespace Go.Proofs.Ytminceigjejipaa
open Go.RowKit

theorem bill_cells (b : BidG) (t : Int) : ybidCells (b.bill t) = ybidCells b := by
  unfold BidG.bill
  split <;> rfl
theorem bill_used (t s : Int) (l : List BidG) : usedL (l.map fun b => b.bill t) s = usedL l s := by
  unfold usedL
  rw [List.map_map]
  congr 1
  apply List.map_congr_left
  intro b _
  simp only [Function.comp, BidG.bill]
  split <;> rfl
theorem YmAt.billed {w : World} {V : YV} {m : MkG} {ch : List InvG} (h : YmAt w V { m.logs callBill with charges := ch }) : YmAt w V (billM m) := by
  refine ⟨h.box, ?_, h.susp, h.units, ?_, h.ne⟩
  · show w.ownsRow 0 125 9 V.bv (m.bids.map fun b => b.bill m.time).length ((m.bids.map fun b => b.bill m.time).flatMap ybidCells)
    rw [List.length_map, List.flatMap_map, show (fun a : BidG => ybidCells (a.bill m.time)) = ybidCells from funext fun b => bill_cells b m.time]
    exact h.bids
  · refine h.cal.congr (fun j _ => ?_)
    show m.units.getD j 0 - usedL m.bids j = m.units.getD j 0 - usedL (m.bids.map fun b => b.bill m.time) j
    rw [bill_used]
theorem ents_bill (m : MkG) : (billM m).bids.map (·.entry) = m.bids.map (·.entry) := by
  show (m.bids.map fun b => b.bill m.time).map (·.entry) = _
  rw [List.map_map]
  apply List.map_congr_left
  intro b _
  exact (bill_ten b m.time).2.2.1

/-- a Bill under way: the yard with the invoices so far, the list that comes out in a block of its own -/
structure YBl (w0 : World) (p : Nat) (V : YV) (L : LV) (m : MkG) (out : List InvG) (ov : Value) (L2 : LV) (wr : World) : Prop where
  yard : YAtV wr p V L2 m
  chg : Chg (L.foot p) w0 wr
  foot : ∀ k, L2.foot p k → L.foot p k ∨ w0.heap.size ≤ k
  own : wr.ownsRow 0 88 3 ov out.length (out.flatMap invCells)
  new : ∀ k, ov.ownBlock = some k → w0.heap.size ≤ k ∧ ¬ L2.foot p k
section
variable {w0 wr w' : World} {p : Nat} {V : YV} {L L2 : LV} {m : MkG} {out : List InvG} {ov : Value}
theorem YBl.chg0 (h : YBl w0 p V L m out ov L2 wr) (hc : Chg (fun _ => False) wr w') : YBl w0 p V L m out ov L2 w' :=
  ⟨h.yard.chg0 hc, h.chg.trans hc (fun _ _ h => h.elim), h.foot, ownsRow_keep h.own (fun k hk => hc.block k (h.own.lt k hk).2 (fun h => h)), h.new⟩
theorem YBl.charged {x : InvG} (h : YBl w0 p V L m out ov L2 wr) (ht : YbTo wr p V.q L2 m.log (m.bids.map (·.entry)) (m.charges ++ [x]) m.paid w') : ∃ L3, YBl w0 p V L { m with charges := m.charges ++ [x] } out ov L3 w' := by
  obtain ⟨L3, a1, a2, a3⟩ := ht
  have hout : ∀ k, L3.foot p k → ¬ V.foot k := fun k hk hv => by
    rcases a3 k hk with e | e
    · exact h.yard.out k e hv
    · have := h.yard.mkt.foot_lt k hv
      omega
  refine ⟨L3, ⟨a1, ?_, hout⟩, h.chg.trans a2 (fun k hk hf => ?_), fun k hk => ?_, ownsRow_keep h.own (fun k hk => a2.block k (h.own.lt k hk).2 (h.new k hk).2), fun k hk => ⟨(h.new k hk).1, fun hf => ?_⟩⟩
  · have hm := h.yard.mkt.chg a2 (fun k hk e => h.yard.out k e hk)
    exact ⟨hm.box, hm.bids, hm.susp, hm.units, hm.cal, hm.ne⟩
  · rcases h.foot k hf with e | e
    · exact e
    · omega
  · rcases a3 k hk with e | e
    · exact h.foot k e
    · exact .inr (Nat.le_trans h.chg.size e)
  · rcases a3 k hf with e | e
    · exact (h.new k hk).2 e
    · have := (h.own.lt k hk).2
      omega
end
theorem ybl_arm {w0 wr wa w3 : World} {p : Nat} {V : YV} {L L2 : LV} {m : MkG} {out : List InvG} {x : InvG} {ao : Option Addr} {cap cap' g H nn : Nat} (h : YBl w0 p V L m out (.slice ao nn cap) L2 wr) (hn : nn = out.length) (hc : Chg (fun _ => False) wr wa)
    (hown : w3.ownsRow 0 88 3 (.slice (some ⟨g, 0, none⟩) (nn + 1) cap') (nn + 1) (out.flatMap invCells ++ invCells x)) (hgrow : wa.grownBy w3 (Value.ownBlock (.slice ao nn cap))) (hat : Value.ownBlock (.slice ao nn cap) = some g ∨ g = H) (hH : wr.heap.size ≤ H) :
    Hid (YBl w0 p V L m (out ++ [x]) (.slice (some ⟨g, 0, none⟩) (nn + 1) cap') L2 w3) := by
  subst hn
  have hc3 : Chg (fun k => Value.ownBlock (.slice ao out.length cap) = some k) wr w3 := (hc.mono (fun _ _ h => h.elim)).grown hgrow (fun k hk => .inl hk)
  have hs := h.chg.size
  have hv : ∀ k, V.foot k → Value.ownBlock (.slice ao out.length cap) ≠ some k := fun k hk e => by
    obtain ⟨c, T, h1, h2⟩ := h.yard.mkt.foot_ty k hk
    obtain ⟨c', h3⟩ := ownsRow_block h.own e
    rw [h1] at h3
    simp at h3
    rcases h2 with h2 | h2 | h2 | h2 | h2 <;> (rw [h2] at h3; simp at h3)
  refine ⟨h.yard.frame (fun k hk => hc3.block k (h.yard.foot_lt k hk) (fun e => ?_)), h.chg.trans hc3 (fun k hk e => by have := (h.new k e).1; omega), h.foot, ?_, ?_⟩
  · rcases hk with hk | hk
    · exact (h.new k e).2 hk
    · exact hv k hk e
  · rw [List.length_append, List.flatMap_append]
    simp only [List.flatMap_cons, List.flatMap_nil, List.append_nil, List.length_cons, List.length_nil, Nat.zero_add]
    exact hown
  · intro k hk
    simp [Value.ownBlock] at hk
    subst hk
    rcases hat with e | e
    · exact h.new g e
    · refine ⟨by omega, fun hf => ?_⟩
      have := h.yard.yb.foot_lt g hf
      omega

theorem due_bit (b : BidG) (t : Int) (ch : Bool) (h : ch = b.charged) : ((b.state == 2) && !decide (t + b.job.len ≤ b.job.dl) && !ch) = b.dueB t := by
  subst h
  unfold BidG.dueB
  have e : (!decide (t + b.job.len ≤ b.job.dl)) = decide (b.job.dl - b.job.len < t) := by
    rw [Bool.eq_iff_iff]
    simp
    omega
  rw [e]
  cases (b.state == 2) <;> cases b.charged <;> cases decide (b.job.dl - b.job.len < t) <;> rfl

set_option maxRecDepth 100000 in
set_option maxHeartbeats 8000000 in
theorem yBill (w : World) (p : Nat) (F : Nat → Prop) (m : MkG) (hy : YAt w p F m) (hg : GoodM m) :
    Calls Try.prog 50 #[.pointer (some ⟨p, 0, none⟩)] w fun e w' => ∃ lv l z m' F', e = .returned (.tuple #[lv, .int .i64 z]) ∧ BillRes m z l m' ∧ InvOut YAt w p F m' z l lv F' w' := by
  obtain ⟨V, L, hF, hv, har, hch⟩ := hy
  have HF := hide hF
  have HV := hide hv
  have HG := hide hg
  have HAR := hide har
  have HCH := hide hch
  clear hF hv hg har hch
  by_cases hl : m.log.length = 300
  · have HL := hide hl
    clear hl
    go_enter Try.func50, Try.ntmps50
    go_wp2_with fail
    refine (log_full p V L m (ycallOf callBill) _ HV.out HL.out).mono ?_
    rintro e w' ⟨rfl, hq⟩
    have HQ := hide hq
    clear hq
    go_wp2
    go_ret2
    exact ⟨_, [], 2, m, F, rfl, .inl ⟨HL.out, rfl, rfl, rfl⟩, ⟨⟨V, L, HF.out, HV.out.chg0 HQ.out, HAR.out, HCH.out⟩, HQ.out.mono (fun _ _ h => h.elim), fun _ hk => .inl hk, World.ownsRow_nil _ _ _ _, fun k hk => by simp [Value.ownBlock] at hk, fun _ => rfl⟩⟩
  · have hl' : m.log.length < 300 := by have := HG.out.ok.nl; omega
    have HL := hide hl'
    clear hl hl'
    have hok1 : MkOk (m.logs callBill) := HG.out.ok.logs HL.out _
    have hh1 : Hist (m.logs callBill) := by
      refine Hist.step (m := m) (c := callBill) rfl rfl ?_
      rw [again_bill (HG.out.cash.rlog HL.out)]
      exact HistM.logs HG.out.cash.hist callBill
    have HOK1 := hide hok1
    have HH1 := hide hh1
    clear hok1 hh1
    go_enter Try.func50, Try.ntmps50
    go_wp2_with fail
    refine (log_ok p V L m (ycallOf callBill) callBill rfl _ HV.out HL.out).mono ?_
    rintro e w1 ⟨rfl, V1, L1, a1, a2, a3⟩
    have A1 := hide a1
    have A2 := hide a2
    have A3 := hide a3
    obtain ⟨ba, bc, hbv, _⟩ := a1.mkt.bid_form
    obtain ⟨n, hn⟩ : ∃ n, n = m.bids.length := ⟨_, rfl⟩
    have HN := hide hn
    have cq : w1.cell? ⟨p, 0, none⟩ = some (.pointer (some ⟨V1.q, 0, none⟩)) := a1.cq
    have c6 : w1.cell? ⟨V1.q, 6, none⟩ = some (.slice ba n bc) := by
      have : w1.cell? ⟨V1.q, 6, none⟩ = some V1.bv := a1.mkt.cell 6
      rw [this, hbv, hn]
      rfl
    have hn3 : n ≤ 300 := by rw [hn]; exact HG.out.ok.bl
    have HCN := hide (show m.charges.length + (dueL (m.logs callBill) m.bids).length ≤ 300 by
      have h1 := (HG.out.cash.bill HL.out).chg.len
      have e : (billM m).charges.length = m.charges.length + (dueL (m.logs callBill) m.bids).length := List.length_append
      omega)
    clear a1 a2 a3 hbv hn
    go_wp2
    clear cq c6
    go_loopw [4, 19] (fun ov y wr => ∃ (k : Nat) (L2 : LV), k ≤ n ∧ y = .int .i64 k ∧ YBl w1 p V1 L1 { m.logs callBill with charges := m.charges ++ dueL (m.logs callBill) (m.bids.take k) } (dueL (m.logs callBill) (m.bids.take k)) ov L2 wr) (fun _ y _ => n - (intOf y).toNat)
    case atStart =>
      refine ⟨0, L1, by omega, rfl, ⟨?_, ?_, A1.out.out⟩, Chg.refl _ _, fun _ h => .inl h, World.ownsRow_nil _ _ _ _, fun k hk => by simp [Value.ownBlock] at hk⟩
      · show YbAt w1 p V1.q L1 (m.log ++ [callBill]) (m.bids.map (·.entry)) (m.charges ++ []) m.paid
        rw [List.append_nil]
        exact A1.out.yb
      · exact ⟨A1.out.mkt.box, A1.out.mkt.bids, A1.out.mkt.susp, A1.out.mkt.units, A1.out.mkt.cal, A1.out.mkt.ne⟩
    case round =>
      obtain ⟨k, L2, hk, rfl, hst⟩ := hrel
      have HST := hide hst
      clear hst
      by_cases hlt : k < n
      · obtain ⟨b, hb⟩ : ∃ b, m.bids[k]? = some b := ⟨_, List.getElem?_eq_getElem (by rw [← HN.out]; exact hlt)⟩
        obtain ⟨mk, hmk⟩ : ∃ mk : MkG, mk = { m.logs callBill with charges := m.charges ++ dueL (m.logs callBill) (m.bids.take k) } := ⟨_, rfl⟩
        have hdl : (dueL (m.logs callBill) (m.bids.take (k + 1))).length ≤ (dueL (m.logs callBill) m.bids).length := by
          conv => rhs; rw [← List.take_append_drop (k + 1) m.bids]
          unfold dueL
          rw [List.filter_append, List.map_append, List.length_append]
          omega
        have HS := hide (dueL_snoc (m := m.logs callBill) hb)
        have hcl : mk.charges.length + (if b.dueB m.time = true then 1 else 0) ≤ 300 := by
          have h1 := HCN.out
          have h2 : mk.charges.length = m.charges.length + (dueL (m.logs callBill) (m.bids.take k)).length := by rw [hmk]; exact List.length_append
          have h3 : (dueL (m.logs callBill) (m.bids.take (k + 1))).length = (dueL (m.logs callBill) (m.bids.take k)).length + (if b.dueB m.time = true then 1 else 0) := by
            rw [HS.out, List.length_append]
            congr 1
            show (if b.dueB m.time = true then _ else _ : List InvG).length = _
            split <;> rfl
          omega
        have hokk : MkOk mk := by rw [hmk]; exact ⟨HOK1.out.ck, HOK1.out.nu, HOK1.out.ns, HOK1.out.np, HOK1.out.nl, HOK1.out.nb, HOK1.out.t0, HOK1.out.t1, HOK1.out.un, HOK1.out.bid⟩
        have hhk : Hist mk := by rw [hmk]; exact ⟨HH1.out.c, HH1.out.time, HH1.out.units, HH1.out.susp, HH1.out.log, HH1.out.bids, HH1.out.gm, HH1.out.rg⟩
        have hbk : mk.bids[k]? = some b := by rw [hmk]; exact hb
        have htk : mk.time = m.time := by rw [hmk]; rfl
        have hck : mk.charges = m.charges ++ dueL (m.logs callBill) (m.bids.take k) := by rw [hmk]
        have hpk : ∀ e, priceM mk e = priceM (m.logs callBill) e := fun e => by rw [hmk]; rfl
        have hany : hasInv mk.charges b.ten b.ref = b.charged := by rw [hck]; exact HCH.out.any hb _
        rw [← hmk] at HST
        have HDUE := hide (isDue_any p V1 L2 mk k b wr HST.out.yard hokk (by omega) hbk)
        rw [htk, due_bit b m.time _ hany] at HDUE
        have HCHG := hide (fun (w' : World) (hd : b.dueB m.time = true) (hc : Chg (fun _ => False) wr w') => charge_any p V1 L2 mk k b w' (HST.out.yard.chg0 hc) hokk hhk (by rw [if_pos hd] at hcl; omega) hbk (by
          unfold BidG.dueB at hd
          simp at hd
          exact hd.1.1))
        have HMK := hide (fun (x : InvG) (hx : dueL (m.logs callBill) (m.bids.take (k + 1)) = dueL (m.logs callBill) (m.bids.take k) ++ [x]) => show ({ mk with charges := mk.charges ++ [x] } : MkG) = { m.logs callBill with charges := m.charges ++ dueL (m.logs callBill) (m.bids.take (k + 1)) } from by
          rw [hx, hmk]
          show _ = ({ m.logs callBill with charges := _ } : MkG)
          rw [List.append_assoc])
        have HMK0 := hide hmk
        have HPK := hide (hpk b.entry)
        clear hcl hokk hhk hbk htk hck hpk hany hb hdl hmk
        cases hd : b.dueB m.time
        · rw [hd] at HDUE
          have HE := hide (show dueL (m.logs callBill) (m.bids.take (k + 1)) = dueL (m.logs callBill) (m.bids.take k) by
            rw [HS.out]
            show _ ++ (if b.dueB m.time = true then _ else _) = _
            rw [hd]; simp)
          clear HCHG HMK
          go_wp2_with fail
          refine HDUE.out.mono ?_
          rintro e w3 ⟨rfl, hq⟩
          have HST3 := hide (HST.out.chg0 hq)
          clear hq HDUE
          go_wp2
          go_roundw
          case rel => exact ⟨k + 1, L2, by omega, by go_num, by rw [HE.out, ← HMK0.out]; exact HST3.out⟩
          case measure => simp [intOf]; omega
        · rw [hd] at HDUE
          obtain ⟨x, hx⟩ : ∃ x : InvG, x = ⟨b.ten, b.ref, priceM mk b.entry⟩ := ⟨_, rfl⟩
          have HE := hide (show dueL (m.logs callBill) (m.bids.take (k + 1)) = dueL (m.logs callBill) (m.bids.take k) ++ [x] by
            rw [HS.out, hx, HPK.out]
            show _ ++ (if b.dueB m.time = true then _ else _) = _
            rw [hd]; rfl)
          have HM2 := hide (HMK.out x HE.out)
          have HX := hide hx
          have HD := hide hd
          obtain ⟨oa, oc, hov⟩ := ownsRow_form HST.out.own
          subst hov
          obtain ⟨no, hno⟩ : ∃ no, no = (dueL (m.logs callBill) (m.bids.take k)).length := ⟨_, rfl⟩
          have hol : no ≤ k := by
            rw [hno]
            have := dueL_len (m.logs callBill) (m.bids.take k)
            rw [List.length_take] at this
            omega
          rw [← hno] at HST ⊢
          have HNO := hide hno
          clear hno hx hd HMK
          obtain ⟨i0', hi, hz0', hz1, hz2⟩ := info_parts infoInvoice
          go_wp2_with fail
          refine HDUE.out.mono ?_
          rintro e w3 ⟨rfl, hq⟩
          have HQ3 := hide hq
          have HCG := hide (HCHG.out w3 HD.out hq)
          clear hq HDUE HCHG
          go_wp2_with fail
          refine HCG.out.mono ?_
          rintro e w4 ⟨rfl, hto⟩
          obtain ⟨pr, hpr⟩ : ∃ pr, pr = priceM mk b.entry := ⟨_, rfl⟩
          rw [← hpr] at hto ⊢
          have hxe : x = ⟨b.ten, b.ref, pr⟩ := by rw [HX.out, hpr]
          obtain ⟨L3, hst4⟩ := (HST.out.chg0 HQ3.out).charged hto
          rw [← hxe, HM2.out] at hst4
          have HST4 := hide hst4
          have HOUT : Hid (w4.ownsRow 0 88 3 (.slice oa no oc) no ((dueL (m.logs callBill) (m.bids.take k)).flatMap invCells)) := by have h := hst4.own; rw [← HNO.out] at h; exact h
          have HXE := hide hxe
          clear hto hst4 hpr hxe HCG
          go_wp2_with (first | (at_builtin; refine wpList_append_lies _ rfl (.tmp 28) (.tmp 30) 49 rfl 0 88 i0' (.agg #[.int .i64 0, .int .i64 0, .int .i64 0]) 3 24 Try.underlying49 hi hz0' hz1 hz2 rfl (by decide) (.slice oa no oc) no ((dueL (m.logs callBill) (m.bids.take k)).flatMap invCells) rfl ((HOUT.out.alloc _).alloc _) ⟨w4.heap.size + 1, 0, none⟩ 1 1 (invCells ⟨b.ten, b.ref, pr⟩) rfl rfl (World.news_of_block (heap_at_new (by simp))) (by simp [invCells, Value.oneCell']) (by decide) (by unfold maxLen; omega) (by omega) (Nat.zero_le _) _ rfl ?_; intro g capn w7 hown hgrow hat2 hlt; have HST8 := ybl_arm (x := ⟨b.ten, b.ref, pr⟩) HST4.out HNO.out (((Chg.refl _ _).alloc _).alloc _) hown hgrow hat2 (by simp; omega); clear hown hgrow hat2 hlt))
          all_goals
            go_wp2
            go_roundw
            case rel => first | exact ⟨k + 1, L3, by omega, by go_num, by rw [HE.out, HXE.out] at *; exact HST8.out⟩ | exact ⟨k + 1, L3, by omega, by go_num, by rw [HE.out, HXE.out] at *; exact HST8.out.chg0 ((Chg.refl _ _).drew)⟩
            case measure => simp [intOf]; omega
      · have hkn : k = m.bids.length := by rw [← HN.out]; omega
        have htk : m.bids.take k = m.bids := by rw [hkn, List.take_length]
        rw [htk] at HST
        have HBY := hide (show YAtV wr p V1 L2 (billM m) from ⟨by rw [ents_bill]; exact HST.out.yard.yb, HST.out.yard.mkt.billed, HST.out.yard.out⟩)
        clear hkn htk
        go_wp2
        go_ret2
        refine ⟨_, billL m, 0, rfl, billM m, .inr ⟨HL.out, rfl, rfl, rfl⟩, yfoot p V1 L2, ⟨⟨V1, L2, fun _ => Iff.rfl, HBY.out, ?_, HCH.out.bill⟩, ?_, ?_, HST.out.own, ?_, fun h => absurd rfl h⟩⟩
        · intro b hb
          obtain ⟨b0, hb0, rfl⟩ := List.mem_map.1 hb
          have := HAR.out b0 hb0
          unfold BidG.bill
          split <;> exact this
        · refine (A2.out.mono (fun k _ hk => (HF.out k).2 hk)).trans HST.out.chg (fun k hk hf => (HF.out k).2 ?_)
          rcases A3.out k (.inl hf) with h | h
          · exact h
          · omega
        · intro k hk
          have : yfoot p V1 L1 k ∨ w1.heap.size ≤ k := by
            rcases hk with hk | hk
            · rcases HST.out.foot k hk with h | h
              · exact .inl (.inl h)
              · exact .inr h
            · exact .inl (.inr hk)
          rcases this with h | h
          · rcases A3.out k h with h | h
            · exact .inl ((HF.out k).2 h)
            · exact .inr h
          · exact .inr (Nat.le_trans A2.out.size h)
        · intro k hk
          refine ⟨Nat.le_trans A2.out.size (HST.out.new k hk).1, fun hf => ?_⟩
          rcases hf with hf | hf
          · exact (HST.out.new k hk).2 hf
          · have h1 := A1.out.mkt.foot_lt k hf
            have h2 := (HST.out.new k hk).1
            omega
end Go.Proofs.Ytminceigjejipaa
