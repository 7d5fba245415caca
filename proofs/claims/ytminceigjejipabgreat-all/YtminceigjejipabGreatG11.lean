import Derived.Test.YtminceigjejipabGreatG10
import Derived.Test.YtminceigjejipabGreatMkJ
import Derived.Test.YtminceigjejipabGreatG7
/-
  A PRICE IN THE REFERENCE: all calls made once more in a market in which the bid never starts.
-/
namespace Go.Proofs.YtminceigjejipabGreat
open Go.RowKit

theorem MktAt.logCell {w : World} {p : Nat} {V : MV} {m : MkG} {i : Nat} {c : CallG} (h : MktAt w p V m) (hc : m.log[i]? = some c) :
    ∃ g cap, V.lv = .slice (some ⟨g, 0, none⟩) m.log.length cap ∧ V.lv.ownBlock = some g ∧ g < w.heap.size ∧ ∀ r u, (callCells c)[r]? = some u → w.cell? ⟨g, i * 10 + r, none⟩ = some u := by
  rcases h.log.2 with ⟨hv, h0⟩ | ⟨g, cap, cur, hv, hg, hh, r⟩
  · have := (List.getElem?_eq_some_iff.1 hc).1
    omega
  · refine ⟨g, cap, hv, by rw [hv]; rfl, (Array.getElem?_eq_some_iff.1 hh).1, fun r u hu => ?_⟩
    have hr : r < 10 := by
      have := (List.getElem?_eq_some_iff.1 hu).1
      simpa [callCells] using this
    have := h.log.cells (g := g) (by rw [hv]; rfl) (i * 10 + r) u (by rw [flat_get callCells 10 (fun _ => rfl) m.log i c r hc hr]; exact hu)
    rwa [Addr.add_lit, Nat.zero_add] at this

/-- the price of the bid of entry g -/
def priceM (m : MkG) (g : Int) : Int := (replayG m.c g m.log).need
theorem fold_take {m0 : MkG} {l : List CallG} {k : Nat} {c : CallG} (hc : l[k]? = some c) : (l.take (k + 1)).foldl againM m0 = againM ((l.take k).foldl againM m0) c := by
  rw [take_snoc hc, List.foldl_append]
  rfl

set_option maxRecDepth 100000 in
set_option maxHeartbeats 4000000 in
theorem price_at (p : Nat) (V : MV) (m : MkG) (i : Nat) (b : BidG) (w : World) (hm : MktAt w p V m) (hok : MkOk m) (hb : m.bids[i]? = some b) :
    Calls Tryz.prog 81 #[.pointer (some ⟨p, 0, none⟩), .int .i64 i] w fun e w' => e = .returned (.int .i64 (priceM m b.entry)) ∧ Chg (fun _ => False) w w' := by
  have HM := hide hm
  have HOK := hide hok
  have HB := hide hb
  have c0 : w.cell? ⟨p, 0, none⟩ = some (.int .i64 m.c.ticks) := hm.cell 0
  have c1 : w.cell? ⟨p, 1, none⟩ = some (.int .i64 m.c.cap) := hm.cell 1
  have c2 : w.cell? ⟨p, 2, none⟩ = some (.int .i64 m.c.res) := hm.cell 2
  have c3 : w.cell? ⟨p, 3, none⟩ = some (.int .i64 m.c.ten) := hm.cell 3
  have c4 : w.cell? ⟨p, 4, none⟩ = some (.int .i64 m.c.quo) := hm.cell 4
  clear hm hok hb
  go_enter Tryz.func81, Tryz.ntmps81
  go_wp2_with fail
  refine (open_any m.c _ HOK.out.ck).mono ?_
  rintro e w1 ⟨q, Vq, rfl, hq, hc1, hf1⟩
  have HM1 := hide (HM.out.chg0 hc1)
  clear c0 c1 c2 c3 c4
  obtain ⟨gb, cap, hv, hown, hgl, hcl, _⟩ := HM1.out.bidCell HB.out
  obtain ⟨n, hn⟩ : ∃ n, n = m.bids.length := ⟨_, rfl⟩
  have hil : (i : Int) < (n : Int) := by have := (List.getElem?_eq_some_iff.1 HB.out).1; omega
  have i0 : (0 : Int) ≤ (i : Int) := by omega
  have c7 : w1.cell? ⟨p, 7, none⟩ = some (.slice (some ⟨gb, 0, none⟩) n cap) := by rw [hn, ← hv]; exact HM1.out.cell 7
  have b10 : w1.cell? ⟨gb, i * 12 + 10, none⟩ = some (.int .i64 b.entry) := hcl 10 _ rfl
  have q12 : w1.cell? ⟨q, 12, none⟩ = some (.int .i64 (-1)) := hq.cell 12
  have q12f : w1.frozen? ⟨q, 12, none⟩ = false := hq.free 12
  have hqn : w.heap.size ≤ q := hf1 q (.inl rfl)
  have H2 := hide (show MktAt (w1.setCell ⟨q, 12, none⟩ (.int .i64 b.entry)) q Vq (ghostOpen m.c b.entry) from hq.setBoxV (m' := ghostOpen m.c b.entry) rfl rfl rfl rfl rfl rfl rfl)
  have HC2 := hide (show Chg (fun _ => False) w (w1.setCell ⟨q, 12, none⟩ (.int .i64 b.entry)) from hc1.setCell (p := ⟨q, 12, none⟩) (.inr hqn) _)
  have HF1 := hide hf1
  obtain ⟨N, hN⟩ : ∃ N, N = m.log.length := ⟨_, rfl⟩
  have HN := hide hN
  have hNl : N ≤ 300 := by rw [hN]; exact HOK.out.nl
  clear hv hown hcl hq hc1 hf1 hn hN HM1
  go_wp2
  go_loopw [6] (fun y wr => ∃ (k : Nat) (Vk : MV), k ≤ N ∧ y = .int .i64 k ∧ MktAt wr q Vk ((m.log.take k).foldl againM (ghostOpen m.c b.entry)) ∧ Chg (fun _ => False) w wr ∧ ∀ x, Vk.foot q x → w.heap.size ≤ x) (fun y _ => N - (intOf y).toNat)
  case atStart => exact ⟨0, Vq, by omega, rfl, by simpa using H2.out, HC2.out, HF1.out⟩
  case round =>
    clear H2 HC2 HF1
    obtain ⟨k, Vk, hk, rfl, hmk, hck, hfk⟩ := hrel
    have HMK := hide hmk
    have HCK := hide hck
    have HFK := hide hfk
    have HMW := hide (HM.out.chg0 hck)
    clear hmk hck hfk
    obtain ⟨la, lc, hlv⟩ := HMW.out.log_form
    have c9 : wr.cell? ⟨p, 9, none⟩ = some (.slice la N lc) := by rw [HN.out, ← hlv]; exact HMW.out.cell 9
    by_cases hlt : k < N
    · obtain ⟨c, hc⟩ : ∃ c, m.log[k]? = some c := ⟨_, List.getElem?_eq_getElem (by rw [← HN.out]; exact hlt)⟩
      obtain ⟨gl, lcap, hv, _, hgl2, hcl⟩ := HMW.out.logCell hc
      have hla : la = some ⟨gl, 0, none⟩ ∧ lc = lcap := by
        rw [hlv] at hv
        simp at hv
        exact hv
      obtain ⟨rfl, rfl⟩ := hla
      have k0 : (0 : Int) ≤ (k : Int) := by omega
      have k1 : (k : Int) < (N : Int) := by omega
      have l0 : wr.cell? ⟨gl, k * 10, none⟩ = some (.int .i64 c.kind) := hcl 0 _ rfl
      have l1 : wr.cell? ⟨gl, k * 10 + 1, none⟩ = some (.int .i64 c.a) := hcl 1 _ rfl
      have l2 : wr.cell? ⟨gl, k * 10 + 2, none⟩ = some (.int .i64 c.b) := hcl 2 _ rfl
      have l3 : wr.cell? ⟨gl, k * 10 + 3, none⟩ = some (.int .i64 c.c) := hcl 3 _ rfl
      have l4 : wr.cell? ⟨gl, k * 10 + 4, none⟩ = some (.int .i64 c.job.arr) := hcl 4 _ rfl
      have l5 : wr.cell? ⟨gl, k * 10 + 5, none⟩ = some (.int .i64 c.job.dl) := hcl 5 _ rfl
      have l6 : wr.cell? ⟨gl, k * 10 + 6, none⟩ = some (.int .i64 c.job.len) := hcl 6 _ rfl
      have l7 : wr.cell? ⟨gl, k * 10 + 7, none⟩ = some (.int .i64 c.job.units) := hcl 7 _ rfl
      have l8 : wr.cell? ⟨gl, k * 10 + 8, none⟩ = some (.int .i64 c.job.val) := hcl 8 _ rfl
      have l9 : wr.cell? ⟨gl, k * 10 + 9, none⟩ = some (.bool c.on) := hcl 9 _ rfl
      have HC := hide hc
      have HOKK := hide (MkOk.fold_again (m.log.take k) (MkOk.ghostOpen HOK.out.ck b.entry))
      clear hcl hv hlv hc HMW
      go_wp2_with fail
      refine (again_any q Vk _ c _ HMK.out HOKK.out).mono ?_
      rintro e w3 ⟨rfl, hto⟩
      rw [← fold_take HC.out] at hto
      obtain ⟨V3, hm3, hc3, hf3⟩ := hto
      have HM3 := hide hm3
      have HC3 := hide (show Chg (fun _ => False) w w3 from (HCK.out.trans hc3 (fun x hx hxf => by have := HFK.out x hxf; omega)))
      have HF3 := hide (show ∀ x, V3.foot q x → w.heap.size ≤ x from fun x hx => by
        rcases hf3 x hx with h | h
        · exact HFK.out x h
        · have := HCK.out.size; omega)
      clear hm3 hc3 hf3 l0 l1 l2 l3 l4 l5 l6 l7 l8 l9 c9 HMK HFK HCK
      go_wp2
      go_roundw
      case rel => exact ⟨k + 1, V3, by omega, by go_num, HM3.out, HC3.out, HF3.out⟩
      case measure => simp [intOf]; omega
    · have hkN : k = N := by omega
      have hfin : (m.log.take k).foldl againM (ghostOpen m.c b.entry) = replayG m.c b.entry m.log := by rw [hkN, HN.out, List.take_length]; rfl
      rw [hfin] at HMK
      have q13 : wr.cell? ⟨q, 13, none⟩ = some (.int .i64 (priceM m b.entry)) := HMK.out.cell 13
      clear hfin hkN hlv HMW
      go_wp2
      go_ret
      exact ⟨rfl, HCK.out⟩
end Go.Proofs.YtminceigjejipabGreat

/-
  PRICE IN THE REFERENCE.
-/
namespace Go.Proofs.YtminceigjejipabGreat
open Go.RowKit

def priceE (m : MkG) (ten ref : Int) : Int := if lookE m ten ref = 0 then (if lookS m ten ref = 2 then 0 else 8) else lookE m ten ref
def entryAt (m : MkG) (i : Int) : Int := ((m.bids[i.toNat]?).map (·.entry)).getD 0
def priceV (m : MkG) (ten ref : Int) : Int := if priceE m ten ref = 0 then priceM m (entryAt m (findZ m.bids ten ref)) else 0

theorem lookE_zero {m : MkG} {ten ref : Int} (h : lookE m ten ref = 0) : m.tenB ten = true ∧ ∃ (i : Nat) (b : BidG), findZ m.bids ten ref = i ∧ m.bids[i]? = some b := by
  unfold lookE at h
  split at h
  · omega
  · rename_i hT
    split at h
    · omega
    · rename_i hf
      refine ⟨by simpa using hT, ?_⟩
      have := findZ_lt m.bids ten ref
      obtain ⟨i, hi⟩ := Int.eq_ofNat_of_zero_le (show 0 ≤ findZ m.bids ten ref by omega)
      exact ⟨i, _, hi, List.getElem?_eq_getElem (by omega)⟩

set_option maxRecDepth 100000 in
set_option maxHeartbeats 4000000 in
theorem price_any (p : Nat) (V : MV) (m : MkG) (ten ref : Int) (w : World) (hm : MktAt w p V m) (hok : MkOk m) :
    Calls Tryz.prog 48 #[.pointer (some ⟨p, 0, none⟩), .int .i64 ten, .int .i64 ref] w fun e w' => e = .returned (.tuple #[.int .i64 (priceV m ten ref), .int .i64 (priceE m ten ref)]) ∧ Chg (fun _ => False) w w' := by
  have HM := hide hm
  have HOK := hide hok
  clear hm hok
  go_enter Tryz.func48, Tryz.ntmps48
  go_wp2_with fail
  refine (look_any p V m ten ref _ HM.out HOK.out).mono ?_
  rintro e w1 ⟨rfl, hc1⟩
  have HC1 := hide hc1
  clear hc1
  by_cases hL : lookE m ten ref = 0
  rotate_left
  · have HP := hide (show priceE m ten ref = lookE m ten ref by unfold priceE; rw [if_neg hL])
    have HV := hide (show priceV m ten ref = 0 by unfold priceV; rw [HP.out, if_neg hL])
    have dE : (lookE m ten ref == 0) = false := by simpa using hL
    clear hL
    obtain ⟨E, hE⟩ : ∃ E, E = lookE m ten ref := ⟨_, rfl⟩
    rw [← hE] at dE ⊢
    have HE := hide hE
    clear hE
    go_wp2
    go_ret2
    exact ⟨by rw [HV.out, HP.out, ← HE.out]; rfl, HC1.out.alloc _⟩
  · rw [hL]
    obtain ⟨S, hS⟩ : ∃ S, S = lookS m ten ref := ⟨_, rfl⟩
    rw [← hS]
    by_cases h2 : S = 2
    rotate_left
    · have HP := hide (show priceE m ten ref = 8 by unfold priceE; rw [if_pos hL, ← hS, if_neg h2])
      have HV := hide (show priceV m ten ref = 0 by unfold priceV; rw [HP.out]; rfl)
      have dS : (S == 2) = false := by simpa using h2
      clear hL hS h2
      go_wp2
      go_ret2
      exact ⟨by rw [HV.out, HP.out]; rfl, HC1.out.alloc _⟩
    · have HP := hide (show priceE m ten ref = 0 by unfold priceE; rw [if_pos hL, ← hS, if_pos h2])
      obtain ⟨_, i, b, hi, hb⟩ := lookE_zero hL
      have HV := hide (show priceV m ten ref = priceM m b.entry by unfold priceV; rw [HP.out, if_pos rfl, hi]; simp [entryAt, hb])
      have HI := hide hi
      have HB := hide hb
      clear hL hS hi hb
      subst h2
      go_wp2_with fail
      refine (find_any p V m ten ref _ (HM.out.chg0 (HC1.out.alloc _)) HOK.out.bl).mono ?_
      rintro e w2 ⟨rfl, hw⟩
      subst w2
      rw [HI.out]
      go_wp2_with fail
      refine (price_at p V m i b _ (HM.out.chg0 (HC1.out.alloc _)) HOK.out HB.out).mono ?_
      rintro e w3 ⟨rfl, hc3⟩
      have HC3 := hide ((HC1.out.alloc _).trans hc3 (fun _ _ h => h))
      clear hc3
      go_wp2
      go_ret2
      exact ⟨by rw [HV.out, HP.out]; rfl, HC3.out⟩
end Go.Proofs.YtminceigjejipabGreat

/-
  PAY IN THE REFERENCE.
-/
namespace Go.Proofs.YtminceigjejipabGreat
open Go.RowKit

theorem MktAt.paid_form {w : World} {p : Nat} {V : MV} {m : MkG} (h : MktAt w p V m) : ∃ ao cap, V.pv = .slice ao m.paid.length cap ∧ ∀ i, i < m.paid.length → ∃ g, ao = some ⟨g, 0, none⟩ ∧ V.pv.ownBlock = some g ∧ w.cell? ⟨g, i, none⟩ = some (.int .i64 (m.paid.getD i 0)) ∧ w.frozen? ⟨g, i, none⟩ = false := by
  rcases h.paid.2 with ⟨hv, h0⟩ | ⟨g, cap, cur, hv, hg, hh, r⟩
  · exact ⟨none, 0, by rw [hv, h0], fun i hi => by omega⟩
  · refine ⟨some ⟨g, 0, none⟩, cap, hv, fun i hi => ⟨g, rfl, by rw [hv]; rfl, ?_, by unfold World.frozen?; rw [hh]; simp⟩⟩
    have := h.paid.cells (g := g) (by rw [hv]; rfl) i (.int .i64 (m.paid.getD i 0)) (by simp [List.getD, List.getElem?_eq_getElem hi])
    rwa [Addr.add_lit, Nat.zero_add] at this

theorem MktAt.setPaid {w : World} {p : Nat} {V : MV} {m : MkG} {i g : Nat} {u : Int} (h : MktAt w p V m) (hi : i < m.paid.length) (hg : V.pv.ownBlock = some g) :
    MktTo w p V { m with paid := m.paid.set i u } (w.setCell ⟨g, i, none⟩ (.int .i64 u)) := by
  have hgp : g ≠ p := fun e => ownsRow_box h.paid h.box (by decide) (e ▸ hg)
  have far : ∀ k, k ≠ g → (w.setCell ⟨g, i, none⟩ (.int .i64 u)).heap[k]? = w.heap[k]? := fun k hk => Below.heap_setCell _ _ _ _ hk
  have old : ∀ {e : TypeId} {size n : Nat} {v : Value} {xs : List Value}, w.ownsRow 0 e size v n xs → e ≠ 3 → (w.setCell ⟨g, i, none⟩ (.int .i64 u)).ownsRow 0 e size v n xs := by
    intro e size n v xs ho he
    exact ownsRow_keep ho (fun k hk => far k (fun e => ownsRow_apart ho h.paid he hk (e ▸ hg)))
  refine ⟨V, ⟨(far p (Ne.symm hgp)).trans h.box, ownsRow_keep h.units (fun k hk => far k (fun e => h.ne k hk (e ▸ hg))), old h.bids (by decide), old h.susp (by decide), old h.log (by decide), ?_, old h.charges (by decide), h.ne⟩, ?_, fun k hk => .inl hk⟩
  · show (w.setCell _ _).ownsRow 0 _ 1 _ (m.paid.set i u).length ((m.paid.set i u).map (Value.int .i64))
    rw [List.length_set, List.map_set]
    rcases h.paid.2 with ⟨hv, h0⟩ | ⟨g', cap, cur, hv, hb0, hh, hc, hmx, hsz, htake⟩
    · omega
    · have hgg : g' = g := by rw [hv] at hg; simpa [Value.ownBlock] using hg
      subst hgg
      refine ⟨by simp, .inr ⟨g', cap, cur.setIfInBounds i (.int .i64 u), hv, hb0, box_set hh _, hc, hmx, by simpa using hsz, ?_⟩⟩
      rw [Array.toList_setIfInBounds, List.take_set, htake]
  · exact (Chg.refl _ _).setCell (.inl (.inr (.inr (.inr (.inr (.inr (.inl hg))))))) _

def callPay (ten cents : Int) : CallG := ⟨7, ten, cents, 0, noJob, false⟩
def payE (m : MkG) (ten cents : Int) : Int := if m.tenB ten = false then 3 else if cents < 1 ∨ 1073741824 < cents then 9 else 0
def payM (m : MkG) (ten cents : Int) : MkG :=
  let m1 := m.logs (callPay ten cents)
  if payE m ten cents = 0 then { m1 with paid := m1.paid.set ten.toNat (m1.paid.getD ten.toNat 0 + cents) } else m1
/-- what has been paid is no more than the calls could pay -/
def PaidOk (m : MkG) : Prop := ∀ x ∈ m.paid, 0 ≤ x ∧ x ≤ m.log.length * 1073741824

set_option maxRecDepth 100000 in
set_option maxHeartbeats 1000000 in
theorem pay_full (p : Nat) (V : MV) (m : MkG) (ten cents : Int) (w : World) (hm : MktAt w p V m) (hl : m.log.length = 300) :
    Calls Tryz.prog 53 #[.pointer (some ⟨p, 0, none⟩), .int .i64 ten, .int .i64 cents] w fun e w' => e = .returned (.int .i64 2) ∧ MktTo w p V m w' := by
  have HM := hide hm
  have HL := hide hl
  clear hm hl
  go_enter Tryz.func53, Tryz.ntmps53
  go_wp2_with fail
  refine (logged_full p V m (callPay ten cents) _ HM.out HL.out).mono ?_
  rintro e w1 ⟨rfl, h1⟩
  have H1 := hide h1
  clear h1
  go_wp2
  go_ret
  exact ⟨rfl, MktTo.full HM.out H1.out⟩

set_option maxRecDepth 100000 in
set_option maxHeartbeats 4000000 in
theorem pay_ok (p : Nat) (V : MV) (m : MkG) (ten cents : Int) (w : World) (hm : MktAt w p V m) (hok : MkOk m) (hpo : PaidOk m) (hl : m.log.length < 300) :
    Calls Tryz.prog 53 #[.pointer (some ⟨p, 0, none⟩), .int .i64 ten, .int .i64 cents] w fun e w' => e = .returned (.int .i64 (payE m ten cents)) ∧ MktTo w p V (payM m ten cents) w' := by
  have HM := hide hm
  have HL := hide hl
  have HOK := hide hok
  have HPO := hide hpo
  clear hm hl hok hpo
  go_enter Tryz.func53, Tryz.ntmps53
  go_wp2_with fail
  refine (logged_ok p V m (callPay ten cents) _ HM.out HL.out).mono ?_
  rintro e w1 ⟨rfl, hto⟩
  obtain ⟨V1, hm1, hc1, hf1⟩ := hto
  have H1 := hide hm1
  have HTO := hide (show MktTo w p V (m.logs (callPay ten cents)) w1 from ⟨V1, hm1, hc1, hf1⟩)
  have HAF := hide (fun m2 w2 (h : MktTo w1 p V1 m2 w2) => MktTo.after hc1 hf1 h)
  clear hm1 hc1 hf1
  go_wp2_with fail
  refine (tenant_any p V1 _ ten _ H1.out).mono ?_
  rintro e w2 ⟨rfl, hw⟩
  subst w2
  have et : (m.logs (callPay ten cents)).tenB ten = m.tenB ten := rfl
  rw [et]
  clear et
  cases hT : m.tenB ten
  · have E1 := hide (show payE m ten cents = 3 by simp [payE, hT])
    clear hT
    go_wp2
    go_ret
    exact ⟨ret_int E1.out.symm, by rw [show payM m ten cents = m.logs (callPay ten cents) by simp [payM, E1.out]]; exact HTO.out⟩
  · by_cases hcs : cents < 1 ∨ 1073741824 < cents
    · have E1 := hide (show payE m ten cents = 9 by simp [payE, hT, hcs])
      have HE := hide (show payM m ten cents = m.logs (callPay ten cents) by simp [payM, E1.out])
      clear hT
      rcases hcs with g1 | g1
      · go_wp2
        go_ret
        exact ⟨ret_int E1.out.symm, by rw [HE.out]; exact HTO.out⟩
      · have g2 : decide (cents < 1) = false := by simp; omega
        go_wp2
        go_ret
        exact ⟨ret_int E1.out.symm, by rw [HE.out]; exact HTO.out⟩
    · obtain ⟨t0, t1⟩ := tenB_true hT
      have hnp := HOK.out.np
      have hcf := cfgOk_true HOK.out.ck
      obtain ⟨i, rfl⟩ := Int.eq_ofNat_of_zero_le t0
      obtain ⟨ao, cap, hv, hel⟩ := H1.out.paid_form
      have hin : i < m.paid.length := by omega
      obtain ⟨g, hao, hown, hcl, hfr⟩ := hel i hin
      subst hao
      have hil : (i : Int) < (m.paid.length : Int) := by omega
      have i0 : (0 : Int) ≤ (i : Int) := by omega
      have hsl : m.paid.length ≤ 8 := by omega
      have c10 : w1.cell? ⟨p, 10, none⟩ = some (.slice (some ⟨g, 0, none⟩) m.paid.length cap) := by rw [← show V1.pv = .slice (some ⟨g, 0, none⟩) m.paid.length cap from hv]; exact H1.out.cell 10
      have E1 := hide (show payE m i cents = 0 by simp [payE, hT, hcs])
      have hx := HPO.out (m.paid.getD i 0) (by simp [List.getD, List.getElem?_eq_getElem hin])
      have hl3 := HL.out
      have HFIN := hide (show MktTo w p V (payM m i cents) (w1.setCell ⟨g, i, none⟩ (.int .i64 (m.paid.getD i 0 + cents))) by
        rw [show payM m i cents = { m.logs (callPay i cents) with paid := m.paid.set i (m.paid.getD i 0 + cents) } by simp [payM, E1.out, MkG.logs]]
        exact HAF.out _ _ (H1.out.setPaid (u := m.paid.getD i 0 + cents) hin hown))
      have hcl' : w1.cell? ⟨g, i, none⟩ = some (.int .i64 (m.paid.getD i 0)) := hcl
      have npg : p ≠ g := fun e => ownsRow_box H1.out.paid H1.out.box (by decide) (e ▸ hown)
      have hww : IntKind.i64.wrap (m.paid.getD i 0 + cents) = m.paid.getD i 0 + cents := by rw [IntKind.wrap_i64]; omega
      have g1 : decide (cents < 1) = false := by simp; omega
      have g2 : decide (1073741824 < cents) = false := by simp; omega
      clear hT hel hv hown hnp hcf t0 t1 hcl hin hcs hx hl3
      generalize m.paid.getD i 0 = old at *
      generalize m.paid.length = n at *
      go_wp2
      go_big_region
      all_goals
        go_wp2
        go_ret
        first | exact ⟨ret_int E1.out.symm, HFIN.out⟩ | exact ⟨ret_int E1.out.symm, HFIN.out.chg0 ((Chg.refl _ _).drewN _)⟩
end Go.Proofs.YtminceigjejipabGreat
