import Derived.Test.YtminceigjejipaaYp7
import Derived.Deep.CutRange
import Derived.Deep.RegionWith
/-
  BILLS IN THE PROGRAM: whether a bid is due; an invoice more.
-/
namespace Go.Proofs.Ytminceigjejipaa
open Go.RowKit

set_option maxRecDepth 100000 in
set_option maxHeartbeats 8000000 in
theorem isDue_any (p : Nat) (V : YV) (L : LV) (m : MkG) (i : Nat) (b : BidG) (w : World) (hy : YAtV w p V L m) (hok : MkOk m) (hcl : m.charges.length ≤ 300) (hb : m.bids[i]? = some b) :
    Calls Try.prog 70 #[.pointer (some ⟨p, 0, none⟩), .int .i64 i] w fun e w' => e = .returned (.bool ((b.state == 2) && !decide (m.time + b.job.len ≤ b.job.dl) && !hasInv m.charges b.ten b.ref)) ∧ Chg (fun _ => False) w w' := by
  obtain ⟨g, cap, hv, hown, hgl, hcel, _⟩ := hy.mkt.bidCell hb
  have hil : (i : Int) < (m.bids.length : Int) := by have := (List.getElem?_eq_some_iff.1 hb).1; omega
  have i0 : (0 : Int) ≤ (i : Int) := by omega
  have hbok := hok.bid b (List.mem_of_getElem? hb)
  obtain ⟨n1, n2, n3, n4, n5⟩ := hbok.nums hok
  have hcf := cfgOk_true hok.ck
  have ht0 := hok.t0
  have ht1 := hok.t1
  have ht2 : m.time ≤ 64 := by omega
  have cq : w.cell? ⟨p, 0, none⟩ = some (.pointer (some ⟨V.q, 0, none⟩)) := hy.cq
  have c6 : w.cell? ⟨V.q, 6, none⟩ = some (.slice (some ⟨g, 0, none⟩) m.bids.length cap) := by rw [← hv]; exact hy.mkt.cell 6
  have b0 : w.cell? ⟨g, i * 9, none⟩ = some (.int .i64 b.ten) := hcel 0 _ rfl
  have b1 : w.cell? ⟨g, i * 9 + 1, none⟩ = some (.int .i64 b.ref) := hcel 1 _ rfl
  have b2 : w.cell? ⟨g, i * 9 + 2, none⟩ = some (.int .i64 b.job.arr) := hcel 2 _ rfl
  have b3 : w.cell? ⟨g, i * 9 + 3, none⟩ = some (.int .i64 b.job.dl) := hcel 3 _ rfl
  have b4 : w.cell? ⟨g, i * 9 + 4, none⟩ = some (.int .i64 b.job.len) := hcel 4 _ rfl
  have b5 : w.cell? ⟨g, i * 9 + 5, none⟩ = some (.int .i64 b.job.units) := hcel 5 _ rfl
  have b6 : w.cell? ⟨g, i * 9 + 6, none⟩ = some (.int .i64 b.job.val) := hcel 6 _ rfl
  have b7 : w.cell? ⟨g, i * 9 + 7, none⟩ = some (.int .i64 b.state) := hcel 7 _ rfl
  have b8 : w.cell? ⟨g, i * 9 + 8, none⟩ = some (.int .i64 b.start) := hcel 8 _ rfl
  obtain ⟨w1, hw1⟩ : ∃ w1, w1 = w.alloc (.cells #[.int .i64 b.ten, .int .i64 b.ref, .int .i64 b.job.arr, .int .i64 b.job.dl, .int .i64 b.job.len, .int .i64 b.job.units, .int .i64 b.job.val, .int .i64 b.state, .int .i64 b.start] 125) := ⟨_, rfl⟩
  have HC1 : Hid (Chg (fun _ => False) w w1) := by rw [hw1]; exact (Chg.refl _ _).alloc _
  have hk := HC1.out.keep
  have hbk : w1.heap[w.heap.size]? = some (.cells #[.int .i64 b.ten, .int .i64 b.ref, .int .i64 b.job.arr, .int .i64 b.job.dl, .int .i64 b.job.len, .int .i64 b.job.units, .int .i64 b.job.val, .int .i64 b.state, .int .i64 b.start] 125 (0, 0)) := by rw [hw1]; exact heap_alloc_new w _
  have k0 := hk _ _ cq
  have e0 : w1.cell? ⟨w.heap.size, 0, none⟩ = some (.int .i64 b.ten) := by unfold World.cell?; rw [hbk]; rfl
  have e1 : w1.cell? ⟨w.heap.size, 1, none⟩ = some (.int .i64 b.ref) := by unfold World.cell?; rw [hbk]; rfl
  have e2 : w1.cell? ⟨w.heap.size, 2, none⟩ = some (.int .i64 b.job.arr) := by unfold World.cell?; rw [hbk]; rfl
  have e3 : w1.cell? ⟨w.heap.size, 3, none⟩ = some (.int .i64 b.job.dl) := by unfold World.cell?; rw [hbk]; rfl
  have e4 : w1.cell? ⟨w.heap.size, 4, none⟩ = some (.int .i64 b.job.len) := by unfold World.cell?; rw [hbk]; rfl
  have e5 : w1.cell? ⟨w.heap.size, 5, none⟩ = some (.int .i64 b.job.units) := by unfold World.cell?; rw [hbk]; rfl
  have e6 : w1.cell? ⟨w.heap.size, 6, none⟩ = some (.int .i64 b.job.val) := by unfold World.cell?; rw [hbk]; rfl
  have e7 : w1.cell? ⟨w.heap.size, 7, none⟩ = some (.int .i64 b.state) := by unfold World.cell?; rw [hbk]; rfl
  have HIT := hide (fun (w' : World) (hc : Chg (fun _ => False) w1 w') => inTime_any V m b.job w' ((hy.mkt.chg0 HC1.out).chg0 hc) ht0 ht2 n3)
  have HCG := hide (fun (w' : World) (hc : Chg (fun _ => False) w1 w') => isCharged_any p V L m b.ten b.ref w' ((hy.chg0 HC1.out).chg0 hc) hcl)
  obtain ⟨hi, hhi⟩ : ∃ hi, hi = hasInv m.charges b.ten b.ref := ⟨_, rfl⟩
  obtain ⟨it, hit⟩ : ∃ it, it = decide (m.time + b.job.len ≤ b.job.dl) := ⟨_, rfl⟩
  rw [← hhi] at HCG
  rw [← hit] at HIT
  rw [← hhi, ← hit]
  obtain ⟨s, hs⟩ : ∃ s, s = b.state := ⟨_, rfl⟩
  rw [← hs] at b7 e7 hw1 ⊢
  clear hy hok hcl hb hbok hcf hcel hv hown hbk hk hhi hit hs
  generalize m.bids.length = n at *
  generalize m.time = t at *
  go_enter Try.func70, Try.ntmps70
  go_wp2
  rw [← hw1]
  clear hw1 b0 b1 b2 b3 b4 b5 b6 b7 b8 cq c6
  by_cases h1' : s = 2
  rotate_left
  · have h1 : (s == 2) = false := by simpa using h1'
    go_quiet (fail)
    go_wp2
    go_ret
    exact ⟨ret_bool (by rw [h1]; rfl), HC1.out.drewN _⟩
  subst h1'
  cases it
  rotate_left
  · first
    | go_region_with (first | (go_at_call 80; refine (HIT.out _ (by first | exact Chg.refl _ _ | exact (Chg.refl _ _).drew)).mono ?_; rintro e w3 ⟨rfl, hq⟩; have HQ := hide hq; clear hq))
    | fail
    all_goals
      go_wp2
      go_ret
      refine ⟨ret_bool (by simp), HC1.out.trans (?_ : Chg (fun _ => False) w1 _) (fun _ _ h => h)⟩
      exact ⟨HQ.out.os, HQ.out.tape, HQ.out.output, HQ.out.size, HQ.out.block⟩
  · go_region_held3 (fun w' => w'.cell? ⟨p, 0, none⟩ = some (.pointer (some ⟨V.q, 0, none⟩)) ∧ w'.cell? ⟨w.heap.size, 0, none⟩ = some (.int .i64 b.ten) ∧ w'.cell? ⟨w.heap.size, 1, none⟩ = some (.int .i64 b.ref) ∧ w'.cell? ⟨w.heap.size, 2, none⟩ = some (.int .i64 b.job.arr) ∧ w'.cell? ⟨w.heap.size, 3, none⟩ = some (.int .i64 b.job.dl) ∧ w'.cell? ⟨w.heap.size, 4, none⟩ = some (.int .i64 b.job.len) ∧ w'.cell? ⟨w.heap.size, 5, none⟩ = some (.int .i64 b.job.units) ∧ w'.cell? ⟨w.heap.size, 6, none⟩ = some (.int .i64 b.job.val) ∧ w'.cell? ⟨w.heap.size, 7, none⟩ = some (.int .i64 2)) (go_keep)
      (first
        | (go_at_call 80; refine (HIT.out _ (by first | exact Chg.refl _ _ | exact (Chg.refl _ _).drew)).mono ?_; rintro e w3 ⟨rfl, hq⟩; have hk3 := hq.keep; have HQ := hide (show Chg (fun _ => False) w1 w3 from ⟨hq.os, hq.tape, hq.output, hq.size, hq.block⟩); clear hq; have q0 := hk3 _ _ k0; have f0 := hk3 _ _ e0; have f1 := hk3 _ _ e1; have f2 := hk3 _ _ e2; have f3 := hk3 _ _ e3; have f4 := hk3 _ _ e4; have f5 := hk3 _ _ e5; have f6 := hk3 _ _ e6; have f7 := hk3 _ _ e7; clear hk3)
        | (go_at_call 81; refine (HCG.out _ (by first | exact HQ.out | exact HQ.out.drew)).mono ?_; rintro e w4 ⟨rfl, hq⟩; have hk4 := hq.keep; have HQ4 := hide hq; clear hq; have r0 := hk4 _ _ q0; have g0 := hk4 _ _ f0; have g1 := hk4 _ _ f1; have g2 := hk4 _ _ f2; have g3 := hk4 _ _ f3; have g4 := hk4 _ _ f4; have g5 := hk4 _ _ f5; have g6 := hk4 _ _ f6; have g7 := hk4 _ _ f7; clear hk4))
    all_goals
      go_wp2
      go_ret
      refine ⟨ret_bool (by simp), HC1.out.trans (?_ : Chg (fun _ => False) w1 _) (fun _ _ h => h)⟩
      first | exact HQ.out.trans HQ4.out (fun _ _ h => h) | exact HQ.out.trans ⟨HQ4.out.os, HQ4.out.tape, HQ4.out.output, HQ4.out.size, HQ4.out.block⟩ (fun _ _ h => h)

theorem invs_arm {w w1 w2 : World} {p q : Nat} {L : LV} {lg : List CallG} {es : List Int} {ch : List InvG} {pd : List Int} {x : InvG} {ao : Option Addr} {cap n g cap' H : Nat} (h : YbAt w p q L lg es ch pd) (hv : L.iv = .slice ao ch.length cap) (hn : n = ch.length) (hc1 : Chg (fun _ => False) w w1)
    (hown : w2.ownsRow 0 88 3 (.slice (some ⟨g, 0, none⟩) (n + 1) cap') (n + 1) (ch.flatMap invCells ++ invCells x)) (hgrow : w1.grownBy w2 (Value.ownBlock (.slice ao n cap))) (hat : Value.ownBlock (.slice ao n cap) = some g ∨ g = H) (hH : w.heap.size ≤ H) :
    w2.cell? ⟨p, 3, none⟩ = some (.slice ao n cap) ∧ w2.frozen? ⟨p, 3, none⟩ = false ∧ Hid (YbTo w p q L lg es (ch ++ [x]) pd (w2.setCell ⟨p, 3, none⟩ (.slice (some ⟨g, 0, none⟩) (n + 1) cap'))) := by
  subst hn
  rw [← hv] at hgrow hat ⊢
  exact h.invMore hc1 hown hgrow (by rcases hat with h | h; exact .inl h; exact .inr (by omega))
theorem YbTo.own3 {w wc W W' : World} {p q : Nat} {L : LV} {lg : List CallG} {es : List Int} {ch : List InvG} {pd : List Int} (hc : Chg (fun _ => False) w wc) (h : YbTo wc p q L lg es ch pd W) (hR : w.heap.size < wc.heap.size) (hn : ¬ L.foot p w.heap.size) (hW : Chg (fun k => k = w.heap.size) W W') : YbTo w p q L lg es ch pd W' := by
  obtain ⟨L2, b1, b2, b3⟩ := h
  refine ⟨L2, b1.chg hW (fun k hk e => ?_), ((hc.mono (fun _ _ h => h.elim)).trans b2 (fun _ _ h => h)).trans hW (fun k hk e => ?_), fun k hk => ?_⟩
  · subst e
    rcases b3 _ hk with h | h
    · exact hn h
    · omega
  · omega
  · rcases b3 k hk with h | h
    · exact .inl h
    · exact .inr (Nat.le_trans hc.size h)
theorem yinv_set {w : World} {q : Nat} {x y z a b c : Value} {T : TypeId} (h : w.heap[q]? = some (.cells #[x, y, z] T (0, 0))) : (((w.setCell ⟨q, 0, none⟩ a).setCell ⟨q, 1, none⟩ b).setCell ⟨q, 2, none⟩ c).heap[q]? = some (.cells #[a, b, c] T (0, 0)) := by
  rw [box_set (box_set (box_set h a) b) c]
  rfl

set_option maxRecDepth 100000 in
set_option maxHeartbeats 8000000 in
theorem charge_any (p : Nat) (V : YV) (L : LV) (m : MkG) (i : Nat) (b : BidG) (w : World) (hy : YAtV w p V L m) (hok : MkOk m) (hh : Hist m) (hcl : m.charges.length < 300) (hb : m.bids[i]? = some b) (hw : b.state = 2) :
    Calls Try.prog 71 #[.pointer (some ⟨p, 0, none⟩), .int .i64 i] w fun e w' => e = .returned (.agg #[.int .i64 b.ten, .int .i64 b.ref, .int .i64 (priceM m b.entry)]) ∧ YbTo w p V.q L m.log (m.bids.map (·.entry)) (m.charges ++ [⟨b.ten, b.ref, priceM m b.entry⟩]) m.paid w' := by
  obtain ⟨g, cap, hv, hown, hgl, hcel, _⟩ := hy.mkt.bidCell hb
  have hil : (i : Int) < (m.bids.length : Int) := by have := (List.getElem?_eq_some_iff.1 hb).1; omega
  have i0 : (0 : Int) ≤ (i : Int) := by omega
  have HPR := hide (fun (w' : World) (hc : Chg (fun _ => False) w w') => yprice_any p V L m i b w' (hy.chg0 hc) hok hh hb hw)
  have HY := hide hy
  have hpl := hy.lt
  have hql := hy.mkt.lt
  have cq : w.cell? ⟨p, 0, none⟩ = some (.pointer (some ⟨V.q, 0, none⟩)) := hy.cq
  have c6 : w.cell? ⟨V.q, 6, none⟩ = some (.slice (some ⟨g, 0, none⟩) m.bids.length cap) := by rw [← hv]; exact hy.mkt.cell 6
  have b0 : w.cell? ⟨g, i * 9, none⟩ = some (.int .i64 b.ten) := hcel 0 _ rfl
  have b1 : w.cell? ⟨g, i * 9 + 1, none⟩ = some (.int .i64 b.ref) := hcel 1 _ rfl
  have cq' : ∀ o, (w.alloc o).cell? ⟨p, 0, none⟩ = some (.pointer (some ⟨V.q, 0, none⟩)) := fun o => by rw [World.cell?_alloc_lt _ _ _ (by exact hpl)]; exact cq
  have c6' : ∀ o, (w.alloc o).cell? ⟨V.q, 6, none⟩ = some (.slice (some ⟨g, 0, none⟩) m.bids.length cap) := fun o => by rw [World.cell?_alloc_lt _ _ _ (by exact hql)]; exact c6
  have b0' : ∀ o, (w.alloc o).cell? ⟨g, i * 9, none⟩ = some (.int .i64 b.ten) := fun o => by rw [World.cell?_alloc_lt _ _ _ (by exact hgl)]; exact b0
  have b1' : ∀ o, (w.alloc o).cell? ⟨g, i * 9 + 1, none⟩ = some (.int .i64 b.ref) := fun o => by rw [World.cell?_alloc_lt _ _ _ (by exact hgl)]; exact b1
  obtain ⟨N, hN⟩ : ∃ N, N = priceM m b.entry := ⟨_, rfl⟩
  rw [← hN] at HPR ⊢
  clear hy hok hh hb hw hcel hv hown cq c6 b0 b1 hN
  generalize m.bids.length = n at *
  obtain ⟨w1, hw1⟩ : ∃ w1, w1 = (w.alloc (.cells #[.int .i64 0, .int .i64 0, .int .i64 0] 88)).alloc (.cells #[.int .i64 b.ten, .int .i64 b.ref] 90) := ⟨_, rfl⟩
  have HC1 : Hid (Chg (fun _ => False) w w1) := by rw [hw1]; exact ((Chg.refl _ _).alloc _).alloc _
  have hr1 : w1.heap[w.heap.size]? = some (.cells #[.int .i64 0, .int .i64 0, .int .i64 0] 88 (0, 0)) := by rw [hw1, Below.heap_alloc _ _ _ (by simp)]; exact heap_alloc_new w _
  have hn1 : w1.heap[w.heap.size + 1]? = some (.cells #[.int .i64 b.ten, .int .i64 b.ref] 90 (0, 0)) := by rw [hw1]; exact heap_at_new (by simp)
  have hs1 : w1.heap.size = w.heap.size + 1 + 1 := by rw [hw1]; simp
  have e0 : w1.cell? ⟨w.heap.size + 1, 0, none⟩ = some (.int .i64 b.ten) := by unfold World.cell?; rw [hn1]; rfl
  have e1 : w1.cell? ⟨w.heap.size + 1, 1, none⟩ = some (.int .i64 b.ref) := by unfold World.cell?; rw [hn1]; rfl
  have HR1 := hide hr1
  have HN1 := hide hn1
  have HS1 := hide hs1
  have n1 : w1.heap.size ≠ w.heap.size + 1 := by omega
  have n2 : w.heap.size + 1 ≠ w1.heap.size := by omega
  have hk1 : ∀ x f, (w1.alloc x).cell? ⟨w.heap.size + 1, f, none⟩ = w1.cell? ⟨w.heap.size + 1, f, none⟩ := fun x f => World.cell?_alloc_lt _ _ _ (by show w.heap.size + 1 < _; omega)
  clear hr1 hn1 hs1
  go_enter Try.func71, Try.ntmps71
  go_upto_region 2 with fail
  rw [← hw1]
  clear hw1 cq' c6' b0' b1'
  go_cut [6] from 7 to 36 (fun q wx => ∃ Q : Nat, q = .pointer (some ⟨Q, 0, none⟩) ∧ w.heap.size + 1 < Q ∧ wx.heap[Q]? = some (.cells #[.int .i64 b.ten, .int .i64 b.ref, .int .i64 N] 88 (0, 0)) ∧ Chg (fun _ => False) w1 wx)
  case first =>
    go_region_held3 (fun w' => w'.cell? ⟨w.heap.size + 1, 0, none⟩ = some (.int .i64 b.ten) ∧ w'.cell? ⟨w.heap.size + 1, 1, none⟩ = some (.int .i64 b.ref)) (go_keep)
      (first
        | (go_at_call 59; refine (HPR.out (w1.alloc (.cells #[.int .i64 0, .int .i64 0, .int .i64 0] 88)).drew ((HC1.out.alloc _).drew)).mono ?_; rintro e w3 ⟨rfl, hq3⟩; have hk3 := hq3.keep; have x0 := hk3 ⟨w.heap.size + 1, 0, none⟩ _ ((hk1 _ _).trans e0); have x1 := hk3 ⟨w.heap.size + 1, 1, none⟩ _ ((hk1 _ _).trans e1); have HS3 := hide hq3.size; have hbk := (hq3.block w1.heap.size (by simp) (fun h => h)).trans (heap_alloc_new w1 (.cells #[.int .i64 0, .int .i64 0, .int .i64 0] 88)); have z0 : w3.cell? ⟨w1.heap.size, 0, none⟩ = some (.int .i64 0) := (by unfold World.cell?; rw [hbk]; rfl); have z1 : w3.cell? ⟨w1.heap.size, 1, none⟩ = some (.int .i64 0) := (by unfold World.cell?; rw [hbk]; rfl); have z2 : w3.cell? ⟨w1.heap.size, 2, none⟩ = some (.int .i64 0) := (by unfold World.cell?; rw [hbk]; rfl); have zf0 : w3.frozen? ⟨w1.heap.size, 0, none⟩ = false := (by unfold World.frozen?; rw [hbk]; simp); have zf1 : w3.frozen? ⟨w1.heap.size, 1, none⟩ = false := (by unfold World.frozen?; rw [hbk]; simp); have zf2 : w3.frozen? ⟨w1.heap.size, 2, none⟩ = false := (by unfold World.frozen?; rw [hbk]; simp); have HBK := hide hbk; have HQ3 := hide hq3; clear hq3 hk3 hbk)
        | (go_at_call 59; refine (HPR.out w1.drew (HC1.out.drew)).mono ?_; rintro e w3 ⟨rfl, hq3⟩; have hk3 := hq3.keep; have x0 := hk3 ⟨w.heap.size + 1, 0, none⟩ _ e0; have x1 := hk3 ⟨w.heap.size + 1, 1, none⟩ _ e1; have HS3 := hide hq3.size; have n3 : w3.heap.size ≠ w.heap.size + 1 := (by have h9 := hq3.size; have h8 := HS1.out; simp at h9; omega); have HQ3 := hide hq3; clear hq3 hk3))
    · go_wp2_with fail
      go_meet
      case rel => exact ⟨w3.heap.size, rfl, by have h3 := HS3.out; have := HS1.out; simp at h3; omega, heap_alloc_new w3 _, (((Chg.refl _ _).drew).trans HQ3.out (fun _ _ h => h)).alloc _⟩
    · go_wp2_with fail
      go_meet
      case rel => exact ⟨w1.heap.size, rfl, by have := HS1.out; omega, yinv_set HBK.out, ((((((Chg.refl _ _).alloc _).drew).trans HQ3.out (fun _ _ h => h)).setCell (.inr (Nat.le_refl _)) _).setCell (.inr (Nat.le_refl _)) _).setCell (.inr (Nat.le_refl _)) _⟩
  case rest =>
    obtain ⟨Q, rfl, hQ1, hbq, hcx⟩ := hcut
    have HCX := hide (HC1.out.trans hcx (fun _ _ h => h))
    have HYC := hide (HY.out.chg0 (HC1.out.trans hcx (fun _ _ h => h)))
    have hbr : wc.heap[w.heap.size]? = some (.cells #[.int .i64 0, .int .i64 0, .int .i64 0] 88 (0, 0)) := (hcx.block _ (by have := HS1.out; omega) (fun h => h)).trans HR1.out
    have f0 : wc.cell? ⟨Q, 0, none⟩ = some (.int .i64 b.ten) := by unfold World.cell?; rw [hbq]; rfl
    have f1 : wc.cell? ⟨Q, 1, none⟩ = some (.int .i64 b.ref) := by unfold World.cell?; rw [hbq]; rfl
    have f2 : wc.cell? ⟨Q, 2, none⟩ = some (.int .i64 N) := by unfold World.cell?; rw [hbq]; rfl
    have hQl : Q < wc.heap.size := (Array.getElem?_eq_some_iff.1 hbq).1
    have hRl : w.heap.size < wc.heap.size := (Array.getElem?_eq_some_iff.1 hbr).1
    have hplc : p < wc.heap.size := HYC.out.lt
    obtain ⟨ia, ic, hiv, _⟩ := HYC.out.yb.invs_form
    obtain ⟨ni, hni⟩ : ∃ ni, ni = m.charges.length := ⟨_, rfl⟩
    have c3 : wc.cell? ⟨p, 3, none⟩ = some (.slice ia ni ic) := by rw [hni, ← hiv]; exact HYC.out.yb.cell 3
    have c3' : ∀ o, (wc.alloc o).cell? ⟨p, 3, none⟩ = some (.slice ia ni ic) := fun o => by rw [World.cell?_alloc_lt _ _ _ (by exact hplc)]; exact c3
    have HOI : Hid (wc.ownsRow 0 88 3 (.slice ia ni ic) ni (m.charges.flatMap invCells)) := by rw [hni, ← hiv]; exact HYC.out.yb.invs
    have HIV := hide hiv
    have HNI := hide hni
    have hni3 : ni < 300 := by rw [hni]; exact hcl
    have HQF := hide (show ¬ L.foot p Q ∧ ¬ L.foot p w.heap.size from ⟨fun h => by have := HY.out.yb.foot_lt _ h; omega, fun h => by have := HY.out.yb.foot_lt _ h; omega⟩)
    have HBQ := hide hbq
    have HBR := hide hbr
    obtain ⟨i0', hi, hz0', hz1, hz2⟩ := info_parts infoInvoice
    clear hcx hbq hbr hiv hni e0 e1 HR1 HN1 HS1 hcl n1 n2 hk1
    go_wp2
    go_region_law (refine step_append_lies _ rfl (.tmp 30) (.tmp 32) 49 rfl 0 88 i0' (.agg #[.int .i64 0, .int .i64 0, .int .i64 0]) 3 24 Try.underlying49 hi hz0' hz1 hz2 rfl (by decide) (.slice ia ni ic) ni (m.charges.flatMap invCells) (by simp [Act.eval]) (by exact HOI.out.alloc _) ⟨wc.heap.size, 0, none⟩ 1 1 (invCells ⟨b.ten, b.ref, N⟩) (by simp [Act.eval]) rfl (by exact World.news_of_block (heap_alloc_new wc _)) (by simp [invCells, Value.oneCell']) (by decide) (by unfold maxLen; omega) (by omega) (Nat.zero_le _) _ rfl ?_; intro g cap' w6 hown hgrow hat2 hlt; obtain ⟨s1, s2, s3⟩ := invs_arm (x := ⟨b.ten, b.ref, N⟩) HYC.out.yb HIV.out HNI.out (by first | exact ((Chg.refl _ _).alloc _).drew | exact ((Chg.refl _ _).drew).alloc _ | exact (Chg.refl _ _).alloc _) hown hgrow hat2 (by simp); clear hown hgrow hat2 hlt)
    all_goals
      have HTO := s3
      obtain ⟨W, hW⟩ : ∃ W, W = w6.setCell ⟨p, 3, none⟩ (.slice (some ⟨g, 0, none⟩) (ni + 1) cap') := ⟨_, rfl⟩
      rw [← hW] at HTO
      have hbq2 := (HTO.out.choose_spec.2.1.block Q hQl HQF.out.1).trans HBQ.out
      have hbr2 := (HTO.out.choose_spec.2.1.block _ hRl HQF.out.2).trans HBR.out
      have u0 : W.cell? ⟨Q, 0, none⟩ = some (.int .i64 b.ten) := by unfold World.cell?; rw [hbq2]; rfl
      have u1 : W.cell? ⟨Q, 1, none⟩ = some (.int .i64 b.ref) := by unfold World.cell?; rw [hbq2]; rfl
      have u2 : W.cell? ⟨Q, 2, none⟩ = some (.int .i64 N) := by unfold World.cell?; rw [hbq2]; rfl
      have v0 : W.cell? ⟨w.heap.size, 0, none⟩ = some (.int .i64 0) := by unfold World.cell?; rw [hbr2]; rfl
      have v1 : W.cell? ⟨w.heap.size, 1, none⟩ = some (.int .i64 0) := by unfold World.cell?; rw [hbr2]; rfl
      have v2 : W.cell? ⟨w.heap.size, 2, none⟩ = some (.int .i64 0) := by unfold World.cell?; rw [hbr2]; rfl
      have vf0 : W.frozen? ⟨w.heap.size, 0, none⟩ = false := by unfold World.frozen?; rw [hbr2]; simp
      have vf1 : W.frozen? ⟨w.heap.size, 1, none⟩ = false := by unfold World.frozen?; rw [hbr2]; simp
      have vf2 : W.frozen? ⟨w.heap.size, 2, none⟩ = false := by unfold World.frozen?; rw [hbr2]; simp
      have HBR2 := hide hbr2
      clear hbq2 hbr2 s3
      rw [← hW]
      clear hW s1 s2 f0 f1 f2 c3 c3'
      go_wp2
      have hfin := yinv_set (a := .int .i64 b.ten) (b := .int .i64 b.ref) (c := .int .i64 N) HBR2.out
      have r0 : (((W.setCell ⟨w.heap.size, 0, none⟩ (.int .i64 b.ten)).setCell ⟨w.heap.size, 1, none⟩ (.int .i64 b.ref)).setCell ⟨w.heap.size, 2, none⟩ (.int .i64 N)).cell? ⟨w.heap.size, 0, none⟩ = some (.int .i64 b.ten) := by unfold World.cell?; rw [hfin]; rfl
      have r1 : (((W.setCell ⟨w.heap.size, 0, none⟩ (.int .i64 b.ten)).setCell ⟨w.heap.size, 1, none⟩ (.int .i64 b.ref)).setCell ⟨w.heap.size, 2, none⟩ (.int .i64 N)).cell? ⟨w.heap.size, 1, none⟩ = some (.int .i64 b.ref) := by unfold World.cell?; rw [hfin]; rfl
      have r2 : (((W.setCell ⟨w.heap.size, 0, none⟩ (.int .i64 b.ten)).setCell ⟨w.heap.size, 1, none⟩ (.int .i64 b.ref)).setCell ⟨w.heap.size, 2, none⟩ (.int .i64 N)).cell? ⟨w.heap.size, 2, none⟩ = some (.int .i64 N) := by unfold World.cell?; rw [hfin]; rfl
      refine bodyPost_ret (v := .agg #[.int .i64 b.ten, .int .i64 b.ref, .int .i64 N]) (by simp [results, Try.results71, go_sem, r0, r1, r2]) rfl ⟨rfl, ?_⟩
      exact YbTo.own3 HCX.out HTO.out hRl HQF.out.2 (((((Chg.refl (fun k => k = w.heap.size) W).setCell (p := ⟨w.heap.size, 0, none⟩) (.inl rfl) _).setCell (p := ⟨w.heap.size, 1, none⟩) (.inl rfl) _)).setCell (p := ⟨w.heap.size, 2, none⟩) (.inl rfl) _)
end Go.Proofs.Ytminceigjejipaa
