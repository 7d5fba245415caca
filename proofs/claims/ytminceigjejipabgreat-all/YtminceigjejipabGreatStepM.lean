import Derived.Test.YtminceigjejipabGreatG18
import Derived.Test.YtminceigjejipabGreatStepC
namespace Go.Proofs.YtminceigjejipabGreat
open Go.RowKit

set_option maxHeartbeats 1000000 in
theorem step_open_none (bw cap : Nat) (ao : Option Addr) (a b c d : Int) (j : JobG) (w : World) (hcs : w.cell? ⟨bw, 0, none⟩ = some (.slice ao 0 cap)) :
    Calls Tryz.prog 6 #[.pointer (some ⟨bw, 0, none⟩), .agg #[.int .i64 6, .int .i64 a, .int .i64 b, .int .i64 c, .int .i64 d, .int .i64 j.arr, .int .i64 j.dl, .int .i64 j.len, .int .i64 j.units, .int .i64 j.val]] w fun e w' => e = .returned (.bool true) ∧ Chg (fun _ => False) w w' := by
  have hlt : bw < w.heap.size := World.block_lt_of_cell? w _ hcs
  have hcs' : ∀ o, (w.alloc o).cell? ⟨bw, 0, none⟩ = some (.slice ao 0 cap) := fun o => by rw [World.cell?_alloc_lt _ _ _ (by exact hlt)]; exact hcs
  clear hcs
  go_enter Tryz.func6, Tryz.ntmps6
  go_wp2_with fail
  go_ret
  exact ⟨rfl, (Chg.refl _ _).alloc _⟩

set_option maxHeartbeats 2000000 in
theorem step_open_some (bw b0 off len cap i : Nat) (C : Nat → Int) (a b c d : Int) (j : JobG) (w : World) (R : World → World → Prop) (hcs : w.cell? ⟨bw, 0, none⟩ = some (.slice (some ⟨b0, off, none⟩) len cap))
    (hlen : 0 < len) (hbig : len < 9007199254740992) (h1 : -9223372036854775808 ≤ a) (h2 : a ≤ 9223372036854775807) (hj : pickZ a len = (i : Int)) (hjl : i < len)
    (hC : ∀ t, t < len * 5 → w.cell? ⟨b0, off + t, none⟩ = some (.int .i64 (C t)))
    (hR : ∀ W, Chg (fun _ => False) w W → Calls Tryz.prog 11 #[.pointer (some ⟨bw, 0, none⟩), cfgV ⟨C (i * 5), C (i * 5 + 1), C (i * 5 + 2), C (i * 5 + 3), C (i * 5 + 4)⟩] W fun e w' => e = .returned (.bool true) ∧ R W w') :
    Calls Tryz.prog 6 #[.pointer (some ⟨bw, 0, none⟩), .agg #[.int .i64 6, .int .i64 a, .int .i64 b, .int .i64 c, .int .i64 d, .int .i64 j.arr, .int .i64 j.dl, .int .i64 j.len, .int .i64 j.units, .int .i64 j.val]] w fun e w' => e = .returned (.bool true) ∧ ∃ W, Chg (fun _ => False) w W ∧ R W w' := by
  have HR := hide hR
  have hlt : bw < w.heap.size := World.block_lt_of_cell? w _ hcs
  have hcs' : ∀ o, (w.alloc o).cell? ⟨bw, 0, none⟩ = some (.slice (some ⟨b0, off, none⟩) len cap) := fun o => by rw [World.cell?_alloc_lt _ _ _ (by exact hlt)]; exact hcs
  have hlt2 : b0 < w.heap.size := World.block_lt_of_cell? w ⟨b0, off + 0, none⟩ (hC 0 (by omega))
  have hp : ∀ w, Calls Tryz.prog 10 #[.int .i64 a, .int .i64 len] w fun e w' => e = .returned (.int .i64 i) ∧ w' = w := fun w => by
    have := pick_any a len w h1 h2 (by omega)
    rw [hj] at this
    exact this
  have hl0 : ((len : Int) == 0) = false := by simp; omega
  clear hcs hj hR
  go_enter Tryz.func6, Tryz.ntmps6
  go_wp2_with fail
  obtain ⟨w1, hw1⟩ : ∃ w1, w1 = w.alloc (.cells #[.int .i64 6, .int .i64 a, .int .i64 b, .int .i64 c, .int .i64 d, .int .i64 j.arr, .int .i64 j.dl, .int .i64 j.len, .int .i64 j.units, .int .i64 j.val] 37) := ⟨_, rfl⟩
  rw [← hw1]
  have hc1 : Chg (fun _ => False) w w1 := by rw [hw1]; exact (Chg.refl _ _).alloc _
  have hsz : w1.heap.size = w.heap.size + 1 := by rw [hw1]; simp
  have q0 : w1.cell? ⟨bw, 0, none⟩ = some (.slice (some ⟨b0, off, none⟩) len cap) := by rw [hw1]; exact hcs' _
  have q2 : w1.cell? ⟨w.heap.size, 0, none⟩ = some (.int .i64 6) := by rw [hw1]; simp
  have q3 : w1.cell? ⟨w.heap.size, 1, none⟩ = some (.int .i64 a) := by rw [hw1]; simp
  have HC : Hid (∀ t, t < len * 5 → w1.cell? ⟨b0, off + t, none⟩ = some (.int .i64 (C t))) := fun t ht => by rw [hc1.cell (by exact hlt2) (by simp)]; exact hC t ht
  clear hcs' hC hw1
  have c0 : w1.cell? ⟨b0, off + i * 5, none⟩ = some (.int .i64 (C (i * 5 + 0))) := by have := HC.out (i * 5 + 0) (by omega); simpa [Nat.add_assoc] using this
  have c1 : w1.cell? ⟨b0, off + i * 5 + 1, none⟩ = some (.int .i64 (C (i * 5 + 1))) := by have := HC.out (i * 5 + 1) (by omega); simpa [Nat.add_assoc] using this
  have c2 : w1.cell? ⟨b0, off + i * 5 + 2, none⟩ = some (.int .i64 (C (i * 5 + 2))) := by have := HC.out (i * 5 + 2) (by omega); simpa [Nat.add_assoc] using this
  have c3 : w1.cell? ⟨b0, off + i * 5 + 3, none⟩ = some (.int .i64 (C (i * 5 + 3))) := by have := HC.out (i * 5 + 3) (by omega); simpa [Nat.add_assoc] using this
  have c4 : w1.cell? ⟨b0, off + i * 5 + 4, none⟩ = some (.int .i64 (C (i * 5 + 4))) := by have := HC.out (i * 5 + 4) (by omega); simpa [Nat.add_assoc] using this
  have n1 : w1.heap.size ≠ bw := by omega
  have n2 : w1.heap.size ≠ w.heap.size := by omega
  have n3 : w1.heap.size ≠ b0 := by omega
  have HC1 := hide hc1
  clear HC hsz hc1
  go_region_held3 (fun w' => w'.cell? ⟨bw, 0, none⟩ = some (.slice (some ⟨b0, off, none⟩) len cap) ∧ w'.cell? ⟨w.heap.size, 0, none⟩ = some (.int .i64 6) ∧ w'.cell? ⟨w.heap.size, 1, none⟩ = some (.int .i64 a) ∧ w'.cell? ⟨b0, off + i * 5, none⟩ = some (.int .i64 (C (i * 5 + 0))) ∧ w'.cell? ⟨b0, off + i * 5 + 1, none⟩ = some (.int .i64 (C (i * 5 + 1))) ∧ w'.cell? ⟨b0, off + i * 5 + 2, none⟩ = some (.int .i64 (C (i * 5 + 2))) ∧ w'.cell? ⟨b0, off + i * 5 + 3, none⟩ = some (.int .i64 (C (i * 5 + 3))) ∧ w'.cell? ⟨b0, off + i * 5 + 4, none⟩ = some (.int .i64 (C (i * 5 + 4)))) (go_keep)
    (first | (go_at_call 10; refine (hp _).mono ?_; rintro e w' ⟨rfl, rfl⟩))
  all_goals
    clear q0 q3 c0 c1 c2 c3 c4
    go_wp2_with fail
    refine (HR.out _ (by first | exact (HC1.out.alloc _).drew | exact HC1.out.alloc _)).mono ?_
    rintro e w2 ⟨rfl, hr⟩
    have HRR := hide hr
    clear hr
    go_wp2
    go_ret
    exact ⟨rfl, _, by first | exact (HC1.out.alloc _).drew | exact HC1.out.alloc _, HRR.out⟩

set_option maxHeartbeats 1000000 in
theorem step_m7_none (bw cap : Nat) (ao : Option Addr) (a b c d : Int) (j : JobG) (w : World) (hcs : w.cell? ⟨bw, 2, none⟩ = some (.slice ao 0 cap)) :
    Calls Tryz.prog 6 #[.pointer (some ⟨bw, 0, none⟩), .agg #[.int .i64 7, .int .i64 a, .int .i64 b, .int .i64 c, .int .i64 d, .int .i64 j.arr, .int .i64 j.dl, .int .i64 j.len, .int .i64 j.units, .int .i64 j.val]] w fun e w' => e = .returned (.bool true) ∧ Chg (fun _ => False) w w' := by
  have hlt : bw < w.heap.size := World.block_lt_of_cell? w _ hcs
  have hcs' : ∀ o, (w.alloc o).cell? ⟨bw, 2, none⟩ = some (.slice ao 0 cap) := fun o => by rw [World.cell?_alloc_lt _ _ _ (by exact hlt)]; exact hcs
  clear hcs
  go_enter Tryz.func6, Tryz.ntmps6
  go_wp2_with fail
  go_ret
  exact ⟨rfl, (Chg.refl _ _).alloc _⟩

set_option maxRecDepth 100000 in
set_option maxHeartbeats 2000000 in
theorem step_m7_some (B g m mc i y r : Nat) (a b c d : Int) (j : JobG) (w : World) (R : World → World → Prop)
    (hcs : w.cell? ⟨B, 2, none⟩ = some (.slice (some ⟨g, 0, none⟩) m mc)) (hm : m < 5000000000000) (hj : pickZ a m = (i : Int)) (hjm : i < m) (h1 : -9223372036854775808 ≤ a) (h2 : a ≤ 9223372036854775807)
    (hx0 : w.cell? ⟨g, i * 2, none⟩ = some (.pointer (some ⟨y, 0, none⟩))) (hx1 : w.cell? ⟨g, i * 2 + 1, none⟩ = some (.pointer (some ⟨r, 0, none⟩)))
    (hR : ∀ W, Chg (fun _ => False) w W → Calls Tryz.prog 14 #[.agg #[.pointer (some ⟨y, 0, none⟩), .pointer (some ⟨r, 0, none⟩)], .agg #[.int .i64 7, .int .i64 a, .int .i64 b, .int .i64 c, .int .i64 d, .int .i64 j.arr, .int .i64 j.dl, .int .i64 j.len, .int .i64 j.units, .int .i64 j.val]] W fun e w' => e = .returned (.bool true) ∧ R W w') :
    Calls Tryz.prog 6 #[.pointer (some ⟨B, 0, none⟩), .agg #[.int .i64 7, .int .i64 a, .int .i64 b, .int .i64 c, .int .i64 d, .int .i64 j.arr, .int .i64 j.dl, .int .i64 j.len, .int .i64 j.units, .int .i64 j.val]] w fun e w' => e = .returned (.bool true) ∧ ∃ W, Chg (fun _ => False) w W ∧ R W w' := by
  have HR := hide hR
  have hlt : B < w.heap.size := World.block_lt_of_cell? w _ hcs
  have hlg : g < w.heap.size := World.block_lt_of_cell? w _ hx0
  have hcs' : ∀ o, (w.alloc o).cell? ⟨B, 2, none⟩ = some (.slice (some ⟨g, 0, none⟩) m mc) := fun o => by rw [World.cell?_alloc_lt _ _ _ (by exact hlt)]; exact hcs
  have hp : ∀ w, Calls Tryz.prog 10 #[.int .i64 a, .int .i64 m] w fun e w' => e = .returned (.int .i64 i) ∧ w' = w := fun w => by
    have := pick_any a m w h1 h2 (by omega)
    rw [hj] at this
    exact this
  have hl0 : ((m : Int) == 0) = false := by simp; omega
  clear hcs hj hR
  go_enter Tryz.func6, Tryz.ntmps6
  go_wp2_with fail
  obtain ⟨w1, hw1⟩ : ∃ w1, w1 = w.alloc (.cells #[.int .i64 7, .int .i64 a, .int .i64 b, .int .i64 c, .int .i64 d, .int .i64 j.arr, .int .i64 j.dl, .int .i64 j.len, .int .i64 j.units, .int .i64 j.val] 37) := ⟨_, rfl⟩
  rw [← hw1]
  have hbk : w1.heap[w.heap.size]? = some (.cells #[.int .i64 7, .int .i64 a, .int .i64 b, .int .i64 c, .int .i64 d, .int .i64 j.arr, .int .i64 j.dl, .int .i64 j.len, .int .i64 j.units, .int .i64 j.val] 37 (0, 0)) := by rw [hw1]; exact heap_alloc_new w _
  have HBK := hide hbk
  have hc1 : Chg (fun _ => False) w w1 := by rw [hw1]; exact (Chg.refl _ _).alloc _
  have q0 : w1.cell? ⟨B, 2, none⟩ = some (.slice (some ⟨g, 0, none⟩) m mc) := by rw [hw1]; exact hcs' _
  have o0 : w1.cell? ⟨w.heap.size, 0, none⟩ = some (.int .i64 7) := by unfold World.cell?; rw [hbk]; rfl
  have o1 : w1.cell? ⟨w.heap.size, 1, none⟩ = some (.int .i64 a) := by unfold World.cell?; rw [hbk]; rfl
  have x0 : w1.cell? ⟨g, i * 2, none⟩ = some (.pointer (some ⟨y, 0, none⟩)) := by rw [hc1.cell (by exact hlg) (fun h => h)]; exact hx0
  have x1 : w1.cell? ⟨g, i * 2 + 1, none⟩ = some (.pointer (some ⟨r, 0, none⟩)) := by rw [hc1.cell (by exact hlg) (fun h => h)]; exact hx1
  have HC1 := hide hc1
  have hsz1 : w.heap.size < w1.heap.size := by rw [hw1]; simp
  have n1 : w1.heap.size ≠ B := by omega
  have n2 : w1.heap.size ≠ w.heap.size := by omega
  have n3 : w1.heap.size ≠ g := by omega
  clear hcs' hx0 hx1 hw1 hc1 hbk
  go_region_held3 (fun w' => w'.cell? ⟨B, 2, none⟩ = some (.slice (some ⟨g, 0, none⟩) m mc) ∧ w'.cell? ⟨w.heap.size, 0, none⟩ = some (.int .i64 7) ∧ w'.cell? ⟨w.heap.size, 1, none⟩ = some (.int .i64 a) ∧ w'.cell? ⟨g, i * 2, none⟩ = some (.pointer (some ⟨y, 0, none⟩)) ∧ w'.cell? ⟨g, i * 2 + 1, none⟩ = some (.pointer (some ⟨r, 0, none⟩))) (go_keep)
    (first | (go_at_call 10; refine (hp _).mono ?_; rintro e w' ⟨rfl, hw⟩; subst w'))
  all_goals
    clear q0 x0 x1
    have o2 : w1.cell? ⟨w.heap.size, 2, none⟩ = some (.int .i64 b) := by unfold World.cell?; rw [HBK.out]; rfl
    have o3 : w1.cell? ⟨w.heap.size, 3, none⟩ = some (.int .i64 c) := by unfold World.cell?; rw [HBK.out]; rfl
    have o4 : w1.cell? ⟨w.heap.size, 4, none⟩ = some (.int .i64 d) := by unfold World.cell?; rw [HBK.out]; rfl
    have o5 : w1.cell? ⟨w.heap.size, 5, none⟩ = some (.int .i64 j.arr) := by unfold World.cell?; rw [HBK.out]; rfl
    have o6 : w1.cell? ⟨w.heap.size, 6, none⟩ = some (.int .i64 j.dl) := by unfold World.cell?; rw [HBK.out]; rfl
    have o7 : w1.cell? ⟨w.heap.size, 7, none⟩ = some (.int .i64 j.len) := by unfold World.cell?; rw [HBK.out]; rfl
    have o8 : w1.cell? ⟨w.heap.size, 8, none⟩ = some (.int .i64 j.units) := by unfold World.cell?; rw [HBK.out]; rfl
    have o9 : w1.cell? ⟨w.heap.size, 9, none⟩ = some (.int .i64 j.val) := by unfold World.cell?; rw [HBK.out]; rfl
    go_wp2_with fail
    refine (HR.out _ (by first | exact (HC1.out.alloc _).drew | exact HC1.out.alloc _)).mono ?_
    rintro e w2 ⟨rfl, hr⟩
    have HRR := hide hr
    clear hr o0 o1 o2 o3 o4 o5 o6 o7 o8 o9
    go_wp2
    go_ret
    exact ⟨rfl, _, by first | exact (HC1.out.alloc _).drew | exact HC1.out.alloc _, HRR.out⟩
end Go.Proofs.YtminceigjejipabGreat
