import Derived.Test.YtminceigjejipabGreatG5
import Derived.Test.YtminceigjejipabGreatStepC
namespace Go.Proofs.YtminceigjejipabGreat
open Go.RowKit

/-- 'step' at KRow: as 'rowed', in a world with one block more -/
theorem step_row (bw : Nat) (a b c d j1 j2 j3 j4 j5 : Int) (w : World) (R : World → World → Prop)
    (hr : ∀ o, Calls Tryz.prog 8 #[.pointer (some ⟨bw, 0, none⟩), .int .i64 a, .int .i64 b] (w.alloc o) fun e w' => e = .returned (.bool true) ∧ R (w.alloc o) w') :
    Calls Tryz.prog 6 #[.pointer (some ⟨bw, 0, none⟩), .agg #[.int .i64 2, .int .i64 a, .int .i64 b, .int .i64 c, .int .i64 d, .int .i64 j1, .int .i64 j2, .int .i64 j3, .int .i64 j4, .int .i64 j5]] w fun e w' => ∃ o, e = .returned (.bool true) ∧ R (w.alloc o) w' := by
  have HR := hide hr
  clear hr
  go_enter Tryz.func6, Tryz.ntmps6
  go_wp2_with fail
  refine (HR.out _).mono ?_
  rintro e w1 ⟨rfl, h⟩
  have H := hide h
  clear h
  go_wp2
  go_ret
  exact ⟨_, rfl, H.out⟩

set_option maxHeartbeats 1000000 in
theorem step_add_none (bw cap : Nat) (ao : Option Addr) (a b c d j1 j2 j3 j4 j5 : Int) (w : World) (hcs : w.cell? ⟨bw, 1, none⟩ = some (.slice ao 0 cap)) :
    Calls Tryz.prog 6 #[.pointer (some ⟨bw, 0, none⟩), .agg #[.int .i64 3, .int .i64 a, .int .i64 b, .int .i64 c, .int .i64 d, .int .i64 j1, .int .i64 j2, .int .i64 j3, .int .i64 j4, .int .i64 j5]] w fun e w' => e = .returned (.bool true) ∧ Chg (fun _ => False) w w' := by
  have hlt : bw < w.heap.size := World.block_lt_of_cell? w _ hcs
  have hcs' : ∀ o, (w.alloc o).cell? ⟨bw, 1, none⟩ = some (.slice ao 0 cap) := fun o => by rw [World.cell?_alloc_lt _ _ _ (by exact hlt)]; exact hcs
  clear hcs
  go_enter Tryz.func6, Tryz.ntmps6
  go_wp2_with fail
  go_ret
  exact ⟨rfl, (Chg.refl _ _).alloc _⟩

set_option maxRecDepth 100000 in
set_option maxHeartbeats 2000000 in
theorem step_add_some (B g m rc j pc gc pr gr n cc cr : Nat) (Z : Nat → Int) (a b c d j1 j2 j3 j4 j5 : Int) (w : World)
    (hcs : w.cell? ⟨B, 1, none⟩ = some (.slice (some ⟨g, 0, none⟩) m rc)) (hm : m < 5000000000000) (hj : pickZ a m = (j : Int)) (hjm : j < m) (h1 : -9223372036854775808 ≤ a) (h2 : a ≤ 9223372036854775807) (hb2 : b ≤ 9223372036854775807)
    (hx0 : w.cell? ⟨g, j * 2, none⟩ = some (.pointer (some ⟨pc, 0, none⟩))) (hx1 : w.cell? ⟨g, j * 2 + 1, none⟩ = some (.pointer (some ⟨pr, 0, none⟩)))
    (hP : PairAt w pc gc pr gr n cc cr Z) (nb1 : B ≠ gc) (nb2 : B ≠ gr) (ng1 : g ≠ gc) (ng2 : g ≠ gr) :
    Calls Tryz.prog 6 #[.pointer (some ⟨B, 0, none⟩), .agg #[.int .i64 3, .int .i64 a, .int .i64 b, .int .i64 c, .int .i64 d, .int .i64 j1, .int .i64 j2, .int .i64 j3, .int .i64 j4, .int .i64 j5]] w fun e w' => ∃ Z', e = .returned (.bool true) ∧ PairAt w' pc gc pr gr n cc cr Z' ∧ Chg (fun k => k = gc ∨ k = gr) w w' := by
  have hlt : B < w.heap.size := World.block_lt_of_cell? w _ hcs
  have hlg : g < w.heap.size := World.block_lt_of_cell? w _ hx0
  have HGC := hide (show gc < w.heap.size ∧ gr < w.heap.size from ⟨hP.c.ltg, hP.r.ltg⟩)
  have hcs' : ∀ o, (w.alloc o).cell? ⟨B, 1, none⟩ = some (.slice (some ⟨g, 0, none⟩) m rc) := fun o => by rw [World.cell?_alloc_lt _ _ _ (by exact hlt)]; exact hcs
  have hp : ∀ w, Calls Tryz.prog 10 #[.int .i64 a, .int .i64 m] w fun e w' => e = .returned (.int .i64 j) ∧ w' = w := fun w => by
    have := pick_any a m w h1 h2 (by omega)
    rw [hj] at this
    exact this
  have hl0 : ((m : Int) == 0) = false := by simp; omega
  have HP := hide hP
  clear hcs hj hP
  go_enter Tryz.func6, Tryz.ntmps6
  go_wp2_with fail
  obtain ⟨w1, hw1⟩ : ∃ w1, w1 = w.alloc (.cells #[.int .i64 3, .int .i64 a, .int .i64 b, .int .i64 c, .int .i64 d, .int .i64 j1, .int .i64 j2, .int .i64 j3, .int .i64 j4, .int .i64 j5] 37) := ⟨_, rfl⟩
  rw [← hw1]
  have hc1 : Chg (fun _ => False) w w1 := by rw [hw1]; exact (Chg.refl _ _).alloc _
  have q0 : w1.cell? ⟨B, 1, none⟩ = some (.slice (some ⟨g, 0, none⟩) m rc) := by rw [hw1]; exact hcs' _
  have o0 : w1.cell? ⟨w.heap.size, 0, none⟩ = some (.int .i64 3) := by rw [hw1]; simp
  have o1 : w1.cell? ⟨w.heap.size, 1, none⟩ = some (.int .i64 a) := by rw [hw1]; simp
  have o2 : w1.cell? ⟨w.heap.size, 2, none⟩ = some (.int .i64 b) := by rw [hw1]; simp
  have o3 : w1.cell? ⟨w.heap.size, 3, none⟩ = some (.int .i64 c) := by rw [hw1]; simp
  have o4 : w1.cell? ⟨w.heap.size, 4, none⟩ = some (.int .i64 d) := by rw [hw1]; simp
  have o5 : w1.cell? ⟨w.heap.size, 5, none⟩ = some (.int .i64 j1) := by rw [hw1]; simp
  have o6 : w1.cell? ⟨w.heap.size, 6, none⟩ = some (.int .i64 j2) := by rw [hw1]; simp
  have o7 : w1.cell? ⟨w.heap.size, 7, none⟩ = some (.int .i64 j3) := by rw [hw1]; simp
  have o8 : w1.cell? ⟨w.heap.size, 8, none⟩ = some (.int .i64 j4) := by rw [hw1]; simp
  have o9 : w1.cell? ⟨w.heap.size, 9, none⟩ = some (.int .i64 j5) := by rw [hw1]; simp
  have x0 : w1.cell? ⟨g, j * 2, none⟩ = some (.pointer (some ⟨pc, 0, none⟩)) := by rw [hc1.cell (by exact hlg) (fun h => h)]; exact hx0
  have x1 : w1.cell? ⟨g, j * 2 + 1, none⟩ = some (.pointer (some ⟨pr, 0, none⟩)) := by rw [hc1.cell (by exact hlg) (fun h => h)]; exact hx1
  have HP1 := hide (HP.out.chg hc1.drew (fun h => h) (fun h => h) (fun h => h) (fun h => h))
  have HC1 := hide hc1
  have hsz1 : w.heap.size < w1.heap.size := by rw [hw1]; simp
  have hB1 : B < w1.heap.size := by omega
  have hg1 : g < w1.heap.size := by omega
  have n1 : ¬ (w.heap.size = gc ∨ w.heap.size = gr) := by have := HGC.out; omega
  have n2 : ¬ (B = gc ∨ B = gr) := by omega
  have n3 : ¬ (g = gc ∨ g = gr) := by omega
  have N1 := hide n1
  have N2 := hide n2
  have N3 := hide n3
  clear hcs' hx0 hx1 hw1 hc1 n1 n2 n3 nb1 nb2 ng1 ng2
  go_region_held3 (fun w' => w'.cell? ⟨B, 1, none⟩ = some (.slice (some ⟨g, 0, none⟩) m rc) ∧ w'.cell? ⟨w.heap.size, 0, none⟩ = some (.int .i64 3) ∧ w'.cell? ⟨w.heap.size, 1, none⟩ = some (.int .i64 a) ∧ w'.cell? ⟨w.heap.size, 2, none⟩ = some (.int .i64 b) ∧ w'.cell? ⟨w.heap.size, 3, none⟩ = some (.int .i64 c) ∧ w'.cell? ⟨w.heap.size, 4, none⟩ = some (.int .i64 d) ∧ w'.cell? ⟨w.heap.size, 5, none⟩ = some (.int .i64 j1) ∧ w'.cell? ⟨w.heap.size, 6, none⟩ = some (.int .i64 j2) ∧ w'.cell? ⟨w.heap.size, 7, none⟩ = some (.int .i64 j3) ∧ w'.cell? ⟨w.heap.size, 8, none⟩ = some (.int .i64 j4) ∧ w'.cell? ⟨w.heap.size, 9, none⟩ = some (.int .i64 j5) ∧ w'.cell? ⟨g, j * 2, none⟩ = some (.pointer (some ⟨pc, 0, none⟩)) ∧ w'.cell? ⟨g, j * 2 + 1, none⟩ = some (.pointer (some ⟨pr, 0, none⟩))) (go_keep)
    (first
      | (go_at_call 10; refine (hp _).mono ?_; rintro e w' ⟨rfl, hw⟩; subst w')
      | (go_at_call 9; refine (onRow_add pc gc pr gr n cc cr Z a b c d j1 j2 j3 j4 j5 w1.drew HP1.out hb2).mono ?_; rintro e w2 ⟨Z', rfl, hp2, hc2⟩; have HP2 := hide hp2; have HC2 := hide hc2; have hcB := hc2.cell (p := ⟨B, 1, none⟩) hB1 N2.out; have hcg := hc2.cell (p := ⟨g, j * 2, none⟩) hg1 N3.out; have hcg' := hc2.cell (p := ⟨g, j * 2 + 1, none⟩) hg1 N3.out; have hco : ∀ f, w2.cell? ⟨w.heap.size, f, none⟩ = w1.cell? ⟨w.heap.size, f, none⟩ := fun f => hc2.cell (p := ⟨w.heap.size, f, none⟩) hsz1 N1.out; clear hp2 hc2))
  clear hcB hcg hcg' hco
  go_wp2
  go_ret
  exact ⟨Z', rfl, HP2.out, (HC1.out.mono (O' := fun k => k = gc ∨ k = gr) (fun _ _ h => h.elim)).trans (show Chg (fun k => k = gc ∨ k = gr) w1 w2 from ⟨HC2.out.os, HC2.out.tape, HC2.out.output, HC2.out.size, HC2.out.block⟩) (fun _ _ h => h)⟩

set_option maxHeartbeats 1000000 in
theorem step_min_none (bw cap : Nat) (ao : Option Addr) (a b c d j1 j2 j3 j4 j5 : Int) (w : World) (hcs : w.cell? ⟨bw, 1, none⟩ = some (.slice ao 0 cap)) :
    Calls Tryz.prog 6 #[.pointer (some ⟨bw, 0, none⟩), .agg #[.int .i64 4, .int .i64 a, .int .i64 b, .int .i64 c, .int .i64 d, .int .i64 j1, .int .i64 j2, .int .i64 j3, .int .i64 j4, .int .i64 j5]] w fun e w' => e = .returned (.bool true) ∧ Chg (fun _ => False) w w' := by
  have hlt : bw < w.heap.size := World.block_lt_of_cell? w _ hcs
  have hcs' : ∀ o, (w.alloc o).cell? ⟨bw, 1, none⟩ = some (.slice ao 0 cap) := fun o => by rw [World.cell?_alloc_lt _ _ _ (by exact hlt)]; exact hcs
  clear hcs
  go_enter Tryz.func6, Tryz.ntmps6
  go_wp2_with fail
  go_ret
  exact ⟨rfl, (Chg.refl _ _).alloc _⟩

set_option maxRecDepth 100000 in
set_option maxHeartbeats 2000000 in
theorem step_min_some (B g m rc j pc gc pr gr n cc cr : Nat) (Z : Nat → Int) (a b c d j1 j2 j3 j4 j5 : Int) (w : World)
    (hcs : w.cell? ⟨B, 1, none⟩ = some (.slice (some ⟨g, 0, none⟩) m rc)) (hm : m < 5000000000000) (hj : pickZ a m = (j : Int)) (hjm : j < m) (h1 : -9223372036854775808 ≤ a) (h2 : a ≤ 9223372036854775807) (hb2 : b ≤ 9223372036854775807)
    (hx0 : w.cell? ⟨g, j * 2, none⟩ = some (.pointer (some ⟨pc, 0, none⟩))) (hx1 : w.cell? ⟨g, j * 2 + 1, none⟩ = some (.pointer (some ⟨pr, 0, none⟩)))
    (hP : PairAt w pc gc pr gr n cc cr Z) (nb1 : B ≠ gc) (nb2 : B ≠ gr) (ng1 : g ≠ gc) (ng2 : g ≠ gr) :
    Calls Tryz.prog 6 #[.pointer (some ⟨B, 0, none⟩), .agg #[.int .i64 4, .int .i64 a, .int .i64 b, .int .i64 c, .int .i64 d, .int .i64 j1, .int .i64 j2, .int .i64 j3, .int .i64 j4, .int .i64 j5]] w fun e w' => ∃ Z', e = .returned (.bool true) ∧ PairAt w' pc gc pr gr n cc cr Z' ∧ Chg (fun k => k = gc ∨ k = gr) w w' := by
  have hlt : B < w.heap.size := World.block_lt_of_cell? w _ hcs
  have hlg : g < w.heap.size := World.block_lt_of_cell? w _ hx0
  have HGC := hide (show gc < w.heap.size ∧ gr < w.heap.size from ⟨hP.c.ltg, hP.r.ltg⟩)
  have hcs' : ∀ o, (w.alloc o).cell? ⟨B, 1, none⟩ = some (.slice (some ⟨g, 0, none⟩) m rc) := fun o => by rw [World.cell?_alloc_lt _ _ _ (by exact hlt)]; exact hcs
  have hp : ∀ w, Calls Tryz.prog 10 #[.int .i64 a, .int .i64 m] w fun e w' => e = .returned (.int .i64 j) ∧ w' = w := fun w => by
    have := pick_any a m w h1 h2 (by omega)
    rw [hj] at this
    exact this
  have hl0 : ((m : Int) == 0) = false := by simp; omega
  have HP := hide hP
  clear hcs hj hP
  go_enter Tryz.func6, Tryz.ntmps6
  go_wp2_with fail
  obtain ⟨w1, hw1⟩ : ∃ w1, w1 = w.alloc (.cells #[.int .i64 4, .int .i64 a, .int .i64 b, .int .i64 c, .int .i64 d, .int .i64 j1, .int .i64 j2, .int .i64 j3, .int .i64 j4, .int .i64 j5] 37) := ⟨_, rfl⟩
  rw [← hw1]
  have hc1 : Chg (fun _ => False) w w1 := by rw [hw1]; exact (Chg.refl _ _).alloc _
  have q0 : w1.cell? ⟨B, 1, none⟩ = some (.slice (some ⟨g, 0, none⟩) m rc) := by rw [hw1]; exact hcs' _
  have o0 : w1.cell? ⟨w.heap.size, 0, none⟩ = some (.int .i64 4) := by rw [hw1]; simp
  have o1 : w1.cell? ⟨w.heap.size, 1, none⟩ = some (.int .i64 a) := by rw [hw1]; simp
  have o2 : w1.cell? ⟨w.heap.size, 2, none⟩ = some (.int .i64 b) := by rw [hw1]; simp
  have o3 : w1.cell? ⟨w.heap.size, 3, none⟩ = some (.int .i64 c) := by rw [hw1]; simp
  have o4 : w1.cell? ⟨w.heap.size, 4, none⟩ = some (.int .i64 d) := by rw [hw1]; simp
  have o5 : w1.cell? ⟨w.heap.size, 5, none⟩ = some (.int .i64 j1) := by rw [hw1]; simp
  have o6 : w1.cell? ⟨w.heap.size, 6, none⟩ = some (.int .i64 j2) := by rw [hw1]; simp
  have o7 : w1.cell? ⟨w.heap.size, 7, none⟩ = some (.int .i64 j3) := by rw [hw1]; simp
  have o8 : w1.cell? ⟨w.heap.size, 8, none⟩ = some (.int .i64 j4) := by rw [hw1]; simp
  have o9 : w1.cell? ⟨w.heap.size, 9, none⟩ = some (.int .i64 j5) := by rw [hw1]; simp
  have x0 : w1.cell? ⟨g, j * 2, none⟩ = some (.pointer (some ⟨pc, 0, none⟩)) := by rw [hc1.cell (by exact hlg) (fun h => h)]; exact hx0
  have x1 : w1.cell? ⟨g, j * 2 + 1, none⟩ = some (.pointer (some ⟨pr, 0, none⟩)) := by rw [hc1.cell (by exact hlg) (fun h => h)]; exact hx1
  have HP1 := hide (HP.out.chg hc1.drew (fun h => h) (fun h => h) (fun h => h) (fun h => h))
  have HC1 := hide hc1
  have hsz1 : w.heap.size < w1.heap.size := by rw [hw1]; simp
  have hB1 : B < w1.heap.size := by omega
  have hg1 : g < w1.heap.size := by omega
  have n1 : ¬ (w.heap.size = gc ∨ w.heap.size = gr) := by have := HGC.out; omega
  have n2 : ¬ (B = gc ∨ B = gr) := by omega
  have n3 : ¬ (g = gc ∨ g = gr) := by omega
  have N1 := hide n1
  have N2 := hide n2
  have N3 := hide n3
  clear hcs' hx0 hx1 hw1 hc1 n1 n2 n3 nb1 nb2 ng1 ng2
  go_region_held3 (fun w' => w'.cell? ⟨B, 1, none⟩ = some (.slice (some ⟨g, 0, none⟩) m rc) ∧ w'.cell? ⟨w.heap.size, 0, none⟩ = some (.int .i64 4) ∧ w'.cell? ⟨w.heap.size, 1, none⟩ = some (.int .i64 a) ∧ w'.cell? ⟨w.heap.size, 2, none⟩ = some (.int .i64 b) ∧ w'.cell? ⟨w.heap.size, 3, none⟩ = some (.int .i64 c) ∧ w'.cell? ⟨w.heap.size, 4, none⟩ = some (.int .i64 d) ∧ w'.cell? ⟨w.heap.size, 5, none⟩ = some (.int .i64 j1) ∧ w'.cell? ⟨w.heap.size, 6, none⟩ = some (.int .i64 j2) ∧ w'.cell? ⟨w.heap.size, 7, none⟩ = some (.int .i64 j3) ∧ w'.cell? ⟨w.heap.size, 8, none⟩ = some (.int .i64 j4) ∧ w'.cell? ⟨w.heap.size, 9, none⟩ = some (.int .i64 j5) ∧ w'.cell? ⟨g, j * 2, none⟩ = some (.pointer (some ⟨pc, 0, none⟩)) ∧ w'.cell? ⟨g, j * 2 + 1, none⟩ = some (.pointer (some ⟨pr, 0, none⟩))) (go_keep)
    (first
      | (go_at_call 10; refine (hp _).mono ?_; rintro e w' ⟨rfl, hw⟩; subst w')
      | (go_at_call 9; refine (onRow_min pc gc pr gr n cc cr Z a b c d j1 j2 j3 j4 j5 w1.drew HP1.out hb2).mono ?_; rintro e w2 ⟨Z', rfl, hp2, hc2⟩; have HP2 := hide hp2; have HC2 := hide hc2; have hcB := hc2.cell (p := ⟨B, 1, none⟩) hB1 N2.out; have hcg := hc2.cell (p := ⟨g, j * 2, none⟩) hg1 N3.out; have hcg' := hc2.cell (p := ⟨g, j * 2 + 1, none⟩) hg1 N3.out; have hco : ∀ f, w2.cell? ⟨w.heap.size, f, none⟩ = w1.cell? ⟨w.heap.size, f, none⟩ := fun f => hc2.cell (p := ⟨w.heap.size, f, none⟩) hsz1 N1.out; clear hp2 hc2))
  clear hcB hcg hcg' hco
  go_wp2
  go_ret
  exact ⟨Z', rfl, HP2.out, (HC1.out.mono (O' := fun k => k = gc ∨ k = gr) (fun _ _ h => h.elim)).trans (show Chg (fun k => k = gc ∨ k = gr) w1 w2 from ⟨HC2.out.os, HC2.out.tape, HC2.out.output, HC2.out.size, HC2.out.block⟩) (fun _ _ h => h)⟩

set_option maxHeartbeats 1000000 in
theorem step_fit_none (bw cap : Nat) (ao : Option Addr) (a b c d j1 j2 j3 j4 j5 : Int) (w : World) (hcs : w.cell? ⟨bw, 1, none⟩ = some (.slice ao 0 cap)) :
    Calls Tryz.prog 6 #[.pointer (some ⟨bw, 0, none⟩), .agg #[.int .i64 5, .int .i64 a, .int .i64 b, .int .i64 c, .int .i64 d, .int .i64 j1, .int .i64 j2, .int .i64 j3, .int .i64 j4, .int .i64 j5]] w fun e w' => e = .returned (.bool true) ∧ Chg (fun _ => False) w w' := by
  have hlt : bw < w.heap.size := World.block_lt_of_cell? w _ hcs
  have hcs' : ∀ o, (w.alloc o).cell? ⟨bw, 1, none⟩ = some (.slice ao 0 cap) := fun o => by rw [World.cell?_alloc_lt _ _ _ (by exact hlt)]; exact hcs
  clear hcs
  go_enter Tryz.func6, Tryz.ntmps6
  go_wp2_with fail
  go_ret
  exact ⟨rfl, (Chg.refl _ _).alloc _⟩

set_option maxRecDepth 100000 in
set_option maxHeartbeats 2000000 in
theorem step_fit_some (B g m rc j pc gc pr gr n cc cr : Nat) (Z : Nat → Int) (a b c d j1 j2 j3 j4 j5 : Int) (w : World)
    (hcs : w.cell? ⟨B, 1, none⟩ = some (.slice (some ⟨g, 0, none⟩) m rc)) (hm : m < 5000000000000) (hj : pickZ a m = (j : Int)) (hjm : j < m) (h1 : -9223372036854775808 ≤ a) (h2 : a ≤ 9223372036854775807) (hb2 : b ≤ 9223372036854775807)
    (hx0 : w.cell? ⟨g, j * 2, none⟩ = some (.pointer (some ⟨pc, 0, none⟩))) (hx1 : w.cell? ⟨g, j * 2 + 1, none⟩ = some (.pointer (some ⟨pr, 0, none⟩)))
    (hP : PairAt w pc gc pr gr n cc cr Z) (nb1 : B ≠ gc) (nb2 : B ≠ gr) (ng1 : g ≠ gc) (ng2 : g ≠ gr) :
    Calls Tryz.prog 6 #[.pointer (some ⟨B, 0, none⟩), .agg #[.int .i64 5, .int .i64 a, .int .i64 b, .int .i64 c, .int .i64 d, .int .i64 j1, .int .i64 j2, .int .i64 j3, .int .i64 j4, .int .i64 j5]] w fun e w' => ∃ Z', e = .returned (.bool true) ∧ PairAt w' pc gc pr gr n cc cr Z' ∧ Chg (fun k => k = gc ∨ k = gr) w w' := by
  have hlt : B < w.heap.size := World.block_lt_of_cell? w _ hcs
  have hlg : g < w.heap.size := World.block_lt_of_cell? w _ hx0
  have HGC := hide (show gc < w.heap.size ∧ gr < w.heap.size from ⟨hP.c.ltg, hP.r.ltg⟩)
  have hcs' : ∀ o, (w.alloc o).cell? ⟨B, 1, none⟩ = some (.slice (some ⟨g, 0, none⟩) m rc) := fun o => by rw [World.cell?_alloc_lt _ _ _ (by exact hlt)]; exact hcs
  have hp : ∀ w, Calls Tryz.prog 10 #[.int .i64 a, .int .i64 m] w fun e w' => e = .returned (.int .i64 j) ∧ w' = w := fun w => by
    have := pick_any a m w h1 h2 (by omega)
    rw [hj] at this
    exact this
  have hl0 : ((m : Int) == 0) = false := by simp; omega
  have HP := hide hP
  clear hcs hj hP
  go_enter Tryz.func6, Tryz.ntmps6
  go_wp2_with fail
  obtain ⟨w1, hw1⟩ : ∃ w1, w1 = w.alloc (.cells #[.int .i64 5, .int .i64 a, .int .i64 b, .int .i64 c, .int .i64 d, .int .i64 j1, .int .i64 j2, .int .i64 j3, .int .i64 j4, .int .i64 j5] 37) := ⟨_, rfl⟩
  rw [← hw1]
  have hc1 : Chg (fun _ => False) w w1 := by rw [hw1]; exact (Chg.refl _ _).alloc _
  have q0 : w1.cell? ⟨B, 1, none⟩ = some (.slice (some ⟨g, 0, none⟩) m rc) := by rw [hw1]; exact hcs' _
  have o0 : w1.cell? ⟨w.heap.size, 0, none⟩ = some (.int .i64 5) := by rw [hw1]; simp
  have o1 : w1.cell? ⟨w.heap.size, 1, none⟩ = some (.int .i64 a) := by rw [hw1]; simp
  have o2 : w1.cell? ⟨w.heap.size, 2, none⟩ = some (.int .i64 b) := by rw [hw1]; simp
  have o3 : w1.cell? ⟨w.heap.size, 3, none⟩ = some (.int .i64 c) := by rw [hw1]; simp
  have o4 : w1.cell? ⟨w.heap.size, 4, none⟩ = some (.int .i64 d) := by rw [hw1]; simp
  have o5 : w1.cell? ⟨w.heap.size, 5, none⟩ = some (.int .i64 j1) := by rw [hw1]; simp
  have o6 : w1.cell? ⟨w.heap.size, 6, none⟩ = some (.int .i64 j2) := by rw [hw1]; simp
  have o7 : w1.cell? ⟨w.heap.size, 7, none⟩ = some (.int .i64 j3) := by rw [hw1]; simp
  have o8 : w1.cell? ⟨w.heap.size, 8, none⟩ = some (.int .i64 j4) := by rw [hw1]; simp
  have o9 : w1.cell? ⟨w.heap.size, 9, none⟩ = some (.int .i64 j5) := by rw [hw1]; simp
  have x0 : w1.cell? ⟨g, j * 2, none⟩ = some (.pointer (some ⟨pc, 0, none⟩)) := by rw [hc1.cell (by exact hlg) (fun h => h)]; exact hx0
  have x1 : w1.cell? ⟨g, j * 2 + 1, none⟩ = some (.pointer (some ⟨pr, 0, none⟩)) := by rw [hc1.cell (by exact hlg) (fun h => h)]; exact hx1
  have HP1 := hide (HP.out.chg hc1.drew (fun h => h) (fun h => h) (fun h => h) (fun h => h))
  have HC1 := hide hc1
  have hsz1 : w.heap.size < w1.heap.size := by rw [hw1]; simp
  have hB1 : B < w1.heap.size := by omega
  have hg1 : g < w1.heap.size := by omega
  have n1 : ¬ (w.heap.size = gc ∨ w.heap.size = gr) := by have := HGC.out; omega
  have n2 : ¬ (B = gc ∨ B = gr) := by omega
  have n3 : ¬ (g = gc ∨ g = gr) := by omega
  have N1 := hide n1
  have N2 := hide n2
  have N3 := hide n3
  clear hcs' hx0 hx1 hw1 hc1 n1 n2 n3 nb1 nb2 ng1 ng2
  go_region_held3 (fun w' => w'.cell? ⟨B, 1, none⟩ = some (.slice (some ⟨g, 0, none⟩) m rc) ∧ w'.cell? ⟨w.heap.size, 0, none⟩ = some (.int .i64 5) ∧ w'.cell? ⟨w.heap.size, 1, none⟩ = some (.int .i64 a) ∧ w'.cell? ⟨w.heap.size, 2, none⟩ = some (.int .i64 b) ∧ w'.cell? ⟨w.heap.size, 3, none⟩ = some (.int .i64 c) ∧ w'.cell? ⟨w.heap.size, 4, none⟩ = some (.int .i64 d) ∧ w'.cell? ⟨w.heap.size, 5, none⟩ = some (.int .i64 j1) ∧ w'.cell? ⟨w.heap.size, 6, none⟩ = some (.int .i64 j2) ∧ w'.cell? ⟨w.heap.size, 7, none⟩ = some (.int .i64 j3) ∧ w'.cell? ⟨w.heap.size, 8, none⟩ = some (.int .i64 j4) ∧ w'.cell? ⟨w.heap.size, 9, none⟩ = some (.int .i64 j5) ∧ w'.cell? ⟨g, j * 2, none⟩ = some (.pointer (some ⟨pc, 0, none⟩)) ∧ w'.cell? ⟨g, j * 2 + 1, none⟩ = some (.pointer (some ⟨pr, 0, none⟩))) (go_keep)
    (first
      | (go_at_call 10; refine (hp _).mono ?_; rintro e w' ⟨rfl, hw⟩; subst w')
      | (go_at_call 9; refine (onRow_fit pc gc pr gr n cc cr Z a b c d j1 j2 j3 j4 j5 w1.drew HP1.out hb2).mono ?_; rintro e w2 ⟨Z', rfl, hp2, hc2⟩; have HP2 := hide hp2; have HC2 := hide hc2; have hcB := hc2.cell (p := ⟨B, 1, none⟩) hB1 N2.out; have hcg := hc2.cell (p := ⟨g, j * 2, none⟩) hg1 N3.out; have hcg' := hc2.cell (p := ⟨g, j * 2 + 1, none⟩) hg1 N3.out; have hco : ∀ f, w2.cell? ⟨w.heap.size, f, none⟩ = w1.cell? ⟨w.heap.size, f, none⟩ := fun f => hc2.cell (p := ⟨w.heap.size, f, none⟩) hsz1 N1.out; clear hp2 hc2))
  clear hcB hcg hcg' hco
  go_wp2
  go_ret
  exact ⟨Z', rfl, HP2.out, (HC1.out.mono (O' := fun k => k = gc ∨ k = gr) (fun _ _ h => h.elim)).trans (show Chg (fun k => k = gc ∨ k = gr) w1 w2 from ⟨HC2.out.os, HC2.out.tape, HC2.out.output, HC2.out.size, HC2.out.block⟩) (fun _ _ h => h)⟩

end Go.Proofs.YtminceigjejipabGreat
