import Derived.Test.YtminceigjejipaaTrF
/-
  yardkeep, Truthful: lie.
-/
namespace Go.Proofs.Ytminceigjejipaa
open Go.RowKit

set_option maxRecDepth 100000 in
set_option maxHeartbeats 4000000 in
theorem klie_any (c : CfgG) (t j : JobG) (w : World) (ht : 0 ≤ t.arr ∧ t.arr ≤ 1000 ∧ 1 ≤ t.len ∧ t.len ≤ 1000 ∧ 1 ≤ t.dl ∧ t.dl ≤ 1000 ∧ 1 ≤ t.units ∧ t.units ≤ 1000) (hj : JobI64 j) :
    Calls Try.prog 30 #[cfgV c, jobV t, jobV j] w fun e w' => e = .returned (jobV (lieJ t j)) ∧ Chg (fun _ => False) w w' := by
  obtain ⟨j1, j2, j3, j4, j5⟩ := hj
  have hL := pickZ_lt j.len 3 (by omega)
  have hA := pickZ_lt j.arr 4 (by omega)
  have hD := pickZ_lt j.dl 3 (by omega)
  have hU := pickZ_lt j.units 4 (by omega)
  have hV := pickZ_lt j.val 1048576 (by omega)
  have HE : Hid (jobV (lieJ t j) = .agg #[.int .i64 (t.arr + pickZ j.arr 4), .int .i64 (t.dl - pickZ j.dl 3), .int .i64 (t.len + pickZ j.len 3), .int .i64 (t.units + pickZ j.units 4), .int .i64 (1 + pickZ j.val 1048576)]) := rfl
  have e1 : IntKind.i64.wrap (t.len + pickZ j.len 3) = t.len + pickZ j.len 3 := by rw [IntKind.wrap_i64]; omega
  have e2 : IntKind.i64.wrap (t.arr + pickZ j.arr 4) = t.arr + pickZ j.arr 4 := by rw [IntKind.wrap_i64]; omega
  have e3 : IntKind.i64.wrap (t.dl - pickZ j.dl 3) = t.dl - pickZ j.dl 3 := by rw [IntKind.wrap_i64]; omega
  have e4 : IntKind.i64.wrap (t.units + pickZ j.units 4) = t.units + pickZ j.units 4 := by rw [IntKind.wrap_i64]; omega
  have e5 : IntKind.i64.wrap (1 + pickZ j.val 1048576) = 1 + pickZ j.val 1048576 := by rw [IntKind.wrap_i64]; omega
  obtain ⟨w1, hw1⟩ : ∃ w1, w1 = (((w.alloc (.cells #[.int .i64 c.ticks, .int .i64 c.cap, .int .i64 c.res, .int .i64 c.ten, .int .i64 c.quo] 38)).alloc (.cells #[.int .i64 t.arr, .int .i64 t.dl, .int .i64 t.len, .int .i64 t.units, .int .i64 t.val] 54)).alloc (.cells #[.int .i64 j.arr, .int .i64 j.dl, .int .i64 j.len, .int .i64 j.units, .int .i64 j.val] 54)).alloc (.cells #[.int .i64 0, .int .i64 0, .int .i64 0, .int .i64 0, .int .i64 0] 54) := ⟨_, rfl⟩
  have HC1 := hide (show Chg (fun _ => False) w w1 by rw [hw1]; exact ((((Chg.refl _ _).alloc _).alloc _).alloc _).alloc _)
  have bB : w1.heap[w.heap.size + 1]? = some (.cells #[.int .i64 t.arr, .int .i64 t.dl, .int .i64 t.len, .int .i64 t.units, .int .i64 t.val] 54 (0, 0)) := by rw [hw1, Below.heap_alloc _ _ _ (by simp), Below.heap_alloc _ _ _ (by simp)]; exact heap_at_new (by simp)
  have bC : w1.heap[w.heap.size + 1 + 1]? = some (.cells #[.int .i64 j.arr, .int .i64 j.dl, .int .i64 j.len, .int .i64 j.units, .int .i64 j.val] 54 (0, 0)) := by rw [hw1, Below.heap_alloc _ _ _ (by simp)]; exact heap_at_new (by simp)
  have bD : w1.heap[w.heap.size + 1 + 1 + 1]? = some (.cells #[.int .i64 0, .int .i64 0, .int .i64 0, .int .i64 0, .int .i64 0] 54 (0, 0)) := by rw [hw1]; exact heap_at_new (by simp)
  have p0 : w1.cell? ⟨w.heap.size + 1, 0, none⟩ = some (.int .i64 t.arr) := by unfold World.cell?; rw [bB]; rfl
  have p1 : w1.cell? ⟨w.heap.size + 1, 1, none⟩ = some (.int .i64 t.dl) := by unfold World.cell?; rw [bB]; rfl
  have p2 : w1.cell? ⟨w.heap.size + 1, 2, none⟩ = some (.int .i64 t.len) := by unfold World.cell?; rw [bB]; rfl
  have p3 : w1.cell? ⟨w.heap.size + 1, 3, none⟩ = some (.int .i64 t.units) := by unfold World.cell?; rw [bB]; rfl
  have q0 : w1.cell? ⟨w.heap.size + 1 + 1, 0, none⟩ = some (.int .i64 j.arr) := by unfold World.cell?; rw [bC]; rfl
  have q1 : w1.cell? ⟨w.heap.size + 1 + 1, 1, none⟩ = some (.int .i64 j.dl) := by unfold World.cell?; rw [bC]; rfl
  have q2 : w1.cell? ⟨w.heap.size + 1 + 1, 2, none⟩ = some (.int .i64 j.len) := by unfold World.cell?; rw [bC]; rfl
  have q3 : w1.cell? ⟨w.heap.size + 1 + 1, 3, none⟩ = some (.int .i64 j.units) := by unfold World.cell?; rw [bC]; rfl
  have q4 : w1.cell? ⟨w.heap.size + 1 + 1, 4, none⟩ = some (.int .i64 j.val) := by unfold World.cell?; rw [bC]; rfl
  have HPK := hide (fun (x n : Int) (w' : World) (h : I64 x) (hn : 0 < n) => kpick_any x n w' h.1 h.2 hn)
  have HBD := hide bD
  have HW1 := hide hw1
  rw [HE.out]
  unfold cfgV jobV
  clear ht hL hA hD hU hV bB bC bD hw1
  go_enter Try.func30, Try.ntmps30
  go_wp2_with fail
  rw [← HW1.out]
  obtain ⟨B3, hB3⟩ : ∃ B3, B3 = w.heap.size + 1 + 1 + 1 := ⟨_, rfl⟩
  have n1 : B3 ≠ w.heap.size + 1 := by omega
  have n2 : w.heap.size + 1 ≠ B3 := by omega
  have n3 : B3 ≠ w.heap.size + 1 + 1 := by omega
  have n4 : w.heap.size + 1 + 1 ≠ B3 := by omega
  have HLE := hide (show w.heap.size ≤ B3 by omega)
  rw [← hB3] at HBD ⊢
  clear hB3
  go_region_held3 (fun w' => w'.cell? ⟨w.heap.size + 1, 2, none⟩ = some (.int .i64 t.len) ∧ w'.cell? ⟨w.heap.size + 1 + 1, 2, none⟩ = some (.int .i64 j.len)) (go_keep)
    (first | (go_at_call 25; refine (HPK.out _ _ _ (by assumption) (by decide)).mono ?_; rintro e w2 ⟨rfl, hw2⟩; subst w2))
  all_goals
    go_wp2_with fail
    clear p2 q2
    go_region_held3 (fun w' => w'.cell? ⟨w.heap.size + 1, 0, none⟩ = some (.int .i64 t.arr) ∧ w'.cell? ⟨w.heap.size + 1 + 1, 0, none⟩ = some (.int .i64 j.arr)) (go_keep)
      (first | (go_at_call 25; refine (HPK.out _ _ _ (by assumption) (by decide)).mono ?_; rintro e w2 ⟨rfl, hw2⟩; subst w2))
    all_goals
      go_wp2_with fail
      clear p0 q0
      have c0 : w1.cell? ⟨B3, 0, none⟩ = some (.int .i64 0) := by unfold World.cell?; rw [HBD.out]; rfl
      have c1 : w1.cell? ⟨B3, 1, none⟩ = some (.int .i64 0) := by unfold World.cell?; rw [HBD.out]; rfl
      have c2 : w1.cell? ⟨B3, 2, none⟩ = some (.int .i64 0) := by unfold World.cell?; rw [HBD.out]; rfl
      have c3 : w1.cell? ⟨B3, 3, none⟩ = some (.int .i64 0) := by unfold World.cell?; rw [HBD.out]; rfl
      have c4 : w1.cell? ⟨B3, 4, none⟩ = some (.int .i64 0) := by unfold World.cell?; rw [HBD.out]; rfl
      have hfz : ∀ f, w1.frozen? ⟨B3, f, none⟩ = false := fun f => by unfold World.frozen?; rw [HBD.out]; simp
      have z0 := hfz 0
      have z1 := hfz 1
      have z2 := hfz 2
      have z3 := hfz 3
      have z4 := hfz 4
      clear hfz
      go_region_held3 (fun w' => w'.cell? ⟨w.heap.size + 1, 1, none⟩ = some (.int .i64 t.dl) ∧ w'.cell? ⟨w.heap.size + 1, 3, none⟩ = some (.int .i64 t.units) ∧ w'.cell? ⟨w.heap.size + 1 + 1, 1, none⟩ = some (.int .i64 j.dl) ∧ w'.cell? ⟨w.heap.size + 1 + 1, 3, none⟩ = some (.int .i64 j.units) ∧ w'.cell? ⟨w.heap.size + 1 + 1, 4, none⟩ = some (.int .i64 j.val)) (go_keep)
        (first | (go_at_call 25; refine (HPK.out _ _ _ (by assumption) (by decide)).mono ?_; rintro e w2 ⟨rfl, hw2⟩; subst w2))
      all_goals
        go_wp2
        obtain ⟨r0, r1, r2, r3, r4⟩ := five_set (a := .int .i64 (t.arr + pickZ j.arr 4)) (b := .int .i64 (t.dl - pickZ j.dl 3)) (c := .int .i64 (t.len + pickZ j.len 3)) (d := .int .i64 (t.units + pickZ j.units 4)) (e := .int .i64 (1 + pickZ j.val 1048576)) HBD.out rfl
        refine bodyPost_ret (v := .agg #[.int .i64 (t.arr + pickZ j.arr 4), .int .i64 (t.dl - pickZ j.dl 3), .int .i64 (t.len + pickZ j.len 3), .int .i64 (t.units + pickZ j.units 4), .int .i64 (1 + pickZ j.val 1048576)]) (by simp [results, Try.results30, go_sem, r0, r1, r2, r3, r4]) rfl ⟨rfl, ?_⟩
        first
          | exact (five_chg HC1.out HLE.out _ _ _ _ _).drew.drew
          | exact (five_chg HC1.out HLE.out _ _ _ _ _).drew
          | exact five_chg HC1.out HLE.out _ _ _ _ _
end Go.Proofs.Ytminceigjejipaa
