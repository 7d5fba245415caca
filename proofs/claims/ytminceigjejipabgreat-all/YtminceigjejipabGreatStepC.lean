import Derived.Test.YtminceigjejipabGreatCheck
import Derived.Deep.RegionWith
import Derived.Deep.Cut
import Derived.BigRegion
import Derived.Deep.RegionHeld3
namespace Go.Proofs.YtminceigjejipabGreat
open Go.RowKit

def opV (k a b c d j1 j2 j3 j4 j5 : Int) : Value := .agg #[.int .i64 k, .int .i64 a, .int .i64 b, .int .i64 c, .int .i64 d, .int .i64 j1, .int .i64 j2, .int .i64 j3, .int .i64 j4, .int .i64 j5]

set_option maxHeartbeats 1000000 in
theorem step_check_none (bw cap : Nat) (ao : Option Addr) (a b c d j1 j2 j3 j4 j5 : Int) (w : World) (hcs : w.cell? ⟨bw, 0, none⟩ = some (.slice ao 0 cap)) :
    Calls Tryz.prog 6 #[.pointer (some ⟨bw, 0, none⟩), .agg #[.int .i64 1, .int .i64 a, .int .i64 b, .int .i64 c, .int .i64 d, .int .i64 j1, .int .i64 j2, .int .i64 j3, .int .i64 j4, .int .i64 j5]] w fun e w' => e = .returned (.bool true) ∧ Chg (fun _ => False) w w' := by
  have hlt : bw < w.heap.size := World.block_lt_of_cell? w _ hcs
  have hcs' : ∀ o, (w.alloc o).cell? ⟨bw, 0, none⟩ = some (.slice ao 0 cap) := fun o => by rw [World.cell?_alloc_lt _ _ _ (by exact hlt)]; exact hcs
  clear hcs
  go_enter Tryz.func6, Tryz.ntmps6
  go_wp2_with fail
  go_ret
  exact ⟨rfl, (Chg.refl _ _).alloc _⟩

set_option maxHeartbeats 1000000 in
theorem step_check_some (bw b0 off len cap : Nat) (C : Nat → Int) (a b c d j1 j2 j3 j4 j5 : Int) (w : World) (hcs : w.cell? ⟨bw, 0, none⟩ = some (.slice (some ⟨b0, off, none⟩) len cap))
    (hlen : 0 < len) (hbig : len < 9007199254740992) (h1 : -9223372036854775808 ≤ a) (h2 : a ≤ 9223372036854775807)
    (hC : ∀ t, t < len * 5 → w.cell? ⟨b0, off + t, none⟩ = some (.int .i64 (C t))) :
    Calls Tryz.prog 6 #[.pointer (some ⟨bw, 0, none⟩), .agg #[.int .i64 1, .int .i64 a, .int .i64 b, .int .i64 c, .int .i64 d, .int .i64 j1, .int .i64 j2, .int .i64 j3, .int .i64 j4, .int .i64 j5]] w fun e w' => e = .returned (.bool true) ∧ Chg (fun _ => False) w w' := by
  have hlt : bw < w.heap.size := World.block_lt_of_cell? w _ hcs
  have hcs' : ∀ o, (w.alloc o).cell? ⟨bw, 0, none⟩ = some (.slice (some ⟨b0, off, none⟩) len cap) := fun o => by rw [World.cell?_alloc_lt _ _ _ (by exact hlt)]; exact hcs
  have hlt2 : b0 < w.heap.size := World.block_lt_of_cell? w ⟨b0, off + 0, none⟩ (hC 0 (by omega))
  obtain ⟨j, hj, hjl⟩ : ∃ j : Nat, pickZ a len = (j : Int) ∧ j < len := by
    have := pickZ_lt a len (by omega)
    exact ⟨(pickZ a len).toNat, by omega, by omega⟩
  have hp : ∀ w, Calls Tryz.prog 10 #[.int .i64 a, .int .i64 len] w fun e w' => e = .returned (.int .i64 j) ∧ w' = w := fun w => by
    have := pick_any a len w h1 h2 (by omega)
    rw [hj] at this
    exact this
  have hl0 : ((len : Int) == 0) = false := by simp; omega
  clear hcs hj
  go_enter Tryz.func6, Tryz.ntmps6
  go_wp2_with fail
  obtain ⟨w1, hw1⟩ : ∃ w1, w1 = w.alloc (.cells #[.int .i64 1, .int .i64 a, .int .i64 b, .int .i64 c, .int .i64 d, .int .i64 j1, .int .i64 j2, .int .i64 j3, .int .i64 j4, .int .i64 j5] 37) := ⟨_, rfl⟩
  rw [← hw1]
  have hc1 : Chg (fun _ => False) w w1 := by rw [hw1]; exact (Chg.refl _ _).alloc _
  have hsz : w1.heap.size = w.heap.size + 1 := by rw [hw1]; simp
  have q0 : w1.cell? ⟨bw, 0, none⟩ = some (.slice (some ⟨b0, off, none⟩) len cap) := by rw [hw1]; exact hcs' _
  have q2 : w1.cell? ⟨w.heap.size, 0, none⟩ = some (.int .i64 1) := by rw [hw1]; simp
  have q3 : w1.cell? ⟨w.heap.size, 1, none⟩ = some (.int .i64 a) := by rw [hw1]; simp
  have HC : Hid (∀ t, t < len * 5 → w1.cell? ⟨b0, off + t, none⟩ = some (.int .i64 (C t))) := fun t ht => by rw [hc1.cell (by exact hlt2) (by simp)]; exact hC t ht
  clear hcs' hC
  have HW1 : Hid (w1 = w.alloc (.cells #[.int .i64 1, .int .i64 a, .int .i64 b, .int .i64 c, .int .i64 d, .int .i64 j1, .int .i64 j2, .int .i64 j3, .int .i64 j4, .int .i64 j5] 37)) := hw1
  clear hw1
  have c0 : w1.cell? ⟨b0, off + j * 5, none⟩ = some (.int .i64 (C (j * 5 + 0))) := by have := HC.out (j * 5 + 0) (by omega); simpa [Nat.add_assoc] using this
  have c1 : w1.cell? ⟨b0, off + j * 5 + 1, none⟩ = some (.int .i64 (C (j * 5 + 1))) := by have := HC.out (j * 5 + 1) (by omega); simpa [Nat.add_assoc] using this
  have c2 : w1.cell? ⟨b0, off + j * 5 + 2, none⟩ = some (.int .i64 (C (j * 5 + 2))) := by have := HC.out (j * 5 + 2) (by omega); simpa [Nat.add_assoc] using this
  have c3 : w1.cell? ⟨b0, off + j * 5 + 3, none⟩ = some (.int .i64 (C (j * 5 + 3))) := by have := HC.out (j * 5 + 3) (by omega); simpa [Nat.add_assoc] using this
  have c4 : w1.cell? ⟨b0, off + j * 5 + 4, none⟩ = some (.int .i64 (C (j * 5 + 4))) := by have := HC.out (j * 5 + 4) (by omega); simpa [Nat.add_assoc] using this
  have n1 : w1.heap.size ≠ bw := by omega
  have n2 : w1.heap.size ≠ w.heap.size := by omega
  have n3 : w1.heap.size ≠ b0 := by omega
  clear HC HW1 hsz
  go_region_held3 (fun w' => w'.cell? ⟨bw, 0, none⟩ = some (.slice (some ⟨b0, off, none⟩) len cap) ∧ w'.cell? ⟨w.heap.size, 0, none⟩ = some (.int .i64 1) ∧ w'.cell? ⟨w.heap.size, 1, none⟩ = some (.int .i64 a) ∧ w'.cell? ⟨b0, off + j * 5, none⟩ = some (.int .i64 (C (j * 5 + 0))) ∧ w'.cell? ⟨b0, off + j * 5 + 1, none⟩ = some (.int .i64 (C (j * 5 + 1))) ∧ w'.cell? ⟨b0, off + j * 5 + 2, none⟩ = some (.int .i64 (C (j * 5 + 2))) ∧ w'.cell? ⟨b0, off + j * 5 + 3, none⟩ = some (.int .i64 (C (j * 5 + 3))) ∧ w'.cell? ⟨b0, off + j * 5 + 4, none⟩ = some (.int .i64 (C (j * 5 + 4)))) (go_keep)
    (first | (go_at_call 10; refine (hp _).mono ?_; rintro e w' ⟨rfl, rfl⟩))
  all_goals
    clear q0 q2 q3 c0 c1 c2 c3 c4
    go_wp2_with fail
    refine (check_any _ _ _ _ _ _).mono ?_
    rintro e w2 ⟨rfl, hq⟩
    have k0 : w2.cell? ⟨w1.heap.size, 0, none⟩ = some (.int .i64 (C (j * 5 + 0))) := by rw [hq.cell (by simp) (by simp)]; simp
    have k1 : w2.cell? ⟨w1.heap.size, 1, none⟩ = some (.int .i64 (C (j * 5 + 1))) := by rw [hq.cell (by simp) (by simp)]; simp
    have k2 : w2.cell? ⟨w1.heap.size, 2, none⟩ = some (.int .i64 (C (j * 5 + 2))) := by rw [hq.cell (by simp) (by simp)]; simp
    have k3 : w2.cell? ⟨w1.heap.size, 3, none⟩ = some (.int .i64 (C (j * 5 + 3))) := by rw [hq.cell (by simp) (by simp)]; simp
    have k4 : w2.cell? ⟨w1.heap.size, 4, none⟩ = some (.int .i64 (C (j * 5 + 4))) := by rw [hq.cell (by simp) (by simp)]; simp
    have hq2 : Chg (fun _ => False) w w2 := hc1.trans ((((Chg.refl _ _).alloc _).drew.trans hq (fun _ _ h => h))) (fun _ _ h => h)
    go_wp2_with fail
    refine (refCheck_any _ _ _ _ _ _).mono ?_
    rintro e w3 ⟨rfl, hq3⟩
    go_wp2_with fail
    go_ret
    exact ⟨ret_bool (by simp), hq2.trans hq3 (fun _ _ h => h)⟩
end Go.Proofs.YtminceigjejipabGreat
