import Derived.Test.YtminceigjejipaaRow4
import Derived.Deep.OwnRows
namespace Go.Proofs.Ytminceigjejipaa
open Go.RowKit

def newB (n v : Int) : Bool := decide (n < 1) || decide (4096 < n) || !standB v
theorem newB_true {n v : Int} (h : newB n v = true) : n < 1 ∨ (1 ≤ n ∧ 4096 < n) ∨ (1 ≤ n ∧ n ≤ 4096 ∧ standB v = false) := by
  simp [newB] at h
  by_cases h1 : n < 1
  · exact .inl h1
  · by_cases h2 : 4096 < n
    · exact .inr (.inl ⟨by omega, h2⟩)
    · refine .inr (.inr ⟨by omega, by omega, ?_⟩)
      rcases h with (h | h) | h
      · omega
      · omega
      · exact h
theorem newB_false {n v : Int} (h : newB n v = false) : 1 ≤ n ∧ n ≤ 4096 ∧ standB v = true := by
  simp [newB] at h
  exact ⟨by omega, by omega, h.2⟩

set_option maxHeartbeats 1000000 in
theorem calNew_bad (n v : Int) (w : World) (h : newB n v = true) :
    Calls Try.prog 9 #[.int .i64 n, .int .i64 v] w fun e w' => e = .returned (.tuple #[.pointer none, .int .i64 9]) ∧ w' = w := by
  rcases newB_true h with h1 | ⟨h1, h2⟩ | ⟨h1, h2, h3⟩
  all_goals
    clear h
    go_enter Try.func9, Try.ntmps9
    go_wp2_with (go_at_call 38; refine (canStand_any _ _).mono ?_; rintro e w' ⟨rfl, hw⟩; subst w'; rw [h3])
    go_ret2
    exact ⟨rfl, rfl⟩

def CellsAt (w : World) (g n : Nat) (Z : Nat → Int) : Prop := ∃ cur, w.heap[g]? = some (.cells cur 3 (0, 0)) ∧ n ≤ cur.size ∧ ∀ j, j < n → cur[j]? = some (.int .i64 (Z j))
theorem CellsAt.cell {w : World} {g n : Nat} {Z : Nat → Int} (h : CellsAt w g n Z) (j : Nat) (hj : j < n) : w.cell? ⟨g, j, none⟩ = some (.int .i64 (Z j)) := by
  obtain ⟨cur, h1, h2, h3⟩ := h
  unfold World.cell?
  rw [h1]
  exact h3 j hj
theorem CellsAt.free {w : World} {g n : Nat} {Z : Nat → Int} (h : CellsAt w g n Z) (j : Nat) : w.frozen? ⟨g, j, none⟩ = false := by
  obtain ⟨cur, h1, h2, h3⟩ := h
  unfold World.frozen?
  rw [h1]
  simp
theorem CellsAt.set {w : World} {g n : Nat} {Z : Nat → Int} (h : CellsAt w g n Z) (k : Nat) (v : Int) : CellsAt (w.setCell ⟨g, k, none⟩ (.int .i64 v)) g n (fun j => if j = k then v else Z j) := by
  obtain ⟨cur, h1, h2, h3⟩ := h
  refine ⟨cur.setIfInBounds k (.int .i64 v), ?_, by simpa using h2, fun j hj => ?_⟩
  · simp only [World.setCell, Array.getElem?_modify]
    simp [h1]
  · rw [Array.getElem?_setIfInBounds]
    by_cases e : k = j
    · subst e
      rw [if_pos rfl, if_pos (by omega)]
      simp
    · rw [if_neg e, h3 j hj]
      simp [Ne.symm e]
theorem CellsAt.congr {w : World} {g n : Nat} {Z Z' : Nat → Int} (h : CellsAt w g n Z) (e : ∀ j, j < n → Z j = Z' j) : CellsAt w g n Z' := by
  obtain ⟨cur, h1, h2, h3⟩ := h
  exact ⟨cur, h1, h2, fun j hj => by rw [h3 j hj, e j hj]⟩
theorem CellsAt.made (w : World) (n : Nat) : CellsAt (w.alloc (.cells (madeCells #[.int .i64 0] n) 3)) w.heap.size n (fun _ => 0) :=
  ⟨_, heap_alloc_new w _, by rw [size_madeCells]; exact Nat.le_refl _, fun j hj => by simp [madeCells, hj, Nat.mod_one]⟩

theorem infoInt : (Try.prog.info? 3).map (fun i => (i.zero, i.size, i.bytes)) = some (some (.int .i64 0), 1, 8) := by kernel_rfl

set_option maxHeartbeats 1000000 in
theorem calNew_ok (n : Nat) (v : Int) (w : World) (h1 : 1 ≤ n) (h2 : n ≤ 4096) (h3 : standB v = true) :
    Calls Try.prog 9 #[.int .i64 n, .int .i64 v] w fun e w' => ∃ p, e = .returned (.tuple #[.pointer (some ⟨p, 0, none⟩), .int .i64 0]) ∧ w.heap.size ≤ p ∧ RowAt 98 w' p w.heap.size n n (fun _ => v) ∧ Chg (fun _ => False) w w' := by
  have hmk := run_make_row' (P := Try.prog) 27 3 (.int .i64 0) 8 Try.underlying27 infoInt rfl .i64 .i64 n (by omega) (by omega)
  have HM : Hid (CellsAt (w.alloc (.cells (madeCells #[.int .i64 0] n) 3)) w.heap.size n (fun _ => 0)) := CellsAt.made w n
  go_enter Try.func9, Try.ntmps9
  go_wp2_with (go_at_call 38; refine (canStand_any _ _).mono ?_; rintro e w' ⟨rfl, hw⟩; subst w'; rw [h3])
  clear hmk
  go_loopw [23] (fun i wr => ∃ k : Nat, k ≤ n ∧ i = .int .i64 k ∧ CellsAt wr w.heap.size n (fun j => if j < k then v else 0) ∧ Chg (fun _ => False) w wr) (fun i _ => n - (intOf i).toNat)
  case atStart => exact ⟨0, by omega, rfl, HM.out.congr (fun j _ => by simp), (Chg.refl _ _).alloc _⟩
  case round =>
    obtain ⟨k, hk, rfl, hcs, hchg⟩ := hrel
    have HCS : Hid (CellsAt wr w.heap.size n (fun j => if j < k then v else 0)) := hcs
    have HCH : Hid (Chg (fun _ => False) w wr) := hchg
    by_cases hlt : k < n
    · have hck := hcs.cell k hlt
      have hfk := hcs.free k
      clear hcs hchg
      simp only [Nat.lt_irrefl, if_false] at hck
      go_wp2
      go_roundw
      case rel => exact ⟨k + 1, by omega, by go_num, (HCS.out.set k v).congr (fun j _ => by
        by_cases e : j = k
        · simp [e]
        · rw [if_neg e]; simp [show (j < k ↔ j < k + 1) by omega]), HCH.out.setCell (.inr (Nat.le_refl _)) _⟩
      case measure => simp [intOf]; omega
    · clear hcs hchg
      go_wp2
      go_ret2
      have hlts : w.heap.size < wr.heap.size := by
        obtain ⟨cur, hh, _⟩ := HCS.out
        exact (Array.getElem?_eq_some_iff.1 hh).1
      refine ⟨wr.heap.size, rfl, by omega, ⟨heap_alloc_new wr _, ?_⟩, HCH.out.alloc _⟩
      obtain ⟨cur, hh1, hh2, hh3⟩ := HCS.out
      exact ⟨cur, by rw [Below.heap_alloc _ _ _ hlts]; exact hh1, hh2, fun j hj => by rw [hh3 j hj]; simp [show j < k by omega]⟩

end Go.Proofs.Ytminceigjejipaa
