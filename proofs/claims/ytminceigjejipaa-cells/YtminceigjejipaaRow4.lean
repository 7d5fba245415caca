import Derived.Test.YtminceigjejipaaRow1
import Derived.Deep.RegionHeld3
namespace Go.Proofs.Ytminceigjejipaa
open Go.RowKit

theorem hide {p : Prop} (h : p) : Hid p := h
theorem unhide {p : Prop} (h : Hid p) : p := h

/-- a row in memory: a struct of type T at p whose one field is a slice of n cells at the head of block g, which hold Z -/
structure RowAt (T : TypeId) (w : World) (p g n cap : Nat) (Z : Nat → Int) : Prop where
  hp : w.heap[p]? = some (.cells #[.slice (some ⟨g, 0, none⟩) n cap] T (0, 0))
  hg : ∃ cur, w.heap[g]? = some (.cells cur 3 (0, 0)) ∧ n ≤ cur.size ∧ ∀ j, j < n → cur[j]? = some (.int .i64 (Z j))

section
variable {T : TypeId} {w : World} {p g n cap : Nat} {Z : Nat → Int}
theorem RowAt.cellp (h : RowAt T w p g n cap Z) : w.cell? ⟨p, 0, none⟩ = some (.slice (some ⟨g, 0, none⟩) n cap) := by
  unfold World.cell?
  rw [h.hp]
  rfl
theorem RowAt.cellg (h : RowAt T w p g n cap Z) (j : Nat) (hj : j < n) : w.cell? ⟨g, j, none⟩ = some (.int .i64 (Z j)) := by
  obtain ⟨cur, h1, h2, h3⟩ := h.hg
  unfold World.cell?
  rw [h1]
  exact h3 j hj
theorem RowAt.freeg (h : RowAt T w p g n cap Z) (j : Nat) : w.frozen? ⟨g, j, none⟩ = false := by
  obtain ⟨cur, h1, h2, h3⟩ := h.hg
  unfold World.frozen?
  rw [h1]
  simp
theorem RowAt.ltp (h : RowAt T w p g n cap Z) : p < w.heap.size := (Array.getElem?_eq_some_iff.1 h.hp).1
theorem RowAt.ltg (h : RowAt T w p g n cap Z) : g < w.heap.size := by
  obtain ⟨cur, h1, _⟩ := h.hg
  exact (Array.getElem?_eq_some_iff.1 h1).1
theorem RowAt.ne (h : RowAt T w p g n cap Z) (hT : T ≠ 3) : p ≠ g := by
  rintro rfl
  obtain ⟨cur, h1, _⟩ := h.hg
  have := h.hp
  rw [h1] at this
  simp at this
  exact hT this.2.symm
theorem RowAt.congr {Z' : Nat → Int} (h : RowAt T w p g n cap Z) (e : ∀ j, j < n → Z j = Z' j) : RowAt T w p g n cap Z' := by
  obtain ⟨cur, h1, h2, h3⟩ := h.hg
  exact ⟨h.hp, cur, h1, h2, fun j hj => by rw [h3 j hj, e j hj]⟩
theorem RowAt.frame {w' : World} (h : RowAt T w p g n cap Z) (h1 : w'.heap[p]? = w.heap[p]?) (h2 : w'.heap[g]? = w.heap[g]?) : RowAt T w' p g n cap Z :=
  ⟨h1.trans h.hp, by obtain ⟨cur, a, b⟩ := h.hg; exact ⟨cur, h2.trans a, b⟩⟩
theorem RowAt.set (h : RowAt T w p g n cap Z) (hT : T ≠ 3) (k : Nat) (v : Int) : RowAt T (w.setCell ⟨g, k, none⟩ (.int .i64 v)) p g n cap (fun j => if j = k then v else Z j) := by
  have hne := h.ne hT
  refine ⟨by rw [Below.heap_setCell _ _ _ _ hne]; exact h.hp, ?_⟩
  obtain ⟨cur, h1, h2, h3⟩ := h.hg
  refine ⟨cur.setIfInBounds k (.int .i64 v), ?_, by simpa using h2, fun j hj => ?_⟩
  · simp only [World.setCell, Array.getElem?_modify]
    simp [h1]
  · rw [Array.getElem?_setIfInBounds]
    by_cases e : k = j
    · subst e
      rw [if_pos rfl, if_pos (by omega)]
      simp
    · rw [if_neg e, h3 j hj, if_neg (fun x => e x.symm)]
end
end Go.Proofs.Ytminceigjejipaa
