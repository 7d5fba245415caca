import Derived.Test.YtminceigjejipaaRow8
import Derived.Test.YtminceigjejipaaRow7
namespace Go.Proofs.Ytminceigjejipaa
open Go.RowKit

section
variable {w : World} {pc gc pr gr n cc cr : Nat} {Z : Nat → Int}
theorem RowAt.chg {T : TypeId} {p g cap : Nat} {O : Nat → Prop} {w' : World} (h : RowAt T w p g n cap Z) (hc : Chg O w w') (h1 : ¬ O p) (h2 : ¬ O g) : RowAt T w' p g n cap Z :=
  h.frame (hc.block _ h.ltp h1) (hc.block _ h.ltg h2)
/-- blocks of other types -/
theorem RowAt.apart {T T' : TypeId} {p g p' g' cap cap' n' : Nat} {Z' : Nat → Int} (h : RowAt T w p g n cap Z) (h' : RowAt T' w p' g' n' cap' Z') (hT : T ≠ 3) (hT' : T' ≠ 3) (hTT : T ≠ T') : p ≠ p' ∧ p ≠ g' ∧ g ≠ p' := by
  obtain ⟨cur, a1, _⟩ := h.hg
  obtain ⟨cur', a1', _⟩ := h'.hg
  refine ⟨?_, ?_, ?_⟩
  · rintro rfl
    have := h.hp
    rw [h'.hp] at this
    simp at this
    exact hTT this.2.symm
  · rintro rfl
    have := h.hp
    rw [a1'] at this
    simp at this
    exact hT this.2.symm
  · rintro rfl
    rw [h'.hp] at a1
    simp at a1
    exact hT' a1.2
end

end Go.Proofs.Ytminceigjejipaa
