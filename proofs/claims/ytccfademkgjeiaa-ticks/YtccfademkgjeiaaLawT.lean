import Derived.Test.YtccfademkgjeiaaLawM
/-
  A TICK, BETWEEN THE PROGRAM AND THE DOCUMENT: what the program's Tick must do (TickY), the document's in the same words.
-/
namespace Go.Proofs.Ytccfademkgjeiaa
open Go.RowKit

/-- what the laws ask of the program's Tick -/
def TickY (YAt : World → Nat → (Nat → Prop) → MkG → Prop) : Prop :=
  ∀ w p F m, YAt w p F m → MkOk m → m.ghost = -1 → Calls Try.prog 48 #[.pointer (some ⟨p, 0, none⟩)] w fun e w' =>
    ∃ lv names z m' F', e = .returned (.tuple #[lv, .int .i64 z]) ∧ TickRes m z names m' ∧ YAt w' p F' m' ∧ Chg F w w' ∧ (∀ k, F' k → F k ∨ w.heap.size ≤ k) ∧
      w'.ownsRow 0 123 2 lv names.length (names.flatMap nameCells) ∧ (∀ k, lv.ownBlock = some k → w.heap.size ≤ k ∧ ¬ F' k) ∧ (z ≠ 0 → lv = .slice none 0 0)
end Go.Proofs.Ytccfademkgjeiaa
