import Derived.Test.YtminceigjejipaaG2
namespace Go.Proofs.Ytminceigjejipaa
open Go.RowKit

theorem jobIn_cases {tk : Int} {j : JobG} : (jobIn tk j = false ∧ (((j.arr < 0)) ∨ (¬ (j.arr < 0) ∧ (j.len < 1)) ∨ (¬ (j.arr < 0) ∧ ¬ (j.len < 1) ∧ (tk < j.len)) ∨ (¬ (j.arr < 0) ∧ ¬ (j.len < 1) ∧ ¬ (tk < j.len) ∧ (j.units < 1)) ∨ (¬ (j.arr < 0) ∧ ¬ (j.len < 1) ∧ ¬ (tk < j.len) ∧ ¬ (j.units < 1) ∧ (1000 < j.units)) ∨ (¬ (j.arr < 0) ∧ ¬ (j.len < 1) ∧ ¬ (tk < j.len) ∧ ¬ (j.units < 1) ∧ ¬ (1000 < j.units) ∧ (j.val < 1)) ∨ (¬ (j.arr < 0) ∧ ¬ (j.len < 1) ∧ ¬ (tk < j.len) ∧ ¬ (j.units < 1) ∧ ¬ (1000 < j.units) ∧ ¬ (j.val < 1) ∧ (1048576 < j.val)) ∨ (¬ (j.arr < 0) ∧ ¬ (j.len < 1) ∧ ¬ (tk < j.len) ∧ ¬ (j.units < 1) ∧ ¬ (1000 < j.units) ∧ ¬ (j.val < 1) ∧ ¬ (1048576 < j.val) ∧ (tk < j.dl)))) ∨ (jobIn tk j = true ∧ ¬ (j.arr < 0) ∧ ¬ (j.len < 1) ∧ ¬ (tk < j.len) ∧ ¬ (j.units < 1) ∧ ¬ (1000 < j.units) ∧ ¬ (j.val < 1) ∧ ¬ (1048576 < j.val) ∧ ¬ (tk < j.dl)) := by
  cases h : jobIn tk j
  · left
    refine ⟨rfl, ?_⟩
    simp [jobIn] at h
    omega
  · right
    refine ⟨rfl, ?_⟩
    have := jobIn_true h
    omega

end Go.Proofs.Ytminceigjejipaa
