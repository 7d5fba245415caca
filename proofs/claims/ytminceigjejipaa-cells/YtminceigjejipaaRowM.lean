/-
  ROWS OF CELLS, AS PLAIN FUNCTIONS: the least of a piece, where a piece fits, what Add makes. Nothing of the program.
-/
import Derived.Test.YtminceigjejipaaSmall
namespace Go.Proofs.Ytminceigjejipaa

def pieceB (n f t : Int) : Bool := decide (0 ≤ f) && decide (f < t) && decide (t ≤ n)
theorem pieceB_true {n f t : Int} (h : pieceB n f t = true) : 0 ≤ f ∧ f < t ∧ t ≤ n := by
  simp [pieceB] at h
  omega
theorem pieceB_false {n f t : Int} (h : pieceB n f t = false) : f < 0 ∨ (0 ≤ f ∧ t ≤ f) ∨ (0 ≤ f ∧ f < t ∧ n < t) := by
  simp [pieceB] at h
  omega

def standB (v : Int) : Bool := inB v (-1099511627776) 1099511627776

/-- the least of the cells a .. a + k -/
def minZ (Z : Nat → Int) (a : Nat) : Nat → Int
  | 0 => Z a
  | k + 1 => if Z (a + (k + 1)) < minZ Z a k then Z (a + (k + 1)) else minZ Z a k

theorem le_minZ (Z : Nat → Int) (a : Nat) (v : Int) : ∀ k, v ≤ minZ Z a k ↔ ∀ j, j ≤ k → v ≤ Z (a + j)
  | 0 => by
    constructor
    · intro h j hj
      obtain rfl : j = 0 := by omega
      exact h
    · intro h
      exact h 0 (Nat.le_refl _)
  | k + 1 => by
    have ih := le_minZ Z a v k
    unfold minZ
    constructor
    · intro h j hj
      split at h
      · by_cases e : j = k + 1
        · subst e; exact h
        · exact ih.1 (by omega) j (by omega)
      · by_cases e : j = k + 1
        · subst e; omega
        · exact ih.1 h j (by omega)
    · intro h
      split
      · exact h _ (Nat.le_refl _)
      · exact ih.2 (fun j hj => h j (by omega))

theorem minZ_mem (Z : Nat → Int) (a : Nat) : ∀ k, ∃ j, j ≤ k ∧ minZ Z a k = Z (a + j)
  | 0 => ⟨0, Nat.le_refl _, rfl⟩
  | k + 1 => by
    unfold minZ
    split
    · exact ⟨k + 1, Nat.le_refl _, rfl⟩
    · obtain ⟨j, hj, h⟩ := minZ_mem Z a k
      exact ⟨j, by omega, h⟩

/-- where the first n cells from a on that are v at least begin -/
def IsFit (Z : Nat → Int) (len a n : Nat) (v s : Int) : Prop :=
  (∃ k : Nat, s = k ∧ a ≤ k ∧ k + n ≤ len ∧ (∀ j, k ≤ j → j < k + n → v ≤ Z j) ∧ ∀ t, a ≤ t → t < k → ∃ j, t ≤ j ∧ j < t + n ∧ Z j < v) ∨
  (s = -1 ∧ ∀ t, a ≤ t → t + n ≤ len → ∃ j, t ≤ j ∧ j < t + n ∧ Z j < v)

theorem IsFit.unique {Z : Nat → Int} {len a n : Nat} {v s s' : Int} (h : IsFit Z len a n v s) (h' : IsFit Z len a n v s') : s = s' := by
  rcases h with ⟨k, rfl, h1, h2, h3, h4⟩ | ⟨rfl, h1⟩
  · rcases h' with ⟨k', rfl, g1, g2, g3, g4⟩ | ⟨rfl, g1⟩
    · rcases Nat.lt_trichotomy k k' with hl | rfl | hl
      · obtain ⟨j, a1, a2, a3⟩ := g4 k h1 hl
        have := h3 j a1 a2
        omega
      · rfl
      · obtain ⟨j, a1, a2, a3⟩ := h4 k' g1 hl
        have := g3 j a1 a2
        omega
    · obtain ⟨j, a1, a2, a3⟩ := g1 k h1 h2
      have := h3 j a1 a2
      omega
  · rcases h' with ⟨k', rfl, g1, g2, g3, g4⟩ | ⟨rfl, g1⟩
    · obtain ⟨j, a1, a2, a3⟩ := h1 k' g1 g2
      have := g3 j a1 a2
      omega
    · rfl

/-- a run of r cells that are v at least ends ahead of i, no longer one, none of n cells behind a -/
def Run (Z : Nat → Int) (a n : Nat) (v : Int) (i r : Nat) : Prop :=
  a + r ≤ i ∧ r < n ∧ (∀ j, i - r ≤ j → j < i → v ≤ Z j) ∧ (a < i - r → Z (i - r - 1) < v) ∧ ∀ t, a ≤ t → t + n ≤ i → ∃ j, t ≤ j ∧ j < t + n ∧ Z j < v

theorem Run.start (Z : Nat → Int) (a n : Nat) (v : Int) (hn : 0 < n) : Run Z a n v a 0 := ⟨by omega, hn, fun j h1 h2 => by omega, fun h => by omega, fun t h1 h2 => by omega⟩

theorem Run.low {Z : Nat → Int} {a n : Nat} {v : Int} {i r : Nat} (h : Run Z a n v i r) (hl : Z i < v) : Run Z a n v (i + 1) 0 := by
  obtain ⟨h1, h2, h3, h4, h5⟩ := h
  refine ⟨by omega, by omega, fun j a1 a2 => by omega, fun _ => by simpa using hl, fun t a1 a2 => ?_⟩
  by_cases e : t + n ≤ i
  · exact h5 t a1 e
  · exact ⟨i, by omega, by omega, hl⟩

/-- what a cell that is not low does to a run that stays short -/
theorem Run.more {Z : Nat → Int} {a n : Nat} {v : Int} {i r : Nat} (h : Run Z a n v i r) (hl : v ≤ Z i) (hr : r + 1 < n) : Run Z a n v (i + 1) (r + 1) := by
  obtain ⟨h1, h2, h3, h4, h5⟩ := h
  refine ⟨by omega, hr, fun j a1 a2 => ?_, fun hx => ?_, fun t a1 a2 => ?_⟩
  · by_cases e : j = i
    · subst e; exact hl
    · exact h3 j (by omega) (by omega)
  · rw [show i + 1 - (r + 1) - 1 = i - r - 1 by omega]
    exact h4 (by omega)
  · by_cases e : t + n ≤ i
    · exact h5 t a1 e
    · exact ⟨i - r - 1, by omega, by omega, h4 (by omega)⟩

theorem Run.done {Z : Nat → Int} {len a n : Nat} {v : Int} {i r : Nat} (h : Run Z a n v i r) (hl : v ≤ Z i) (hr : r + 1 = n) (hi : i < len) : IsFit Z len a n v ((i : Int) + 1 - n) := by
  obtain ⟨h1, h2, h3, h4, h5⟩ := h
  refine .inl ⟨i - r, by omega, by omega, by omega, fun j a1 a2 => ?_, fun t a1 a2 => ?_⟩
  · by_cases e : j = i
    · subst e; exact hl
    · exact h3 j a1 (by omega)
  · by_cases e : t + n ≤ i
    · exact h5 t a1 e
    · exact ⟨i - r - 1, by omega, by omega, h4 (by omega)⟩

theorem Run.none {Z : Nat → Int} {len a n : Nat} {v : Int} {r : Nat} (h : Run Z a n v len r) : IsFit Z len a n v (-1) := .inr ⟨rfl, h.2.2.2.2⟩

/-- what Add makes of a row -/
def addZ (Z : Nat → Int) (a b : Nat) (d : Int) : Nat → Int := fun j => if a ≤ j ∧ j < b then Z j + d else Z j
/-- may Add do so? (up to k) -/
def addOk (Z : Nat → Int) (a k : Nat) (d : Int) : Prop := ∀ j, a ≤ j → j < k → standB (Z j + d) = true

theorem standB_true {v : Int} (h : standB v = true) : -1099511627776 ≤ v ∧ v ≤ 1099511627776 := inB_true h
theorem standB_false {v : Int} (h : standB v = false) : v < -1099511627776 ∨ (-1099511627776 ≤ v ∧ 1099511627776 < v) := inB_false h
end Go.Proofs.Ytminceigjejipaa
