import Derived.Test.YtccfademkgjeiaaA1
/-
  ROWS OF CELLS, AS PLAIN FUNCTIONS: the least of a piece, where a piece fits, what Add makes. Nothing of the program.
-/
namespace Go.Proofs.Ytccfademkgjeiaa

def pieceB (n f t : Int) : Bool := decide (0 ≤ f) && decide (f < t) && decide (t ≤ n)
theorem pieceB_true {n f t : Int} (h : pieceB n f t = true) : 0 ≤ f ∧ f < t ∧ t ≤ n := by
  simp [pieceB] at h
  omega
theorem pieceB_false {n f t : Int} (h : pieceB n f t = false) : f < 0 ∨ (0 ≤ f ∧ t ≤ f) ∨ (0 ≤ f ∧ f < t ∧ n < t) := by
  simp [pieceB] at h
  omega

def standB (v : Int) : Bool := inB v (-1099511627776) 1099511627776

/-- the least of the cells a .. a + k -/
def minZ (Z : Nat → Int) (a : Nat) : Nat → Int
  | 0 => Z a
  | k + 1 => if Z (a + (k + 1)) < minZ Z a k then Z (a + (k + 1)) else minZ Z a k

theorem le_minZ (Z : Nat → Int) (a : Nat) (v : Int) : ∀ k, v ≤ minZ Z a k ↔ ∀ j, j ≤ k → v ≤ Z (a + j)
  | 0 => by
    constructor
    · intro h j hj
      obtain rfl : j = 0 := by omega
      exact h
    · intro h
      exact h 0 (Nat.le_refl _)
  | k + 1 => by
    have ih := le_minZ Z a v k
    unfold minZ
    constructor
    · intro h j hj
      split at h
      · by_cases e : j = k + 1
        · subst e; exact h
        · exact ih.1 (by omega) j (by omega)
      · by_cases e : j = k + 1
        · subst e; omega
        · exact ih.1 h j (by omega)
    · intro h
      split
      · exact h _ (Nat.le_refl _)
      · exact ih.2 (fun j hj => h j (by omega))

theorem minZ_mem (Z : Nat → Int) (a : Nat) : ∀ k, ∃ j, j ≤ k ∧ minZ Z a k = Z (a + j)
  | 0 => ⟨0, Nat.le_refl _, rfl⟩
  | k + 1 => by
    unfold minZ
    split
    · exact ⟨k + 1, Nat.le_refl _, rfl⟩
    · obtain ⟨j, hj, h⟩ := minZ_mem Z a k
      exact ⟨j, by omega, h⟩

/-- where the first n cells from a on that are v at least begin -/
def IsFit (Z : Nat → Int) (len a n : Nat) (v s : Int) : Prop :=
  (∃ k : Nat, s = k ∧ a ≤ k ∧ k + n ≤ len ∧ (∀ j, k ≤ j → j < k + n → v ≤ Z j) ∧ ∀ t, a ≤ t → t < k → ∃ j, t ≤ j ∧ j < t + n ∧ Z j < v) ∨
  (s = -1 ∧ ∀ t, a ≤ t → t + n ≤ len → ∃ j, t ≤ j ∧ j < t + n ∧ Z j < v)

theorem IsFit.unique {Z : Nat → Int} {len a n : Nat} {v s s' : Int} (h : IsFit Z len a n v s) (h' : IsFit Z len a n v s') : s = s' := by
  rcases h with ⟨k, rfl, h1, h2, h3, h4⟩ | ⟨rfl, h1⟩
  · rcases h' with ⟨k', rfl, g1, g2, g3, g4⟩ | ⟨rfl, g1⟩
    · rcases Nat.lt_trichotomy k k' with hl | rfl | hl
      · obtain ⟨j, a1, a2, a3⟩ := g4 k h1 hl
        have := h3 j a1 a2
        omega
      · rfl
      · obtain ⟨j, a1, a2, a3⟩ := h4 k' g1 hl
        have := g3 j a1 a2
        omega
    · obtain ⟨j, a1, a2, a3⟩ := g1 k h1 h2
      have := h3 j a1 a2
      omega
  · rcases h' with ⟨k', rfl, g1, g2, g3, g4⟩ | ⟨rfl, g1⟩
    · obtain ⟨j, a1, a2, a3⟩ := h1 k' g1 g2
      have := g3 j a1 a2
      omega
    · rfl

/-- a run of r cells that are v at least ends ahead of i, no longer one, none of n cells behind a -/
def Run (Z : Nat → Int) (a n : Nat) (v : Int) (i r : Nat) : Prop :=
  a + r ≤ i ∧ r < n ∧ (∀ j, i - r ≤ j → j < i → v ≤ Z j) ∧ (a < i - r → Z (i - r - 1) < v) ∧ ∀ t, a ≤ t → t + n ≤ i → ∃ j, t ≤ j ∧ j < t + n ∧ Z j < v

theorem Run.start (Z : Nat → Int) (a n : Nat) (v : Int) (hn : 0 < n) : Run Z a n v a 0 := ⟨by omega, hn, fun j h1 h2 => by omega, fun h => by omega, fun t h1 h2 => by omega⟩

theorem Run.low {Z : Nat → Int} {a n : Nat} {v : Int} {i r : Nat} (h : Run Z a n v i r) (hl : Z i < v) : Run Z a n v (i + 1) 0 := by
  obtain ⟨h1, h2, h3, h4, h5⟩ := h
  refine ⟨by omega, by omega, fun j a1 a2 => by omega, fun _ => by simpa using hl, fun t a1 a2 => ?_⟩
  by_cases e : t + n ≤ i
  · exact h5 t a1 e
  · exact ⟨i, by omega, by omega, hl⟩

/-- what a cell that is not low does to a run that stays short -/
theorem Run.more {Z : Nat → Int} {a n : Nat} {v : Int} {i r : Nat} (h : Run Z a n v i r) (hl : v ≤ Z i) (hr : r + 1 < n) : Run Z a n v (i + 1) (r + 1) := by
  obtain ⟨h1, h2, h3, h4, h5⟩ := h
  refine ⟨by omega, hr, fun j a1 a2 => ?_, fun hx => ?_, fun t a1 a2 => ?_⟩
  · by_cases e : j = i
    · subst e; exact hl
    · exact h3 j (by omega) (by omega)
  · rw [show i + 1 - (r + 1) - 1 = i - r - 1 by omega]
    exact h4 (by omega)
  · by_cases e : t + n ≤ i
    · exact h5 t a1 e
    · exact ⟨i - r - 1, by omega, by omega, h4 (by omega)⟩

theorem Run.done {Z : Nat → Int} {len a n : Nat} {v : Int} {i r : Nat} (h : Run Z a n v i r) (hl : v ≤ Z i) (hr : r + 1 = n) (hi : i < len) : IsFit Z len a n v ((i : Int) + 1 - n) := by
  obtain ⟨h1, h2, h3, h4, h5⟩ := h
  refine .inl ⟨i - r, by omega, by omega, by omega, fun j a1 a2 => ?_, fun t a1 a2 => ?_⟩
  · by_cases e : j = i
    · subst e; exact hl
    · exact h3 j a1 (by omega)
  · by_cases e : t + n ≤ i
    · exact h5 t a1 e
    · exact ⟨i - r - 1, by omega, by omega, h4 (by omega)⟩

theorem Run.none {Z : Nat → Int} {len a n : Nat} {v : Int} {r : Nat} (h : Run Z a n v len r) : IsFit Z len a n v (-1) := .inr ⟨rfl, h.2.2.2.2⟩

/-- what Add makes of a row -/
def addZ (Z : Nat → Int) (a b : Nat) (d : Int) : Nat → Int := fun j => if a ≤ j ∧ j < b then Z j + d else Z j
/-- may Add do so? (up to k) -/
def addOk (Z : Nat → Int) (a k : Nat) (d : Int) : Prop := ∀ j, a ≤ j → j < k → standB (Z j + d) = true

theorem standB_true {v : Int} (h : standB v = true) : -1099511627776 ≤ v ∧ v ≤ 1099511627776 := inB_true h
theorem standB_false {v : Int} (h : standB v = false) : v < -1099511627776 ∨ (-1099511627776 ≤ v ∧ 1099511627776 < v) := inB_false h
end Go.Proofs.Ytccfademkgjeiaa

namespace Go.Proofs.Ytccfademkgjeiaa
open Go.RowKit

set_option maxHeartbeats 400000 in
theorem canStand_any (v : Int) (w : World) :
    Calls Try.prog 37 #[.int .i64 v] w fun e w' => e = .returned (.bool (standB v)) ∧ w' = w := by
  obtain ⟨r, hr⟩ : ∃ r, r = standB v := ⟨_, rfl⟩
  rw [← hr]
  cases r
  · rcases standB_false hr.symm with h | ⟨h, h'⟩
    · clear hr
      go_enter Try.func37, Try.ntmps37
      go_wp2
      go_ret
      first | exact ⟨rfl, rfl⟩ | exact ⟨ret_bool (by simp; omega), rfl⟩
    · clear hr
      go_enter Try.func37, Try.ntmps37
      go_wp2
      go_ret
      first | exact ⟨rfl, rfl⟩ | exact ⟨ret_bool (by simp; omega), rfl⟩
  · obtain ⟨h, h'⟩ := standB_true hr.symm
    clear hr
    go_enter Try.func37, Try.ntmps37
    go_wp2
    go_ret
    first | exact ⟨rfl, rfl⟩ | exact ⟨ret_bool (by simp; omega), rfl⟩

set_option maxHeartbeats 400000 in
theorem hasPiece_any (p g n cap : Nat) (f t : Int) (w : World) (hc : w.cell? ⟨p, 0, none⟩ = some (.slice (some ⟨g, 0, none⟩) n cap)) :
    Calls Try.prog 39 #[.pointer (some ⟨p, 0, none⟩), .int .i64 f, .int .i64 t] w fun e w' => e = .returned (.bool (pieceB n f t)) ∧ w' = w := by
  obtain ⟨r, hr⟩ : ∃ r, r = pieceB n f t := ⟨_, rfl⟩
  rw [← hr]
  cases r
  · rcases pieceB_false hr.symm with h | ⟨h, h'⟩ | ⟨h, h', h''⟩
    all_goals
      clear hr
      go_enter Try.func39, Try.ntmps39
      go_wp2
      go_ret
      first | exact ⟨rfl, rfl⟩ | exact ⟨ret_bool (by simp; omega), rfl⟩
  · obtain ⟨h, h', h''⟩ := pieceB_true hr.symm
    clear hr
    go_enter Try.func39, Try.ntmps39
    go_wp2
    go_ret
    first | exact ⟨rfl, rfl⟩ | exact ⟨ret_bool (by simp; omega), rfl⟩

set_option maxHeartbeats 400000 in
theorem piece_any (p g n cap : Nat) (f t : Int) (w : World) (hc : w.cell? ⟨p, 0, none⟩ = some (.slice (some ⟨g, 0, none⟩) n cap)) :
    Calls Try.prog 111 #[.pointer (some ⟨p, 0, none⟩), .int .i64 f, .int .i64 t] w fun e w' => e = .returned (.bool (pieceB n f t)) ∧ w' = w := by
  obtain ⟨r, hr⟩ : ∃ r, r = pieceB n f t := ⟨_, rfl⟩
  rw [← hr]
  cases r
  · rcases pieceB_false hr.symm with h | ⟨h, h'⟩ | ⟨h, h', h''⟩
    all_goals
      clear hr
      go_enter Try.func111, Try.ntmps111
      go_wp2
      go_ret
      first | exact ⟨rfl, rfl⟩ | exact ⟨ret_bool (by simp; omega), rfl⟩
  · obtain ⟨h, h', h''⟩ := pieceB_true hr.symm
    clear hr
    go_enter Try.func111, Try.ntmps111
    go_wp2
    go_ret
    first | exact ⟨rfl, rfl⟩ | exact ⟨ret_bool (by simp; omega), rfl⟩
end Go.Proofs.Ytccfademkgjeiaa

namespace Go.Proofs.Ytccfademkgjeiaa
open Go.RowKit

theorem ret_two {k k' : IntKind} {a b c d : Int} (h : a = b) (h' : c = d) : Ending.returned (.tuple #[.int k a, .int k' c]) = .returned (.tuple #[.int k b, .int k' d]) := by rw [h, h']

set_option maxHeartbeats 400000 in
theorem calMin_bad (p g n cap : Nat) (f t : Int) (w : World) (hc : w.cell? ⟨p, 0, none⟩ = some (.slice (some ⟨g, 0, none⟩) n cap)) (hp : pieceB n f t = false) :
    Calls Try.prog 17 #[.pointer (some ⟨p, 0, none⟩), .int .i64 f, .int .i64 t] w fun e w' => e = .returned (.tuple #[.int .i64 0, .int .i64 9]) ∧ w' = w := by
  go_enter Try.func17, Try.ntmps17
  go_wp2_with (go_at_call 39; refine (hasPiece_any p g n cap _ _ _ hc).mono ?_; rintro e w' ⟨rfl, rfl⟩; rw [hp])
  go_ret2
  exact ⟨rfl, rfl⟩

set_option maxHeartbeats 400000 in
theorem refMin_bad (p g n cap : Nat) (f t : Int) (w : World) (hc : w.cell? ⟨p, 0, none⟩ = some (.slice (some ⟨g, 0, none⟩) n cap)) (hp : pieceB n f t = false) :
    Calls Try.prog 82 #[.pointer (some ⟨p, 0, none⟩), .int .i64 f, .int .i64 t] w fun e w' => e = .returned (.tuple #[.int .i64 0, .int .i64 9]) ∧ w' = w := by
  go_enter Try.func82, Try.ntmps82
  go_wp2_with (go_at_call 111; refine (piece_any p g n cap _ _ _ hc).mono ?_; rintro e w' ⟨rfl, rfl⟩; rw [hp])
  go_ret2
  exact ⟨rfl, rfl⟩

theorem pieceB_mk {n a b : Nat} (h1 : a < b) (h2 : b ≤ n) : pieceB n a b = true := by
  simp [pieceB]
  omega

set_option maxHeartbeats 1000000 in
theorem calMin_ok (p g n cap a b : Nat) (Z : Nat → Int) (w : World) (hc : w.cell? ⟨p, 0, none⟩ = some (.slice (some ⟨g, 0, none⟩) n cap)) (hn : n ≤ 100000) (hab : a < b) (hbn : b ≤ n)
    (hZ0 : ∀ j, j < n → w.cell? ⟨g, j, none⟩ = some (.int .i64 (Z j))) :
    Calls Try.prog 17 #[.pointer (some ⟨p, 0, none⟩), .int .i64 a, .int .i64 b] w fun e w' => e = .returned (.tuple #[.int .i64 (minZ Z a (b - 1 - a)), .int .i64 0]) ∧ w' = w := by
  have hZ : Hid (∀ j, j < n → w.cell? ⟨g, j, none⟩ = some (.int .i64 (Z j))) := hZ0
  clear hZ0
  have hca := hZ.out a (by omega)
  have hp : Hid (pieceB n a b = true) := pieceB_mk hab hbn
  go_enter Try.func17, Try.ntmps17
  go_wp2_with (go_at_call 39; refine (hasPiece_any p g n cap _ _ _ hc).mono ?_; rintro e w' ⟨rfl, rfl⟩; rw [hp.out])
  go_loop [8, 9] (fun m i => ∃ k : Nat, a < k ∧ k ≤ b ∧ i = .int .i64 k ∧ m = .int .i64 (minZ Z a (k - 1 - a))) (fun _ i => b - (intOf i).toNat)
  case atStart => exact ⟨a + 1, by omega, by omega, by go_num, by simp [minZ]⟩
  case round =>
    obtain ⟨k, hk1, hk2, rfl, rfl⟩ := hrel
    by_cases hlt : k < b
    · have hck := hZ.out k (by omega)
      have hs : Hid (minZ Z a (k + 1 - 1 - a) = if Z k < minZ Z a (k - 1 - a) then Z k else minZ Z a (k - 1 - a)) := by
        rw [show k + 1 - 1 - a = (k - 1 - a) + 1 by omega, minZ, show a + (k - 1 - a + 1) = k by omega]; exact rfl
      clear hca
      generalize minZ Z a (k - 1 - a) = m at *
      generalize Z k = z at *
      by_cases hz : z < m
      · go_wp2
        go_round
        case rel => exact ⟨k + 1, by omega, by omega, by go_num, by rw [hs.out, if_pos hz]⟩
        case measure => simp [intOf]; omega
      · go_wp2
        go_round
        case rel => exact ⟨k + 1, by omega, by omega, by go_num, by rw [hs.out, if_neg hz]⟩
        case measure => simp [intOf]; omega
    · go_wp2
      go_ret2
      exact ⟨ret_two (by rw [show k = b by omega]) rfl, rfl⟩

set_option maxHeartbeats 1000000 in
theorem refMin_ok (p g n cap a b : Nat) (Z : Nat → Int) (w : World) (hc : w.cell? ⟨p, 0, none⟩ = some (.slice (some ⟨g, 0, none⟩) n cap)) (hn : n ≤ 100000) (hab : a < b) (hbn : b ≤ n)
    (hZ0 : ∀ j, j < n → w.cell? ⟨g, j, none⟩ = some (.int .i64 (Z j))) :
    Calls Try.prog 82 #[.pointer (some ⟨p, 0, none⟩), .int .i64 a, .int .i64 b] w fun e w' => e = .returned (.tuple #[.int .i64 (minZ Z a (b - 1 - a)), .int .i64 0]) ∧ w' = w := by
  have hZ : Hid (∀ j, j < n → w.cell? ⟨g, j, none⟩ = some (.int .i64 (Z j))) := hZ0
  clear hZ0
  have hca := hZ.out a (by omega)
  have hp : Hid (pieceB n a b = true) := pieceB_mk hab hbn
  go_enter Try.func82, Try.ntmps82
  go_wp2_with (go_at_call 111; refine (piece_any p g n cap _ _ _ hc).mono ?_; rintro e w' ⟨rfl, rfl⟩; rw [hp.out])
  go_loop [9, 10] (fun m i => ∃ k : Nat, a ≤ k ∧ k ≤ b ∧ i = .int .i64 k ∧ m = .int .i64 (minZ Z a (k - 1 - a))) (fun _ i => b - (intOf i).toNat)
  case atStart => exact ⟨a, by omega, by omega, rfl, by rw [show a - 1 - a = 0 by omega]; rfl⟩
  case round =>
    obtain ⟨k, hk1, hk2, rfl, rfl⟩ := hrel
    by_cases hlt : k < b
    · have hck := hZ.out k (by omega)
      have hs : Hid (minZ Z a (k + 1 - 1 - a) = if Z k < minZ Z a (k - 1 - a) then Z k else minZ Z a (k - 1 - a)) := by
        by_cases e : k = a
        · subst e
          show minZ Z k (k + 1 - 1 - k) = _
          rw [show k + 1 - 1 - k = 0 by omega, show k - 1 - k = 0 by omega]
          simp [minZ]
        · rw [show k + 1 - 1 - a = (k - 1 - a) + 1 by omega, minZ, show a + (k - 1 - a + 1) = k by omega]; exact rfl
      clear hca
      generalize minZ Z a (k - 1 - a) = m at *
      generalize Z k = z at *
      by_cases hz : z < m
      · go_wp2
        go_round
        case rel => exact ⟨k + 1, by omega, by omega, by go_num, by rw [hs.out, if_pos hz]⟩
        case measure => simp [intOf]; omega
      · go_wp2
        go_round
        case rel => exact ⟨k + 1, by omega, by omega, by go_num, by rw [hs.out, if_neg hz]⟩
        case measure => simp [intOf]; omega
    · go_wp2
      go_ret2
      exact ⟨ret_two (by rw [show k = b by omega]) rfl, rfl⟩
end Go.Proofs.Ytccfademkgjeiaa

namespace Go.Proofs.Ytccfademkgjeiaa
open Go.RowKit

def fitB (len f n : Int) : Bool := decide (f < 0) || decide (n < 1) || decide (len - f < n)
theorem fitB_true {len f n : Int} (h : fitB len f n = true) : f < 0 ∨ (0 ≤ f ∧ n < 1) ∨ (0 ≤ f ∧ 1 ≤ n ∧ len - f < n) := by
  simp [fitB] at h
  omega
theorem fitB_false {len f n : Int} (h : fitB len f n = false) : 0 ≤ f ∧ 1 ≤ n ∧ n ≤ len - f := by
  simp [fitB] at h
  omega

set_option maxHeartbeats 1000000 in
theorem calFit_bad (p g len cap : Nat) (f n v : Int) (w : World) (hl : len ≤ 100000) (h2 : f ≤ 9223372036854775807) (hc : w.cell? ⟨p, 0, none⟩ = some (.slice (some ⟨g, 0, none⟩) len cap)) (hp : fitB len f n = true) :
    Calls Try.prog 40 #[.pointer (some ⟨p, 0, none⟩), .int .i64 f, .int .i64 n, .int .i64 v] w fun e w' => e = .returned (.tuple #[.int .i64 0, .int .i64 9]) ∧ w' = w := by
  rcases fitB_true hp with h | ⟨h, h'⟩ | ⟨h, h', h''⟩
  all_goals
    clear hp
    go_enter Try.func40, Try.ntmps40
    go_wp2
    go_ret2
    exact ⟨rfl, rfl⟩

set_option maxHeartbeats 1000000 in
theorem refFit_bad (p g len cap : Nat) (f n v : Int) (w : World) (hl : len ≤ 100000) (h2 : f ≤ 9223372036854775807) (hc : w.cell? ⟨p, 0, none⟩ = some (.slice (some ⟨g, 0, none⟩) len cap)) (hp : fitB len f n = true) :
    Calls Try.prog 83 #[.pointer (some ⟨p, 0, none⟩), .int .i64 f, .int .i64 n, .int .i64 v] w fun e w' => e = .returned (.tuple #[.int .i64 0, .int .i64 9]) ∧ w' = w := by
  rcases fitB_true hp with h | ⟨h, h'⟩ | ⟨h, h', h''⟩
  all_goals
    clear hp
    go_enter Try.func83, Try.ntmps83
    go_wp2
    go_ret2
    exact ⟨rfl, rfl⟩

set_option maxHeartbeats 1000000 in
theorem calFit_ok (p g len cap a n : Nat) (v : Int) (Z : Nat → Int) (w : World) (hl : len ≤ 100000) (hc : w.cell? ⟨p, 0, none⟩ = some (.slice (some ⟨g, 0, none⟩) len cap)) (hn : 1 ≤ n) (han : a + n ≤ len)
    (hZ0 : ∀ j, j < len → w.cell? ⟨g, j, none⟩ = some (.int .i64 (Z j))) :
    Calls Try.prog 40 #[.pointer (some ⟨p, 0, none⟩), .int .i64 a, .int .i64 n, .int .i64 v] w fun e w' => ∃ s, e = .returned (.tuple #[.int .i64 s, .int .i64 0]) ∧ IsFit Z len a n v s ∧ w' = w := by
  have hZ : Hid (∀ j, j < len → w.cell? ⟨g, j, none⟩ = some (.int .i64 (Z j))) := hZ0
  clear hZ0
  go_enter Try.func40, Try.ntmps40
  go_wp2
  go_loop [10, 11] (fun x i => ∃ k r : Nat, k ≤ len ∧ i = .int .i64 k ∧ x = .int .i64 r ∧ r ≤ 100000 ∧ Run Z a n v k r) (fun _ i => len - (intOf i).toNat)
  case atStart => exact ⟨a, 0, by omega, rfl, rfl, by omega, Run.start Z a n v (by omega)⟩
  case round =>
    obtain ⟨k, r, hk, rfl, rfl, hr, hrun⟩ := hrel
    have HR : Hid (Run Z a n v k r) := hrun
    have hrn := hrun.2.1
    clear hrun
    by_cases hlt : k < len
    · have hck := hZ.out k hlt
      obtain ⟨z, hz⟩ : ∃ z, z = Z k := ⟨_, rfl⟩
      rw [← hz] at hck
      have HZ : Hid (z = Z k) := hz
      clear hz
      by_cases hlow : z < v
      · go_wp2
        go_round
        case rel => exact ⟨k + 1, 0, by omega, by go_num, rfl, by omega, HR.out.low (by rw [← HZ.out]; exact hlow)⟩
        case measure => simp [intOf]; omega
      · by_cases hd : r + 1 = n
        · have hd' : ((r : Int) + 1 == (n : Int)) = true := by simp; omega
          have HD : Hid (r + 1 = n) := hd
          clear hd
          go_wp2
          go_ret2
          exact ⟨_, rfl, HR.out.done (by rw [← HZ.out]; omega) HD.out hlt, rfl⟩
        · have hd' : ((r : Int) + 1 == (n : Int)) = false := by simp; omega
          go_wp2
          go_round
          case rel => exact ⟨k + 1, r + 1, by omega, by go_num, by go_num, by omega, HR.out.more (by rw [← HZ.out]; omega) (by omega)⟩
          case measure => simp [intOf]; omega
    · have HK : Hid (k = len) := by unfold Hid; omega
      go_wp2
      go_ret2
      exact ⟨_, rfl, Run.none (by have := HR.out; rw [HK.out] at this; exact this), rfl⟩

set_option maxHeartbeats 1000000 in
theorem refFit_ok (p g len cap a n : Nat) (v : Int) (Z : Nat → Int) (w : World) (hl : len ≤ 100000) (hc : w.cell? ⟨p, 0, none⟩ = some (.slice (some ⟨g, 0, none⟩) len cap)) (hn : 1 ≤ n) (han : a + n ≤ len)
    (hZ0 : ∀ j, j < len → w.cell? ⟨g, j, none⟩ = some (.int .i64 (Z j))) :
    Calls Try.prog 83 #[.pointer (some ⟨p, 0, none⟩), .int .i64 a, .int .i64 n, .int .i64 v] w fun e w' => ∃ s, e = .returned (.tuple #[.int .i64 s, .int .i64 0]) ∧ IsFit Z len a n v s ∧ w' = w := by
  have hZ : Hid (∀ j, j < len → w.cell? ⟨g, j, none⟩ = some (.int .i64 (Z j))) := hZ0
  clear hZ0
  go_enter Try.func83, Try.ntmps83
  go_wp2
  go_loop [10] (fun i => ∃ k : Nat, a ≤ k ∧ k + n ≤ len + 1 ∧ i = .int .i64 k ∧ ∀ t, a ≤ t → t < k → ∃ j, t ≤ j ∧ j < t + n ∧ Z j < v) (fun i => len + 1 - (intOf i).toNat)
  case atStart => exact ⟨a, by omega, by omega, rfl, fun t h1 h2 => by omega⟩
  case round =>
    obtain ⟨k, hak, hkn, rfl, hlow⟩ := hrel
    have HL : Hid (∀ t, a ≤ t → t < k → ∃ j, t ≤ j ∧ j < t + n ∧ Z j < v) := hlow
    clear hlow
    by_cases hlt : k + n ≤ len
    · have hm := refMin_ok p g len cap k (k + n) Z w hc hl (by omega) hlt hZ.out
      rw [show ((k + n : Nat) : Int) = (k : Int) + n by omega, show k + n - 1 - k = n - 1 by omega] at hm
      have HM := le_minZ Z k v (n - 1)
      generalize minZ Z k (n - 1) = m at hm HM
      have HMh : Hid (v ≤ m ↔ ∀ j, j ≤ n - 1 → v ≤ Z (k + j)) := HM
      clear HM
      by_cases hv : v ≤ m
      · go_wp2_with (go_at_call 82; refine hm.mono ?_; rintro e w' ⟨rfl, rfl⟩)
        go_ret2
        refine ⟨_, rfl, .inl ⟨k, rfl, hak, hlt, fun j h1 h2 => ?_, HL.out⟩, rfl⟩
        have := HMh.out.1 hv (j - k) (by omega)
        rw [show k + (j - k) = j by omega] at this
        exact this
      · go_wp2_with (go_at_call 82; refine hm.mono ?_; rintro e w' ⟨rfl, rfl⟩)
        go_round
        case rel =>
          refine ⟨k + 1, by omega, by omega, by go_num, fun t h1 h2 => ?_⟩
          by_cases e : t < k
          · exact HL.out t h1 e
          · obtain rfl : t = k := by omega
            have : ¬ ∀ j, j ≤ n - 1 → v ≤ Z (t + j) := fun h => by have := HMh.out.2 h; omega
            rw [Classical.not_forall] at this
            obtain ⟨j, hj⟩ := this
            rw [Classical.not_imp] at hj
            exact ⟨t + j, by omega, by omega, by omega⟩
        case measure => simp [intOf]; omega
    · go_wp2
      go_ret2
      exact ⟨_, rfl, .inr ⟨rfl, fun t h1 h2 => HL.out t h1 (by omega)⟩, rfl⟩
end Go.Proofs.Ytccfademkgjeiaa
