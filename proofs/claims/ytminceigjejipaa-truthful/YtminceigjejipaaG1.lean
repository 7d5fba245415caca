import Derived.Test.YtminceigjejipaaRows
import Derived.WalkKit
import Derived.WalkSpells
import Derived.WalkLawsBesides
import Derived.Deep.QuietTactic
import Derived.BigQuiet
/-
  FRAMES: 'Chg O w w'': w' is w but for new blocks and for what the blocks of O hold. Plain facts on worlds; nothing of the program.
-/
namespace Go.Proofs.Ytminceigjejipaa
open Go.RowKit

/-- w' is w but for new blocks, and for what the blocks of O hold. -/
structure Chg (O : Nat → Prop) (w w' : World) : Prop where
  os : w'.os = w.os
  tape : w'.tape = w.tape
  output : w'.output = w.output
  size : w.heap.size ≤ w'.heap.size
  block : ∀ k, k < w.heap.size → ¬ O k → w'.heap[k]? = w.heap[k]?

theorem Chg.refl (O : Nat → Prop) (w : World) : Chg O w w := ⟨rfl, rfl, rfl, Nat.le_refl _, fun _ _ _ => rfl⟩

theorem Chg.trans {O O' : Nat → Prop} {a b c : World} (h : Chg O a b) (k : Chg O' b c) (hO : ∀ x, x < a.heap.size → O' x → O x) : Chg O a c :=
  ⟨k.os.trans h.os, k.tape.trans h.tape, k.output.trans h.output, Nat.le_trans h.size k.size,
    fun i hi hn => (k.block i (Nat.lt_of_lt_of_le hi h.size) (fun hx => hn (hO i hi hx))).trans (h.block i hi hn)⟩

theorem Chg.mono {O O' : Nat → Prop} {a b : World} (h : Chg O a b) (hO : ∀ x, x < a.heap.size → O x → O' x) : Chg O' a b :=
  ⟨h.os, h.tape, h.output, h.size, fun i hi hn => h.block i hi (fun hx => hn (hO i hi hx))⟩

theorem Chg.of_below {B : Nat} {w w' : World} (h : Below B w w') : Chg (fun k => B ≤ k) w w' := ⟨h.os, h.tape, h.output, h.size, fun k _ hn => h.block k (by omega)⟩

theorem Chg.below {O : Nat → Prop} {B : Nat} {w w' : World} (h : Chg O w w') (hB : B ≤ w.heap.size) (hO : ∀ k, O k → B ≤ k) : Below B w w' :=
  ⟨h.os, h.tape, h.output, h.size, fun k hk => h.block k (by omega) (fun hx => by have := hO k hx; omega)⟩

theorem Chg.alloc {O : Nat → Prop} {a w : World} (h : Chg O a w) (o : Obj) : Chg O a (w.alloc o) :=
  h.trans (O' := fun _ => False) ⟨rfl, rfl, rfl, by simp, fun k hk _ => Below.heap_alloc _ _ _ hk⟩ (fun _ _ hx => hx.elim)

theorem Chg.drew {O : Nat → Prop} {a w : World} (h : Chg O a w) : Chg O a w.drew := ⟨h.os, h.tape, h.output, h.size, h.block⟩

theorem Chg.drewN {O : Nat → Prop} {a w : World} (h : Chg O a w) (n : Nat) : Chg O a (w.drewN n) := ⟨h.os, h.tape, h.output, h.size, h.block⟩

theorem Chg.setCell {O : Nat → Prop} {a w : World} (h : Chg O a w) {p : Addr} (hp : O p.block ∨ a.heap.size ≤ p.block) (u : Value) : Chg O a (w.setCell p u) :=
  h.trans (O' := fun k => k = p.block) ⟨rfl, rfl, rfl, by simp [World.setCell], fun k _ hn => Below.heap_setCell _ _ _ _ hn⟩
    (fun x hx e => by subst e; rcases hp with hp | hp; exact hp; omega)

theorem Chg.grown {O : Nat → Prop} {a w w' : World} {row : Option Nat} (h : Chg O a w) (hg : w.grownBy w' row) (hr : ∀ k, row = some k → O k ∨ a.heap.size ≤ k) : Chg O a w' :=
  h.trans (O' := fun k => some k = row) ⟨hg.os, hg.tape, hg.output, hg.size, fun k hk hn => hg.block k hk hn⟩
    (fun x hx e => by rcases hr x e.symm with hp | hp; exact hp; omega)

theorem Chg.cell {O : Nat → Prop} {w w' : World} (h : Chg O w w') {p : Addr} (hp : p.block < w.heap.size) (hn : ¬ O p.block) : w'.cell? p = w.cell? p := World.cell?_of_block (w := w) (h.block p.block hp hn)

theorem Chg.frozen {O : Nat → Prop} {w w' : World} (h : Chg O w w') {p : Addr} (hp : p.block < w.heap.size) (hn : ¬ O p.block) : w'.frozen? p = w.frozen? p := World.frozen?_of_block (w := w) (h.block p.block hp hn)

theorem ret_bool {a b : Bool} (h : a = b) : Ending.returned (.bool a) = .returned (.bool b) := by rw [h]
theorem ret_int {k : IntKind} {a b : Int} (h : a = b) : Ending.returned (.int k a) = .returned (.int k b) := by rw [h]

end Go.Proofs.Ytminceigjejipaa

namespace Go.Proofs.Ytminceigjejipaa
open Go.RowKit

/-- within -/
def inB (n a b : Int) : Bool := decide (a ≤ n) && decide (n ≤ b)
theorem inB_true {n a b : Int} (h : inB n a b = true) : a ≤ n ∧ n ≤ b := by simpa [inB] using h
theorem inB_false {n a b : Int} (h : inB n a b = false) : n < a ∨ (a ≤ n ∧ b < n) := by
  simp [inB] at h
  omega
set_option maxHeartbeats 400000 in
theorem within_any (n a b : Int) (w : World) :
    Calls Try.prog 72 #[.int .i64 n, .int .i64 a, .int .i64 b] w fun e w' => e = .returned (.bool (inB n a b)) ∧ w' = w := by
  by_cases h1 : a ≤ n
  · by_cases h2 : n ≤ b
    all_goals
      go_enter Try.func72, Try.ntmps72
      go_wp2
      go_ret
      exact ⟨ret_bool (by simp [inB, h1, h2]), rfl⟩
  · go_enter Try.func72, Try.ntmps72
    go_wp2
    go_ret
    exact ⟨ret_bool (by simp [inB]; omega), rfl⟩

/-- pick -/
def pickZ (c n : Int) : Int := if c < 0 then (-(c + 1)) % n else c % n
theorem pickZ_lt (c n : Int) (hn : 0 < n) : 0 ≤ pickZ c n ∧ pickZ c n < n := by
  unfold pickZ
  split
  · exact ⟨Int.emod_nonneg _ (by omega), Int.emod_lt_of_pos _ hn⟩
  · exact ⟨Int.emod_nonneg _ (by omega), Int.emod_lt_of_pos _ hn⟩
end Go.Proofs.Ytminceigjejipaa

/-
  ROWS OF CELLS, AS PLAIN FUNCTIONS: the least of a piece, where a piece fits, what Add makes. Nothing of the program.
-/
namespace Go.Proofs.Ytminceigjejipaa

def pieceB (n f t : Int) : Bool := decide (0 ≤ f) && decide (f < t) && decide (t ≤ n)
theorem pieceB_true {n f t : Int} (h : pieceB n f t = true) : 0 ≤ f ∧ f < t ∧ t ≤ n := by
  simp [pieceB] at h
  omega
theorem pieceB_false {n f t : Int} (h : pieceB n f t = false) : f < 0 ∨ (0 ≤ f ∧ t ≤ f) ∨ (0 ≤ f ∧ f < t ∧ n < t) := by
  simp [pieceB] at h
  omega

def standB (v : Int) : Bool := inB v (-1099511627776) 1099511627776

/-- the least of the cells a .. a + k -/
def minZ (Z : Nat → Int) (a : Nat) : Nat → Int
  | 0 => Z a
  | k + 1 => if Z (a + (k + 1)) < minZ Z a k then Z (a + (k + 1)) else minZ Z a k

theorem le_minZ (Z : Nat → Int) (a : Nat) (v : Int) : ∀ k, v ≤ minZ Z a k ↔ ∀ j, j ≤ k → v ≤ Z (a + j)
  | 0 => by
    constructor
    · intro h j hj
      obtain rfl : j = 0 := by omega
      exact h
    · intro h
      exact h 0 (Nat.le_refl _)
  | k + 1 => by
    have ih := le_minZ Z a v k
    unfold minZ
    constructor
    · intro h j hj
      split at h
      · by_cases e : j = k + 1
        · subst e; exact h
        · exact ih.1 (by omega) j (by omega)
      · by_cases e : j = k + 1
        · subst e; omega
        · exact ih.1 h j (by omega)
    · intro h
      split
      · exact h _ (Nat.le_refl _)
      · exact ih.2 (fun j hj => h j (by omega))

theorem minZ_mem (Z : Nat → Int) (a : Nat) : ∀ k, ∃ j, j ≤ k ∧ minZ Z a k = Z (a + j)
  | 0 => ⟨0, Nat.le_refl _, rfl⟩
  | k + 1 => by
    unfold minZ
    split
    · exact ⟨k + 1, Nat.le_refl _, rfl⟩
    · obtain ⟨j, hj, h⟩ := minZ_mem Z a k
      exact ⟨j, by omega, h⟩

/-- where the first n cells from a on that are v at least begin -/
def IsFit (Z : Nat → Int) (len a n : Nat) (v s : Int) : Prop :=
  (∃ k : Nat, s = k ∧ a ≤ k ∧ k + n ≤ len ∧ (∀ j, k ≤ j → j < k + n → v ≤ Z j) ∧ ∀ t, a ≤ t → t < k → ∃ j, t ≤ j ∧ j < t + n ∧ Z j < v) ∨
  (s = -1 ∧ ∀ t, a ≤ t → t + n ≤ len → ∃ j, t ≤ j ∧ j < t + n ∧ Z j < v)

theorem IsFit.unique {Z : Nat → Int} {len a n : Nat} {v s s' : Int} (h : IsFit Z len a n v s) (h' : IsFit Z len a n v s') : s = s' := by
  rcases h with ⟨k, rfl, h1, h2, h3, h4⟩ | ⟨rfl, h1⟩
  · rcases h' with ⟨k', rfl, g1, g2, g3, g4⟩ | ⟨rfl, g1⟩
    · rcases Nat.lt_trichotomy k k' with hl | rfl | hl
      · obtain ⟨j, a1, a2, a3⟩ := g4 k h1 hl
        have := h3 j a1 a2
        omega
      · rfl
      · obtain ⟨j, a1, a2, a3⟩ := h4 k' g1 hl
        have := g3 j a1 a2
        omega
    · obtain ⟨j, a1, a2, a3⟩ := g1 k h1 h2
      have := h3 j a1 a2
      omega
  · rcases h' with ⟨k', rfl, g1, g2, g3, g4⟩ | ⟨rfl, g1⟩
    · obtain ⟨j, a1, a2, a3⟩ := h1 k' g1 g2
      have := g3 j a1 a2
      omega
    · rfl

/-- a run of r cells that are v at least ends ahead of i, no longer one, none of n cells behind a -/
def Run (Z : Nat → Int) (a n : Nat) (v : Int) (i r : Nat) : Prop :=
  a + r ≤ i ∧ r < n ∧ (∀ j, i - r ≤ j → j < i → v ≤ Z j) ∧ (a < i - r → Z (i - r - 1) < v) ∧ ∀ t, a ≤ t → t + n ≤ i → ∃ j, t ≤ j ∧ j < t + n ∧ Z j < v

theorem Run.start (Z : Nat → Int) (a n : Nat) (v : Int) (hn : 0 < n) : Run Z a n v a 0 := ⟨by omega, hn, fun j h1 h2 => by omega, fun h => by omega, fun t h1 h2 => by omega⟩

theorem Run.low {Z : Nat → Int} {a n : Nat} {v : Int} {i r : Nat} (h : Run Z a n v i r) (hl : Z i < v) : Run Z a n v (i + 1) 0 := by
  obtain ⟨h1, h2, h3, h4, h5⟩ := h
  refine ⟨by omega, by omega, fun j a1 a2 => by omega, fun _ => by simpa using hl, fun t a1 a2 => ?_⟩
  by_cases e : t + n ≤ i
  · exact h5 t a1 e
  · exact ⟨i, by omega, by omega, hl⟩

/-- what a cell that is not low does to a run that stays short -/
theorem Run.more {Z : Nat → Int} {a n : Nat} {v : Int} {i r : Nat} (h : Run Z a n v i r) (hl : v ≤ Z i) (hr : r + 1 < n) : Run Z a n v (i + 1) (r + 1) := by
  obtain ⟨h1, h2, h3, h4, h5⟩ := h
  refine ⟨by omega, hr, fun j a1 a2 => ?_, fun hx => ?_, fun t a1 a2 => ?_⟩
  · by_cases e : j = i
    · subst e; exact hl
    · exact h3 j (by omega) (by omega)
  · rw [show i + 1 - (r + 1) - 1 = i - r - 1 by omega]
    exact h4 (by omega)
  · by_cases e : t + n ≤ i
    · exact h5 t a1 e
    · exact ⟨i - r - 1, by omega, by omega, h4 (by omega)⟩

theorem Run.done {Z : Nat → Int} {len a n : Nat} {v : Int} {i r : Nat} (h : Run Z a n v i r) (hl : v ≤ Z i) (hr : r + 1 = n) (hi : i < len) : IsFit Z len a n v ((i : Int) + 1 - n) := by
  obtain ⟨h1, h2, h3, h4, h5⟩ := h
  refine .inl ⟨i - r, by omega, by omega, by omega, fun j a1 a2 => ?_, fun t a1 a2 => ?_⟩
  · by_cases e : j = i
    · subst e; exact hl
    · exact h3 j a1 (by omega)
  · by_cases e : t + n ≤ i
    · exact h5 t a1 e
    · exact ⟨i - r - 1, by omega, by omega, h4 (by omega)⟩

theorem Run.none {Z : Nat → Int} {len a n : Nat} {v : Int} {r : Nat} (h : Run Z a n v len r) : IsFit Z len a n v (-1) := .inr ⟨rfl, h.2.2.2.2⟩

/-- what Add makes of a row -/
def addZ (Z : Nat → Int) (a b : Nat) (d : Int) : Nat → Int := fun j => if a ≤ j ∧ j < b then Z j + d else Z j
/-- may Add do so? (up to k) -/
def addOk (Z : Nat → Int) (a k : Nat) (d : Int) : Prop := ∀ j, a ≤ j → j < k → standB (Z j + d) = true

theorem standB_true {v : Int} (h : standB v = true) : -1099511627776 ≤ v ∧ v ≤ 1099511627776 := inB_true h
theorem standB_false {v : Int} (h : standB v = false) : v < -1099511627776 ∨ (-1099511627776 ≤ v ∧ 1099511627776 < v) := inB_false h
end Go.Proofs.Ytminceigjejipaa

namespace Go.Proofs.Ytminceigjejipaa
open Go.RowKit

set_option maxHeartbeats 400000 in
theorem canStand_any (v : Int) (w : World) :
    Calls Try.prog 38 #[.int .i64 v] w fun e w' => e = .returned (.bool (standB v)) ∧ w' = w := by
  obtain ⟨r, hr⟩ : ∃ r, r = standB v := ⟨_, rfl⟩
  rw [← hr]
  cases r
  · rcases standB_false hr.symm with h | ⟨h, h'⟩
    · clear hr
      go_enter Try.func38, Try.ntmps38
      go_wp2
      go_ret
      first | exact ⟨rfl, rfl⟩ | exact ⟨ret_bool (by simp; omega), rfl⟩
    · clear hr
      go_enter Try.func38, Try.ntmps38
      go_wp2
      go_ret
      first | exact ⟨rfl, rfl⟩ | exact ⟨ret_bool (by simp; omega), rfl⟩
  · obtain ⟨h, h'⟩ := standB_true hr.symm
    clear hr
    go_enter Try.func38, Try.ntmps38
    go_wp2
    go_ret
    first | exact ⟨rfl, rfl⟩ | exact ⟨ret_bool (by simp; omega), rfl⟩

set_option maxHeartbeats 400000 in
theorem hasPiece_any (p g n cap : Nat) (f t : Int) (w : World) (hc : w.cell? ⟨p, 0, none⟩ = some (.slice (some ⟨g, 0, none⟩) n cap)) :
    Calls Try.prog 40 #[.pointer (some ⟨p, 0, none⟩), .int .i64 f, .int .i64 t] w fun e w' => e = .returned (.bool (pieceB n f t)) ∧ w' = w := by
  obtain ⟨r, hr⟩ : ∃ r, r = pieceB n f t := ⟨_, rfl⟩
  rw [← hr]
  cases r
  · rcases pieceB_false hr.symm with h | ⟨h, h'⟩ | ⟨h, h', h''⟩
    all_goals
      clear hr
      go_enter Try.func40, Try.ntmps40
      go_wp2
      go_ret
      first | exact ⟨rfl, rfl⟩ | exact ⟨ret_bool (by simp; omega), rfl⟩
  · obtain ⟨h, h', h''⟩ := pieceB_true hr.symm
    clear hr
    go_enter Try.func40, Try.ntmps40
    go_wp2
    go_ret
    first | exact ⟨rfl, rfl⟩ | exact ⟨ret_bool (by simp; omega), rfl⟩

end Go.Proofs.Ytminceigjejipaa
