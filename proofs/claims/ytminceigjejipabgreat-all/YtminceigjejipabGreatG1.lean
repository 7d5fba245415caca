import Derived.Test.YtminceigjejipabGreatRows
import Derived.WalkKit
import Derived.WalkSpells
import Derived.WalkLawsBesides
import Derived.Deep.QuietTactic
import Derived.BigQuiet
import Derived.ProofKit
import Derived.SizedLaws
import Derived.Deep.Slices
/-
  FRAMES: 'Chg O w w'': w' is w but for new blocks and for what the blocks of O hold. Plain facts on worlds; nothing of the program.
-/
namespace Go.Proofs.YtminceigjejipabGreat
open Go.RowKit

/-- w' is w but for new blocks, and for what the blocks of O hold. -/
structure Chg (O : Nat → Prop) (w w' : World) : Prop where
  os : w'.os = w.os
  tape : w'.tape = w.tape
  output : w'.output = w.output
  size : w.heap.size ≤ w'.heap.size
  block : ∀ k, k < w.heap.size → ¬ O k → w'.heap[k]? = w.heap[k]?

theorem Chg.refl (O : Nat → Prop) (w : World) : Chg O w w := ⟨rfl, rfl, rfl, Nat.le_refl _, fun _ _ _ => rfl⟩

theorem Chg.trans {O O' : Nat → Prop} {a b c : World} (h : Chg O a b) (k : Chg O' b c) (hO : ∀ x, x < a.heap.size → O' x → O x) : Chg O a c :=
  ⟨k.os.trans h.os, k.tape.trans h.tape, k.output.trans h.output, Nat.le_trans h.size k.size,
    fun i hi hn => (k.block i (Nat.lt_of_lt_of_le hi h.size) (fun hx => hn (hO i hi hx))).trans (h.block i hi hn)⟩

theorem Chg.mono {O O' : Nat → Prop} {a b : World} (h : Chg O a b) (hO : ∀ x, x < a.heap.size → O x → O' x) : Chg O' a b :=
  ⟨h.os, h.tape, h.output, h.size, fun i hi hn => h.block i hi (fun hx => hn (hO i hi hx))⟩

theorem Chg.of_below {B : Nat} {w w' : World} (h : Below B w w') : Chg (fun k => B ≤ k) w w' := ⟨h.os, h.tape, h.output, h.size, fun k _ hn => h.block k (by omega)⟩

theorem Chg.below {O : Nat → Prop} {B : Nat} {w w' : World} (h : Chg O w w') (hB : B ≤ w.heap.size) (hO : ∀ k, O k → B ≤ k) : Below B w w' :=
  ⟨h.os, h.tape, h.output, h.size, fun k hk => h.block k (by omega) (fun hx => by have := hO k hx; omega)⟩

theorem Chg.alloc {O : Nat → Prop} {a w : World} (h : Chg O a w) (o : Obj) : Chg O a (w.alloc o) :=
  h.trans (O' := fun _ => False) ⟨rfl, rfl, rfl, by simp, fun k hk _ => Below.heap_alloc _ _ _ hk⟩ (fun _ _ hx => hx.elim)

theorem Chg.drew {O : Nat → Prop} {a w : World} (h : Chg O a w) : Chg O a w.drew := ⟨h.os, h.tape, h.output, h.size, h.block⟩

theorem Chg.drewN {O : Nat → Prop} {a w : World} (h : Chg O a w) (n : Nat) : Chg O a (w.drewN n) := ⟨h.os, h.tape, h.output, h.size, h.block⟩

theorem Chg.setCell {O : Nat → Prop} {a w : World} (h : Chg O a w) {p : Addr} (hp : O p.block ∨ a.heap.size ≤ p.block) (u : Value) : Chg O a (w.setCell p u) :=
  h.trans (O' := fun k => k = p.block) ⟨rfl, rfl, rfl, by simp [World.setCell], fun k _ hn => Below.heap_setCell _ _ _ _ hn⟩
    (fun x hx e => by subst e; rcases hp with hp | hp; exact hp; omega)

theorem Chg.grown {O : Nat → Prop} {a w w' : World} {row : Option Nat} (h : Chg O a w) (hg : w.grownBy w' row) (hr : ∀ k, row = some k → O k ∨ a.heap.size ≤ k) : Chg O a w' :=
  h.trans (O' := fun k => some k = row) ⟨hg.os, hg.tape, hg.output, hg.size, fun k hk hn => hg.block k hk hn⟩
    (fun x hx e => by rcases hr x e.symm with hp | hp; exact hp; omega)

theorem Chg.cell {O : Nat → Prop} {w w' : World} (h : Chg O w w') {p : Addr} (hp : p.block < w.heap.size) (hn : ¬ O p.block) : w'.cell? p = w.cell? p := World.cell?_of_block (w := w) (h.block p.block hp hn)

theorem Chg.frozen {O : Nat → Prop} {w w' : World} (h : Chg O w w') {p : Addr} (hp : p.block < w.heap.size) (hn : ¬ O p.block) : w'.frozen? p = w.frozen? p := World.frozen?_of_block (w := w) (h.block p.block hp hn)

theorem ret_bool {a b : Bool} (h : a = b) : Ending.returned (.bool a) = .returned (.bool b) := by rw [h]
theorem ret_int {k : IntKind} {a b : Int} (h : a = b) : Ending.returned (.int k a) = .returned (.int k b) := by rw [h]

end Go.Proofs.YtminceigjejipabGreat

namespace Go.Proofs.YtminceigjejipabGreat
open Go.RowKit

/-- within -/
def inB (n a b : Int) : Bool := decide (a ≤ n) && decide (n ≤ b)
theorem inB_true {n a b : Int} (h : inB n a b = true) : a ≤ n ∧ n ≤ b := by simpa [inB] using h
theorem inB_false {n a b : Int} (h : inB n a b = false) : n < a ∨ (a ≤ n ∧ b < n) := by
  simp [inB] at h
  omega
set_option maxHeartbeats 400000 in
theorem within_any (n a b : Int) (w : World) :
    Calls Tryz.prog 30 #[.int .i64 n, .int .i64 a, .int .i64 b] w fun e w' => e = .returned (.bool (inB n a b)) ∧ w' = w := by
  by_cases h1 : a ≤ n
  · by_cases h2 : n ≤ b
    all_goals
      go_enter Tryz.func30, Tryz.ntmps30
      go_wp2
      go_ret
      exact ⟨ret_bool (by simp [inB, h1, h2]), rfl⟩
  · go_enter Tryz.func30, Tryz.ntmps30
    go_wp2
    go_ret
    exact ⟨ret_bool (by simp [inB]; omega), rfl⟩

/-- pick -/
def pickZ (c n : Int) : Int := if c < 0 then (-(c + 1)) % n else c % n
theorem pickZ_lt (c n : Int) (hn : 0 < n) : 0 ≤ pickZ c n ∧ pickZ c n < n := by
  unfold pickZ
  split
  · exact ⟨Int.emod_nonneg _ (by omega), Int.emod_lt_of_pos _ hn⟩
  · exact ⟨Int.emod_nonneg _ (by omega), Int.emod_lt_of_pos _ hn⟩
set_option maxHeartbeats 400000 in
theorem pick_any (c n : Int) (w : World) (h1 : -9223372036854775808 ≤ c) (h2 : c ≤ 9223372036854775807) (hn : 0 < n) :
    Calls Tryz.prog 10 #[.int .i64 c, .int .i64 n] w fun e w' => e = .returned (.int .i64 (pickZ c n)) ∧ w' = w := by
  by_cases h : c < 0
  · go_enter Tryz.func10, Tryz.ntmps10
    go_wp2
    go_ret
    exact ⟨ret_int (by rw [pickZ, if_pos h, ← Int.neg_tmod, Int.tmod_eq_emod_of_nonneg (by omega)]), rfl⟩
  · go_enter Tryz.func10, Tryz.ntmps10
    go_wp2
    go_ret
    exact ⟨ret_int (by rw [pickZ, if_neg (by omega)]), rfl⟩

end Go.Proofs.YtminceigjejipabGreat

/-
  ROWS OF CELLS, AS PLAIN FUNCTIONS: the least of a piece, where a piece fits, what Add makes. Nothing of the program.
-/
namespace Go.Proofs.YtminceigjejipabGreat

def pieceB (n f t : Int) : Bool := decide (0 ≤ f) && decide (f < t) && decide (t ≤ n)
theorem pieceB_true {n f t : Int} (h : pieceB n f t = true) : 0 ≤ f ∧ f < t ∧ t ≤ n := by
  simp [pieceB] at h
  omega
theorem pieceB_false {n f t : Int} (h : pieceB n f t = false) : f < 0 ∨ (0 ≤ f ∧ t ≤ f) ∨ (0 ≤ f ∧ f < t ∧ n < t) := by
  simp [pieceB] at h
  omega

def standB (v : Int) : Bool := inB v (-1099511627776) 1099511627776

/-- the least of the cells a .. a + k -/
def minZ (Z : Nat → Int) (a : Nat) : Nat → Int
  | 0 => Z a
  | k + 1 => if Z (a + (k + 1)) < minZ Z a k then Z (a + (k + 1)) else minZ Z a k

theorem le_minZ (Z : Nat → Int) (a : Nat) (v : Int) : ∀ k, v ≤ minZ Z a k ↔ ∀ j, j ≤ k → v ≤ Z (a + j)
  | 0 => by
    constructor
    · intro h j hj
      obtain rfl : j = 0 := by omega
      exact h
    · intro h
      exact h 0 (Nat.le_refl _)
  | k + 1 => by
    have ih := le_minZ Z a v k
    unfold minZ
    constructor
    · intro h j hj
      split at h
      · by_cases e : j = k + 1
        · subst e; exact h
        · exact ih.1 (by omega) j (by omega)
      · by_cases e : j = k + 1
        · subst e; omega
        · exact ih.1 h j (by omega)
    · intro h
      split
      · exact h _ (Nat.le_refl _)
      · exact ih.2 (fun j hj => h j (by omega))

theorem minZ_mem (Z : Nat → Int) (a : Nat) : ∀ k, ∃ j, j ≤ k ∧ minZ Z a k = Z (a + j)
  | 0 => ⟨0, Nat.le_refl _, rfl⟩
  | k + 1 => by
    unfold minZ
    split
    · exact ⟨k + 1, Nat.le_refl _, rfl⟩
    · obtain ⟨j, hj, h⟩ := minZ_mem Z a k
      exact ⟨j, by omega, h⟩

/-- where the first n cells from a on that are v at least begin -/
def IsFit (Z : Nat → Int) (len a n : Nat) (v s : Int) : Prop :=
  (∃ k : Nat, s = k ∧ a ≤ k ∧ k + n ≤ len ∧ (∀ j, k ≤ j → j < k + n → v ≤ Z j) ∧ ∀ t, a ≤ t → t < k → ∃ j, t ≤ j ∧ j < t + n ∧ Z j < v) ∨
  (s = -1 ∧ ∀ t, a ≤ t → t + n ≤ len → ∃ j, t ≤ j ∧ j < t + n ∧ Z j < v)

theorem IsFit.unique {Z : Nat → Int} {len a n : Nat} {v s s' : Int} (h : IsFit Z len a n v s) (h' : IsFit Z len a n v s') : s = s' := by
  rcases h with ⟨k, rfl, h1, h2, h3, h4⟩ | ⟨rfl, h1⟩
  · rcases h' with ⟨k', rfl, g1, g2, g3, g4⟩ | ⟨rfl, g1⟩
    · rcases Nat.lt_trichotomy k k' with hl | rfl | hl
      · obtain ⟨j, a1, a2, a3⟩ := g4 k h1 hl
        have := h3 j a1 a2
        omega
      · rfl
      · obtain ⟨j, a1, a2, a3⟩ := h4 k' g1 hl
        have := g3 j a1 a2
        omega
    · obtain ⟨j, a1, a2, a3⟩ := g1 k h1 h2
      have := h3 j a1 a2
      omega
  · rcases h' with ⟨k', rfl, g1, g2, g3, g4⟩ | ⟨rfl, g1⟩
    · obtain ⟨j, a1, a2, a3⟩ := h1 k' g1 g2
      have := g3 j a1 a2
      omega
    · rfl

/-- a run of r cells that are v at least ends ahead of i, no longer one, none of n cells behind a -/
def Run (Z : Nat → Int) (a n : Nat) (v : Int) (i r : Nat) : Prop :=
  a + r ≤ i ∧ r < n ∧ (∀ j, i - r ≤ j → j < i → v ≤ Z j) ∧ (a < i - r → Z (i - r - 1) < v) ∧ ∀ t, a ≤ t → t + n ≤ i → ∃ j, t ≤ j ∧ j < t + n ∧ Z j < v

theorem Run.start (Z : Nat → Int) (a n : Nat) (v : Int) (hn : 0 < n) : Run Z a n v a 0 := ⟨by omega, hn, fun j h1 h2 => by omega, fun h => by omega, fun t h1 h2 => by omega⟩

theorem Run.low {Z : Nat → Int} {a n : Nat} {v : Int} {i r : Nat} (h : Run Z a n v i r) (hl : Z i < v) : Run Z a n v (i + 1) 0 := by
  obtain ⟨h1, h2, h3, h4, h5⟩ := h
  refine ⟨by omega, by omega, fun j a1 a2 => by omega, fun _ => by simpa using hl, fun t a1 a2 => ?_⟩
  by_cases e : t + n ≤ i
  · exact h5 t a1 e
  · exact ⟨i, by omega, by omega, hl⟩

/-- what a cell that is not low does to a run that stays short -/
theorem Run.more {Z : Nat → Int} {a n : Nat} {v : Int} {i r : Nat} (h : Run Z a n v i r) (hl : v ≤ Z i) (hr : r + 1 < n) : Run Z a n v (i + 1) (r + 1) := by
  obtain ⟨h1, h2, h3, h4, h5⟩ := h
  refine ⟨by omega, hr, fun j a1 a2 => ?_, fun hx => ?_, fun t a1 a2 => ?_⟩
  · by_cases e : j = i
    · subst e; exact hl
    · exact h3 j (by omega) (by omega)
  · rw [show i + 1 - (r + 1) - 1 = i - r - 1 by omega]
    exact h4 (by omega)
  · by_cases e : t + n ≤ i
    · exact h5 t a1 e
    · exact ⟨i - r - 1, by omega, by omega, h4 (by omega)⟩

theorem Run.done {Z : Nat → Int} {len a n : Nat} {v : Int} {i r : Nat} (h : Run Z a n v i r) (hl : v ≤ Z i) (hr : r + 1 = n) (hi : i < len) : IsFit Z len a n v ((i : Int) + 1 - n) := by
  obtain ⟨h1, h2, h3, h4, h5⟩ := h
  refine .inl ⟨i - r, by omega, by omega, by omega, fun j a1 a2 => ?_, fun t a1 a2 => ?_⟩
  · by_cases e : j = i
    · subst e; exact hl
    · exact h3 j a1 (by omega)
  · by_cases e : t + n ≤ i
    · exact h5 t a1 e
    · exact ⟨i - r - 1, by omega, by omega, h4 (by omega)⟩

theorem Run.none {Z : Nat → Int} {len a n : Nat} {v : Int} {r : Nat} (h : Run Z a n v len r) : IsFit Z len a n v (-1) := .inr ⟨rfl, h.2.2.2.2⟩

/-- what Add makes of a row -/
def addZ (Z : Nat → Int) (a b : Nat) (d : Int) : Nat → Int := fun j => if a ≤ j ∧ j < b then Z j + d else Z j
/-- may Add do so? (up to k) -/
def addOk (Z : Nat → Int) (a k : Nat) (d : Int) : Prop := ∀ j, a ≤ j → j < k → standB (Z j + d) = true

theorem standB_true {v : Int} (h : standB v = true) : -1099511627776 ≤ v ∧ v ≤ 1099511627776 := inB_true h
theorem standB_false {v : Int} (h : standB v = false) : v < -1099511627776 ∨ (-1099511627776 ≤ v ∧ 1099511627776 < v) := inB_false h
end Go.Proofs.YtminceigjejipabGreat

namespace Go.Proofs.YtminceigjejipabGreat
open Go.RowKit

theorem contains_snoc (l : List Int) (a x : Int) : (l ++ [a]).contains x = (l.contains x || (a == x)) := by
  simp
  rw [Bool.eq_iff_iff]; simp
  constructor <;> (intro h; rcases h with h | h <;> first | exact .inl h | exact .inr h.symm)

set_option maxHeartbeats 400000 in
theorem among_any (b n cap : Nat) (zs : List Int) (x : Int) (w : World) (hn : zs.length = n) (hs : n ≤ 1000)
    (hcells : ∀ j, j < n → w.cell? ⟨b, j, none⟩ = some (.int .i64 (zs.getD j 0))) :
    Calls Tryz.prog 5 #[.slice (some ⟨b, 0, none⟩) n cap, .int .i64 x] w fun e w' => e = .returned (.bool (zs.contains x)) ∧ w' = w := by
  go_enter Tryz.func5, Tryz.ntmps5
  go_wp2
  go_loop [5] (fun i => ∃ k : Nat, k ≤ n ∧ i = .int .i64 k ∧ (zs.take k).contains x = false) (fun i => n - (intOf i).toNat)
  case atStart => exact ⟨0, Nat.zero_le _, rfl, by simp⟩
  case round =>
    obtain ⟨k, hk, rfl, hc⟩ := hrel
    have HC : Hid ((zs.take k).contains x = false) := hc
    clear hc
    by_cases hlt : k < n
    · have hcell := hcells k hlt
      have hts : zs.take (k + 1) = zs.take k ++ [zs.getD k 0] := by
        rw [List.take_succ_eq_append_getElem (by omega)]
        simp [List.getD, hn, hlt]
      have HT := contains_snoc (zs.take k) (zs.getD k 0) x
      rw [← hts, HC.out] at HT
      have HT' : Hid ((zs.take (k + 1)).contains x = (false || zs.getD k 0 == x)) := HT
      clear HT hts
      obtain ⟨z, hz⟩ : ∃ z, z = zs.getD k 0 := ⟨_, rfl⟩
      rw [← hz] at hcell HT'
      clear hz hcells
      cases hx : z == x
      · go_wp2
        go_round
        case rel => exact ⟨k + 1, by omega, by go_num, by rw [HT'.out, hx]; rfl⟩
        case measure => simp [intOf]; omega
      · go_wp2
        go_ret
        refine ⟨ret_bool ?_, rfl⟩
        have h1 := HT'.out
        rw [hx] at h1
        have : x ∈ zs.take (k + 1) := by simpa using h1
        simpa using List.mem_of_mem_take this
    · go_wp2
      go_ret
      refine ⟨ret_bool ?_, rfl⟩
      have h1 := HC.out
      rw [List.take_of_length_le (by omega)] at h1
      simpa using h1.symm
end Go.Proofs.YtminceigjejipabGreat

namespace Go.Proofs.YtminceigjejipabGreat
open Go.RowKit

def opAt (S : Nat → Int) (i : Nat) : Value := .agg #[.int .i64 (S (i * 10)), .int .i64 (S (i * 10 + 1)), .int .i64 (S (i * 10 + 2)), .int .i64 (S (i * 10 + 3)), .int .i64 (S (i * 10 + 4)), .int .i64 (S (i * 10 + 5)), .int .i64 (S (i * 10 + 6)), .int .i64 (S (i * 10 + 7)), .int .i64 (S (i * 10 + 8)), .int .i64 (S (i * 10 + 9))]

/-- what 'plays' asks of a step, of looks, and of what holds between -/
structure Plays (B slen : Nat) (S : Nat → Int) (play hold : List Int) (w : World) (Inv : Nat → (Nat → Prop) → World → Prop) : Prop where
  own : ∀ i O w1, Inv i O w1 → ∀ k, O k → B ≤ k ∧ k < w1.heap.size
  frame : ∀ i O w1 w2, Inv i O w1 → Chg (fun k => ¬ O k) w1 w2 → Inv i O w2
  skip : ∀ i O w1, Inv i O w1 → Inv (i + 1) O w1
  step : ∀ i, i < slen → play.contains (S (i * 10)) = true → ∀ O w1, Inv i O w1 → Below B w w1 →
    Calls Tryz.prog 6 #[.pointer (some ⟨B, 0, none⟩), opAt S i] w1 fun e w2 => ∃ b O', e = .returned (.bool b) ∧ Inv (i + 1) O' w2 ∧ Chg O w1 w2 ∧
      (b = false → hold.contains (S (i * 10)) = false ∧ S (i * 10) ≠ 2 ∧ S (i * 10) ≠ 6)
  looks : ∀ i O w1, Inv i O w1 → Calls Tryz.prog 7 #[.pointer (some ⟨B, 0, none⟩)] w1 fun e w2 => e = .returned (.bool true) ∧ Chg (fun _ => False) w1 w2

set_option maxHeartbeats 2000000 in
theorem plays_none (hv pv : Value) (ca ao : Option Addr) (cl cc scap : Nat) (w : World) :
    Calls Tryz.prog 4 #[.slice ca cl cc, .slice ao 0 scap, pv, hv] w fun e w' => e = .returned (.bool true) ∧ Below w.heap.size w w' := by
  go_enter Tryz.func4, Tryz.ntmps4
  go_wp2
  go_loopw [10] (fun i wr => i = .int .i64 0 ∧ Below w.heap.size w wr) (fun _ _ => 0)
  case atStart => exact ⟨rfl, (Below.refl _ _).alloc (Nat.le_refl _) _⟩
  case round =>
    obtain ⟨rfl, hbel⟩ := hrel
    go_wp2
    go_ret
    exact ⟨rfl, hbel⟩

set_option maxRecDepth 100000 in
set_option maxHeartbeats 2000000 in
theorem plays_some (ca : Option Addr) (cl cc bp bh np nh cp ch sb soff slen scap : Nat) (S : Nat → Int) (play hold : List Int) (w : World) (Inv : Nat → (Nat → Prop) → World → Prop)
    (hP : Plays w.heap.size slen S play hold w Inv)
    (hsl : slen < 1000000000000000) (hsb : sb < w.heap.size) (hS0 : ∀ t, t < slen * 10 → w.cell? ⟨sb, soff + t, none⟩ = some (.int .i64 (S t)))
    (hbp : bp < w.heap.size) (hbh : bh < w.heap.size) (hnp : play.length = np) (hnh : hold.length = nh) (hnp' : np ≤ 1000) (hnh' : nh ≤ 1000)
    (hp0 : ∀ j, j < np → w.cell? ⟨bp, j, none⟩ = some (.int .i64 (play.getD j 0))) (hh0 : ∀ j, j < nh → w.cell? ⟨bh, j, none⟩ = some (.int .i64 (hold.getD j 0)))
    (O0 : Nat → Prop) (hI : Inv 0 O0 (w.alloc (.cells #[.slice ca cl cc, .slice none 0 0, .slice none 0 0, .slice none 0 0, .slice none 0 0] 33))) :
    Calls Tryz.prog 4 #[.slice ca cl cc, .slice (some ⟨sb, soff, none⟩) slen scap, .slice (some ⟨bp, 0, none⟩) np cp, .slice (some ⟨bh, 0, none⟩) nh ch] w fun e w' => e = .returned (.bool true) ∧ Below w.heap.size w w' := by
  have hS : Hid (∀ t, t < slen * 10 → w.cell? ⟨sb, soff + t, none⟩ = some (.int .i64 (S t))) := hS0
  have hp : Hid (∀ j, j < np → w.cell? ⟨bp, j, none⟩ = some (.int .i64 (play.getD j 0))) := hp0
  have hh : Hid (∀ j, j < nh → w.cell? ⟨bh, j, none⟩ = some (.int .i64 (hold.getD j 0))) := hh0
  have HI : Hid (Inv 0 O0 (w.alloc (.cells #[.slice ca cl cc, .slice none 0 0, .slice none 0 0, .slice none 0 0, .slice none 0 0] 33))) := hI
  have HP : Hid (Plays w.heap.size slen S play hold w Inv) := hP
  have hnpl : Hid (play.length = np) := hnp
  have hnhl : Hid (hold.length = nh) := hnh
  clear hS0 hp0 hh0 hI hP hnp hnh
  go_enter Tryz.func4, Tryz.ntmps4
  go_wp2
  go_loopw [10] (fun i wr => ∃ (k : Nat) (O : Nat → Prop), k ≤ slen ∧ i = .int .i64 k ∧ Inv k O wr ∧ Below w.heap.size w wr) (fun i _ => slen - (intOf i).toNat)
  case atStart => exact ⟨0, O0, Nat.zero_le _, rfl, HI.out, (Below.refl _ _).alloc (Nat.le_refl _) _⟩
  case round =>
    obtain ⟨k, O, hk, rfl, hinv, hbel⟩ := hrel
    have HInv : Hid (Inv k O wr) := hinv
    clear hinv HI
    by_cases hlt : k < slen
    rotate_left
    · go_wp2
      go_ret
      exact ⟨rfl, hbel⟩
    have hszr := hbel.size
    have c0 : wr.cell? ⟨sb, soff + k * 10, none⟩ = some (.int .i64 (S (k * 10))) := by rw [hbel.cell (by exact hsb)]; simpa [Nat.add_assoc] using hS.out (k * 10) (by omega)
    have c1 : wr.cell? ⟨sb, soff + k * 10 + 1, none⟩ = some (.int .i64 (S (k * 10 + 1))) := by rw [hbel.cell (by exact hsb)]; simpa [Nat.add_assoc] using hS.out (k * 10 + 1) (by omega)
    have c2 : wr.cell? ⟨sb, soff + k * 10 + 2, none⟩ = some (.int .i64 (S (k * 10 + 2))) := by rw [hbel.cell (by exact hsb)]; simpa [Nat.add_assoc] using hS.out (k * 10 + 2) (by omega)
    have c3 : wr.cell? ⟨sb, soff + k * 10 + 3, none⟩ = some (.int .i64 (S (k * 10 + 3))) := by rw [hbel.cell (by exact hsb)]; simpa [Nat.add_assoc] using hS.out (k * 10 + 3) (by omega)
    have c4 : wr.cell? ⟨sb, soff + k * 10 + 4, none⟩ = some (.int .i64 (S (k * 10 + 4))) := by rw [hbel.cell (by exact hsb)]; simpa [Nat.add_assoc] using hS.out (k * 10 + 4) (by omega)
    have c5 : wr.cell? ⟨sb, soff + k * 10 + 5, none⟩ = some (.int .i64 (S (k * 10 + 5))) := by rw [hbel.cell (by exact hsb)]; simpa [Nat.add_assoc] using hS.out (k * 10 + 5) (by omega)
    have c6 : wr.cell? ⟨sb, soff + k * 10 + 6, none⟩ = some (.int .i64 (S (k * 10 + 6))) := by rw [hbel.cell (by exact hsb)]; simpa [Nat.add_assoc] using hS.out (k * 10 + 6) (by omega)
    have c7 : wr.cell? ⟨sb, soff + k * 10 + 7, none⟩ = some (.int .i64 (S (k * 10 + 7))) := by rw [hbel.cell (by exact hsb)]; simpa [Nat.add_assoc] using hS.out (k * 10 + 7) (by omega)
    have c8 : wr.cell? ⟨sb, soff + k * 10 + 8, none⟩ = some (.int .i64 (S (k * 10 + 8))) := by rw [hbel.cell (by exact hsb)]; simpa [Nat.add_assoc] using hS.out (k * 10 + 8) (by omega)
    have c9 : wr.cell? ⟨sb, soff + k * 10 + 9, none⟩ = some (.int .i64 (S (k * 10 + 9))) := by rw [hbel.cell (by exact hsb)]; simpa [Nat.add_assoc] using hS.out (k * 10 + 9) (by omega)
    have HO := HP.out.own k O wr HInv.out
    have HOh : Hid (∀ k, O k → w.heap.size ≤ k ∧ k < wr.heap.size) := HO
    clear HO
    have hpr : Hid (∀ (o : Obj) j, j < np → (wr.alloc o).cell? ⟨bp, j, none⟩ = some (.int .i64 (play.getD j 0))) := fun o j hj => by
      rw [World.cell?_alloc_lt _ _ _ (by show bp < _; omega), hbel.cell (by exact hbp)]; exact hp.out j hj
    have hmx : (k : Int) < 144115188075855872 := by omega
    have hmx' : decide ((k : Int) < 144115188075855872) = true := by simpa using hmx
    go_wp2_with fail
    refine (among_any bp np cp play (S (k * 10)) _ hnpl.out hnp' (hpr.out _)).mono ?_
    rintro e w1 ⟨rfl, rfl⟩
    clear hmx hmx'
    obtain ⟨kz, hkz⟩ : ∃ kz, kz = S (k * 10) := ⟨_, rfl⟩
    rw [← hkz] at c0 ⊢
    have HK : Hid (kz = S (k * 10)) := hkz
    clear hkz
    have hfr : Hid (∀ o, Inv k O (wr.alloc o)) := fun o => HP.out.frame _ _ _ _ HInv.out ((Chg.refl _ _).alloc _)
    have hbal : Hid (∀ o, Below w.heap.size w (wr.alloc o)) := fun o => hbel.alloc (by omega) _
    cases hin : play.contains kz
    · go_wp2
      go_roundw
      case rel => exact ⟨k + 1, O, by omega, by go_num, HP.out.skip _ _ _ (hfr.out _), hbal.out _⟩
      case measure => simp [intOf]; omega
    · go_wp2_with fail
      have hst := HP.out.step k hlt (by rw [← HK.out]; exact hin) O _ (hfr.out (.cells #[.int .i64 kz, .int .i64 (S (k * 10 + 1)), .int .i64 (S (k * 10 + 2)), .int .i64 (S (k * 10 + 3)), .int .i64 (S (k * 10 + 4)), .int .i64 (S (k * 10 + 5)), .int .i64 (S (k * 10 + 6)), .int .i64 (S (k * 10 + 7)), .int .i64 (S (k * 10 + 8)), .int .i64 (S (k * 10 + 9))] 37)) (hbal.out _)
      simp only [opAt, ← HK.out] at hst
      refine hst.mono ?_
      clear hst
      rintro e w2 ⟨b, O', rfl, hinv2, hchg, hb⟩
      have k0 : w2.cell? ⟨wr.heap.size, 0, none⟩ = some (.int .i64 kz) := by
        rw [hchg.cell (by simp) (fun h => by have := (HOh.out _ h).2; simp at this)]; simp
      have HI2 : Hid (Inv (k + 1) O' w2) := hinv2
      have HC2 := hchg.below (B := w.heap.size) (by simp; omega) (fun k h => (HOh.out k h).1)
      have HB : Hid (b = false → hold.contains kz = false ∧ kz ≠ 2 ∧ kz ≠ 6) := hb
      have hbel2 := (hbal.out _).trans HC2
      have hhr : Hid (∀ j, j < nh → w2.cell? ⟨bh, j, none⟩ = some (.int .i64 (hold.getD j 0))) := fun j hj => by rw [hbel2.cell (by exact hbh)]; exact hh.out j hj
      clear hb HC2 hchg hinv2 c0 c1 c2 c3 c4 c5 c6 c7 c8 c9
      go_wp2_with fail
      refine (among_any bh nh ch hold kz _ hnhl.out hnh' hhr.out).mono ?_
      rintro e w3 ⟨rfl, hw3⟩
      subst hw3
      cases b
      · obtain ⟨g1, g2, g3⟩ := HB.out rfl
        have g2' : (kz == 2) = false := by simpa using g2
        have g3' : (kz == 6) = false := by simpa using g3
        rw [g1]
        clear g1 g2 g3 HB
        go_wp2_with fail
        refine (HP.out.looks (k + 1) O' _ HI2.out).mono ?_
        rintro e w4 ⟨rfl, hq⟩
        go_wp2
        go_roundw
        case rel => exact ⟨k + 1, O', by omega, by go_num, HP.out.frame _ _ _ _ HI2.out (hq.mono (fun _ _ h => h.elim)), hbel2.trans (hq.below hbel2.size (fun _ h => h.elim))⟩
        case measure => simp [intOf]; omega
      · clear HB
        generalize hold.contains kz = hb'
        go_wp2_with fail
        refine (HP.out.looks (k + 1) O' _ HI2.out).mono ?_
        rintro e w4 ⟨rfl, hq⟩
        go_wp2
        go_roundw
        case rel => exact ⟨k + 1, O', by omega, by go_num, HP.out.frame _ _ _ _ HI2.out (hq.mono (fun _ _ h => h.elim)), hbel2.trans (hq.below hbel2.size (fun _ h => h.elim))⟩
        case measure => simp [intOf]; omega
end Go.Proofs.YtminceigjejipabGreat

namespace Go.Proofs.YtminceigjejipabGreat
open Go.ChangeShapes Go.WideShapes Go.ChangeAt Go.RowKit Go.Deep

theorem head_take {cs : List Value} {o : Nat} {v : Value} (h : (cs.drop o).take 1 = [v]) : cs[o]? = some v := by
  have : ((cs.drop o).take 1)[0]? = some v := by rw [h]; rfl
  simpa using this

def IsI64 (z : Int) : Prop := -9223372036854775808 ≤ z ∧ z ≤ 9223372036854775807
theorem isI64_wf {z : Int} (h : (Lit.int .i64 z).wf = true) : IsI64 z := by simpa [Lit.wf, IntKind.min, IntKind.max, IntKind.signed, IntKind.bits, IsI64] using h

/-- what the walks want of a slice of structs of n ints -/
def IntRows (W : World) (n : Nat) (ao : Option Addr) (len : Nat) : Prop :=
  len = 0 ∨ ∃ (b off : Nat) (Z : Nat → Int), 0 < len ∧ ao = some ⟨b, off, none⟩ ∧ b < W.heap.size ∧ (∀ t, t < len * n → W.cell? ⟨b, off + t, none⟩ = some (.int .i64 (Z t))) ∧ ∀ t, t < len * n → IsI64 (Z t)

section
variable {H : Type} {enc : TypeId × Value → H} {P : Program} {w : World} {base : Nat} {spare : Nat → Bool} {held : Bool}

theorem field_int {t : TypeId} {fuel o : Nat} {cs : List Value} {x : DataW H × List MemPlace} (ht : P.underlying t = some (.int .i64)) (h : DataW.trod enc P w base spare held fuel t ((cs.drop o).take 1) = some x) :
    ∃ z, cs[o]? = some (.int .i64 z) ∧ IsI64 z := by
  obtain ⟨z, h1, _, h2⟩ := DataW.trod_int ht h
  exact ⟨z, head_take h1, isI64_wf h2⟩

/-- a struct of ints, one cell each, in order -/
theorem struct_ints {t : TypeId} {fuel : Nat} {fs : Array Field} {cs : List Value} {x : DataW H × List MemPlace} (ht : P.underlying t = some (.struct fs)) (h : DataW.trod enc P w base spare held fuel t cs = some x)
    (i : Nat) (f : Field) (hf : fs[i]? = some f) (ho : f.offset = i) (hc : P.cellsOf f.type = 1) (hu : P.underlying f.type = some (.int .i64)) : ∃ z, cs[i]? = some (.int .i64 z) ∧ IsI64 z := by
  obtain ⟨xs, n, _, _, _, hxl, hx⟩ := DataW.trod_struct ht h
  have h1 := hx i f hf
  rw [ho, hc] at h1
  have hi : i < fs.size := (Array.getElem?_eq_some_iff.1 hf).1
  rw [List.getElem?_eq_getElem (by omega)] at h1
  exact field_int hu h1

theorem rows_of_slice {t e : TypeId} {k fuel len cap : Nat} {ao : Option Addr} {x : DataW H × List MemPlace} (ht : P.underlying t = some (.slice e)) (hk : P.cellsOf e = k) (hk0 : 0 < k)
    (hE : ∀ n cs y, DataW.trod enc P w base spare held n e cs = some y → ∀ f, f < k → ∃ z, cs[f]? = some (.int .i64 z) ∧ IsI64 z)
    (h : DataW.trod enc P w base spare held fuel t [.slice ao len cap] = some x) :
    IntRows w k ao len ∧ ((x.1 = .nil ∧ len = 0) ∨ ∃ elems sp, x.1 = .slice elems sp ∧ elems.length = len) := by
  rcases open_slice ht h with ⟨h0, rfl⟩ | ⟨a, len', cap', m, n, D, Pl, h0, hb, hl, hm, hmm, rfl, hx⟩
  · simp at h0
    exact ⟨.inl h0.2.1, .inl ⟨rfl, h0.2.1⟩⟩
  · simp only [List.cons.injEq, Value.slice.injEq, and_true] at h0
    obtain ⟨rfl, rfl, rfl⟩ := h0
    refine ⟨?_, .inr ⟨_, _, rfl, by simp⟩⟩
    by_cases hlen : len = 0
    · exact .inl hlen
    right
    have hlm : len ≤ m := by rw [hmm]; split <;> omega
    have all : ∀ t, t < len * k → ∃ z, w.cell? (a.add t) = some (.int .i64 z) ∧ IsI64 z := by
      intro t ht
      have hi : t / k < len := by
        apply Nat.div_lt_of_lt_mul
        rw [Nat.mul_comm]
        exact ht
      have hf : t % k < k := Nat.mod_lt _ hk0
      obtain ⟨cs', h1, h2⟩ := hx (t / k) (by omega)
      rw [hk] at h1
      obtain ⟨_, _, h3⟩ := World.cells?_some h1
      obtain ⟨z, h4, h5⟩ := hE _ _ _ h2 (t % k) hf
      refine ⟨z, ?_, h5⟩
      rw [← h4, ← h3 _ hf, add_add]
      congr 2
      have := Nat.div_add_mod t k
      rw [Nat.mul_comm] at this
      exact this.symm
    obtain ⟨Z, hZ⟩ := choose_lt (α := Int) all
    obtain ⟨b, off, spot⟩ := a
    have hpos : 0 < len * k := Nat.mul_pos (by omega) hk0
    have hspot : spot = none := by simpa [Addr.add] using World.cell?_spot (hZ 0 hpos).1
    subst hspot
    have hz0 := (hZ 0 hpos).1
    refine ⟨b, off, Z, by omega, rfl, World.block_lt_of_cell? w _ hz0, fun t ht => ?_, fun t ht => (hZ t ht).2⟩
    rw [← Go.WideShapes.add_plain]
    exact (hZ t ht).1
end

theorem cellsConfig : Tryz.prog.cellsOf 49 = 5 := by kernel_rfl
theorem cellsOp : Tryz.prog.cellsOf 37 = 10 := by kernel_rfl
theorem cellsJob : Tryz.prog.cellsOf 35 = 5 := by kernel_rfl
theorem cellsInt : Tryz.prog.cellsOf 3 = 1 := by kernel_rfl
theorem bytesConfig : Tryz.prog.bytesOf 49 = 40 := by kernel_rfl
theorem bytesOp : Tryz.prog.bytesOf 37 = 80 := by kernel_rfl

theorem config_ints {H : Type} {enc : TypeId × Value → H} {w : World} {base : Nat} {spare : Nat → Bool} {held : Bool} (n : Nat) (cs : List Value) (y : DataW H × List MemPlace) (h : DataW.trod enc Tryz.prog w base spare held n 49 cs = some y) :
    ∀ f, f < 5 → ∃ z, cs[f]? = some (.int .i64 z) ∧ IsI64 z := by
  intro f hf
  match f, hf with
  | 0, _ => exact struct_ints Tryz.underlying49 h 0 _ rfl rfl cellsInt Tryz.underlying3
  | 1, _ => exact struct_ints Tryz.underlying49 h 1 _ rfl rfl cellsInt Tryz.underlying3
  | 2, _ => exact struct_ints Tryz.underlying49 h 2 _ rfl rfl cellsInt Tryz.underlying3
  | 3, _ => exact struct_ints Tryz.underlying49 h 3 _ rfl rfl cellsInt Tryz.underlying3
  | 4, _ => exact struct_ints Tryz.underlying49 h 4 _ rfl rfl cellsInt Tryz.underlying3

theorem job_ints {H : Type} {enc : TypeId × Value → H} {w : World} {base : Nat} {spare : Nat → Bool} {held : Bool} (n : Nat) (cs : List Value) (y : DataW H × List MemPlace) (h : DataW.trod enc Tryz.prog w base spare held n 35 cs = some y) :
    ∀ f, f < 5 → ∃ z, cs[f]? = some (.int .i64 z) ∧ IsI64 z := by
  intro f hf
  match f, hf with
  | 0, _ => exact struct_ints Tryz.underlying35 h 0 _ rfl rfl cellsInt Tryz.underlying3
  | 1, _ => exact struct_ints Tryz.underlying35 h 1 _ rfl rfl cellsInt Tryz.underlying3
  | 2, _ => exact struct_ints Tryz.underlying35 h 2 _ rfl rfl cellsInt Tryz.underlying3
  | 3, _ => exact struct_ints Tryz.underlying35 h 3 _ rfl rfl cellsInt Tryz.underlying3
  | 4, _ => exact struct_ints Tryz.underlying35 h 4 _ rfl rfl cellsInt Tryz.underlying3

theorem op_ints {H : Type} {enc : TypeId × Value → H} {w : World} {base : Nat} {spare : Nat → Bool} {held : Bool} (n : Nat) (cs : List Value) (y : DataW H × List MemPlace) (h : DataW.trod enc Tryz.prog w base spare held n 37 cs = some y) :
    ∀ f, f < 10 → ∃ z, cs[f]? = some (.int .i64 z) ∧ IsI64 z := by
  have hj : ∀ f, f < 5 → ∃ z, cs[5 + f]? = some (.int .i64 z) ∧ IsI64 z := by
    obtain ⟨xs, n', _, _, _, hxl, hx⟩ := DataW.trod_struct Tryz.underlying37 h
    have h1 : DataW.trod enc Tryz.prog w base spare held n' 35 ((cs.drop 5).take (Tryz.prog.cellsOf 35)) = xs[5]? := hx 5 _ rfl
    rw [cellsJob] at h1
    rw [List.getElem?_eq_getElem (by rw [hxl]; decide)] at h1
    intro f hf
    obtain ⟨z, h2, h3⟩ := job_ints _ _ _ h1 f hf
    refine ⟨z, ?_, h3⟩
    rw [← h2]
    simp only [List.getElem?_take, List.getElem?_drop, if_pos hf]
  intro f hf
  match f, hf with
  | 0, _ => exact struct_ints Tryz.underlying37 h 0 _ rfl rfl cellsInt Tryz.underlying3
  | 1, _ => exact struct_ints Tryz.underlying37 h 1 _ rfl rfl cellsInt Tryz.underlying3
  | 2, _ => exact struct_ints Tryz.underlying37 h 2 _ rfl rfl cellsInt Tryz.underlying3
  | 3, _ => exact struct_ints Tryz.underlying37 h 3 _ rfl rfl cellsInt Tryz.underlying3
  | 4, _ => exact struct_ints Tryz.underlying37 h 4 _ rfl rfl cellsInt Tryz.underlying3
  | 5, _ => exact hj 0 (by omega)
  | 6, _ => exact hj 1 (by omega)
  | 7, _ => exact hj 2 (by omega)
  | 8, _ => exact hj 3 (by omega)
  | 9, _ => exact hj 4 (by omega)

theorem small_slice {elems n b : Nat} (h : (elems + n) * b ≤ reachBytes) (hb : 40 ≤ b) : elems < 5000000000000 := by
  have h1 : (elems + n) * 40 ≤ (elems + n) * b := Nat.mul_le_mul_left _ hb
  unfold reachBytes at h
  omega
theorem small_slice80 {elems n : Nat} (h : (elems + n) * 80 ≤ reachBytes) : elems < 1759218604391 := by
  unfold reachBytes at h
  omega
theorem own : ownKnob Tryz.prog.godebug = none := by kernel_rfl
theorem laidOut : laidOutB Tryz.prog = true := by kernel_rfl
end Go.Proofs.YtminceigjejipabGreat
