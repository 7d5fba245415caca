import Derived.Test.YtminceigjejipaaRow3
import Derived.Test.YtminceigjejipaaRow5
import Derived.Test.YtminceigjejipaaG2
import Derived.Test.YtminceigjejipaaMkC
import Derived.Deep.RegionLaw
import Derived.Deep.OwnRows
namespace Go.Proofs.Ytminceigjejipaa
open Go.RowKit

def InRange (n : Nat) (Z : Nat → Int) : Prop := ∀ j, j < n → -1099511627776 ≤ Z j ∧ Z j ≤ 1099511627776

def AddRes (Z : Nat → Int) (n : Nat) (f t d z : Int) (Z' : Nat → Int) : Prop :=
  ((pieceB n f t = false ∨ inB d (-2199023255552) 2199023255552 = false) ∧ z = 9 ∧ Z' = Z) ∨
  (pieceB n f t = true ∧ inB d (-2199023255552) 2199023255552 = true ∧ ¬ addOk Z f.toNat t.toNat d ∧ z = 12 ∧ Z' = Z) ∨
  (pieceB n f t = true ∧ inB d (-2199023255552) 2199023255552 = true ∧ addOk Z f.toNat t.toNat d ∧ z = 0 ∧ Z' = addZ Z f.toNat t.toNat d)

theorem AddRes.unique {Z : Nat → Int} {n : Nat} {f t d z z2 : Int} {Z' Z2 : Nat → Int} (h : AddRes Z n f t d z Z') (h2 : AddRes Z n f t d z2 Z2) : z = z2 ∧ Z' = Z2 := by
  rcases h with ⟨a, rfl, rfl⟩ | ⟨a, b, c, rfl, rfl⟩ | ⟨a, b, c, rfl, rfl⟩ <;> rcases h2 with ⟨a2, rfl, rfl⟩ | ⟨a2, b2, c2, rfl, rfl⟩ | ⟨a2, b2, c2, rfl, rfl⟩ <;> first | exact ⟨rfl, rfl⟩ | (exfalso; simp_all)

theorem AddRes.range {Z : Nat → Int} {n : Nat} {f t d z : Int} {Z' : Nat → Int} (h : AddRes Z n f t d z Z') (hB : InRange n Z) : InRange n Z' := by
  rcases h with ⟨a, rfl, rfl⟩ | ⟨a, b, c, rfl, rfl⟩ | ⟨a, b, c, rfl, rfl⟩
  · exact hB
  · exact hB
  · intro j hj
    unfold addZ
    split
    · rename_i h
      exact standB_true (c j h.1 h.2)
    · exact hB j hj

def MinRes (Z : Nat → Int) (n : Nat) (f t m z : Int) : Prop :=
  (pieceB n f t = false ∧ m = 0 ∧ z = 9) ∨ (pieceB n f t = true ∧ m = minZ Z f.toNat (t.toNat - 1 - f.toNat) ∧ z = 0)

theorem MinRes.unique {Z : Nat → Int} {n : Nat} {f t m z m2 z2 : Int} (h : MinRes Z n f t m z) (h2 : MinRes Z n f t m2 z2) : m = m2 ∧ z = z2 := by
  rcases h with ⟨a, rfl, rfl⟩ | ⟨a, rfl, rfl⟩ <;> rcases h2 with ⟨a2, rfl, rfl⟩ | ⟨a2, rfl, rfl⟩ <;> first | exact ⟨rfl, rfl⟩ | (exfalso; simp_all)

def FitRes (Z : Nat → Int) (n : Nat) (f l v s z : Int) : Prop :=
  (fitB n f l = true ∧ s = 0 ∧ z = 9) ∨ (fitB n f l = false ∧ IsFit Z n f.toNat l.toNat v s ∧ z = 0)

theorem FitRes.unique {Z : Nat → Int} {n : Nat} {f l v s z s2 z2 : Int} (h : FitRes Z n f l v s z) (h2 : FitRes Z n f l v s2 z2) : s = s2 ∧ z = z2 := by
  rcases h with ⟨a, rfl, rfl⟩ | ⟨a, hs, rfl⟩ <;> rcases h2 with ⟨a2, rfl, rfl⟩ | ⟨a2, hs2, rfl⟩
  · exact ⟨rfl, rfl⟩
  · simp_all
  · simp_all
  · exact ⟨hs.unique hs2, rfl⟩

theorem calAdd_any (p g n cap : Nat) (f t d : Int) (Z : Nat → Int) (w : World) (hrow : RowAt 98 w p g n cap Z) (hn : n ≤ 4096) (hB : InRange n Z) :
    Calls Try.prog 39 #[.pointer (some ⟨p, 0, none⟩), .int .i64 f, .int .i64 t, .int .i64 d] w fun e w' => ∃ z Z', e = .returned (.int .i64 z) ∧ AddRes Z n f t d z Z' ∧ RowAt 98 w' p g n cap Z' ∧ Chg (fun k => k = g) w w' := by
  by_cases hbad : pieceB n f t = false ∨ inB d (-2199023255552) 2199023255552 = false
  · refine (calAdd_bad p g n cap f t d w hrow.cellp hbad).mono ?_
    rintro e w' ⟨rfl, hw⟩
    subst w'
    exact ⟨9, Z, rfl, .inl ⟨hbad, rfl, rfl⟩, hrow, Chg.refl _ _⟩
  · have h1 : pieceB n f t = true := by cases h : pieceB n f t; exact absurd (.inl h) hbad; rfl
    have h2 : inB d (-2199023255552) 2199023255552 = true := by cases h : inB d (-2199023255552) 2199023255552; exact absurd (.inr h) hbad; rfl
    obtain ⟨p1, p2, p3⟩ := pieceB_true h1
    obtain ⟨q1, q2⟩ := inB_true h2
    obtain ⟨a, rfl⟩ := Int.eq_ofNat_of_zero_le p1
    obtain ⟨b, rfl⟩ := Int.eq_ofNat_of_zero_le (show 0 ≤ t by omega)
    by_cases hok : addOk Z a b d
    · refine (calAdd_ok p g n cap a b d Z w hrow (by omega) (by omega) (by omega) q1 q2 hB hok).mono ?_
      rintro e w' ⟨rfl, h3, h4⟩
      exact ⟨0, _, rfl, .inr (.inr ⟨h1, h2, hok, rfl, rfl⟩), h3, h4⟩
    · refine (calAdd_range p g n cap a b d Z w hrow.cellp (by omega) (by omega) (by omega) q1 q2 hB hrow.cellg hok).mono ?_
      rintro e w' ⟨rfl, hw⟩
      subst w'
      exact ⟨12, Z, rfl, .inr (.inl ⟨h1, h2, hok, rfl, rfl⟩), hrow, Chg.refl _ _⟩

theorem calMin_any (p g n cap : Nat) (f t : Int) (Z : Nat → Int) (w : World) (hrow : RowAt 98 w p g n cap Z) (hn : n ≤ 4096) :
    Calls Try.prog 12 #[.pointer (some ⟨p, 0, none⟩), .int .i64 f, .int .i64 t] w fun e w' => ∃ m z, e = .returned (.tuple #[.int .i64 m, .int .i64 z]) ∧ MinRes Z n f t m z ∧ w' = w := by
  cases h : pieceB n f t
  · refine (calMin_bad p g n cap f t w hrow.cellp h).mono ?_
    rintro e w' ⟨rfl, hw⟩
    exact ⟨0, 9, rfl, .inl ⟨h, rfl, rfl⟩, hw⟩
  · obtain ⟨p1, p2, p3⟩ := pieceB_true h
    obtain ⟨a, rfl⟩ := Int.eq_ofNat_of_zero_le p1
    obtain ⟨b, rfl⟩ := Int.eq_ofNat_of_zero_le (show 0 ≤ t by omega)
    refine (calMin_ok p g n cap a b Z w hrow.cellp (by omega) (by omega) (by omega) hrow.cellg).mono ?_
    rintro e w' ⟨rfl, hw⟩
    exact ⟨_, 0, rfl, .inr ⟨h, rfl, rfl⟩, hw⟩

theorem calFit_any (p g n cap : Nat) (f l v : Int) (Z : Nat → Int) (w : World) (hrow : RowAt 98 w p g n cap Z) (hn : n ≤ 4096) (hf : f ≤ 9223372036854775807) :
    Calls Try.prog 41 #[.pointer (some ⟨p, 0, none⟩), .int .i64 f, .int .i64 l, .int .i64 v] w fun e w' => ∃ s z, e = .returned (.tuple #[.int .i64 s, .int .i64 z]) ∧ FitRes Z n f l v s z ∧ w' = w := by
  cases h : fitB n f l
  · obtain ⟨p1, p2, p3⟩ := fitB_false h
    obtain ⟨a, rfl⟩ := Int.eq_ofNat_of_zero_le p1
    obtain ⟨b, rfl⟩ := Int.eq_ofNat_of_zero_le (show 0 ≤ l by omega)
    refine (calFit_ok p g n cap a b v Z w (by omega) hrow.cellp (by omega) (by omega) hrow.cellg).mono ?_
    rintro e w' ⟨s, rfl, hs, hw⟩
    exact ⟨s, 0, rfl, .inr ⟨h, hs, rfl⟩, hw⟩
  · refine (calFit_bad p g n cap f l v w (by omega) hf hrow.cellp h).mono ?_
    rintro e w' ⟨rfl, hw⟩
    exact ⟨0, 9, rfl, .inl ⟨h, rfl, rfl⟩, hw⟩

end Go.Proofs.Ytminceigjejipaa

namespace Go.Proofs.Ytminceigjejipaa
open Go.RowKit

section
variable {w : World} {pc gc pr gr n cc cr : Nat} {Z : Nat → Int}
theorem RowAt.chg {T : TypeId} {p g cap : Nat} {O : Nat → Prop} {w' : World} (h : RowAt T w p g n cap Z) (hc : Chg O w w') (h1 : ¬ O p) (h2 : ¬ O g) : RowAt T w' p g n cap Z :=
  h.frame (hc.block _ h.ltp h1) (hc.block _ h.ltg h2)
/-- blocks of other types -/
theorem RowAt.apart {T T' : TypeId} {p g p' g' cap cap' n' : Nat} {Z' : Nat → Int} (h : RowAt T w p g n cap Z) (h' : RowAt T' w p' g' n' cap' Z') (hT : T ≠ 3) (hT' : T' ≠ 3) (hTT : T ≠ T') : p ≠ p' ∧ p ≠ g' ∧ g ≠ p' := by
  obtain ⟨cur, a1, _⟩ := h.hg
  obtain ⟨cur', a1', _⟩ := h'.hg
  refine ⟨?_, ?_, ?_⟩
  · rintro rfl
    have := h.hp
    rw [h'.hp] at this
    simp at this
    exact hTT this.2.symm
  · rintro rfl
    have := h.hp
    rw [a1'] at this
    simp at this
    exact hT this.2.symm
  · rintro rfl
    rw [h'.hp] at a1
    simp at a1
    exact hT' a1.2
end

end Go.Proofs.Ytminceigjejipaa

namespace Go.Proofs.Ytminceigjejipaa
open Go.RowKit

theorem box_set {w : World} {p f : Nat} {cs : Array Value} {T : TypeId} (h : w.heap[p]? = some (.cells cs T (0, 0))) (u : Value) : (w.setCell ⟨p, f, none⟩ u).heap[p]? = some (.cells (cs.setIfInBounds f u) T (0, 0)) := by
  simp only [World.setCell, Array.getElem?_modify]
  simp [h]

end Go.Proofs.Ytminceigjejipaa

namespace Go.Proofs.Ytminceigjejipaa
open Go.RowKit

end Go.Proofs.Ytminceigjejipaa

namespace Go.Proofs.Ytminceigjejipaa
open Go.RowKit

theorem MkOk.bl {m : MkG} (h : MkOk m) : m.bids.length ≤ 300 := Nat.le_trans h.nb h.nl

theorem tenB_true {m : MkG} {k : Int} (h : m.tenB k = true) : 0 ≤ k ∧ k < m.c.ten := by simpa [MkG.tenB] using h

end Go.Proofs.Ytminceigjejipaa

namespace Go.Proofs.Ytminceigjejipaa
open Go.RowKit

def unitsTo (l : List Int) (f k u : Int) : List Int := (List.range l.length).map fun i : Nat => if f ≤ (i : Int) ∧ (i : Int) < k then u else l.getD i 0
theorem unitsTo_len (l : List Int) (f k u : Int) : (unitsTo l f k u).length = l.length := by simp [unitsTo]
theorem unitsTo_start (l : List Int) (f u : Int) : unitsTo l f f u = l := by
  apply List.ext_getElem?
  intro i
  unfold unitsTo
  by_cases hi : i < l.length
  · rw [List.getElem?_map, List.getElem?_range hi]
    have : ¬ (f ≤ (i : Int) ∧ (i : Int) < f) := by omega
    simp only [Option.map_some, if_neg this]
    simp [List.getD, List.getElem?_eq_getElem hi]
  · rw [List.getElem?_eq_none (by simp; omega), List.getElem?_eq_none (by omega)]
theorem unitsTo_step (l : List Int) (a k : Nat) (u : Int) (ha : a ≤ k) : (unitsTo l a k u).set k u = unitsTo l a ((k + 1 : Nat) : Int) u := by
  apply List.ext_getElem?
  intro i
  rw [List.getElem?_set]
  unfold unitsTo
  by_cases hi : i < l.length
  · rw [List.getElem?_map, List.getElem?_range hi, List.getElem?_map, List.getElem?_range hi]
    simp only [Option.map_some, List.length_map, List.length_range]
    by_cases e : k = i
    · subst e
      rw [if_pos rfl, if_pos hi, if_pos ⟨by omega, by omega⟩]
    · rw [if_neg e]
      by_cases h1 : (a : Int) ≤ (i : Int) ∧ (i : Int) < (k : Int)
      · rw [if_pos h1, if_pos ⟨h1.1, by omega⟩]
      · rw [if_neg h1, if_neg (by omega)]
  · rw [List.getElem?_eq_none (by simp; omega), List.getElem?_eq_none (by simp; omega)]
    by_cases e : k = i
    · subst e
      rw [if_pos rfl, if_neg (by simp; omega)]
    · rw [if_neg e]

theorem capArg_true {m : MkG} {f t u : Int} (h : capArg m f t u = true) : f < m.time ∨ (m.time ≤ f ∧ t ≤ f) ∨ (m.time ≤ f ∧ f < t ∧ m.c.ticks < t) ∨ (m.time ≤ f ∧ f < t ∧ t ≤ m.c.ticks ∧ u < 0) ∨ (m.time ≤ f ∧ f < t ∧ t ≤ m.c.ticks ∧ 0 ≤ u ∧ 100000 < u) := by
  simp [capArg] at h
  omega
theorem capArg_false {m : MkG} {f t u : Int} (h : capArg m f t u = false) : m.time ≤ f ∧ f < t ∧ t ≤ m.c.ticks ∧ 0 ≤ u ∧ u ≤ 100000 := by
  simp [capArg] at h
  omega

end Go.Proofs.Ytminceigjejipaa

/-
  A TICK, AS PLAIN FUNCTIONS: which bids are looked at, in which order, what starts, what the ghost would want. Nothing of the program.
-/
namespace Go.Proofs.Ytminceigjejipaa

def sizeJ (j : JobG) : Int := j.len * j.units
def BidG.openB (b : BidG) (m : MkG) (t : Int) : Bool := (b.state == 1) && !suspAt m b.ten && decide (b.arrival ≤ t) && decide (t + b.job.len ≤ b.job.dl)
def aheadJ (a b : JobG) (i k : Nat) : Bool := decide (b.val * sizeJ a < a.val * sizeJ b) || ((a.val * sizeJ b == b.val * sizeJ a) && decide (i < k))
def aheadI (l : List BidG) (i k : Nat) : Bool := match l[i]?, l[k]? with | some a, some b => aheadJ a.job b.job i k | _, _ => false
def fitsB (m : MkG) (b : BidG) (t : Int) : Bool := (List.range b.job.len.toNat).all fun s => decide (b.job.units ≤ freeV m (t + s))
def BidG.winB (b : BidG) (res : Int) : Bool := decide (res * sizeJ b.job ≤ b.job.val)
def candB (m : MkG) (t : Int) (b : BidG) : Bool := b.openB m t && (b.entry != m.ghost)

/-- the bids that are looked at, those ahead first -/
structure IsOrder (m : MkG) (t : Int) (l : List Nat) : Prop where
  mem : ∀ i, i ∈ l ↔ ∃ b, m.bids[i]? = some b ∧ candB m t b = true
  sorted : l.Pairwise (fun i k => aheadI m.bids i k = true)

/-- next: the best of the first k that are not in lk -/
def nextGo (m : MkG) (t : Int) (lk : Nat → Bool) : Nat → Int
  | 0 => -1
  | k + 1 =>
    let best := nextGo m t lk k
    match m.bids[k]? with
    | some b => if candB m t b && !lk k && (decide (best < 0) || aheadI m.bids k best.toNat) then k else best
    | none => best

def ghostI (m : MkG) (t : Int) : Option Nat := m.bids.findIdx? fun b => b.openB m t && (b.entry == m.ghost)
def roomB (m : MkG) (g : Option Nat) (t : Int) : Bool := match g with | some i => (match m.bids[i]? with | some b => fitsB m b t | none => false) | none => false
def startM (m : MkG) (i : Nat) (t : Int) : MkG := match m.bids[i]? with | some b => { m with bids := m.bids.set i { b with state := 2, start := t } } | none => m
def jobAt (m : MkG) (i : Nat) : JobG := match m.bids[i]? with | some b => b.job | none => noJob
/-- the least value with which bid g is ahead of bid k -/
def leastV (m : MkG) (g k : Nat) : Int :=
  let n := (jobAt m k).val * sizeJ (jobAt m g)
  let d := sizeJ (jobAt m k)
  if n.tmod d = 0 ∧ g < k then n.tdiv d else n.tdiv d + 1
def wantV (m : MkG) (g : Nat) (v : Int) : Int :=
  let r := m.c.res * sizeJ (jobAt m g)
  let v1 := if v < r then r else v
  if v1 < 1 then 1 else v1
def wantM (m : MkG) (g : Nat) (v : Int) : MkG := if m.need = 0 ∨ wantV m g v < m.need then { m with need := wantV m g v } else m

abbrev TkS := MkG × List (Int × Int)
def tickOne (t : Int) (g : Option Nat) (s : TkS) (i : Nat) : TkS :=
  match s.1.bids[i]? with
  | none => s
  | some b =>
    if fitsB s.1 b t && b.winB s.1.c.res then
      (match g with
        | some gi => if roomB s.1 g t && !roomB (startM s.1 i t) g t then wantM (startM s.1 i t) gi (leastV (startM s.1 i t) gi i) else startM s.1 i t
        | none => startM s.1 i t, s.2 ++ [(b.ten, b.ref)])
    else s
def tickFold (t : Int) (g : Option Nat) (m : MkG) (l : List Nat) : TkS := l.foldl (tickOne t g) (m, [])
def wantEnd (t : Int) (g : Option Nat) (m : MkG) : MkG := match g with | some gi => if roomB m g t then wantM m gi 0 else m | none => m
def BidG.expire (b : BidG) (now : Int) : BidG := if (b.state == 1) && decide (b.job.dl < now + b.job.len) then { b with state := 4 } else b
def tickEnd (t : Int) (m : MkG) : MkG := { m with time := t + 1, bids := m.bids.map fun b => b.expire (t + 1) }

def callTick : CallG := ⟨5, 0, 0, 0, noJob, false⟩
/-- a tick of a market whose log has room, and whose time is not over -/
def tickM (m : MkG) (l : List Nat) : MkG × List (Int × Int) :=
  let m1 := m.logs callTick
  let g := ghostI m1 m.time
  let s := tickFold m.time g m1 l
  (tickEnd m.time (wantEnd m.time g s.1), s.2)
def TickRes (m : MkG) (z : Int) (names : List (Int × Int)) (m' : MkG) : Prop :=
  (m.log.length = 300 ∧ z = 2 ∧ names = [] ∧ m' = m) ∨
  (m.log.length < 300 ∧ m.c.ticks ≤ m.time ∧ z = 11 ∧ names = [] ∧ m' = m.logs callTick) ∨
  (m.log.length < 300 ∧ m.time < m.c.ticks ∧ z = 0 ∧ ∃ l, IsOrder m m.time l ∧ m' = (tickM m l).1 ∧ names = (tickM m l).2)

/-! ### the order is one -/
theorem aheadI_some {l : List BidG} {i k : Nat} (h : aheadI l i k = true) : ∃ a b, l[i]? = some a ∧ l[k]? = some b ∧ aheadJ a.job b.job i k = true := by
  unfold aheadI at h
  split at h
  · rename_i a b ha hb
    exact ⟨a, b, ha, hb, h⟩
  · simp at h
theorem aheadJ_asymm {a b : JobG} {i k : Nat} (h : aheadJ a b i k = true) : aheadJ b a k i = false := by
  simp only [aheadJ, Bool.or_eq_true, Bool.and_eq_true, decide_eq_true_eq, beq_iff_eq, Bool.or_eq_false_iff, Bool.and_eq_false_iff, decide_eq_false_iff_not, beq_eq_false_iff_ne] at h ⊢
  omega
theorem aheadI_asymm {l : List BidG} {i k : Nat} (h : aheadI l i k = true) : aheadI l k i = false := by
  obtain ⟨a, b, ha, hb, hj⟩ := aheadI_some h
  unfold aheadI
  rw [ha, hb]
  exact aheadJ_asymm hj
theorem aheadI_irrefl {l : List BidG} {i : Nat} : aheadI l i i = false := by
  cases h : aheadI l i i
  · rfl
  · have := aheadI_asymm h
    rw [this] at h
    cases h

theorem sorted_unique {R : Nat → Nat → Prop} (ha : ∀ i k, R i k → ¬ R k i) : ∀ (l l' : List Nat), (∀ i, i ∈ l ↔ i ∈ l') → l.Pairwise R → l'.Pairwise R → l = l'
  | [], [], _, _, _ => rfl
  | [], b :: l', h, _, _ => by have := (h b).2 List.mem_cons_self; simp at this
  | a :: l, [], h, _, _ => by have := (h a).1 List.mem_cons_self; simp at this
  | a :: l, b :: l', h, h1, h2 => by
    rw [List.pairwise_cons] at h1 h2
    have hab : a = b := by
      rcases List.mem_cons.1 ((h a).1 List.mem_cons_self) with e | e
      · exact e
      · rcases List.mem_cons.1 ((h b).2 List.mem_cons_self) with e' | e'
        · exact e'.symm
        · exact absurd (h1.1 b e') (ha _ _ (h2.1 a e))
    subst hab
    have hn : a ∉ l := fun hm => ha _ _ (h1.1 a hm) (h1.1 a hm)
    have hn' : a ∉ l' := fun hm => ha _ _ (h2.1 a hm) (h2.1 a hm)
    rw [sorted_unique ha l l' (fun i => ?_) h1.2 h2.2]
    constructor
    · intro hi
      rcases List.mem_cons.1 ((h i).1 (List.mem_cons_of_mem _ hi)) with e | e
      · subst e; exact absurd hi hn
      · exact e
    · intro hi
      rcases List.mem_cons.1 ((h i).2 (List.mem_cons_of_mem _ hi)) with e | e
      · subst e; exact absurd hi hn'
      · exact e
theorem IsOrder.unique {m : MkG} {t : Int} {l l' : List Nat} (h : IsOrder m t l) (h' : IsOrder m t l') : l = l' :=
  sorted_unique (R := fun i k => aheadI m.bids i k = true) (fun i k h1 h2 => by rw [aheadI_asymm h1] at h2; cases h2) l l' (fun i => (h.mem i).trans (h'.mem i).symm) h.sorted h'.sorted
theorem TickRes.unique {m : MkG} {z z2 : Int} {n n2 : List (Int × Int)} {m1 m2 : MkG} (h : TickRes m z n m1) (h2 : TickRes m z2 n2 m2) : z = z2 ∧ n = n2 ∧ m1 = m2 := by
  rcases h with ⟨a, rfl, rfl, rfl⟩ | ⟨a, b, rfl, rfl, rfl⟩ | ⟨a, b, rfl, l, hl, rfl, rfl⟩ <;> rcases h2 with ⟨a2, rfl, rfl, rfl⟩ | ⟨a2, b2, rfl, rfl, rfl⟩ | ⟨a2, b2, rfl, l2, hl2, rfl, rfl⟩ <;> first | exact ⟨rfl, rfl, rfl⟩ | (exfalso; omega) | skip
  rw [hl.unique hl2]
  exact ⟨rfl, rfl, rfl⟩
end Go.Proofs.Ytminceigjejipaa

namespace Go.Proofs.Ytminceigjejipaa
open Go.RowKit

theorem mul_lt {a b A B : Int} (h0 : 0 ≤ a) (h1 : a ≤ A) (h2 : 0 ≤ b) (h3 : b ≤ B) : 0 ≤ a * b ∧ a * b ≤ A * B :=
  ⟨Int.mul_nonneg h0 h2, Int.mul_le_mul h1 h3 h2 (Int.le_trans h0 h1)⟩
theorem sizeJ_pos {tk : Int} {j : JobG} (h : jobIn tk j = true) (ht : tk ≤ 64) : 1 ≤ sizeJ j ∧ sizeJ j ≤ 64000 := by
  have hj := jobIn_true h
  have h1 := mul_lt (a := j.len) (b := j.units) (A := 64) (B := 1000) (by omega) (by omega) (by omega) (by omega)
  have h2 : 1 * 1 ≤ j.len * j.units := Int.mul_le_mul (by omega) (by omega) (by omega) (by omega)
  unfold sizeJ
  omega

theorem bool_dec (b : Bool) : decide (b = true) = b := by cases b <;> rfl

end Go.Proofs.Ytminceigjejipaa

namespace Go.Proofs.Ytminceigjejipaa
open Go.RowKit

theorem heap_get_lt {w : World} {p : Nat} {o : Obj} (h : w.heap[p]? = some o) : p < w.heap.size := (Array.getElem?_eq_some_iff.1 h).1

end Go.Proofs.Ytminceigjejipaa

namespace Go.Proofs.Ytminceigjejipaa
open Go.RowKit

theorem infoBool : (Try.prog.info? 4).map (fun i => (i.zero, i.size, i.bytes)) = some (some (.bool false), 1, 1) := by kernel_rfl
theorem infoInt' : (Try.prog.info? 3).map (fun i => (i.zero, i.size, i.bytes)) = some (some (.int .i64 0), 1, 8) := by kernel_rfl

theorem heap_at_new {w : World} {o : Obj} {n : Nat} (h : n = w.heap.size) : (w.alloc o).heap[n]? = some o := by
  subst h
  exact heap_alloc_new w o

theorem made_list (z : Value) (n : Nat) : (madeCells #[z] n).toList = List.replicate n z := by
  apply List.ext_getElem?
  intro i
  by_cases hi : i < n
  · simp [madeCells, hi, Nat.mod_one]
  · simp [madeCells, hi]

theorem foot_start {S D p x N : Nat} {nt : Nat} (h : (⟨.slice none 0 0, .slice none 0 0, .slice (some ⟨S, 0, none⟩) nt nt, .slice none 0 0, .slice (some ⟨D, 0, none⟩) nt nt, .slice none 0 0⟩ : MV).foot p x) (h1 : N < S) (h2 : N < D) (h3 : N < p) : N < x := by
  rcases h with h | h | h | h | h | h | h <;> first | omega | (simp [Value.ownBlock] at h; done) | (simp [Value.ownBlock] at h; omega)

end Go.Proofs.Ytminceigjejipaa

/-
  THE PROGRAM's MARKET IN MEMORY (stage 2's landed code): where its parts lie, what keeps it, what becomes of it.
-/
namespace Go.Proofs.Ytminceigjejipaa
open Go.RowKit

def ybidCells (b : BidG) : List Value := [.int .i64 b.ten, .int .i64 b.ref, .int .i64 b.job.arr, .int .i64 b.job.dl, .int .i64 b.job.len, .int .i64 b.job.units, .int .i64 b.job.val, .int .i64 b.state, .int .i64 b.start]

/-- q the market, r its calendar, g the calendar's cells -/
structure YV where
  q : Nat
  r : Nat
  g : Nat
  cc : Nat
  uv : Value
  bv : Value
  sv : Value

def YV.foot (V : YV) (k : Nat) : Prop := k = V.q ∨ k = V.r ∨ k = V.g ∨ V.uv.ownBlock = some k ∨ V.bv.ownBlock = some k ∨ V.sv.ownBlock = some k
def ymBox (V : YV) (m : MkG) : Array Value := #[.int .i64 m.c.ticks, .int .i64 m.c.cap, .int .i64 m.c.res, .int .i64 m.c.ten, .int .i64 m.c.quo, .int .i64 m.time, V.bv, V.sv, V.uv, .pointer (some ⟨V.r, 0, none⟩)]
/-- units free, by tick -/
def freeZ (m : MkG) (j : Nat) : Int := m.units.getD j 0 - usedL m.bids j

structure YmAt (w : World) (V : YV) (m : MkG) : Prop where
  box : w.heap[V.q]? = some (.cells (ymBox V m) 107 (0, 0))
  bids : w.ownsRow 0 125 9 V.bv m.bids.length (m.bids.flatMap ybidCells)
  susp : w.ownsRow 0 4 1 V.sv m.susp.length (m.susp.map Value.bool)
  units : w.ownsRow 0 3 1 V.uv m.units.length (m.units.map (Value.int .i64))
  cal : RowAt 98 w V.r V.g m.units.length V.cc (freeZ m)
  ne : V.uv.ownBlock ≠ some V.g

theorem cells_ne {w : World} {p k : Nat} {c c' : Array Value} {T T' : TypeId} (h : w.heap[p]? = some (.cells c T (0, 0))) (h' : w.heap[k]? = some (.cells c' T' (0, 0))) (hT : T ≠ T') : p ≠ k := by
  rintro rfl
  rw [h] at h'
  simp at h'
  exact hT h'.2

section
variable {w : World} {V : YV} {m : MkG}
theorem YmAt.lt (h : YmAt w V m) : V.q < w.heap.size := (Array.getElem?_eq_some_iff.1 h.box).1
theorem YmAt.foot_lt (h : YmAt w V m) (k : Nat) (hk : V.foot k) : k < w.heap.size := by
  rcases hk with rfl | rfl | rfl | hk | hk | hk
  · exact h.lt
  · exact h.cal.ltp
  · exact h.cal.ltg
  · exact (h.units.lt k hk).2
  · exact (h.bids.lt k hk).2
  · exact (h.susp.lt k hk).2
/-- what a foot's block may hold -/
theorem YmAt.foot_ty (h : YmAt w V m) (k : Nat) (hk : V.foot k) : ∃ c T, w.heap[k]? = some (.cells c T (0, 0)) ∧ (T = 107 ∨ T = 98 ∨ T = 3 ∨ T = 125 ∨ T = 4) := by
  rcases hk with rfl | rfl | rfl | hk | hk | hk
  · exact ⟨_, _, h.box, .inl rfl⟩
  · exact ⟨_, _, h.cal.hp, .inr (.inl rfl)⟩
  · obtain ⟨cur, h1, _⟩ := h.cal.hg
    exact ⟨_, _, h1, .inr (.inr (.inl rfl))⟩
  · obtain ⟨c, hc⟩ := ownsRow_block h.units hk
    exact ⟨_, _, hc, .inr (.inr (.inl rfl))⟩
  · obtain ⟨c, hc⟩ := ownsRow_block h.bids hk
    exact ⟨_, _, hc, .inr (.inr (.inr (.inl rfl)))⟩
  · obtain ⟨c, hc⟩ := ownsRow_block h.susp hk
    exact ⟨_, _, hc, .inr (.inr (.inr (.inr rfl)))⟩
theorem YmAt.frame {w' : World} (h : YmAt w V m) (hf : ∀ k, V.foot k → w'.heap[k]? = w.heap[k]?) : YmAt w' V m :=
  ⟨(hf _ (.inl rfl)).trans h.box, ownsRow_keep h.bids (fun k hk => hf k (.inr (.inr (.inr (.inr (.inl hk)))))), ownsRow_keep h.susp (fun k hk => hf k (.inr (.inr (.inr (.inr (.inr hk)))))), ownsRow_keep h.units (fun k hk => hf k (.inr (.inr (.inr (.inl hk))))),
    h.cal.frame (hf _ (.inr (.inl rfl))) (hf _ (.inr (.inr (.inl rfl)))), h.ne⟩
theorem YmAt.chg {O : Nat → Prop} {w' : World} (h : YmAt w V m) (hc : Chg O w w') (hO : ∀ k, V.foot k → ¬ O k) : YmAt w' V m := h.frame (fun k hk => hc.block k (h.foot_lt k hk) (hO k hk))
theorem YmAt.chg0 {w' : World} (h : YmAt w V m) (hc : Chg (fun _ => False) w w') : YmAt w' V m := h.chg hc (fun _ _ h => h)
theorem YmAt.cell (h : YmAt w V m) (f : Nat) : w.cell? ⟨V.q, f, none⟩ = (ymBox V m)[f]? := by
  unfold World.cell?
  rw [h.box]
  rfl
theorem YmAt.free (h : YmAt w V m) (f : Nat) : w.frozen? ⟨V.q, f, none⟩ = false := by
  unfold World.frozen?
  rw [h.box]
  simp
theorem YmAt.bid_form (h : YmAt w V m) : ∃ ao cap, V.bv = .slice ao m.bids.length cap ∧ ∀ i b, m.bids[i]? = some b → ∃ g, ao = some ⟨g, 0, none⟩ ∧ V.bv.ownBlock = some g ∧ (∀ r u, (ybidCells b)[r]? = some u → w.cell? ⟨g, i * 9 + r, none⟩ = some u) ∧ ∀ r, w.frozen? ⟨g, r, none⟩ = false := by
  rcases h.bids.2 with ⟨hv, h0⟩ | ⟨g, cap, cur, hv, hg, hh, r⟩
  · refine ⟨none, 0, by rw [hv, h0], fun i b hb => ?_⟩
    have := (List.getElem?_eq_some_iff.1 hb).1
    omega
  · refine ⟨some ⟨g, 0, none⟩, cap, hv, fun i b hb => ⟨g, rfl, by rw [hv]; rfl, fun r u hu => ?_, fun r => by unfold World.frozen?; rw [hh]; simp⟩⟩
    have hr : r < 9 := by
      have := (List.getElem?_eq_some_iff.1 hu).1
      simpa [ybidCells] using this
    have := h.bids.cells (g := g) (by rw [hv]; rfl) (i * 9 + r) u (by rw [flat_get ybidCells 9 (fun _ => rfl) m.bids i b r hb hr]; exact hu)
    rwa [Addr.add_lit, Nat.zero_add] at this
theorem YmAt.susp_form (h : YmAt w V m) : ∃ ao cap, V.sv = .slice ao m.susp.length cap ∧ ∀ i, i < m.susp.length → ∃ g, ao = some ⟨g, 0, none⟩ ∧ V.sv.ownBlock = some g ∧ w.cell? ⟨g, i, none⟩ = some (.bool (m.susp.getD i false)) ∧ w.frozen? ⟨g, i, none⟩ = false := by
  rcases h.susp.2 with ⟨hv, h0⟩ | ⟨g, cap, cur, hv, hg, hh, r⟩
  · exact ⟨none, 0, by rw [hv, h0], fun i hi => by omega⟩
  · refine ⟨some ⟨g, 0, none⟩, cap, hv, fun i hi => ⟨g, rfl, by rw [hv]; rfl, ?_, by unfold World.frozen?; rw [hh]; simp⟩⟩
    have := h.susp.cells (g := g) (by rw [hv]; rfl) i (.bool (m.susp.getD i false)) (by simp [List.getD, List.getElem?_eq_getElem hi])
    rwa [Addr.add_lit, Nat.zero_add] at this
theorem YmAt.units_form (h : YmAt w V m) : ∃ ao cap, V.uv = .slice ao m.units.length cap ∧ ∀ i, i < m.units.length → ∃ g, ao = some ⟨g, 0, none⟩ ∧ V.uv.ownBlock = some g ∧ w.cell? ⟨g, i, none⟩ = some (.int .i64 (m.units.getD i 0)) ∧ w.frozen? ⟨g, i, none⟩ = false := by
  rcases h.units.2 with ⟨hv, h0⟩ | ⟨g, cap, cur, hv, hg, hh, r⟩
  · exact ⟨none, 0, by rw [hv, h0], fun i hi => by omega⟩
  · refine ⟨some ⟨g, 0, none⟩, cap, hv, fun i hi => ⟨g, rfl, by rw [hv]; rfl, ?_, by unfold World.frozen?; rw [hh]; simp⟩⟩
    have := h.units.cells (g := g) (by rw [hv]; rfl) i (.int .i64 (m.units.getD i 0)) (by simp [List.getD, List.getElem?_eq_getElem hi])
    rwa [Addr.add_lit, Nat.zero_add] at this
end

/-- a market that has become another: where it lies now, what has turned -/
def YmTo (w : World) (V : YV) (m' : MkG) (w' : World) : Prop :=
  ∃ V', V'.q = V.q ∧ YmAt w' V' m' ∧ Chg V.foot w w' ∧ ∀ k, V'.foot k → V.foot k ∨ w.heap.size ≤ k

theorem YmTo.refl {w : World} {V : YV} {m : MkG} (h : YmAt w V m) : YmTo w V m w := ⟨V, rfl, h, Chg.refl _ _, fun _ hk => .inl hk⟩
theorem YmTo.chg0 {w w' w2 : World} {V : YV} {m : MkG} (h : YmTo w V m w') (hc : Chg (fun _ => False) w' w2) : YmTo w V m w2 := by
  obtain ⟨V', h0, h1, h2, h3⟩ := h
  exact ⟨V', h0, h1.chg0 hc, h2.trans hc (fun _ _ h => h.elim), h3⟩
theorem YmTo.start {w w0 w' : World} {V : YV} {m : MkG} (hc : Chg (fun _ => False) w0 w) (h : YmTo w V m w') : YmTo w0 V m w' := by
  obtain ⟨V', h0, h1, h2, h3⟩ := h
  exact ⟨V', h0, h1, (hc.mono (O' := V.foot) (fun _ _ h => h.elim)).trans h2 (fun _ _ h => h), fun k hk => by
    rcases h3 k hk with h | h
    · exact .inl h
    · exact .inr (Nat.le_trans hc.size h)⟩
theorem YmTo.after {w w1 w2 : World} {V V1 : YV} {m2 : MkG} (hq : V1.q = V.q) (hc : Chg V.foot w w1) (hf : ∀ k, V1.foot k → V.foot k ∨ w.heap.size ≤ k) (h : YmTo w1 V1 m2 w2) : YmTo w V m2 w2 := by
  obtain ⟨V2, b0, b1, b2, b3⟩ := h
  refine ⟨V2, b0.trans hq, b1, hc.trans b2 (fun x hx hxf => ?_), fun k hk => ?_⟩
  · rcases hf x hxf with h | h
    · exact h
    · omega
  · rcases b3 k hk with h | h
    · exact hf k h
    · exact .inr (Nat.le_trans hc.size h)
theorem YmTo.same {w w' : World} {V : YV} {m : MkG} (h : YmAt w V m) (hc : Chg (fun _ => False) w w') : YmTo w V m w' := (YmTo.refl h).chg0 hc

/-- of the log the market knows nothing -/
theorem YmAt.logs {w : World} {V : YV} {m : MkG} (h : YmAt w V m) (c : CallG) : YmAt w V (m.logs c) := ⟨h.box, h.bids, h.susp, h.units, h.cal, h.ne⟩
theorem YmTo.logs {w w' : World} {V : YV} {m : MkG} (h : YmTo w V m w') (c : CallG) : YmTo w V (m.logs c) w' := by
  obtain ⟨V', h0, h1, h2, h3⟩ := h
  exact ⟨V', h0, h1.logs c, h2, h3⟩

/-- one bid more -/
theorem YmAt.bidMore {w w1 w2 : World} {V : YV} {m : MkG} {b : BidG} {g cap : Nat} (h : YmAt w V m) (hc1 : Chg (fun _ => False) w w1) (hst : b.state = 1)
    (hown : w2.ownsRow 0 125 9 (.slice (some ⟨g, 0, none⟩) (m.bids.length + 1) cap) (m.bids.length + 1) (m.bids.flatMap ybidCells ++ ybidCells b)) (hgrow : w1.grownBy w2 V.bv.ownBlock) (hat : V.bv.ownBlock = some g ∨ w.heap.size ≤ g) :
    w2.cell? ⟨V.q, 6, none⟩ = some V.bv ∧ w2.frozen? ⟨V.q, 6, none⟩ = false ∧ YmTo w V { m with bids := m.bids ++ [b] } (w2.setCell ⟨V.q, 6, none⟩ (.slice (some ⟨g, 0, none⟩) (m.bids.length + 1) cap)) := by
  have h1 := h.chg0 hc1
  have nl : V.bv.ownBlock ≠ some V.q := ownsRow_box h1.bids h1.box (by decide)
  have keep : ∀ k, V.foot k → V.bv.ownBlock ≠ some k → w2.heap[k]? = w1.heap[k]? := fun k hk hn => hgrow.block k (h1.foot_lt k hk) (fun e => hn e.symm)
  have hb2 : w2.heap[V.q]? = some (.cells (ymBox V m) 107 (0, 0)) := (keep _ (.inl rfl) nl).trans h1.box
  refine ⟨by unfold World.cell?; rw [hb2]; rfl, by unfold World.frozen?; rw [hb2]; simp, ?_⟩
  have far : ∀ k, k ≠ V.q → (w2.setCell ⟨V.q, 6, none⟩ (.slice (some ⟨g, 0, none⟩) (m.bids.length + 1) cap)).heap[k]? = w2.heap[k]? := fun k hk => Below.heap_setCell _ _ _ _ hk
  have ex : (ymBox V m).setIfInBounds 6 (.slice (some ⟨g, 0, none⟩) (m.bids.length + 1) cap) = ymBox { V with bv := .slice (some ⟨g, 0, none⟩) (m.bids.length + 1) cap } { m with bids := m.bids ++ [b] } := rfl
  have hgp : g ≠ V.q := by
    rintro rfl
    obtain ⟨cu, hc⟩ := ownsRow_block hown (k := V.q) rfl
    rw [hb2] at hc
    simp at hc
  have old : ∀ {e : TypeId} {size n : Nat} {v : Value} {xs : List Value}, w1.ownsRow 0 e size v n xs → e ≠ 125 → e ≠ 107 → (∀ k, v.ownBlock = some k → V.foot k) → (w2.setCell ⟨V.q, 6, none⟩ (.slice (some ⟨g, 0, none⟩) (m.bids.length + 1) cap)).ownsRow 0 e size v n xs := by
    intro e size n v xs ho he he' hf
    refine ownsRow_keep ho (fun k hk => ?_)
    rw [far k (fun e => ownsRow_box ho h1.box he' (e ▸ hk))]
    exact keep k (hf k hk) (ownsRow_apart ho h1.bids he hk)
  obtain ⟨curg, hg1, _⟩ := h1.cal.hg
  have kr : (w2.setCell ⟨V.q, 6, none⟩ (.slice (some ⟨g, 0, none⟩) (m.bids.length + 1) cap)).heap[V.r]? = w1.heap[V.r]? := by
    rw [far _ (cells_ne h1.cal.hp h1.box (by decide))]
    exact keep _ (.inr (.inl rfl)) (ownsRow_box h1.bids h1.cal.hp (by decide))
  have kg : (w2.setCell ⟨V.q, 6, none⟩ (.slice (some ⟨g, 0, none⟩) (m.bids.length + 1) cap)).heap[V.g]? = w1.heap[V.g]? := by
    rw [far _ (cells_ne hg1 h1.box (by decide))]
    exact keep _ (.inr (.inr (.inl rfl))) (ownsRow_box h1.bids hg1 (by decide))
  refine ⟨{ V with bv := .slice (some ⟨g, 0, none⟩) (m.bids.length + 1) cap }, rfl, ⟨by rw [box_set hb2, ex], ?_, old h1.susp (by decide) (by decide) (fun k hk => .inr (.inr (.inr (.inr (.inr hk))))), old h1.units (by decide) (by decide) (fun k hk => .inr (.inr (.inr (.inl hk)))), ?_, h.ne⟩, ?_, ?_⟩
  · show (w2.setCell _ _).ownsRow 0 _ 9 _ (m.bids ++ [b]).length ((m.bids ++ [b]).flatMap ybidCells)
    rw [List.length_append, List.flatMap_append]
    simp only [List.flatMap_cons, List.flatMap_nil, List.append_nil, List.length_cons, List.length_nil, Nat.zero_add]
    exact ownsRow_keep hown (fun k hk => far k (fun e => by simp [Value.ownBlock] at hk; exact hgp (hk.trans e)))
  · refine (h1.cal.frame kr kg).congr (fun j _ => ?_)
    show m.units.getD j 0 - usedL m.bids j = m.units.getD j 0 - usedL (m.bids ++ [b]) j
    rw [usedL_snoc, if_neg (by simp [BidG.runs, hst])]
    omega
  · exact (((hc1.mono (O' := V.foot) (fun _ _ h => h.elim)).grown hgrow (fun k hk => .inl (.inr (.inr (.inr (.inr (.inl hk)))))))).setCell (.inl (.inl rfl)) _
  · intro k hk
    rcases hk with rfl | rfl | rfl | hk | hk | hk
    · exact .inl (.inl rfl)
    · exact .inl (.inr (.inl rfl))
    · exact .inl (.inr (.inr (.inl rfl)))
    · exact .inl (.inr (.inr (.inr (.inl hk))))
    · simp [Value.ownBlock] at hk
      subst hk
      rcases hat with h | h
      · exact .inl (.inr (.inr (.inr (.inr (.inl h)))))
      · exact .inr h
    · exact .inl (.inr (.inr (.inr (.inr (.inr hk)))))

theorem ybids_arm {w w1 w2 : World} {V : YV} {m : MkG} {b : BidG} {ao : Option Addr} {cap n g cap' H : Nat} (h : YmAt w V m) (hv : V.bv = .slice ao m.bids.length cap) (hn : n = m.bids.length) (hst : b.state = 1) (hc1 : Chg (fun _ => False) w w1)
    (hown : w2.ownsRow 0 125 9 (.slice (some ⟨g, 0, none⟩) (n + 1) cap') (n + 1) (m.bids.flatMap ybidCells ++ ybidCells b)) (hgrow : w1.grownBy w2 (Value.ownBlock (.slice ao n cap))) (hat : Value.ownBlock (.slice ao n cap) = some g ∨ g = H) (hH : w.heap.size ≤ H) :
    w2.cell? ⟨V.q, 6, none⟩ = some (.slice ao n cap) ∧ w2.frozen? ⟨V.q, 6, none⟩ = false ∧ Hid (YmTo w V { m with bids := m.bids ++ [b] } (w2.setCell ⟨V.q, 6, none⟩ (.slice (some ⟨g, 0, none⟩) (n + 1) cap'))) := by
  subst hn
  rw [← hv] at hgrow hat ⊢
  exact h.bidMore hc1 hst hown hgrow (by rcases hat with h | h; exact .inl h; exact .inr (by omega))

theorem usedL_set (l : List BidG) (i : Nat) (b : BidG) (hb : l[i]? = some b) (s : Int) (h1 : b.state ≠ 2) (h2 : s ≠ 2) (t : Int) : usedL (l.set i { b with state := s }) t = usedL l t := by
  induction l generalizing i with
  | nil => simp at hb
  | cons y l ih =>
    cases i with
    | zero =>
      simp at hb
      subst hb
      simp [usedL, BidG.runs, h1, h2]
    | succ i =>
      simp only [List.getElem?_cons_succ] at hb
      have := ih i hb
      simp only [usedL, List.set_cons_succ, List.map_cons, List.sum_cons] at this ⊢
      omega

/-- a bid's state, written -/
theorem YmAt.setState {w : World} {V : YV} {m : MkG} {i g : Nat} {b : BidG} {s : Int} (h : YmAt w V m) (hb : m.bids[i]? = some b) (h1 : b.state ≠ 2) (h2 : s ≠ 2) (hg : V.bv.ownBlock = some g) :
    YmTo w V { m with bids := m.bids.set i { b with state := s } } (w.setCell ⟨g, i * 9 + 7, none⟩ (.int .i64 s)) := by
  have hil : i < m.bids.length := (List.getElem?_eq_some_iff.1 hb).1
  have hgp : g ≠ V.q := fun e => ownsRow_box h.bids h.box (by decide) (e ▸ hg)
  have far : ∀ k, k ≠ g → (w.setCell ⟨g, i * 9 + 7, none⟩ (.int .i64 s)).heap[k]? = w.heap[k]? := fun k hk => Below.heap_setCell _ _ _ _ hk
  have old : ∀ {e : TypeId} {size n : Nat} {v : Value} {xs : List Value}, w.ownsRow 0 e size v n xs → e ≠ 125 → (w.setCell ⟨g, i * 9 + 7, none⟩ (.int .i64 s)).ownsRow 0 e size v n xs := by
    intro e size n v xs ho he
    exact ownsRow_keep ho (fun k hk => far k (fun e => ownsRow_apart ho h.bids he hk (e ▸ hg)))
  obtain ⟨curg, hg1, _⟩ := h.cal.hg
  refine ⟨V, rfl, ⟨(far _ (Ne.symm hgp)).trans h.box, ?_, old h.susp (by decide), old h.units (by decide), ?_, h.ne⟩, ?_, fun k hk => .inl hk⟩
  · show (w.setCell _ _).ownsRow 0 _ 9 _ (m.bids.set i { b with state := s }).length ((m.bids.set i { b with state := s }).flatMap ybidCells)
    rw [List.length_set]
    have key : ∀ (l : List BidG) (i : Nat) (b : BidG), l[i]? = some b → (l.set i { b with state := s }).flatMap ybidCells = (l.flatMap ybidCells).set (i * 9 + 7) (.int .i64 s) := by
      intro l
      induction l with
      | nil => intro i b hb; simp at hb
      | cons y l ih =>
        intro i b hb
        cases i with
        | zero =>
          simp at hb
          subst hb
          simp [ybidCells]
        | succ i =>
          simp only [List.getElem?_cons_succ] at hb
          simp only [List.set_cons_succ, List.flatMap_cons, ih i b hb]
          rw [show (i + 1) * 9 + 7 = (ybidCells y).length + (i * 9 + 7) by simp [ybidCells]; omega]
          rw [List.set_append_right _ _ (by omega)]
          simp
    rw [key m.bids i b hb]
    rcases h.bids.2 with ⟨hv, h0⟩ | ⟨g', cap, cur, hv, hb0, hh, hc, hmx, hsz, htake⟩
    · omega
    · have hgg : g' = g := by rw [hv] at hg; simpa [Value.ownBlock] using hg
      subst hgg
      refine ⟨by simp [h.bids.1], .inr ⟨g', cap, cur.setIfInBounds (i * 9 + 7) (.int .i64 s), hv, hb0, box_set hh _, hc, hmx, by simpa using hsz, ?_⟩⟩
      rw [Array.toList_setIfInBounds, List.take_set, htake]
  · refine (h.cal.frame (far _ (fun e => ownsRow_box h.bids h.cal.hp (by decide) (e ▸ hg))) (far _ (fun e => ownsRow_box h.bids hg1 (by decide) (e ▸ hg)))).congr (fun j _ => ?_)
    show m.units.getD j 0 - usedL m.bids j = m.units.getD j 0 - usedL (m.bids.set i { b with state := s }) j
    rw [usedL_set m.bids i b hb s h1 h2]
  · exact (Chg.refl _ _).setCell (.inl (.inr (.inr (.inr (.inr (.inl hg)))))) _

/-- a tenant's mark, written -/
theorem YmAt.setSusp {w : World} {V : YV} {m : MkG} {i g : Nat} {s : Bool} (h : YmAt w V m) (hi : i < m.susp.length) (hg : V.sv.ownBlock = some g) :
    YmTo w V { m with susp := m.susp.set i s } (w.setCell ⟨g, i, none⟩ (.bool s)) := by
  have hgp : g ≠ V.q := fun e => ownsRow_box h.susp h.box (by decide) (e ▸ hg)
  have far : ∀ k, k ≠ g → (w.setCell ⟨g, i, none⟩ (.bool s)).heap[k]? = w.heap[k]? := fun k hk => Below.heap_setCell _ _ _ _ hk
  have old : ∀ {e : TypeId} {size n : Nat} {v : Value} {xs : List Value}, w.ownsRow 0 e size v n xs → e ≠ 4 → (w.setCell ⟨g, i, none⟩ (.bool s)).ownsRow 0 e size v n xs := by
    intro e size n v xs ho he
    exact ownsRow_keep ho (fun k hk => far k (fun e => ownsRow_apart ho h.susp he hk (e ▸ hg)))
  obtain ⟨curg, hg1, _⟩ := h.cal.hg
  refine ⟨V, rfl, ⟨(far _ (Ne.symm hgp)).trans h.box, old h.bids (by decide), ?_, old h.units (by decide), h.cal.frame (far _ (fun e => ownsRow_box h.susp h.cal.hp (by decide) (e ▸ hg))) (far _ (fun e => ownsRow_box h.susp hg1 (by decide) (e ▸ hg))), h.ne⟩, ?_, fun k hk => .inl hk⟩
  · show (w.setCell _ _).ownsRow 0 _ 1 _ (m.susp.set i s).length ((m.susp.set i s).map Value.bool)
    rw [List.length_set, List.map_set]
    rcases h.susp.2 with ⟨hv, h0⟩ | ⟨g', cap, cur, hv, hb0, hh, hc, hmx, hsz, htake⟩
    · omega
    · have hgg : g' = g := by rw [hv] at hg; simpa [Value.ownBlock] using hg
      subst hgg
      refine ⟨by simp, .inr ⟨g', cap, cur.setIfInBounds i (.bool s), hv, hb0, box_set hh _, hc, hmx, by simpa using hsz, ?_⟩⟩
      rw [Array.toList_setIfInBounds, List.take_set, htake]
  · exact (Chg.refl _ _).setCell (.inl (.inr (.inr (.inr (.inr (.inr hg)))))) _

/-- the units of a tick, written once the calendar knows of it -/
theorem YmAt.setUnit {w w' : World} {V : YV} {m : MkG} {i g : Nat} {u : Int} (h : YmAt w V m) (hi : i < m.units.length) (hg : V.uv.ownBlock = some g)
    (hrow : RowAt 98 w' V.r V.g m.units.length V.cc (addZ (freeZ m) i (i + 1) (u - m.units.getD i 0))) (hc : Chg (fun k => k = V.g) w w') :
    YmTo w V { m with units := m.units.set i u } (w'.setCell ⟨g, i, none⟩ (.int .i64 u)) := by
  have hgg0 : g ≠ V.g := fun e => h.ne (e ▸ hg)
  have hgp : g ≠ V.q := fun e => ownsRow_box h.units h.box (by decide) (e ▸ hg)
  obtain ⟨curg, hg1, _⟩ := h.cal.hg
  have far : ∀ k, k ≠ g → (w'.setCell ⟨g, i, none⟩ (.int .i64 u)).heap[k]? = w'.heap[k]? := fun k hk => Below.heap_setCell _ _ _ _ hk
  have mid : ∀ k, V.foot k → k ≠ V.g → w'.heap[k]? = w.heap[k]? := fun k hk hn => hc.block k (h.foot_lt k hk) hn
  have old : ∀ {e : TypeId} {size n : Nat} {v : Value} {xs : List Value}, w.ownsRow 0 e size v n xs → e ≠ 3 → (∀ k, v.ownBlock = some k → V.foot k) → (w'.setCell ⟨g, i, none⟩ (.int .i64 u)).ownsRow 0 e size v n xs := by
    intro e size n v xs ho he hf
    refine ownsRow_keep ho (fun k hk => ?_)
    rw [far k (fun e => ownsRow_apart ho h.units he hk (e ▸ hg))]
    exact mid k (hf k hk) (fun e => ownsRow_box ho hg1 he (e ▸ hk))
  refine ⟨V, rfl, ⟨?_, old h.bids (by decide) (fun k hk => .inr (.inr (.inr (.inr (.inl hk))))), old h.susp (by decide) (fun k hk => .inr (.inr (.inr (.inr (.inr hk))))), ?_, ?_, h.ne⟩, ?_, fun k hk => .inl hk⟩
  · rw [far _ (Ne.symm hgp), mid _ (.inl rfl) (cells_ne h.box hg1 (by decide))]
    exact h.box
  · show (w'.setCell _ _).ownsRow 0 _ 1 _ (m.units.set i u).length ((m.units.set i u).map (Value.int .i64))
    rw [List.length_set, List.map_set]
    have hu := ownsRow_keep (w' := w') h.units (fun k hk => mid k (.inr (.inr (.inr (.inl hk)))) (fun e => h.ne (e ▸ hk)))
    rcases hu.2 with ⟨hv, h0⟩ | ⟨g', cap, cur, hv, hb0, hh, hcp, hmx, hsz, htake⟩
    · omega
    · have hgg : g' = g := by rw [hv] at hg; simpa [Value.ownBlock] using hg
      subst hgg
      refine ⟨by simp, .inr ⟨g', cap, cur.setIfInBounds i (.int .i64 u), hv, hb0, box_set hh _, hcp, hmx, by simpa using hsz, ?_⟩⟩
      rw [Array.toList_setIfInBounds, List.take_set, htake]
  · show RowAt _ _ V.r V.g (m.units.set i u).length V.cc _
    rw [List.length_set]
    refine (hrow.frame (far _ (fun e => ownsRow_box h.units h.cal.hp (by decide) (e ▸ hg))) (far _ (Ne.symm hgg0))).congr (fun j hj => ?_)
    show addZ (freeZ m) i (i + 1) (u - m.units.getD i 0) j = (m.units.set i u).getD j 0 - usedL m.bids j
    unfold addZ freeZ
    by_cases e : j = i
    · subst e
      rw [if_pos ⟨by omega, by omega⟩]
      simp [List.getD, hj]
      omega
    · rw [if_neg (by omega)]
      simp [List.getD, Ne.symm e]
  · exact (hc.mono (O' := V.foot) (fun _ _ h => .inr (.inr (.inl h)))).setCell (.inl (.inr (.inr (.inr (.inl hg))))) _
end Go.Proofs.Ytminceigjejipaa
