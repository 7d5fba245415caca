import Derived.Test.YtminceigjejipabMkC
import Derived.Deep.RegionLaw
namespace Go.Proofs.Ytminceigjejipab
open Go.RowKit

theorem box_set {w : World} {p f : Nat} {cs : Array Value} {T : TypeId} (h : w.heap[p]? = some (.cells cs T (0, 0))) (u : Value) : (w.setCell ⟨p, f, none⟩ u).heap[p]? = some (.cells (cs.setIfInBounds f u) T (0, 0)) := by
  simp only [World.setCell, Array.getElem?_modify]
  simp [h]

end Go.Proofs.Ytminceigjejipab

namespace Go.Proofs.Ytminceigjejipab
open Go.RowKit

end Go.Proofs.Ytminceigjejipab

namespace Go.Proofs.Ytminceigjejipab
open Go.RowKit

theorem MkOk.bl {m : MkG} (h : MkOk m) : m.bids.length ≤ 300 := Nat.le_trans h.nb h.nl

theorem tenB_true {m : MkG} {k : Int} (h : m.tenB k = true) : 0 ≤ k ∧ k < m.c.ten := by simpa [MkG.tenB] using h

end Go.Proofs.Ytminceigjejipab

namespace Go.Proofs.Ytminceigjejipab
open Go.RowKit

def unitsTo (l : List Int) (f k u : Int) : List Int := (List.range l.length).map fun i : Nat => if f ≤ (i : Int) ∧ (i : Int) < k then u else l.getD i 0
theorem unitsTo_len (l : List Int) (f k u : Int) : (unitsTo l f k u).length = l.length := by simp [unitsTo]
theorem unitsTo_start (l : List Int) (f u : Int) : unitsTo l f f u = l := by
  apply List.ext_getElem?
  intro i
  unfold unitsTo
  by_cases hi : i < l.length
  · rw [List.getElem?_map, List.getElem?_range hi]
    have : ¬ (f ≤ (i : Int) ∧ (i : Int) < f) := by omega
    simp only [Option.map_some, if_neg this]
    simp [List.getD, List.getElem?_eq_getElem hi]
  · rw [List.getElem?_eq_none (by simp; omega), List.getElem?_eq_none (by omega)]
theorem unitsTo_step (l : List Int) (a k : Nat) (u : Int) (ha : a ≤ k) : (unitsTo l a k u).set k u = unitsTo l a ((k + 1 : Nat) : Int) u := by
  apply List.ext_getElem?
  intro i
  rw [List.getElem?_set]
  unfold unitsTo
  by_cases hi : i < l.length
  · rw [List.getElem?_map, List.getElem?_range hi, List.getElem?_map, List.getElem?_range hi]
    simp only [Option.map_some, List.length_map, List.length_range]
    by_cases e : k = i
    · subst e
      rw [if_pos rfl, if_pos hi, if_pos ⟨by omega, by omega⟩]
    · rw [if_neg e]
      by_cases h1 : (a : Int) ≤ (i : Int) ∧ (i : Int) < (k : Int)
      · rw [if_pos h1, if_pos ⟨h1.1, by omega⟩]
      · rw [if_neg h1, if_neg (by omega)]
  · rw [List.getElem?_eq_none (by simp; omega), List.getElem?_eq_none (by simp; omega)]
    by_cases e : k = i
    · subst e
      rw [if_pos rfl, if_neg (by simp; omega)]
    · rw [if_neg e]

theorem capArg_true {m : MkG} {f t u : Int} (h : capArg m f t u = true) : f < m.time ∨ (m.time ≤ f ∧ t ≤ f) ∨ (m.time ≤ f ∧ f < t ∧ m.c.ticks < t) ∨ (m.time ≤ f ∧ f < t ∧ t ≤ m.c.ticks ∧ u < 0) ∨ (m.time ≤ f ∧ f < t ∧ t ≤ m.c.ticks ∧ 0 ≤ u ∧ 100000 < u) := by
  simp [capArg] at h
  omega
theorem capArg_false {m : MkG} {f t u : Int} (h : capArg m f t u = false) : m.time ≤ f ∧ f < t ∧ t ≤ m.c.ticks ∧ 0 ≤ u ∧ u ≤ 100000 := by
  simp [capArg] at h
  omega

end Go.Proofs.Ytminceigjejipab

/-
  A TICK, AS PLAIN FUNCTIONS: which bids are looked at, in which order, what starts, what the ghost would want. Nothing of the program.
-/
namespace Go.Proofs.Ytminceigjejipab

def sizeJ (j : JobG) : Int := j.len * j.units
def BidG.openB (b : BidG) (m : MkG) (t : Int) : Bool := (b.state == 1) && !suspAt m b.ten && decide (b.arrival ≤ t) && decide (t + b.job.len ≤ b.job.dl)
def aheadJ (a b : JobG) (i k : Nat) : Bool := decide (b.val * sizeJ a < a.val * sizeJ b) || ((a.val * sizeJ b == b.val * sizeJ a) && decide (i < k))
def aheadI (l : List BidG) (i k : Nat) : Bool := match l[i]?, l[k]? with | some a, some b => aheadJ a.job b.job i k | _, _ => false
def fitsB (m : MkG) (b : BidG) (t : Int) : Bool := (List.range b.job.len.toNat).all fun s => decide (b.job.units ≤ freeV m (t + s))
def BidG.winB (b : BidG) (res : Int) : Bool := decide (res * sizeJ b.job ≤ b.job.val)
def candB (m : MkG) (t : Int) (b : BidG) : Bool := b.openB m t && (b.entry != m.ghost)

/-- the bids that are looked at, those ahead first -/
structure IsOrder (m : MkG) (t : Int) (l : List Nat) : Prop where
  mem : ∀ i, i ∈ l ↔ ∃ b, m.bids[i]? = some b ∧ candB m t b = true
  sorted : l.Pairwise (fun i k => aheadI m.bids i k = true)

/-- next: the best of the first k that are not in lk -/
def nextGo (m : MkG) (t : Int) (lk : Nat → Bool) : Nat → Int
  | 0 => -1
  | k + 1 =>
    let best := nextGo m t lk k
    match m.bids[k]? with
    | some b => if candB m t b && !lk k && (decide (best < 0) || aheadI m.bids k best.toNat) then k else best
    | none => best

def ghostI (m : MkG) (t : Int) : Option Nat := m.bids.findIdx? fun b => b.openB m t && (b.entry == m.ghost)
def roomB (m : MkG) (g : Option Nat) (t : Int) : Bool := match g with | some i => (match m.bids[i]? with | some b => fitsB m b t | none => false) | none => false
def startM (m : MkG) (i : Nat) (t : Int) : MkG := match m.bids[i]? with | some b => { m with bids := m.bids.set i { b with state := 2, start := t } } | none => m
def jobAt (m : MkG) (i : Nat) : JobG := match m.bids[i]? with | some b => b.job | none => noJob
/-- the least value with which bid g is ahead of bid k -/
def leastV (m : MkG) (g k : Nat) : Int :=
  let n := (jobAt m k).val * sizeJ (jobAt m g)
  let d := sizeJ (jobAt m k)
  if n.tmod d = 0 ∧ g < k then n.tdiv d else n.tdiv d + 1
def wantV (m : MkG) (g : Nat) (v : Int) : Int :=
  let r := m.c.res * sizeJ (jobAt m g)
  let v1 := if v < r then r else v
  if v1 < 1 then 1 else v1
def wantM (m : MkG) (g : Nat) (v : Int) : MkG := if m.need = 0 ∨ wantV m g v < m.need then { m with need := wantV m g v } else m

abbrev TkS := MkG × List (Int × Int)
def tickOne (t : Int) (g : Option Nat) (s : TkS) (i : Nat) : TkS :=
  match s.1.bids[i]? with
  | none => s
  | some b =>
    if fitsB s.1 b t && b.winB s.1.c.res then
      (match g with
        | some gi => if roomB s.1 g t && !roomB (startM s.1 i t) g t then wantM (startM s.1 i t) gi (leastV (startM s.1 i t) gi i) else startM s.1 i t
        | none => startM s.1 i t, s.2 ++ [(b.ten, b.ref)])
    else s
def tickFold (t : Int) (g : Option Nat) (m : MkG) (l : List Nat) : TkS := l.foldl (tickOne t g) (m, [])
def wantEnd (t : Int) (g : Option Nat) (m : MkG) : MkG := match g with | some gi => if roomB m g t then wantM m gi 0 else m | none => m
def BidG.expire (b : BidG) (now : Int) : BidG := if (b.state == 1) && decide (b.job.dl < now + b.job.len) then { b with state := 4 } else b
def tickEnd (t : Int) (m : MkG) : MkG := { m with time := t + 1, bids := m.bids.map fun b => b.expire (t + 1) }

def callTick : CallG := ⟨5, 0, 0, 0, noJob, false⟩
/-- a tick of a market whose log has room, and whose time is not over -/
def tickM (m : MkG) (l : List Nat) : MkG × List (Int × Int) :=
  let m1 := m.logs callTick
  let g := ghostI m1 m.time
  let s := tickFold m.time g m1 l
  (tickEnd m.time (wantEnd m.time g s.1), s.2)
def TickRes (m : MkG) (z : Int) (names : List (Int × Int)) (m' : MkG) : Prop :=
  (m.log.length = 300 ∧ z = 2 ∧ names = [] ∧ m' = m) ∨
  (m.log.length < 300 ∧ m.c.ticks ≤ m.time ∧ z = 11 ∧ names = [] ∧ m' = m.logs callTick) ∨
  (m.log.length < 300 ∧ m.time < m.c.ticks ∧ z = 0 ∧ ∃ l, IsOrder m m.time l ∧ m' = (tickM m l).1 ∧ names = (tickM m l).2)

/-! ### the order is one -/
theorem aheadI_some {l : List BidG} {i k : Nat} (h : aheadI l i k = true) : ∃ a b, l[i]? = some a ∧ l[k]? = some b ∧ aheadJ a.job b.job i k = true := by
  unfold aheadI at h
  split at h
  · rename_i a b ha hb
    exact ⟨a, b, ha, hb, h⟩
  · simp at h
theorem aheadJ_asymm {a b : JobG} {i k : Nat} (h : aheadJ a b i k = true) : aheadJ b a k i = false := by
  simp only [aheadJ, Bool.or_eq_true, Bool.and_eq_true, decide_eq_true_eq, beq_iff_eq, Bool.or_eq_false_iff, Bool.and_eq_false_iff, decide_eq_false_iff_not, beq_eq_false_iff_ne] at h ⊢
  omega
theorem aheadI_asymm {l : List BidG} {i k : Nat} (h : aheadI l i k = true) : aheadI l k i = false := by
  obtain ⟨a, b, ha, hb, hj⟩ := aheadI_some h
  unfold aheadI
  rw [ha, hb]
  exact aheadJ_asymm hj
theorem aheadI_irrefl {l : List BidG} {i : Nat} : aheadI l i i = false := by
  cases h : aheadI l i i
  · rfl
  · have := aheadI_asymm h
    rw [this] at h
    cases h

theorem sorted_unique {R : Nat → Nat → Prop} (ha : ∀ i k, R i k → ¬ R k i) : ∀ (l l' : List Nat), (∀ i, i ∈ l ↔ i ∈ l') → l.Pairwise R → l'.Pairwise R → l = l'
  | [], [], _, _, _ => rfl
  | [], b :: l', h, _, _ => by have := (h b).2 List.mem_cons_self; simp at this
  | a :: l, [], h, _, _ => by have := (h a).1 List.mem_cons_self; simp at this
  | a :: l, b :: l', h, h1, h2 => by
    rw [List.pairwise_cons] at h1 h2
    have hab : a = b := by
      rcases List.mem_cons.1 ((h a).1 List.mem_cons_self) with e | e
      · exact e
      · rcases List.mem_cons.1 ((h b).2 List.mem_cons_self) with e' | e'
        · exact e'.symm
        · exact absurd (h1.1 b e') (ha _ _ (h2.1 a e))
    subst hab
    have hn : a ∉ l := fun hm => ha _ _ (h1.1 a hm) (h1.1 a hm)
    have hn' : a ∉ l' := fun hm => ha _ _ (h2.1 a hm) (h2.1 a hm)
    rw [sorted_unique ha l l' (fun i => ?_) h1.2 h2.2]
    constructor
    · intro hi
      rcases List.mem_cons.1 ((h i).1 (List.mem_cons_of_mem _ hi)) with e | e
      · subst e; exact absurd hi hn
      · exact e
    · intro hi
      rcases List.mem_cons.1 ((h i).2 (List.mem_cons_of_mem _ hi)) with e | e
      · subst e; exact absurd hi hn'
      · exact e
theorem IsOrder.unique {m : MkG} {t : Int} {l l' : List Nat} (h : IsOrder m t l) (h' : IsOrder m t l') : l = l' :=
  sorted_unique (R := fun i k => aheadI m.bids i k = true) (fun i k h1 h2 => by rw [aheadI_asymm h1] at h2; cases h2) l l' (fun i => (h.mem i).trans (h'.mem i).symm) h.sorted h'.sorted
theorem TickRes.unique {m : MkG} {z z2 : Int} {n n2 : List (Int × Int)} {m1 m2 : MkG} (h : TickRes m z n m1) (h2 : TickRes m z2 n2 m2) : z = z2 ∧ n = n2 ∧ m1 = m2 := by
  rcases h with ⟨a, rfl, rfl, rfl⟩ | ⟨a, b, rfl, rfl, rfl⟩ | ⟨a, b, rfl, l, hl, rfl, rfl⟩ <;> rcases h2 with ⟨a2, rfl, rfl, rfl⟩ | ⟨a2, b2, rfl, rfl, rfl⟩ | ⟨a2, b2, rfl, l2, hl2, rfl, rfl⟩ <;> first | exact ⟨rfl, rfl, rfl⟩ | (exfalso; omega) | skip
  rw [hl.unique hl2]
  exact ⟨rfl, rfl, rfl⟩
end Go.Proofs.Ytminceigjejipab

namespace Go.Proofs.Ytminceigjejipab
open Go.RowKit

theorem mul_lt {a b A B : Int} (h0 : 0 ≤ a) (h1 : a ≤ A) (h2 : 0 ≤ b) (h3 : b ≤ B) : 0 ≤ a * b ∧ a * b ≤ A * B :=
  ⟨Int.mul_nonneg h0 h2, Int.mul_le_mul h1 h3 h2 (Int.le_trans h0 h1)⟩
theorem sizeJ_pos {tk : Int} {j : JobG} (h : jobIn tk j = true) (ht : tk ≤ 64) : 1 ≤ sizeJ j ∧ sizeJ j ≤ 64000 := by
  have hj := jobIn_true h
  have h1 := mul_lt (a := j.len) (b := j.units) (A := 64) (B := 1000) (by omega) (by omega) (by omega) (by omega)
  have h2 : 1 * 1 ≤ j.len * j.units := Int.mul_le_mul (by omega) (by omega) (by omega) (by omega)
  unfold sizeJ
  omega

theorem bool_dec (b : Bool) : decide (b = true) = b := by cases b <;> rfl

end Go.Proofs.Ytminceigjejipab

namespace Go.Proofs.Ytminceigjejipab
open Go.RowKit

theorem heap_get_lt {w : World} {p : Nat} {o : Obj} (h : w.heap[p]? = some o) : p < w.heap.size := (Array.getElem?_eq_some_iff.1 h).1

end Go.Proofs.Ytminceigjejipab
