import Derived.Test.YtminceigjejipaaG3
namespace Go.Proofs.Ytminceigjejipaa
open Go.RowKit

def unitsTo (l : List Int) (f k u : Int) : List Int := (List.range l.length).map fun i : Nat => if f ≤ (i : Int) ∧ (i : Int) < k then u else l.getD i 0
theorem unitsTo_len (l : List Int) (f k u : Int) : (unitsTo l f k u).length = l.length := by simp [unitsTo]
theorem unitsTo_start (l : List Int) (f u : Int) : unitsTo l f f u = l := by
  apply List.ext_getElem?
  intro i
  unfold unitsTo
  by_cases hi : i < l.length
  · rw [List.getElem?_map, List.getElem?_range hi]
    have : ¬ (f ≤ (i : Int) ∧ (i : Int) < f) := by omega
    simp only [Option.map_some, if_neg this]
    simp [List.getD, List.getElem?_eq_getElem hi]
  · rw [List.getElem?_eq_none (by simp; omega), List.getElem?_eq_none (by omega)]
theorem unitsTo_step (l : List Int) (a k : Nat) (u : Int) (ha : a ≤ k) : (unitsTo l a k u).set k u = unitsTo l a ((k + 1 : Nat) : Int) u := by
  apply List.ext_getElem?
  intro i
  rw [List.getElem?_set]
  unfold unitsTo
  by_cases hi : i < l.length
  · rw [List.getElem?_map, List.getElem?_range hi, List.getElem?_map, List.getElem?_range hi]
    simp only [Option.map_some, List.length_map, List.length_range]
    by_cases e : k = i
    · subst e
      rw [if_pos rfl, if_pos hi, if_pos ⟨by omega, by omega⟩]
    · rw [if_neg e]
      by_cases h1 : (a : Int) ≤ (i : Int) ∧ (i : Int) < (k : Int)
      · rw [if_pos h1, if_pos ⟨h1.1, by omega⟩]
      · rw [if_neg h1, if_neg (by omega)]
  · rw [List.getElem?_eq_none (by simp; omega), List.getElem?_eq_none (by simp; omega)]
    by_cases e : k = i
    · subst e
      rw [if_pos rfl, if_neg (by simp; omega)]
    · rw [if_neg e]

theorem capArg_true {m : MkG} {f t u : Int} (h : capArg m f t u = true) : f < m.time ∨ (m.time ≤ f ∧ t ≤ f) ∨ (m.time ≤ f ∧ f < t ∧ m.c.ticks < t) ∨ (m.time ≤ f ∧ f < t ∧ t ≤ m.c.ticks ∧ u < 0) ∨ (m.time ≤ f ∧ f < t ∧ t ≤ m.c.ticks ∧ 0 ≤ u ∧ 100000 < u) := by
  simp [capArg] at h
  omega
theorem capArg_false {m : MkG} {f t u : Int} (h : capArg m f t u = false) : m.time ≤ f ∧ f < t ∧ t ≤ m.c.ticks ∧ 0 ≤ u ∧ u ≤ 100000 := by
  simp [capArg] at h
  omega

end Go.Proofs.Ytminceigjejipaa

/-
  A TICK, AS PLAIN FUNCTIONS: which bids are looked at, in which order, what starts, what the ghost would want. Nothing of the program.
-/
namespace Go.Proofs.Ytminceigjejipaa

def sizeJ (j : JobG) : Int := j.len * j.units
def BidG.openB (b : BidG) (m : MkG) (t : Int) : Bool := (b.state == 1) && !suspAt m b.ten && decide (b.arrival ≤ t) && decide (t + b.job.len ≤ b.job.dl)
def aheadJ (a b : JobG) (i k : Nat) : Bool := decide (b.val * sizeJ a < a.val * sizeJ b) || ((a.val * sizeJ b == b.val * sizeJ a) && decide (i < k))
def aheadI (l : List BidG) (i k : Nat) : Bool := match l[i]?, l[k]? with | some a, some b => aheadJ a.job b.job i k | _, _ => false
def fitsB (m : MkG) (b : BidG) (t : Int) : Bool := (List.range b.job.len.toNat).all fun s => decide (b.job.units ≤ freeV m (t + s))
def BidG.winB (b : BidG) (res : Int) : Bool := decide (res * sizeJ b.job ≤ b.job.val)
def candB (m : MkG) (t : Int) (b : BidG) : Bool := b.openB m t && (b.entry != m.ghost)

/-- the bids that are looked at, those ahead first -/
structure IsOrder (m : MkG) (t : Int) (l : List Nat) : Prop where
  mem : ∀ i, i ∈ l ↔ ∃ b, m.bids[i]? = some b ∧ candB m t b = true
  sorted : l.Pairwise (fun i k => aheadI m.bids i k = true)

/-- next: the best of the first k that are not in lk -/
def nextGo (m : MkG) (t : Int) (lk : Nat → Bool) : Nat → Int
  | 0 => -1
  | k + 1 =>
    let best := nextGo m t lk k
    match m.bids[k]? with
    | some b => if candB m t b && !lk k && (decide (best < 0) || aheadI m.bids k best.toNat) then k else best
    | none => best

def ghostI (m : MkG) (t : Int) : Option Nat := m.bids.findIdx? fun b => b.openB m t && (b.entry == m.ghost)
def roomB (m : MkG) (g : Option Nat) (t : Int) : Bool := match g with | some i => (match m.bids[i]? with | some b => fitsB m b t | none => false) | none => false
def startM (m : MkG) (i : Nat) (t : Int) : MkG := match m.bids[i]? with | some b => { m with bids := m.bids.set i { b with state := 2, start := t } } | none => m
def jobAt (m : MkG) (i : Nat) : JobG := match m.bids[i]? with | some b => b.job | none => noJob
/-- the least value with which bid g is ahead of bid k -/
def leastV (m : MkG) (g k : Nat) : Int :=
  let n := (jobAt m k).val * sizeJ (jobAt m g)
  let d := sizeJ (jobAt m k)
  if n.tmod d = 0 ∧ g < k then n.tdiv d else n.tdiv d + 1
def wantV (m : MkG) (g : Nat) (v : Int) : Int :=
  let r := m.c.res * sizeJ (jobAt m g)
  let v1 := if v < r then r else v
  if v1 < 1 then 1 else v1
def wantM (m : MkG) (g : Nat) (v : Int) : MkG := if m.need = 0 ∨ wantV m g v < m.need then { m with need := wantV m g v } else m

abbrev TkS := MkG × List (Int × Int)
def tickOne (t : Int) (g : Option Nat) (s : TkS) (i : Nat) : TkS :=
  match s.1.bids[i]? with
  | none => s
  | some b =>
    if fitsB s.1 b t && b.winB s.1.c.res then
      (match g with
        | some gi => if roomB s.1 g t && !roomB (startM s.1 i t) g t then wantM (startM s.1 i t) gi (leastV (startM s.1 i t) gi i) else startM s.1 i t
        | none => startM s.1 i t, s.2 ++ [(b.ten, b.ref)])
    else s
def tickFold (t : Int) (g : Option Nat) (m : MkG) (l : List Nat) : TkS := l.foldl (tickOne t g) (m, [])
def wantEnd (t : Int) (g : Option Nat) (m : MkG) : MkG := match g with | some gi => if roomB m g t then wantM m gi 0 else m | none => m
def BidG.expire (b : BidG) (now : Int) : BidG := if (b.state == 1) && decide (b.job.dl < now + b.job.len) then { b with state := 4 } else b
def tickEnd (t : Int) (m : MkG) : MkG := { m with time := t + 1, bids := m.bids.map fun b => b.expire (t + 1) }

def callTick : CallG := ⟨5, 0, 0, 0, noJob, false⟩
/-- a tick of a market whose log has room, and whose time is not over -/
def tickM (m : MkG) (l : List Nat) : MkG × List (Int × Int) :=
  let m1 := m.logs callTick
  let g := ghostI m1 m.time
  let s := tickFold m.time g m1 l
  (tickEnd m.time (wantEnd m.time g s.1), s.2)
def TickRes (m : MkG) (z : Int) (names : List (Int × Int)) (m' : MkG) : Prop :=
  (m.log.length = 300 ∧ z = 2 ∧ names = [] ∧ m' = m) ∨
  (m.log.length < 300 ∧ m.c.ticks ≤ m.time ∧ z = 11 ∧ names = [] ∧ m' = m.logs callTick) ∨
  (m.log.length < 300 ∧ m.time < m.c.ticks ∧ z = 0 ∧ ∃ l, IsOrder m m.time l ∧ m' = (tickM m l).1 ∧ names = (tickM m l).2)

/-! ### the order is one -/
theorem aheadI_some {l : List BidG} {i k : Nat} (h : aheadI l i k = true) : ∃ a b, l[i]? = some a ∧ l[k]? = some b ∧ aheadJ a.job b.job i k = true := by
  unfold aheadI at h
  split at h
  · rename_i a b ha hb
    exact ⟨a, b, ha, hb, h⟩
  · simp at h
theorem aheadJ_asymm {a b : JobG} {i k : Nat} (h : aheadJ a b i k = true) : aheadJ b a k i = false := by
  simp only [aheadJ, Bool.or_eq_true, Bool.and_eq_true, decide_eq_true_eq, beq_iff_eq, Bool.or_eq_false_iff, Bool.and_eq_false_iff, decide_eq_false_iff_not, beq_eq_false_iff_ne] at h ⊢
  omega
theorem aheadI_asymm {l : List BidG} {i k : Nat} (h : aheadI l i k = true) : aheadI l k i = false := by
  obtain ⟨a, b, ha, hb, hj⟩ := aheadI_some h
  unfold aheadI
  rw [ha, hb]
  exact aheadJ_asymm hj
theorem aheadI_irrefl {l : List BidG} {i : Nat} : aheadI l i i = false := by
  cases h : aheadI l i i
  · rfl
  · have := aheadI_asymm h
    rw [this] at h
    cases h

theorem sorted_unique {R : Nat → Nat → Prop} (ha : ∀ i k, R i k → ¬ R k i) : ∀ (l l' : List Nat), (∀ i, i ∈ l ↔ i ∈ l') → l.Pairwise R → l'.Pairwise R → l = l'
  | [], [], _, _, _ => rfl
  | [], b :: l', h, _, _ => by have := (h b).2 List.mem_cons_self; simp at this
  | a :: l, [], h, _, _ => by have := (h a).1 List.mem_cons_self; simp at this
  | a :: l, b :: l', h, h1, h2 => by
    rw [List.pairwise_cons] at h1 h2
    have hab : a = b := by
      rcases List.mem_cons.1 ((h a).1 List.mem_cons_self) with e | e
      · exact e
      · rcases List.mem_cons.1 ((h b).2 List.mem_cons_self) with e' | e'
        · exact e'.symm
        · exact absurd (h1.1 b e') (ha _ _ (h2.1 a e))
    subst hab
    have hn : a ∉ l := fun hm => ha _ _ (h1.1 a hm) (h1.1 a hm)
    have hn' : a ∉ l' := fun hm => ha _ _ (h2.1 a hm) (h2.1 a hm)
    rw [sorted_unique ha l l' (fun i => ?_) h1.2 h2.2]
    constructor
    · intro hi
      rcases List.mem_cons.1 ((h i).1 (List.mem_cons_of_mem _ hi)) with e | e
      · subst e; exact absurd hi hn
      · exact e
    · intro hi
      rcases List.mem_cons.1 ((h i).2 (List.mem_cons_of_mem _ hi)) with e | e
      · subst e; exact absurd hi hn'
      · exact e
theorem IsOrder.unique {m : MkG} {t : Int} {l l' : List Nat} (h : IsOrder m t l) (h' : IsOrder m t l') : l = l' :=
  sorted_unique (R := fun i k => aheadI m.bids i k = true) (fun i k h1 h2 => by rw [aheadI_asymm h1] at h2; cases h2) l l' (fun i => (h.mem i).trans (h'.mem i).symm) h.sorted h'.sorted
theorem TickRes.unique {m : MkG} {z z2 : Int} {n n2 : List (Int × Int)} {m1 m2 : MkG} (h : TickRes m z n m1) (h2 : TickRes m z2 n2 m2) : z = z2 ∧ n = n2 ∧ m1 = m2 := by
  rcases h with ⟨a, rfl, rfl, rfl⟩ | ⟨a, b, rfl, rfl, rfl⟩ | ⟨a, b, rfl, l, hl, rfl, rfl⟩ <;> rcases h2 with ⟨a2, rfl, rfl, rfl⟩ | ⟨a2, b2, rfl, rfl, rfl⟩ | ⟨a2, b2, rfl, l2, hl2, rfl, rfl⟩ <;> first | exact ⟨rfl, rfl, rfl⟩ | (exfalso; omega) | skip
  rw [hl.unique hl2]
  exact ⟨rfl, rfl, rfl⟩
end Go.Proofs.Ytminceigjejipaa

namespace Go.Proofs.Ytminceigjejipaa
open Go.RowKit

theorem mul_lt {a b A B : Int} (h0 : 0 ≤ a) (h1 : a ≤ A) (h2 : 0 ≤ b) (h3 : b ≤ B) : 0 ≤ a * b ∧ a * b ≤ A * B :=
  ⟨Int.mul_nonneg h0 h2, Int.mul_le_mul h1 h3 h2 (Int.le_trans h0 h1)⟩
theorem sizeJ_pos {tk : Int} {j : JobG} (h : jobIn tk j = true) (ht : tk ≤ 64) : 1 ≤ sizeJ j ∧ sizeJ j ≤ 64000 := by
  have hj := jobIn_true h
  have h1 := mul_lt (a := j.len) (b := j.units) (A := 64) (B := 1000) (by omega) (by omega) (by omega) (by omega)
  have h2 : 1 * 1 ≤ j.len * j.units := Int.mul_le_mul (by omega) (by omega) (by omega) (by omega)
  unfold sizeJ
  omega

theorem bool_dec (b : Bool) : decide (b = true) = b := by cases b <;> rfl

end Go.Proofs.Ytminceigjejipaa

namespace Go.Proofs.Ytminceigjejipaa
open Go.RowKit

theorem heap_get_lt {w : World} {p : Nat} {o : Obj} (h : w.heap[p]? = some o) : p < w.heap.size := (Array.getElem?_eq_some_iff.1 h).1

end Go.Proofs.Ytminceigjejipaa

namespace Go.Proofs.Ytminceigjejipaa
open Go.RowKit

theorem freeV_range {m : MkG} (hok : MkOk m) (t : Int) : -300000 ≤ freeV m t ∧ freeV m t ≤ 100000 := by
  unfold freeV
  split
  · omega
  · rename_i h
    have hnu := hok.nu
    have hcf := cfgOk_true hok.ck
    have hi : t.toNat < m.units.length := by omega
    have hu := hok.un (m.units.getD t.toNat 0) (by simp [List.getD, List.getElem?_eq_getElem hi])
    have hus := usedL_le m.c t m.bids hok.bid
    have hbl := hok.bl
    omega

theorem fitsB_iff {m : MkG} {b : BidG} {t : Int} : fitsB m b t = true ↔ ∀ s : Nat, (s : Int) < b.job.len → b.job.units ≤ freeV m (t + s) := by
  simp only [fitsB, List.all_eq_true, List.mem_range, decide_eq_true_eq]
  constructor
  · intro h s hs
    exact h s (by omega)
  · intro h s hs
    exact h s (by omega)

theorem nextGo_lt (m : MkG) (t : Int) (lk : Nat → Bool) : ∀ k, -1 ≤ nextGo m t lk k ∧ nextGo m t lk k < (k : Int)
  | 0 => by simp [nextGo]
  | k + 1 => by
    have ih := nextGo_lt m t lk k
    unfold nextGo
    simp only
    split
    · split
      · omega
      · omega
    · omega
theorem nextGo_succ {m : MkG} {t : Int} {lk : Nat → Bool} {k : Nat} {b : BidG} (hb : m.bids[k]? = some b) : nextGo m t lk (k + 1) = if candB m t b && !lk k && (decide (nextGo m t lk k < 0) || aheadI m.bids k (nextGo m t lk k).toNat) then (k : Int) else nextGo m t lk k := by
  rw [nextGo]
  simp only [hb]

/-- a list of marks in memory -/
def LkAt (w : World) (lv : Value) (n : Nat) (lk : Nat → Bool) : Prop := ∃ ao cap, lv = .slice ao n cap ∧ ∀ j, j < n → ∃ g, ao = some ⟨g, 0, none⟩ ∧ g < w.heap.size ∧ w.cell? ⟨g, j, none⟩ = some (.bool (lk j)) ∧ w.frozen? ⟨g, j, none⟩ = false

theorem LkAt.chg0 {w w' : World} {lv : Value} {n : Nat} {lk : Nat → Bool} (h : LkAt w lv n lk) (hc : Chg (fun _ => False) w w') : LkAt w' lv n lk := by
  obtain ⟨ao, cap, hv, h⟩ := h
  refine ⟨ao, cap, hv, fun j hj => ?_⟩
  obtain ⟨g, h1, h2, h3, h4⟩ := h j hj
  exact ⟨g, h1, Nat.lt_of_lt_of_le h2 hc.size, by rw [hc.cell (by exact h2) (fun h => h)]; exact h3, by rw [hc.frozen (by exact h2) (fun h => h)]; exact h4⟩
end Go.Proofs.Ytminceigjejipaa

/-
  THE ORDER THAT 'next' TAKES IS THE ORDER. Nothing of the program.
-/
namespace Go.Proofs.Ytminceigjejipaa

theorem cross_le {av sa bv sb cv sc : Int} (h1 : 0 < sa) (h2 : 0 < sb) (h3 : 0 < sc) (hab : bv * sa ≤ av * sb) (hbc : cv * sb ≤ bv * sc) : cv * sa ≤ av * sc := by
  have e1 : sa * (cv * sb) ≤ sa * (bv * sc) := Int.mul_le_mul_of_nonneg_left hbc (by omega)
  have e2 : sc * (bv * sa) ≤ sc * (av * sb) := Int.mul_le_mul_of_nonneg_left hab (by omega)
  have r1 : sa * (cv * sb) = sb * (cv * sa) := by simp only [Int.mul_comm, Int.mul_left_comm]
  have r2 : sa * (bv * sc) = sc * (bv * sa) := by simp only [Int.mul_comm, Int.mul_left_comm]
  have r3 : sc * (av * sb) = sb * (av * sc) := by simp only [Int.mul_comm, Int.mul_left_comm]
  have : sb * (cv * sa) ≤ sb * (av * sc) := by omega
  exact Int.le_of_mul_le_mul_left this h2
theorem cross_lt {av sa bv sb cv sc : Int} (h1 : 0 < sa) (h2 : 0 < sb) (h3 : 0 < sc) (hab : bv * sa ≤ av * sb) (hbc : cv * sb ≤ bv * sc) (hs : bv * sa < av * sb ∨ cv * sb < bv * sc) : cv * sa < av * sc := by
  have e1 : sa * (cv * sb) ≤ sa * (bv * sc) := Int.mul_le_mul_of_nonneg_left hbc (by omega)
  have e2 : sc * (bv * sa) ≤ sc * (av * sb) := Int.mul_le_mul_of_nonneg_left hab (by omega)
  have r1 : sa * (cv * sb) = sb * (cv * sa) := by simp only [Int.mul_comm, Int.mul_left_comm]
  have r2 : sa * (bv * sc) = sc * (bv * sa) := by simp only [Int.mul_comm, Int.mul_left_comm]
  have r3 : sc * (av * sb) = sb * (av * sc) := by simp only [Int.mul_comm, Int.mul_left_comm]
  have : sb * (cv * sa) < sb * (av * sc) := by
    rcases hs with h | h
    · have := Int.mul_lt_mul_of_pos_left h h3
      omega
    · have := Int.mul_lt_mul_of_pos_left h h1
      omega
  exact Int.lt_of_mul_lt_mul_left this (by omega)

theorem aheadJ_iff {a b : JobG} {i k : Nat} : aheadJ a b i k = true ↔ (b.val * sizeJ a < a.val * sizeJ b ∨ (a.val * sizeJ b = b.val * sizeJ a ∧ i < k)) := by
  simp [aheadJ]
theorem aheadJ_trans {a b c : JobG} {i k l : Nat} (h1 : 0 < sizeJ a) (h2 : 0 < sizeJ b) (h3 : 0 < sizeJ c) (hab : aheadJ a b i k = true) (hbc : aheadJ b c k l = true) : aheadJ a c i l = true := by
  rw [aheadJ_iff] at hab hbc ⊢
  rcases hab with hab | ⟨hab, hik⟩ <;> rcases hbc with hbc | ⟨hbc, hkl⟩
  · exact .inl (cross_lt h1 h2 h3 (by omega) (by omega) (.inl hab))
  · exact .inl (cross_lt h1 h2 h3 (by omega) (by omega) (.inl hab))
  · exact .inl (cross_lt h1 h2 h3 (by omega) (by omega) (.inr hbc))
  · have e1 := cross_le (av := a.val) (sa := sizeJ a) (bv := b.val) (sb := sizeJ b) (cv := c.val) (sc := sizeJ c) h1 h2 h3 (by omega) (by omega)
    have e2 := cross_le (av := c.val) (sa := sizeJ c) (bv := b.val) (sb := sizeJ b) (cv := a.val) (sc := sizeJ a) h3 h2 h1 (by omega) (by omega)
    exact .inr ⟨by omega, by omega⟩
theorem aheadJ_total {a b : JobG} {i k : Nat} (h : i ≠ k) : aheadJ a b i k = true ∨ aheadJ b a k i = true := by
  rw [aheadJ_iff, aheadJ_iff]
  omega

/-- every job has a size -/
def SizesOk (l : List BidG) : Prop := ∀ b ∈ l, 0 < sizeJ b.job
theorem MkOk.sizes {m : MkG} (h : MkOk m) : SizesOk m.bids := fun b hb => by
  have := sizeJ_pos (h.bid b hb).job (cfgOk_true h.ck).1.2
  omega
theorem aheadI_trans {l : List BidG} (hl : SizesOk l) {i k j : Nat} (h1 : aheadI l i k = true) (h2 : aheadI l k j = true) : aheadI l i j = true := by
  obtain ⟨a, b, ha, hb, hj⟩ := aheadI_some h1
  obtain ⟨b', c, hb', hc, hj'⟩ := aheadI_some h2
  rw [hb] at hb'
  obtain rfl := Option.some.inj hb'
  rw [aheadI_eq0 ha hc]
  exact aheadJ_trans (hl a (List.mem_of_getElem? ha)) (hl b (List.mem_of_getElem? hb)) (hl c (List.mem_of_getElem? hc)) hj hj'
where
  aheadI_eq0 {l : List BidG} {i k : Nat} {a b : BidG} (ha : l[i]? = some a) (hb : l[k]? = some b) : aheadI l i k = aheadJ a.job b.job i k := by
    unfold aheadI
    rw [ha, hb]
theorem aheadI_total {l : List BidG} {i k : Nat} {a b : BidG} (ha : l[i]? = some a) (hb : l[k]? = some b) (h : i ≠ k) : aheadI l i k = true ∨ aheadI l k i = true := by
  unfold aheadI
  rw [ha, hb]
  exact aheadJ_total h

/-- what nextGo tells -/
def IsBest (m : MkG) (t : Int) (lk : Nat → Bool) (n : Nat) (z : Int) : Prop :=
  (z = -1 ∧ ∀ k b, k < n → m.bids[k]? = some b → candB m t b = true → lk k = true) ∨
  (∃ i : Nat, z = i ∧ i < n ∧ (∃ b, m.bids[i]? = some b ∧ candB m t b = true) ∧ lk i = false ∧ ∀ k b, k < n → m.bids[k]? = some b → candB m t b = true → lk k = false → k ≠ i → aheadI m.bids i k = true)
theorem nextGo_best {m : MkG} {t : Int} {lk : Nat → Bool} (hs : SizesOk m.bids) : ∀ n, IsBest m t lk n (nextGo m t lk n)
  | 0 => .inl ⟨rfl, fun k b h => by omega⟩
  | n + 1 => by
    have ih := nextGo_best (t := t) (lk := lk) hs n
    cases hb : m.bids[n]? with
    | none =>
      have e : nextGo m t lk (n + 1) = nextGo m t lk n := by rw [nextGo]; simp only [hb]
      rw [e]
      rcases ih with ⟨h1, h2⟩ | ⟨i, h1, h2, h3, h4, h5⟩
      · exact .inl ⟨h1, fun k b hk hkb => h2 k b (by rcases Nat.lt_succ_iff_lt_or_eq.1 hk with h | h; exact h; subst h; rw [hb] at hkb; cases hkb) hkb⟩
      · exact .inr ⟨i, h1, by omega, h3, h4, fun k b hk hkb => h5 k b (by rcases Nat.lt_succ_iff_lt_or_eq.1 hk with h | h; exact h; subst h; rw [hb] at hkb; cases hkb) hkb⟩
    | some b =>
      rw [nextGo_succ hb]
      by_cases hc : (candB m t b && !lk n) = true
      · simp only [Bool.and_eq_true, Bool.not_eq_true'] at hc
        rcases ih with ⟨h1, h2⟩ | ⟨i, h1, h2, h3, h4, h5⟩
        · rw [if_pos (by simp [hc.1, hc.2, h1])]
          refine .inr ⟨n, rfl, by omega, ⟨b, hb, hc.1⟩, hc.2, fun k b' hk hkb hkc hkl hne => ?_⟩
          rw [h2 k b' (by omega) hkb hkc] at hkl
          cases hkl
        · rw [h1]
          have hin : ¬ ((i : Int) < 0) := by omega
          cases ha : aheadI m.bids n i
          · rw [if_neg (by simp [hin, ha])]
            refine .inr ⟨i, rfl, by omega, h3, h4, fun k b' hk hkb hkc hkl hne => ?_⟩
            by_cases e : k < n
            · exact h5 k b' e hkb hkc hkl hne
            · obtain rfl : k = n := by omega
              obtain ⟨bi, hbi, _⟩ := h3
              rcases aheadI_total hbi hkb (fun e => hne e.symm) with h | h
              · exact h
              · rw [ha] at h; cases h
          · rw [if_pos (by simp [hc.1, hc.2, ha])]
            refine .inr ⟨n, rfl, by omega, ⟨b, hb, hc.1⟩, hc.2, fun k b' hk hkb hkc hkl hne => ?_⟩
            by_cases e : k = i
            · subst e; exact ha
            · exact aheadI_trans hs ha (h5 k b' (by omega) hkb hkc hkl e)
      · have hc' : (candB m t b && !lk n) = false := by simpa using hc
        rw [if_neg (by simp only [Bool.and_eq_true, not_and]; intro h; rw [Bool.and_eq_true] at hc; exact absurd (by simpa using h) hc)]
        rcases ih with ⟨h1, h2⟩ | ⟨i, h1, h2, h3, h4, h5⟩
        · refine .inl ⟨h1, fun k b' hk hkb hkc => ?_⟩
          by_cases e : k < n
          · exact h2 k b' e hkb hkc
          · obtain rfl : k = n := by omega
            rw [hb] at hkb
            obtain rfl := Option.some.inj hkb
            rw [hkc] at hc'
            simpa using hc'
        · refine .inr ⟨i, h1, by omega, h3, h4, fun k b' hk hkb hkc hkl hne => ?_⟩
          by_cases e : k < n
          · exact h5 k b' e hkb hkc hkl hne
          · obtain rfl : k = n := by omega
            rw [hb] at hkb
            obtain rfl := Option.some.inj hkb
            rw [hkc, hkl] at hc'
            cases hc'

/-- markets that differ in what has become of the bids of 'done', and in 'need' -/
structure AlikeM (m m' : MkG) (done : List Nat) : Prop where
  c : m'.c = m.c
  time : m'.time = m.time
  units : m'.units = m.units
  susp : m'.susp = m.susp
  log : m'.log = m.log
  paid : m'.paid = m.paid
  charges : m'.charges = m.charges
  ghost : m'.ghost = m.ghost
  len : m'.bids.length = m.bids.length
  bid : ∀ k : Nat, k ∉ done → m'.bids[k]? = m.bids[k]?
  job : ∀ k : Nat, (m'.bids[k]?).map BidG.job = (m.bids[k]?).map BidG.job

theorem AlikeM.refl (m : MkG) (done : List Nat) : AlikeM m m done := ⟨rfl, rfl, rfl, rfl, rfl, rfl, rfl, rfl, rfl, fun _ _ => rfl, fun _ => rfl⟩
theorem AlikeM.mono {m m' : MkG} {d d' : List Nat} (h : AlikeM m m' d) (hd : ∀ i ∈ d, i ∈ d') : AlikeM m m' d' :=
  ⟨h.c, h.time, h.units, h.susp, h.log, h.paid, h.charges, h.ghost, h.len, fun k hk => h.bid k (fun hx => hk (hd k hx)), h.job⟩
theorem AlikeM.ahead {m m' : MkG} {d : List Nat} (h : AlikeM m m' d) (i k : Nat) : aheadI m'.bids i k = aheadI m.bids i k := by
  have hi := h.job i
  have hk := h.job k
  unfold aheadI
  cases h1 : m'.bids[i]? <;> cases h2 : m.bids[i]? <;> rw [h1, h2] at hi <;> try (simp at hi; done)
  simp only [Option.map_some, Option.some.injEq] at hi
  cases h3 : m'.bids[k]? <;> cases h4 : m.bids[k]? <;> rw [h3, h4] at hk <;> try (simp at hk; done)
  simp only [Option.map_some, Option.some.injEq] at hk
  simp [hi, hk]
theorem AlikeM.cand {m m' : MkG} {d : List Nat} (h : AlikeM m m' d) (t : Int) (b : BidG) : candB m' t b = candB m t b := by
  unfold candB BidG.openB suspAt
  rw [h.susp, h.ghost]
theorem AlikeM.next {m m' : MkG} {d : List Nat} (h : AlikeM m m' d) (t : Int) (lk : Nat → Bool) (hl : ∀ i ∈ d, lk i = true) : ∀ n, nextGo m' t lk n = nextGo m t lk n
  | 0 => rfl
  | n + 1 => by
    have ih := AlikeM.next h t lk hl n
    rw [nextGo, nextGo]
    simp only [ih]
    by_cases hn : n ∈ d
    · have := hl n hn
      cases h1 : m'.bids[n]? <;> cases h2 : m.bids[n]? <;> simp [this]
    · rw [h.bid n hn]
      cases h2 : m.bids[n]?
      · rfl
      · simp only [h.cand, h.ahead]
theorem AlikeM.trans {m m' m2 : MkG} {d : List Nat} (h : AlikeM m m' d) (h' : AlikeM m' m2 d) : AlikeM m m2 d :=
  ⟨h'.c.trans h.c, h'.time.trans h.time, h'.units.trans h.units, h'.susp.trans h.susp, h'.log.trans h.log, h'.paid.trans h.paid, h'.charges.trans h.charges, h'.ghost.trans h.ghost, h'.len.trans h.len, fun k hk => (h'.bid k hk).trans (h.bid k hk), fun k => (h'.job k).trans (h.job k)⟩
theorem AlikeM.start (m : MkG) (i : Nat) (t : Int) : AlikeM m (startM m i t) [i] := by
  unfold startM
  cases hb : m.bids[i]? with
  | none => exact AlikeM.refl _ _
  | some b =>
    refine ⟨rfl, rfl, rfl, rfl, rfl, rfl, rfl, rfl, by simp, fun k hk => ?_, fun k => ?_⟩
    · simp only [List.mem_singleton] at hk
      simp [Ne.symm hk]
    · by_cases e : i = k
      · subst e
        have hl := (List.getElem?_eq_some_iff.1 hb).1
        simp [hl]
        rw [List.getElem?_eq_getElem hl] at hb
        simpa using congrArg BidG.job (Option.some.inj hb).symm
      · simp [e]
theorem AlikeM.want (m : MkG) (i : Nat) (v : Int) : AlikeM m (wantM m i v) [] := by
  unfold wantM
  split
  · exact ⟨rfl, rfl, rfl, rfl, rfl, rfl, rfl, rfl, rfl, fun _ _ => rfl, fun _ => rfl⟩
  · exact AlikeM.refl _ _
theorem AlikeM.one (t : Int) (g : Option Nat) (s : TkS) (i : Nat) : AlikeM s.1 (tickOne t g s i).1 [i] := by
  unfold tickOne
  split
  · exact AlikeM.refl _ _
  · split
    · cases g with
      | none => exact AlikeM.start _ _ _
      | some gi =>
        simp only
        split
        · exact (AlikeM.start _ _ _).trans ((AlikeM.want _ _ _).mono (fun i hi => by simp at hi))
        · exact AlikeM.start _ _ _
    · exact AlikeM.refl _ _
theorem AlikeM.fold (t : Int) (g : Option Nat) : ∀ (l : List Nat) (s : TkS), AlikeM s.1 (l.foldl (tickOne t g) s).1 l
  | [], s => AlikeM.refl _ _
  | i :: l, s => ((AlikeM.one t g s i).mono (fun j hj => by simp at hj; subst hj; exact List.mem_cons_self)).trans ((AlikeM.fold t g l (tickOne t g s i)).mono (fun j hj => List.mem_cons_of_mem _ hj))

/-- bids that were looked at so far -/
structure Sel (m : MkG) (t : Int) (done : List Nat) : Prop where
  mem : ∀ i ∈ done, ∃ b, m.bids[i]? = some b ∧ candB m t b = true
  sorted : done.Pairwise (fun i k => aheadI m.bids i k = true)
  front : ∀ i ∈ done, ∀ k b, m.bids[k]? = some b → candB m t b = true → k ∉ done → aheadI m.bids i k = true
theorem Sel.nil (m : MkG) (t : Int) : Sel m t [] := ⟨fun i h => by simp at h, List.Pairwise.nil, fun i h => by simp at h⟩
def inL (l : List Nat) (i : Nat) : Bool := decide (i ∈ l)
theorem Sel.snoc {m : MkG} {t : Int} {done : List Nat} {n i : Nat} (hn : n = m.bids.length) (h : Sel m t done) (hb : IsBest m t (inL done) n (i : Int)) : Sel m t (done ++ [i]) ∧ i ∉ done ∧ ∃ b, m.bids[i]? = some b ∧ candB m t b = true := by
  rcases hb with ⟨h1, _⟩ | ⟨j, h1, h2, ⟨b, hb, hc⟩, h4, h5⟩
  · omega
  · obtain rfl : j = i := by omega
    have hni : j ∉ done := by simpa [inL] using h4
    refine ⟨⟨fun k hk => ?_, ?_, fun k hk k' b' hkb hkc hkn => ?_⟩, hni, b, hb, hc⟩
    · rcases List.mem_append.1 hk with hk | hk
      · exact h.mem k hk
      · simp at hk; subst hk; exact ⟨b, hb, hc⟩
    · rw [List.pairwise_append]
      refine ⟨h.sorted, by simp, fun a ha c hc' => ?_⟩
      simp at hc'
      subst hc'
      exact h.front a ha _ b hb hc hni
    · have hkd : k' ∉ done := fun hx => hkn (List.mem_append_left _ hx)
      have hkj : k' ≠ j := fun hx => hkn (by simp [hx])
      rcases List.mem_append.1 hk with hk | hk
      · exact h.front k hk k' b' hkb hkc hkd
      · simp at hk
        subst hk
        have hlt : k' < n := by have := (List.getElem?_eq_some_iff.1 hkb).1; omega
        exact h5 k' b' hlt hkb hkc (by simpa [inL] using hkd) hkj
theorem Sel.done {m : MkG} {t : Int} {done : List Nat} {n : Nat} {z : Int} (hn : n = m.bids.length) (h : Sel m t done) (hb : IsBest m t (inL done) n z) (hz : z < 0) : IsOrder m t done := by
  rcases hb with ⟨h1, h2⟩ | ⟨j, h1, _⟩
  · refine ⟨fun i => ⟨h.mem i, fun ⟨b, hb, hc⟩ => ?_⟩, h.sorted⟩
    have hlt : i < n := by have := (List.getElem?_eq_some_iff.1 hb).1; omega
    simpa [inL] using h2 i b hlt hb hc
  · omega

/-! ### all is well behind it -/
theorem MkOk.start {m : MkG} (h : MkOk m) (i : Nat) {t : Int} (h0 : 0 ≤ t) (h1 : t ≤ 64) : MkOk (startM m i t) := by
  unfold startM
  cases hb : m.bids[i]? with
  | none => exact h
  | some b =>
    refine ⟨h.ck, h.nu, h.ns, h.np, h.nl, by have := h.nb; simpa using this, h.t0, h.t1, h.un, fun x hx => ?_⟩
    rcases List.mem_or_eq_of_mem_set hx with hx | rfl
    · exact h.bid x hx
    · have ho := h.bid b (List.mem_of_getElem? hb)
      exact ⟨ho.t0, ho.t1, ho.r0, ho.r1, ho.job, ho.a0, ho.a1, by simp, by simp, by simp only; omega, by simp only; omega, ho.e0, ho.e1⟩
theorem MkOk.want {m : MkG} (h : MkOk m) (i : Nat) (v : Int) : MkOk (wantM m i v) := by
  unfold wantM
  split
  · exact ⟨h.ck, h.nu, h.ns, h.np, h.nl, h.nb, h.t0, h.t1, h.un, h.bid⟩
  · exact h
theorem MkOk.one {s : TkS} (h : MkOk s.1) (g : Option Nat) (i : Nat) {t : Int} (h0 : 0 ≤ t) (h1 : t ≤ 64) : MkOk (tickOne t g s i).1 := by
  unfold tickOne
  split
  · exact h
  · split
    · cases g with
      | none => exact h.start i h0 h1
      | some gi =>
        simp only
        split
        · exact (h.start i h0 h1).want _ _
        · exact h.start i h0 h1
    · exact h
theorem MkOk.fold (g : Option Nat) {t : Int} (h0 : 0 ≤ t) (h1 : t ≤ 64) : ∀ (l : List Nat) (s : TkS), MkOk s.1 → MkOk (l.foldl (tickOne t g) s).1
  | [], _, h => h
  | i :: l, s, h => MkOk.fold g h0 h1 l (tickOne t g s i) (h.one g i h0 h1)
theorem BidG.expire_ok {c : CfgG} {b : BidG} (h : BidOk c b) (now : Int) : BidOk c (b.expire now) := by
  unfold BidG.expire
  split
  · exact ⟨h.t0, h.t1, h.r0, h.r1, h.job, h.a0, h.a1, by simp, by simp, h.st0, h.st1, h.e0, h.e1⟩
  · exact h
theorem MkOk.tickEnd {m : MkG} (h : MkOk m) {t : Int} (h0 : 0 ≤ t) (h1 : t < m.c.ticks) : MkOk (tickEnd t m) := by
  refine ⟨h.ck, h.nu, h.ns, h.np, h.nl, by have := h.nb; simpa [Go.Proofs.Ytminceigjejipaa.tickEnd] using this, by simp only [Go.Proofs.Ytminceigjejipaa.tickEnd]; omega, by simp only [Go.Proofs.Ytminceigjejipaa.tickEnd]; omega, h.un, fun b hb => ?_⟩
  simp only [Go.Proofs.Ytminceigjejipaa.tickEnd, List.mem_map] at hb
  obtain ⟨b', hb', rfl⟩ := hb
  exact BidG.expire_ok (h.bid b' hb') _
theorem tickFold_snoc (t : Int) (g : Option Nat) (m : MkG) (l : List Nat) (i : Nat) : tickFold t g m (l ++ [i]) = tickOne t g (tickFold t g m l) i := by
  simp [tickFold]
end Go.Proofs.Ytminceigjejipaa

namespace Go.Proofs.Ytminceigjejipaa
open Go.RowKit

theorem aheadI_eq {l : List BidG} {i k : Nat} {a b : BidG} (ha : l[i]? = some a) (hb : l[k]? = some b) : aheadI l i k = aheadJ a.job b.job i k := by
  unfold aheadI
  rw [ha, hb]

end Go.Proofs.Ytminceigjejipaa

/-
  ARRIVALS: a bid has arrived by now, or its job says when it does.
-/
namespace Go.Proofs.Ytminceigjejipaa

def ArrOk (m : MkG) : Prop := ∀ b ∈ m.bids, b.arrival = b.job.arr ∨ b.arrival ≤ m.time
theorem ArrOk.open (c : CfgG) : ArrOk (openM c) := fun b hb => by simp [openM] at hb
theorem ArrOk.logs {m : MkG} (h : ArrOk m) (c : CallG) : ArrOk (m.logs c) := h
theorem ArrOk.submit {m : MkG} (h : ArrOk m) (ten ref : Int) (j : JobG) : ArrOk (submitM m ten ref j) := by
  unfold submitM
  simp only
  split
  · intro b hb
    rcases List.mem_append.1 hb with hb | hb
    · exact h b hb
    · simp at hb
      subst hb
      simp only [newBid, atOf]
      show (if j.arr < m.time then m.time else j.arr) = j.arr ∨ (if j.arr < m.time then m.time else j.arr) ≤ m.time
      split
      · exact .inr (Int.le_refl _)
      · exact .inl rfl
  · exact h
theorem ArrOk.cancel {m : MkG} (h : ArrOk m) (ten ref : Int) : ArrOk (cancelM m ten ref) := by
  unfold cancelM
  simp only
  split
  · intro b hb
    have hb' : b ∈ setState m.bids (findZ m.bids ten ref).toNat 3 := hb
    unfold setState at hb'
    split at hb'
    · rename_i b0 hb0
      rcases List.mem_or_eq_of_mem_set hb' with hb2 | rfl
      · exact h b hb2
      · exact h b0 (List.mem_of_getElem? hb0)
    · exact h b hb'
  · exact h
theorem ArrOk.suspend {m : MkG} (h : ArrOk m) (ten : Int) (on : Bool) : ArrOk (suspendM m ten on) := by
  unfold suspendM
  simp only
  split
  · exact h
  · exact h
theorem ArrOk.cap {m m' : MkG} {f t u z : Int} (h : ArrOk m) (hr : CapRes m f t u z m') : ArrOk m' := by
  rcases hr with ⟨_, _, rfl⟩ | ⟨_, _, _, rfl⟩ | ⟨_, _, _, rfl⟩ <;> exact h
theorem ArrOk.start {m : MkG} (h : ArrOk m) (i : Nat) (t : Int) : ArrOk (startM m i t) := by
  unfold startM
  split
  · rename_i b0 hb0
    intro b hb
    rcases List.mem_or_eq_of_mem_set hb with hb2 | rfl
    · exact h b hb2
    · exact h b0 (List.mem_of_getElem? hb0)
  · exact h
theorem ArrOk.fold (t : Int) : ∀ (l : List Nat) (s : TkS), ArrOk s.1 → ArrOk (l.foldl (tickOne t none) s).1
  | [], _, h => h
  | i :: l, s, h => ArrOk.fold t l (tickOne t none s i) (by
    unfold tickOne
    split
    · exact h
    · split
      · exact h.start i t
      · exact h)
theorem ArrOk.tickEnd {m : MkG} (h : ArrOk m) {t : Int} (ht : m.time ≤ t) : ArrOk (tickEnd t m) := by
  intro b hb
  simp only [Go.Proofs.Ytminceigjejipaa.tickEnd, List.mem_map] at hb
  obtain ⟨b', hb', rfl⟩ := hb
  have e : (b'.expire (t + 1)).arrival = b'.arrival ∧ (b'.expire (t + 1)).job = b'.job := by
    unfold BidG.expire
    split <;> exact ⟨rfl, rfl⟩
  rw [e.1, e.2]
  rcases h b' hb' with h1 | h1
  · exact .inl h1
  · exact .inr (by simp only [Go.Proofs.Ytminceigjejipaa.tickEnd]; omega)
end Go.Proofs.Ytminceigjejipaa
