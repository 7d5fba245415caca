import Derived.Test.YtminceigjejipaaCheck
import Derived.Test.YtminceigjejipaaG1
import Derived.Deep.RegionHeld3
import Derived.Deep.AppendLies
import Derived.BigRegion
import Derived.Deep.OwnRows
/-
  THE MARKET, AS PLAIN FUNCTIONS (the document's answer, up to the calls of stage 2). Nothing of the program.
-/
namespace Go.Proofs.Ytminceigjejipaa

structure JobG where
  arr : Int
  dl : Int
  len : Int
  units : Int
  val : Int
structure BidG where
  ten : Int
  ref : Int
  job : JobG
  arrival : Int
  state : Int
  start : Int
  entry : Int
  charged : Bool
structure CallG where
  kind : Int
  a : Int
  b : Int
  c : Int
  job : JobG
  on : Bool
structure InvG where
  ten : Int
  ref : Int
  cents : Int
structure CfgG where
  ticks : Int
  cap : Int
  res : Int
  ten : Int
  quo : Int
structure MkG where
  c : CfgG
  time : Int
  units : List Int
  bids : List BidG
  susp : List Bool
  log : List CallG
  paid : List Int
  charges : List InvG
  ghost : Int
  need : Int

def noJob : JobG := ⟨0, 0, 0, 0, 0⟩
def cfgOk (c : CfgG) : Bool := ckB c.ticks c.cap c.res c.ten c.quo

def openM (c : CfgG) : MkG := ⟨c, 0, List.replicate c.ticks.toNat c.cap, [], List.replicate c.ten.toNat false, [], List.replicate c.ten.toNat 0, [], -1, 0⟩

def BidG.runs (b : BidG) (t : Int) : Bool := (b.state == 2) && decide (b.start ≤ t) && decide (t < b.start + b.job.len)
def usedL (l : List BidG) (t : Int) : Int := (l.map fun b => if b.runs t then b.job.units else 0).sum
def BidG.is (b : BidG) (ten ref : Int) : Bool := (b.ten == ten) && (b.ref == ref)
def findL (l : List BidG) (ten ref : Int) : Option Nat := l.findIdx? fun b => b.is ten ref
def findZ (l : List BidG) (ten ref : Int) : Int := match findL l ten ref with | some i => i | none => -1
def BidG.pends (b : BidG) (ten : Int) : Bool := (b.ten == ten) && (b.state == 1)
def pendL (l : List BidG) (ten : Int) : Int := (l.countP fun b => b.pends ten : Nat)

def MkG.tenB (m : MkG) (k : Int) : Bool := decide (0 ≤ k) && decide (k < m.c.ten)
/-- the plain bounds of a job -/
def jobIn (ticks : Int) (j : JobG) : Bool := decide (0 ≤ j.arr) && decide (1 ≤ j.len) && decide (j.len ≤ ticks) && decide (1 ≤ j.units) && decide (j.units ≤ 1000) && decide (1 ≤ j.val) && decide (j.val ≤ 1048576) && decide (j.dl ≤ ticks)
def atOf (time : Int) (j : JobG) : Int := if j.arr < time then time else j.arr
def MkG.jobB (m : MkG) (j : JobG) : Bool := jobIn m.c.ticks j && decide (atOf m.time j + j.len ≤ j.dl)

def MkG.logs (m : MkG) (c : CallG) : MkG := { m with log := m.log ++ [c] }

def callSubmit (ten ref : Int) (j : JobG) : CallG := ⟨1, ten, ref, 0, j, false⟩
def callCancel (ten ref : Int) : CallG := ⟨2, ten, ref, 0, noJob, false⟩
def callCapacity (f t u : Int) : CallG := ⟨3, f, t, u, noJob, false⟩
def callSuspend (ten : Int) (on : Bool) : CallG := ⟨4, ten, 0, 0, noJob, on⟩

def suspAt (m : MkG) (ten : Int) : Bool := m.susp.getD ten.toNat false
def refB (m : MkG) (ten ref : Int) : Bool := decide (ref < 1) || decide (1073741824 < ref) || decide (0 ≤ findZ m.bids ten ref)

/-- why a Submit is refused behind the log: 0: it is not -/
def submitE (m : MkG) (ten ref : Int) (j : JobG) : Int :=
  if m.tenB ten = false then 3 else if suspAt m ten = true then 4 else if refB m ten ref = true then 5 else if m.jobB j = false then 6 else if m.c.quo ≤ pendL m.bids ten then 7 else 0
def newBid (m : MkG) (ten ref : Int) (j : JobG) : BidG := ⟨ten, ref, j, atOf m.time j, 1, -1, m.log.length, false⟩
def submitM (m : MkG) (ten ref : Int) (j : JobG) : MkG :=
  let m1 := m.logs (callSubmit ten ref j)
  if submitE m ten ref j = 0 then { m1 with bids := m1.bids ++ [newBid m ten ref j] } else m1

def stateAt (m : MkG) (i : Int) : Int := ((m.bids[i.toNat]?).map (·.state)).getD 0
def startAt (m : MkG) (i : Int) : Int := ((m.bids[i.toNat]?).map (·.start)).getD 0
def cancelE (m : MkG) (ten ref : Int) : Int :=
  if m.tenB ten = false then 3 else if findZ m.bids ten ref < 0 then 5 else if stateAt m (findZ m.bids ten ref) = 1 then 0 else 8
def setState (l : List BidG) (i : Nat) (s : Int) : List BidG := match l[i]? with | some b => l.set i { b with state := s } | none => l
def cancelM (m : MkG) (ten ref : Int) : MkG :=
  let m1 := m.logs (callCancel ten ref)
  if cancelE m ten ref = 0 then { m1 with bids := setState m1.bids (findZ m.bids ten ref).toNat 3 } else m1

def suspendE (m : MkG) (ten : Int) : Int := if m.tenB ten = false then 3 else 0
def suspendM (m : MkG) (ten : Int) (on : Bool) : MkG :=
  let m1 := m.logs (callSuspend ten on)
  if suspendE m ten = 0 then { m1 with susp := m1.susp.set ten.toNat on } else m1

def capArg (m : MkG) (f t u : Int) : Bool := decide (f < m.time) || decide (t ≤ f) || decide (m.c.ticks < t) || decide (u < 0) || decide (100000 < u)
/-- no more than u units are in use at the ticks f .. k -/
def capOk (m : MkG) (f k u : Int) : Prop := ∀ t, f ≤ t → t < k → usedL m.bids t ≤ u
def CapRes (m : MkG) (f t u z : Int) (m' : MkG) : Prop :=
  (capArg m f t u = true ∧ z = 9 ∧ m' = m.logs (callCapacity f t u)) ∨
  (capArg m f t u = false ∧ ¬ capOk m f t u ∧ z = 10 ∧ m' = m.logs (callCapacity f t u)) ∨
  (capArg m f t u = false ∧ capOk m f t u ∧ z = 0 ∧ m' = { m.logs (callCapacity f t u) with units := (List.range m.units.length).map fun i : Nat => if f ≤ (i : Int) ∧ (i : Int) < t then u else m.units.getD i 0 })

def lookE (m : MkG) (ten ref : Int) : Int := if m.tenB ten = false then 3 else if findZ m.bids ten ref < 0 then 5 else 0
def lookS (m : MkG) (ten ref : Int) : Int := if lookE m ten ref = 0 then stateAt m (findZ m.bids ten ref) else 0
def lookT (m : MkG) (ten ref : Int) : Int := if lookE m ten ref = 0 then startAt m (findZ m.bids ten ref) else 0
def freeE (m : MkG) (t : Int) : Int := if t < 0 ∨ m.c.ticks ≤ t then 9 else 0
def freeV (m : MkG) (t : Int) : Int := if t < 0 ∨ m.c.ticks ≤ t then 0 else m.units.getD t.toNat 0 - usedL m.bids t

/-! ### what holds of every market -/
structure BidOk (c : CfgG) (b : BidG) : Prop where
  t0 : 0 ≤ b.ten
  t1 : b.ten < c.ten
  r0 : 1 ≤ b.ref
  r1 : b.ref ≤ 1073741824
  job : jobIn c.ticks b.job = true
  a0 : b.job.arr ≤ b.arrival
  a1 : b.arrival + b.job.len ≤ b.job.dl
  s0 : 1 ≤ b.state
  s1 : b.state ≤ 4
  st0 : -1 ≤ b.start
  st1 : b.start ≤ 64
  e0 : 0 ≤ b.entry
  e1 : b.entry < 300
structure MkOk (m : MkG) : Prop where
  ck : cfgOk m.c = true
  nu : m.units.length = m.c.ticks.toNat
  ns : m.susp.length = m.c.ten.toNat
  np : m.paid.length = m.c.ten.toNat
  nl : m.log.length ≤ 300
  nb : m.bids.length ≤ m.log.length
  t0 : 0 ≤ m.time
  t1 : m.time ≤ m.c.ticks
  un : ∀ u ∈ m.units, 0 ≤ u ∧ u ≤ 100000
  bid : ∀ b ∈ m.bids, BidOk m.c b

theorem jobIn_true {ticks : Int} {j : JobG} (h : jobIn ticks j = true) : 0 ≤ j.arr ∧ 1 ≤ j.len ∧ j.len ≤ ticks ∧ 1 ≤ j.units ∧ j.units ≤ 1000 ∧ 1 ≤ j.val ∧ j.val ≤ 1048576 ∧ j.dl ≤ ticks := by
  simp [jobIn] at h
  omega
theorem cfgOk_true {c : CfgG} (h : cfgOk c = true) : (1 ≤ c.ticks ∧ c.ticks ≤ 64) ∧ (0 ≤ c.cap ∧ c.cap ≤ 100000) ∧ (0 ≤ c.res ∧ c.res ≤ 1000) ∧ (1 ≤ c.ten ∧ c.ten ≤ 8) ∧ 1 ≤ c.quo ∧ c.quo ≤ 16 := by
  simp only [cfgOk, ckB, Bool.and_eq_true] at h
  obtain ⟨⟨⟨⟨h1, h2⟩, h3⟩, h4⟩, h5⟩ := h
  exact ⟨inB_true h1, inB_true h2, inB_true h3, inB_true h4, inB_true h5⟩

theorem usedL_snoc (l : List BidG) (b : BidG) (t : Int) : usedL (l ++ [b]) t = usedL l t + if b.runs t then b.job.units else 0 := by
  simp [usedL]
theorem usedL_le (c : CfgG) (t : Int) : ∀ l : List BidG, (∀ b ∈ l, BidOk c b) → 0 ≤ usedL l t ∧ usedL l t ≤ 1000 * l.length
  | [], _ => by simp [usedL]
  | b :: l, h => by
    have ih := usedL_le c t l (fun x hx => h x (List.mem_cons_of_mem _ hx))
    have hj := jobIn_true (h b List.mem_cons_self).job
    simp only [usedL, List.map_cons, List.sum_cons, List.length_cons] at ih ⊢
    split <;> omega
theorem pendL_snoc (l : List BidG) (b : BidG) (t : Int) : pendL (l ++ [b]) t = pendL l t + if b.pends t then 1 else 0 := by
  simp only [pendL, List.countP_append, List.countP_cons, List.countP_nil]
  split <;> simp
theorem pendL_le (l : List BidG) (t : Int) : 0 ≤ pendL l t ∧ pendL l t ≤ l.length := by
  have : (l.countP fun b => b.pends t) ≤ l.length := List.countP_le_length
  unfold pendL
  omega
theorem findZ_none {l : List BidG} {ten ref : Int} (h : ∀ (i : Nat) (b : BidG), l[i]? = some b → b.is ten ref = false) : findZ l ten ref = -1 := by
  unfold findZ findL
  rw [List.findIdx?_eq_none_iff.2]
  intro x hx
  obtain ⟨i, hi⟩ := List.getElem?_of_mem hx
  exact h i x hi
theorem findZ_some {l : List BidG} {ten ref : Int} {k : Nat} {b : BidG} (hb : l[k]? = some b) (hk : b.is ten ref = true) (h : ∀ (i : Nat) (b : BidG), i < k → l[i]? = some b → b.is ten ref = false) : findZ l ten ref = k := by
  have hkl := (List.getElem?_eq_some_iff.1 hb)
  unfold findZ findL
  rw [List.findIdx?_eq_some_iff_getElem.2 ⟨hkl.1, by rw [hkl.2]; exact hk, fun j hj => by rw [h j _ hj (List.getElem?_eq_getElem (by have := hkl.1; omega))]; simp⟩]
theorem findZ_lt (l : List BidG) (ten ref : Int) : -1 ≤ findZ l ten ref ∧ findZ l ten ref < l.length := by
  unfold findZ
  split
  · rename_i i h
    have := List.findIdx?_eq_some_iff_getElem.1 h
    obtain ⟨h1, _⟩ := this
    omega
  · omega
end Go.Proofs.Ytminceigjejipaa

namespace Go.Proofs.Ytminceigjejipaa
open Go.RowKit

theorem hide {p : Prop} (h : p) : Hid p := h
theorem unhide {p : Prop} (h : Hid p) : p := h

/-- a row in memory: a struct of type T at p whose one field is a slice of n cells at the head of block g, which hold Z -/
structure RowAt (T : TypeId) (w : World) (p g n cap : Nat) (Z : Nat → Int) : Prop where
  hp : w.heap[p]? = some (.cells #[.slice (some ⟨g, 0, none⟩) n cap] T (0, 0))
  hg : ∃ cur, w.heap[g]? = some (.cells cur 3 (0, 0)) ∧ n ≤ cur.size ∧ ∀ j, j < n → cur[j]? = some (.int .i64 (Z j))

section
variable {T : TypeId} {w : World} {p g n cap : Nat} {Z : Nat → Int}
theorem RowAt.cellp (h : RowAt T w p g n cap Z) : w.cell? ⟨p, 0, none⟩ = some (.slice (some ⟨g, 0, none⟩) n cap) := by
  unfold World.cell?
  rw [h.hp]
  rfl
theorem RowAt.cellg (h : RowAt T w p g n cap Z) (j : Nat) (hj : j < n) : w.cell? ⟨g, j, none⟩ = some (.int .i64 (Z j)) := by
  obtain ⟨cur, h1, h2, h3⟩ := h.hg
  unfold World.cell?
  rw [h1]
  exact h3 j hj
theorem RowAt.freeg (h : RowAt T w p g n cap Z) (j : Nat) : w.frozen? ⟨g, j, none⟩ = false := by
  obtain ⟨cur, h1, h2, h3⟩ := h.hg
  unfold World.frozen?
  rw [h1]
  simp
theorem RowAt.ltp (h : RowAt T w p g n cap Z) : p < w.heap.size := (Array.getElem?_eq_some_iff.1 h.hp).1
theorem RowAt.ltg (h : RowAt T w p g n cap Z) : g < w.heap.size := by
  obtain ⟨cur, h1, _⟩ := h.hg
  exact (Array.getElem?_eq_some_iff.1 h1).1
theorem RowAt.ne (h : RowAt T w p g n cap Z) (hT : T ≠ 3) : p ≠ g := by
  rintro rfl
  obtain ⟨cur, h1, _⟩ := h.hg
  have := h.hp
  rw [h1] at this
  simp at this
  exact hT this.2.symm
theorem RowAt.congr {Z' : Nat → Int} (h : RowAt T w p g n cap Z) (e : ∀ j, j < n → Z j = Z' j) : RowAt T w p g n cap Z' := by
  obtain ⟨cur, h1, h2, h3⟩ := h.hg
  exact ⟨h.hp, cur, h1, h2, fun j hj => by rw [h3 j hj, e j hj]⟩
theorem RowAt.frame {w' : World} (h : RowAt T w p g n cap Z) (h1 : w'.heap[p]? = w.heap[p]?) (h2 : w'.heap[g]? = w.heap[g]?) : RowAt T w' p g n cap Z :=
  ⟨h1.trans h.hp, by obtain ⟨cur, a, b⟩ := h.hg; exact ⟨cur, h2.trans a, b⟩⟩
theorem RowAt.set (h : RowAt T w p g n cap Z) (hT : T ≠ 3) (k : Nat) (v : Int) : RowAt T (w.setCell ⟨g, k, none⟩ (.int .i64 v)) p g n cap (fun j => if j = k then v else Z j) := by
  have hne := h.ne hT
  refine ⟨by rw [Below.heap_setCell _ _ _ _ hne]; exact h.hp, ?_⟩
  obtain ⟨cur, h1, h2, h3⟩ := h.hg
  refine ⟨cur.setIfInBounds k (.int .i64 v), ?_, by simpa using h2, fun j hj => ?_⟩
  · simp only [World.setCell, Array.getElem?_modify]
    simp [h1]
  · rw [Array.getElem?_setIfInBounds]
    by_cases e : k = j
    · subst e
      rw [if_pos rfl, if_pos (by omega)]
      simp
    · rw [if_neg e, h3 j hj, if_neg (fun x => e x.symm)]
end
end Go.Proofs.Ytminceigjejipaa

/-
  THE DOCUMENT's MARKET IN MEMORY.
-/
namespace Go.Proofs.Ytminceigjejipaa
open Go.RowKit

def jobCells (j : JobG) : List Value := [.int .i64 j.arr, .int .i64 j.dl, .int .i64 j.len, .int .i64 j.units, .int .i64 j.val]
def bidCells (b : BidG) : List Value := [.int .i64 b.ten, .int .i64 b.ref, .int .i64 b.job.arr, .int .i64 b.job.dl, .int .i64 b.job.len, .int .i64 b.job.units, .int .i64 b.job.val, .int .i64 b.arrival, .int .i64 b.state, .int .i64 b.start, .int .i64 b.entry, .bool b.charged]
def callCells (c : CallG) : List Value := [.int .i64 c.kind, .int .i64 c.a, .int .i64 c.b, .int .i64 c.c, .int .i64 c.job.arr, .int .i64 c.job.dl, .int .i64 c.job.len, .int .i64 c.job.units, .int .i64 c.job.val, .bool c.on]
def invCells (i : InvG) : List Value := [.int .i64 i.ten, .int .i64 i.ref, .int .i64 i.cents]

structure MV where
  uv : Value
  bv : Value
  sv : Value
  lv : Value
  pv : Value
  cv : Value

def MV.foot (V : MV) (p k : Nat) : Prop := k = p ∨ V.uv.ownBlock = some k ∨ V.bv.ownBlock = some k ∨ V.sv.ownBlock = some k ∨ V.lv.ownBlock = some k ∨ V.pv.ownBlock = some k ∨ V.cv.ownBlock = some k

def mktBox (V : MV) (m : MkG) : Array Value := #[.int .i64 m.c.ticks, .int .i64 m.c.cap, .int .i64 m.c.res, .int .i64 m.c.ten, .int .i64 m.c.quo, .int .i64 m.time, V.uv, V.bv, V.sv, V.lv, V.pv, V.cv, .int .i64 m.ghost, .int .i64 m.need]

theorem ownsRow_keep {w w' : World} {base : Nat} {e : TypeId} {size : Nat} {v : Value} {n : Nat} {xs : List Value} (h : w.ownsRow base e size v n xs) (hb : ∀ k, v.ownBlock = some k → w'.heap[k]? = w.heap[k]?) : w'.ownsRow base e size v n xs := by
  refine ⟨h.1, ?_⟩
  rcases h.2 with h2 | ⟨g, cap, cur, hv, hg, hh, r⟩
  · exact .inl h2
  · exact .inr ⟨g, cap, cur, hv, hg, by rw [hb g (by rw [hv]; rfl)]; exact hh, r⟩

/-- the block of what is owned -/
theorem ownsRow_block {w : World} {base : Nat} {e : TypeId} {size : Nat} {v : Value} {n : Nat} {xs : List Value} (h : w.ownsRow base e size v n xs) {k : Nat} (hk : v.ownBlock = some k) : ∃ cur, w.heap[k]? = some (.cells cur e (0, 0)) := by
  rcases h.2 with ⟨hv, _⟩ | ⟨g, cap, cur, hv, hg, hh, r⟩
  · rw [hv] at hk; simp [Value.ownBlock] at hk
  · rw [hv] at hk
    simp [Value.ownBlock] at hk
    subst hk
    exact ⟨cur, hh⟩

/-- what is owned under two types is not one block -/
theorem ownsRow_apart {w : World} {base base' : Nat} {e e' : TypeId} {size size' : Nat} {v v' : Value} {n n' : Nat} {xs xs' : List Value} (h : w.ownsRow base e size v n xs) (h' : w.ownsRow base' e' size' v' n' xs') (he : e ≠ e') {k : Nat} (hk : v.ownBlock = some k) : v'.ownBlock ≠ some k := by
  intro hk'
  obtain ⟨c, h1⟩ := ownsRow_block h hk
  obtain ⟨c', h1'⟩ := ownsRow_block h' hk'
  rw [h1] at h1'
  simp at h1'
  exact he h1'.2
theorem ownsRow_box {w : World} {base : Nat} {e e' : TypeId} {size : Nat} {v : Value} {n : Nat} {xs : List Value} {p : Nat} {cs : Array Value} (h : w.ownsRow base e size v n xs) (hp : w.heap[p]? = some (.cells cs e' (0, 0))) (he : e ≠ e') : v.ownBlock ≠ some p := by
  intro hk
  obtain ⟨c, h1⟩ := ownsRow_block h hk
  rw [h1] at hp
  simp at hp
  exact he hp.2

theorem flat_get {α : Type} (f : α → List Value) (k : Nat) (hf : ∀ x, (f x).length = k) : ∀ (l : List α) (i : Nat) (x : α) (r : Nat), l[i]? = some x → r < k → (l.flatMap f)[i * k + r]? = (f x)[r]?
  | [], i, x, r, h, _ => by simp at h
  | y :: l, 0, x, r, h, hr => by
    simp at h
    subst h
    simp only [List.flatMap_cons, Nat.zero_mul, Nat.zero_add]
    rw [List.getElem?_append_left (by rw [hf]; exact hr)]
  | y :: l, i + 1, x, r, h, hr => by
    simp only [List.getElem?_cons_succ] at h
    simp only [List.flatMap_cons]
    rw [List.getElem?_append_right (by rw [hf, Nat.add_mul]; omega), hf, show (i + 1) * k + r - k = i * k + r by rw [Nat.add_mul]; omega]
    exact flat_get f k hf l i x r h hr

section
variable {w : World} {p : Nat} {V : MV} {m : MkG}
end
end Go.Proofs.Ytminceigjejipaa

namespace Go.Proofs.Ytminceigjejipaa
open Go.RowKit

theorem take_snoc {α : Type} {l : List α} {k : Nat} {x : α} (h : l[k]? = some x) : l.take (k + 1) = l.take k ++ [x] := by
  rw [List.take_add_one, h]
  rfl

end Go.Proofs.Ytminceigjejipaa

namespace Go.Proofs.Ytminceigjejipaa
open Go.RowKit

end Go.Proofs.Ytminceigjejipaa

namespace Go.Proofs.Ytminceigjejipaa
open Go.RowKit

def newB (n v : Int) : Bool := decide (n < 1) || decide (4096 < n) || !standB v
theorem newB_true {n v : Int} (h : newB n v = true) : n < 1 ∨ (1 ≤ n ∧ 4096 < n) ∨ (1 ≤ n ∧ n ≤ 4096 ∧ standB v = false) := by
  simp [newB] at h
  by_cases h1 : n < 1
  · exact .inl h1
  · by_cases h2 : 4096 < n
    · exact .inr (.inl ⟨by omega, h2⟩)
    · refine .inr (.inr ⟨by omega, by omega, ?_⟩)
      rcases h with (h | h) | h
      · omega
      · omega
      · exact h
theorem newB_false {n v : Int} (h : newB n v = false) : 1 ≤ n ∧ n ≤ 4096 ∧ standB v = true := by
  simp [newB] at h
  exact ⟨by omega, by omega, h.2⟩

set_option maxHeartbeats 1000000 in
theorem calNew_bad (n v : Int) (w : World) (h : newB n v = true) :
    Calls Try.prog 9 #[.int .i64 n, .int .i64 v] w fun e w' => e = .returned (.tuple #[.pointer none, .int .i64 9]) ∧ w' = w := by
  rcases newB_true h with h1 | ⟨h1, h2⟩ | ⟨h1, h2, h3⟩
  all_goals
    clear h
    go_enter Try.func9, Try.ntmps9
    go_wp2_with (go_at_call 38; refine (canStand_any _ _).mono ?_; rintro e w' ⟨rfl, hw⟩; subst w'; rw [h3])
    go_ret2
    exact ⟨rfl, rfl⟩

def CellsAt (w : World) (g n : Nat) (Z : Nat → Int) : Prop := ∃ cur, w.heap[g]? = some (.cells cur 3 (0, 0)) ∧ n ≤ cur.size ∧ ∀ j, j < n → cur[j]? = some (.int .i64 (Z j))
theorem CellsAt.cell {w : World} {g n : Nat} {Z : Nat → Int} (h : CellsAt w g n Z) (j : Nat) (hj : j < n) : w.cell? ⟨g, j, none⟩ = some (.int .i64 (Z j)) := by
  obtain ⟨cur, h1, h2, h3⟩ := h
  unfold World.cell?
  rw [h1]
  exact h3 j hj
theorem CellsAt.free {w : World} {g n : Nat} {Z : Nat → Int} (h : CellsAt w g n Z) (j : Nat) : w.frozen? ⟨g, j, none⟩ = false := by
  obtain ⟨cur, h1, h2, h3⟩ := h
  unfold World.frozen?
  rw [h1]
  simp
theorem CellsAt.set {w : World} {g n : Nat} {Z : Nat → Int} (h : CellsAt w g n Z) (k : Nat) (v : Int) : CellsAt (w.setCell ⟨g, k, none⟩ (.int .i64 v)) g n (fun j => if j = k then v else Z j) := by
  obtain ⟨cur, h1, h2, h3⟩ := h
  refine ⟨cur.setIfInBounds k (.int .i64 v), ?_, by simpa using h2, fun j hj => ?_⟩
  · simp only [World.setCell, Array.getElem?_modify]
    simp [h1]
  · rw [Array.getElem?_setIfInBounds]
    by_cases e : k = j
    · subst e
      rw [if_pos rfl, if_pos (by omega)]
      simp
    · rw [if_neg e, h3 j hj]
      simp [Ne.symm e]
theorem CellsAt.congr {w : World} {g n : Nat} {Z Z' : Nat → Int} (h : CellsAt w g n Z) (e : ∀ j, j < n → Z j = Z' j) : CellsAt w g n Z' := by
  obtain ⟨cur, h1, h2, h3⟩ := h
  exact ⟨cur, h1, h2, fun j hj => by rw [h3 j hj, e j hj]⟩
theorem CellsAt.made (w : World) (n : Nat) : CellsAt (w.alloc (.cells (madeCells #[.int .i64 0] n) 3)) w.heap.size n (fun _ => 0) :=
  ⟨_, heap_alloc_new w _, by rw [size_madeCells]; exact Nat.le_refl _, fun j hj => by simp [madeCells, hj, Nat.mod_one]⟩

theorem infoInt : (Try.prog.info? 3).map (fun i => (i.zero, i.size, i.bytes)) = some (some (.int .i64 0), 1, 8) := by kernel_rfl

set_option maxHeartbeats 1000000 in
theorem calNew_ok (n : Nat) (v : Int) (w : World) (h1 : 1 ≤ n) (h2 : n ≤ 4096) (h3 : standB v = true) :
    Calls Try.prog 9 #[.int .i64 n, .int .i64 v] w fun e w' => ∃ p, e = .returned (.tuple #[.pointer (some ⟨p, 0, none⟩), .int .i64 0]) ∧ w.heap.size ≤ p ∧ RowAt 98 w' p w.heap.size n n (fun _ => v) ∧ Chg (fun _ => False) w w' := by
  have hmk := run_make_row' (P := Try.prog) 27 3 (.int .i64 0) 8 Try.underlying27 infoInt rfl .i64 .i64 n (by omega) (by omega)
  have HM : Hid (CellsAt (w.alloc (.cells (madeCells #[.int .i64 0] n) 3)) w.heap.size n (fun _ => 0)) := CellsAt.made w n
  go_enter Try.func9, Try.ntmps9
  go_wp2_with (go_at_call 38; refine (canStand_any _ _).mono ?_; rintro e w' ⟨rfl, hw⟩; subst w'; rw [h3])
  clear hmk
  go_loopw [23] (fun i wr => ∃ k : Nat, k ≤ n ∧ i = .int .i64 k ∧ CellsAt wr w.heap.size n (fun j => if j < k then v else 0) ∧ Chg (fun _ => False) w wr) (fun i _ => n - (intOf i).toNat)
  case atStart => exact ⟨0, by omega, rfl, HM.out.congr (fun j _ => by simp), (Chg.refl _ _).alloc _⟩
  case round =>
    obtain ⟨k, hk, rfl, hcs, hchg⟩ := hrel
    have HCS : Hid (CellsAt wr w.heap.size n (fun j => if j < k then v else 0)) := hcs
    have HCH : Hid (Chg (fun _ => False) w wr) := hchg
    by_cases hlt : k < n
    · have hck := hcs.cell k hlt
      have hfk := hcs.free k
      clear hcs hchg
      simp only [Nat.lt_irrefl, if_false] at hck
      go_wp2
      go_roundw
      case rel => exact ⟨k + 1, by omega, by go_num, (HCS.out.set k v).congr (fun j _ => by
        by_cases e : j = k
        · simp [e]
        · rw [if_neg e]; simp [show (j < k ↔ j < k + 1) by omega]), HCH.out.setCell (.inr (Nat.le_refl _)) _⟩
      case measure => simp [intOf]; omega
    · clear hcs hchg
      go_wp2
      go_ret2
      have hlts : w.heap.size < wr.heap.size := by
        obtain ⟨cur, hh, _⟩ := HCS.out
        exact (Array.getElem?_eq_some_iff.1 hh).1
      refine ⟨wr.heap.size, rfl, by omega, ⟨heap_alloc_new wr _, ?_⟩, HCH.out.alloc _⟩
      obtain ⟨cur, hh1, hh2, hh3⟩ := HCS.out
      exact ⟨cur, by rw [Below.heap_alloc _ _ _ hlts]; exact hh1, hh2, fun j hj => by rw [hh3 j hj]; simp [show j < k by omega]⟩

end Go.Proofs.Ytminceigjejipaa
