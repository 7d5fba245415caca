import Derived.Test.YtminceigjejipabGreatCheck
import Derived.Test.YtminceigjejipabGreatG1
import Derived.Deep.RegionHeld3
import Derived.Deep.AppendLies
import Derived.Deep.OwnRows
/-
  THE MARKET, AS PLAIN FUNCTIONS (the document's answer, up to the calls of stage 2). Nothing of the program.
-/
namespace Go.Proofs.YtminceigjejipabGreat

structure JobG where
  arr : Int
  dl : Int
  len : Int
  units : Int
  val : Int
structure BidG where
  ten : Int
  ref : Int
  job : JobG
  arrival : Int
  state : Int
  start : Int
  entry : Int
  charged : Bool
structure CallG where
  kind : Int
  a : Int
  b : Int
  c : Int
  job : JobG
  on : Bool
structure InvG where
  ten : Int
  ref : Int
  cents : Int
structure CfgG where
  ticks : Int
  cap : Int
  res : Int
  ten : Int
  quo : Int
structure MkG where
  c : CfgG
  time : Int
  units : List Int
  bids : List BidG
  susp : List Bool
  log : List CallG
  paid : List Int
  charges : List InvG
  ghost : Int
  need : Int

def noJob : JobG := ⟨0, 0, 0, 0, 0⟩
def cfgOk (c : CfgG) : Bool := ckB c.ticks c.cap c.res c.ten c.quo

def openM (c : CfgG) : MkG := ⟨c, 0, List.replicate c.ticks.toNat c.cap, [], List.replicate c.ten.toNat false, [], List.replicate c.ten.toNat 0, [], -1, 0⟩

def BidG.runs (b : BidG) (t : Int) : Bool := (b.state == 2) && decide (b.start ≤ t) && decide (t < b.start + b.job.len)
def usedL (l : List BidG) (t : Int) : Int := (l.map fun b => if b.runs t then b.job.units else 0).sum
def BidG.is (b : BidG) (ten ref : Int) : Bool := (b.ten == ten) && (b.ref == ref)
def findL (l : List BidG) (ten ref : Int) : Option Nat := l.findIdx? fun b => b.is ten ref
def findZ (l : List BidG) (ten ref : Int) : Int := match findL l ten ref with | some i => i | none => -1
def BidG.pends (b : BidG) (ten : Int) : Bool := (b.ten == ten) && (b.state == 1)
def pendL (l : List BidG) (ten : Int) : Int := (l.countP fun b => b.pends ten : Nat)

def MkG.tenB (m : MkG) (k : Int) : Bool := decide (0 ≤ k) && decide (k < m.c.ten)
/-- the plain bounds of a job -/
def jobIn (ticks : Int) (j : JobG) : Bool := decide (0 ≤ j.arr) && decide (1 ≤ j.len) && decide (j.len ≤ ticks) && decide (1 ≤ j.units) && decide (j.units ≤ 1000) && decide (1 ≤ j.val) && decide (j.val ≤ 1048576) && decide (j.dl ≤ ticks)
def atOf (time : Int) (j : JobG) : Int := if j.arr < time then time else j.arr
def MkG.jobB (m : MkG) (j : JobG) : Bool := jobIn m.c.ticks j && decide (atOf m.time j + j.len ≤ j.dl)

def MkG.logs (m : MkG) (c : CallG) : MkG := { m with log := m.log ++ [c] }

def callSubmit (ten ref : Int) (j : JobG) : CallG := ⟨1, ten, ref, 0, j, false⟩
def callCancel (ten ref : Int) : CallG := ⟨2, ten, ref, 0, noJob, false⟩
def callCapacity (f t u : Int) : CallG := ⟨3, f, t, u, noJob, false⟩
def callSuspend (ten : Int) (on : Bool) : CallG := ⟨4, ten, 0, 0, noJob, on⟩

def suspAt (m : MkG) (ten : Int) : Bool := m.susp.getD ten.toNat false
def refB (m : MkG) (ten ref : Int) : Bool := decide (ref < 1) || decide (1073741824 < ref) || decide (0 ≤ findZ m.bids ten ref)

/-- why a Submit is refused behind the log: 0: it is not -/
def submitE (m : MkG) (ten ref : Int) (j : JobG) : Int :=
  if m.tenB ten = false then 3 else if suspAt m ten = true then 4 else if refB m ten ref = true then 5 else if m.jobB j = false then 6 else if m.c.quo ≤ pendL m.bids ten then 7 else 0
def newBid (m : MkG) (ten ref : Int) (j : JobG) : BidG := ⟨ten, ref, j, atOf m.time j, 1, -1, m.log.length, false⟩
def submitM (m : MkG) (ten ref : Int) (j : JobG) : MkG :=
  let m1 := m.logs (callSubmit ten ref j)
  if submitE m ten ref j = 0 then { m1 with bids := m1.bids ++ [newBid m ten ref j] } else m1

def stateAt (m : MkG) (i : Int) : Int := ((m.bids[i.toNat]?).map (·.state)).getD 0
def startAt (m : MkG) (i : Int) : Int := ((m.bids[i.toNat]?).map (·.start)).getD 0
def cancelE (m : MkG) (ten ref : Int) : Int :=
  if m.tenB ten = false then 3 else if findZ m.bids ten ref < 0 then 5 else if stateAt m (findZ m.bids ten ref) = 1 then 0 else 8
def setState (l : List BidG) (i : Nat) (s : Int) : List BidG := match l[i]? with | some b => l.set i { b with state := s } | none => l
def cancelM (m : MkG) (ten ref : Int) : MkG :=
  let m1 := m.logs (callCancel ten ref)
  if cancelE m ten ref = 0 then { m1 with bids := setState m1.bids (findZ m.bids ten ref).toNat 3 } else m1

def suspendE (m : MkG) (ten : Int) : Int := if m.tenB ten = false then 3 else 0
def suspendM (m : MkG) (ten : Int) (on : Bool) : MkG :=
  let m1 := m.logs (callSuspend ten on)
  if suspendE m ten = 0 then { m1 with susp := m1.susp.set ten.toNat on } else m1

def capArg (m : MkG) (f t u : Int) : Bool := decide (f < m.time) || decide (t ≤ f) || decide (m.c.ticks < t) || decide (u < 0) || decide (100000 < u)
/-- no more than u units are in use at the ticks f .. k -/
def capOk (m : MkG) (f k u : Int) : Prop := ∀ t, f ≤ t → t < k → usedL m.bids t ≤ u
def CapRes (m : MkG) (f t u z : Int) (m' : MkG) : Prop :=
  (capArg m f t u = true ∧ z = 9 ∧ m' = m.logs (callCapacity f t u)) ∨
  (capArg m f t u = false ∧ ¬ capOk m f t u ∧ z = 10 ∧ m' = m.logs (callCapacity f t u)) ∨
  (capArg m f t u = false ∧ capOk m f t u ∧ z = 0 ∧ m' = { m.logs (callCapacity f t u) with units := (List.range m.units.length).map fun i : Nat => if f ≤ (i : Int) ∧ (i : Int) < t then u else m.units.getD i 0 })

def lookE (m : MkG) (ten ref : Int) : Int := if m.tenB ten = false then 3 else if findZ m.bids ten ref < 0 then 5 else 0
def lookS (m : MkG) (ten ref : Int) : Int := if lookE m ten ref = 0 then stateAt m (findZ m.bids ten ref) else 0
def lookT (m : MkG) (ten ref : Int) : Int := if lookE m ten ref = 0 then startAt m (findZ m.bids ten ref) else 0
def freeE (m : MkG) (t : Int) : Int := if t < 0 ∨ m.c.ticks ≤ t then 9 else 0
def freeV (m : MkG) (t : Int) : Int := if t < 0 ∨ m.c.ticks ≤ t then 0 else m.units.getD t.toNat 0 - usedL m.bids t

/-! ### what holds of every market -/
structure BidOk (c : CfgG) (b : BidG) : Prop where
  t0 : 0 ≤ b.ten
  t1 : b.ten < c.ten
  r0 : 1 ≤ b.ref
  r1 : b.ref ≤ 1073741824
  job : jobIn c.ticks b.job = true
  a0 : b.job.arr ≤ b.arrival
  a1 : b.arrival + b.job.len ≤ b.job.dl
  s0 : 1 ≤ b.state
  s1 : b.state ≤ 4
  st0 : -1 ≤ b.start
  st1 : b.start ≤ 64
  e0 : 0 ≤ b.entry
  e1 : b.entry < 300
structure MkOk (m : MkG) : Prop where
  ck : cfgOk m.c = true
  nu : m.units.length = m.c.ticks.toNat
  ns : m.susp.length = m.c.ten.toNat
  np : m.paid.length = m.c.ten.toNat
  nl : m.log.length ≤ 300
  nb : m.bids.length ≤ m.log.length
  t0 : 0 ≤ m.time
  t1 : m.time ≤ m.c.ticks
  un : ∀ u ∈ m.units, 0 ≤ u ∧ u ≤ 100000
  bid : ∀ b ∈ m.bids, BidOk m.c b

theorem jobIn_true {ticks : Int} {j : JobG} (h : jobIn ticks j = true) : 0 ≤ j.arr ∧ 1 ≤ j.len ∧ j.len ≤ ticks ∧ 1 ≤ j.units ∧ j.units ≤ 1000 ∧ 1 ≤ j.val ∧ j.val ≤ 1048576 ∧ j.dl ≤ ticks := by
  simp [jobIn] at h
  omega
theorem cfgOk_true {c : CfgG} (h : cfgOk c = true) : (1 ≤ c.ticks ∧ c.ticks ≤ 64) ∧ (0 ≤ c.cap ∧ c.cap ≤ 100000) ∧ (0 ≤ c.res ∧ c.res ≤ 1000) ∧ (1 ≤ c.ten ∧ c.ten ≤ 8) ∧ 1 ≤ c.quo ∧ c.quo ≤ 16 := by
  simp only [cfgOk, ckB, Bool.and_eq_true] at h
  obtain ⟨⟨⟨⟨h1, h2⟩, h3⟩, h4⟩, h5⟩ := h
  exact ⟨inB_true h1, inB_true h2, inB_true h3, inB_true h4, inB_true h5⟩

theorem usedL_snoc (l : List BidG) (b : BidG) (t : Int) : usedL (l ++ [b]) t = usedL l t + if b.runs t then b.job.units else 0 := by
  simp [usedL]
theorem usedL_le (c : CfgG) (t : Int) : ∀ l : List BidG, (∀ b ∈ l, BidOk c b) → 0 ≤ usedL l t ∧ usedL l t ≤ 1000 * l.length
  | [], _ => by simp [usedL]
  | b :: l, h => by
    have ih := usedL_le c t l (fun x hx => h x (List.mem_cons_of_mem _ hx))
    have hj := jobIn_true (h b List.mem_cons_self).job
    simp only [usedL, List.map_cons, List.sum_cons, List.length_cons] at ih ⊢
    split <;> omega
theorem pendL_snoc (l : List BidG) (b : BidG) (t : Int) : pendL (l ++ [b]) t = pendL l t + if b.pends t then 1 else 0 := by
  simp only [pendL, List.countP_append, List.countP_cons, List.countP_nil]
  split <;> simp
theorem pendL_le (l : List BidG) (t : Int) : 0 ≤ pendL l t ∧ pendL l t ≤ l.length := by
  have : (l.countP fun b => b.pends t) ≤ l.length := List.countP_le_length
  unfold pendL
  omega
theorem findZ_none {l : List BidG} {ten ref : Int} (h : ∀ (i : Nat) (b : BidG), l[i]? = some b → b.is ten ref = false) : findZ l ten ref = -1 := by
  unfold findZ findL
  rw [List.findIdx?_eq_none_iff.2]
  intro x hx
  obtain ⟨i, hi⟩ := List.getElem?_of_mem hx
  exact h i x hi
theorem findZ_some {l : List BidG} {ten ref : Int} {k : Nat} {b : BidG} (hb : l[k]? = some b) (hk : b.is ten ref = true) (h : ∀ (i : Nat) (b : BidG), i < k → l[i]? = some b → b.is ten ref = false) : findZ l ten ref = k := by
  have hkl := (List.getElem?_eq_some_iff.1 hb)
  unfold findZ findL
  rw [List.findIdx?_eq_some_iff_getElem.2 ⟨hkl.1, by rw [hkl.2]; exact hk, fun j hj => by rw [h j _ hj (List.getElem?_eq_getElem (by have := hkl.1; omega))]; simp⟩]
theorem findZ_lt (l : List BidG) (ten ref : Int) : -1 ≤ findZ l ten ref ∧ findZ l ten ref < l.length := by
  unfold findZ
  split
  · rename_i i h
    have := List.findIdx?_eq_some_iff_getElem.1 h
    obtain ⟨h1, _⟩ := this
    omega
  · omega
end Go.Proofs.YtminceigjejipabGreat

namespace Go.Proofs.YtminceigjejipabGreat
open Go.RowKit

set_option maxHeartbeats 400000 in
theorem canStand_any (v : Int) (w : World) :
    Calls Tryz.prog 58 #[.int .i64 v] w fun e w' => e = .returned (.bool (standB v)) ∧ w' = w := by
  obtain ⟨r, hr⟩ : ∃ r, r = standB v := ⟨_, rfl⟩
  rw [← hr]
  cases r
  · rcases standB_false hr.symm with h | ⟨h, h'⟩
    · clear hr
      go_enter Tryz.func58, Tryz.ntmps58
      go_wp2
      go_ret
      first | exact ⟨rfl, rfl⟩ | exact ⟨ret_bool (by simp; omega), rfl⟩
    · clear hr
      go_enter Tryz.func58, Tryz.ntmps58
      go_wp2
      go_ret
      first | exact ⟨rfl, rfl⟩ | exact ⟨ret_bool (by simp; omega), rfl⟩
  · obtain ⟨h, h'⟩ := standB_true hr.symm
    clear hr
    go_enter Tryz.func58, Tryz.ntmps58
    go_wp2
    go_ret
    first | exact ⟨rfl, rfl⟩ | exact ⟨ret_bool (by simp; omega), rfl⟩

set_option maxHeartbeats 400000 in
theorem hasPiece_any (p g n cap : Nat) (f t : Int) (w : World) (hc : w.cell? ⟨p, 0, none⟩ = some (.slice (some ⟨g, 0, none⟩) n cap)) :
    Calls Tryz.prog 59 #[.pointer (some ⟨p, 0, none⟩), .int .i64 f, .int .i64 t] w fun e w' => e = .returned (.bool (pieceB n f t)) ∧ w' = w := by
  obtain ⟨r, hr⟩ : ∃ r, r = pieceB n f t := ⟨_, rfl⟩
  rw [← hr]
  cases r
  · rcases pieceB_false hr.symm with h | ⟨h, h'⟩ | ⟨h, h', h''⟩
    all_goals
      clear hr
      go_enter Tryz.func59, Tryz.ntmps59
      go_wp2
      go_ret
      first | exact ⟨rfl, rfl⟩ | exact ⟨ret_bool (by simp; omega), rfl⟩
  · obtain ⟨h, h', h''⟩ := pieceB_true hr.symm
    clear hr
    go_enter Tryz.func59, Tryz.ntmps59
    go_wp2
    go_ret
    first | exact ⟨rfl, rfl⟩ | exact ⟨ret_bool (by simp; omega), rfl⟩

set_option maxHeartbeats 400000 in
theorem piece_any (p g n cap : Nat) (f t : Int) (w : World) (hc : w.cell? ⟨p, 0, none⟩ = some (.slice (some ⟨g, 0, none⟩) n cap)) :
    Calls Tryz.prog 60 #[.pointer (some ⟨p, 0, none⟩), .int .i64 f, .int .i64 t] w fun e w' => e = .returned (.bool (pieceB n f t)) ∧ w' = w := by
  obtain ⟨r, hr⟩ : ∃ r, r = pieceB n f t := ⟨_, rfl⟩
  rw [← hr]
  cases r
  · rcases pieceB_false hr.symm with h | ⟨h, h'⟩ | ⟨h, h', h''⟩
    all_goals
      clear hr
      go_enter Tryz.func60, Tryz.ntmps60
      go_wp2
      go_ret
      first | exact ⟨rfl, rfl⟩ | exact ⟨ret_bool (by simp; omega), rfl⟩
  · obtain ⟨h, h', h''⟩ := pieceB_true hr.symm
    clear hr
    go_enter Tryz.func60, Tryz.ntmps60
    go_wp2
    go_ret
    first | exact ⟨rfl, rfl⟩ | exact ⟨ret_bool (by simp; omega), rfl⟩
end Go.Proofs.YtminceigjejipabGreat

namespace Go.Proofs.YtminceigjejipabGreat
open Go.RowKit

theorem hide {p : Prop} (h : p) : Hid p := h
theorem unhide {p : Prop} (h : Hid p) : p := h

/-- a row in memory: a struct of type T at p whose one field is a slice of n cells at the head of block g, which hold Z -/
structure RowAt (T : TypeId) (w : World) (p g n cap : Nat) (Z : Nat → Int) : Prop where
  hp : w.heap[p]? = some (.cells #[.slice (some ⟨g, 0, none⟩) n cap] T (0, 0))
  hg : ∃ cur, w.heap[g]? = some (.cells cur 3 (0, 0)) ∧ n ≤ cur.size ∧ ∀ j, j < n → cur[j]? = some (.int .i64 (Z j))

section
variable {T : TypeId} {w : World} {p g n cap : Nat} {Z : Nat → Int}
theorem RowAt.cellp (h : RowAt T w p g n cap Z) : w.cell? ⟨p, 0, none⟩ = some (.slice (some ⟨g, 0, none⟩) n cap) := by
  unfold World.cell?
  rw [h.hp]
  rfl
theorem RowAt.cellg (h : RowAt T w p g n cap Z) (j : Nat) (hj : j < n) : w.cell? ⟨g, j, none⟩ = some (.int .i64 (Z j)) := by
  obtain ⟨cur, h1, h2, h3⟩ := h.hg
  unfold World.cell?
  rw [h1]
  exact h3 j hj
theorem RowAt.freeg (h : RowAt T w p g n cap Z) (j : Nat) : w.frozen? ⟨g, j, none⟩ = false := by
  obtain ⟨cur, h1, h2, h3⟩ := h.hg
  unfold World.frozen?
  rw [h1]
  simp
theorem RowAt.ltp (h : RowAt T w p g n cap Z) : p < w.heap.size := (Array.getElem?_eq_some_iff.1 h.hp).1
theorem RowAt.ltg (h : RowAt T w p g n cap Z) : g < w.heap.size := by
  obtain ⟨cur, h1, _⟩ := h.hg
  exact (Array.getElem?_eq_some_iff.1 h1).1
theorem RowAt.ne (h : RowAt T w p g n cap Z) (hT : T ≠ 3) : p ≠ g := by
  rintro rfl
  obtain ⟨cur, h1, _⟩ := h.hg
  have := h.hp
  rw [h1] at this
  simp at this
  exact hT this.2.symm
theorem RowAt.congr {Z' : Nat → Int} (h : RowAt T w p g n cap Z) (e : ∀ j, j < n → Z j = Z' j) : RowAt T w p g n cap Z' := by
  obtain ⟨cur, h1, h2, h3⟩ := h.hg
  exact ⟨h.hp, cur, h1, h2, fun j hj => by rw [h3 j hj, e j hj]⟩
theorem RowAt.frame {w' : World} (h : RowAt T w p g n cap Z) (h1 : w'.heap[p]? = w.heap[p]?) (h2 : w'.heap[g]? = w.heap[g]?) : RowAt T w' p g n cap Z :=
  ⟨h1.trans h.hp, by obtain ⟨cur, a, b⟩ := h.hg; exact ⟨cur, h2.trans a, b⟩⟩
theorem RowAt.set (h : RowAt T w p g n cap Z) (hT : T ≠ 3) (k : Nat) (v : Int) : RowAt T (w.setCell ⟨g, k, none⟩ (.int .i64 v)) p g n cap (fun j => if j = k then v else Z j) := by
  have hne := h.ne hT
  refine ⟨by rw [Below.heap_setCell _ _ _ _ hne]; exact h.hp, ?_⟩
  obtain ⟨cur, h1, h2, h3⟩ := h.hg
  refine ⟨cur.setIfInBounds k (.int .i64 v), ?_, by simpa using h2, fun j hj => ?_⟩
  · simp only [World.setCell, Array.getElem?_modify]
    simp [h1]
  · rw [Array.getElem?_setIfInBounds]
    by_cases e : k = j
    · subst e
      rw [if_pos rfl, if_pos (by omega)]
      simp
    · rw [if_neg e, h3 j hj, if_neg (fun x => e x.symm)]
end
end Go.Proofs.YtminceigjejipabGreat

/-
  THE DOCUMENT's MARKET IN MEMORY.
-/
namespace Go.Proofs.YtminceigjejipabGreat
open Go.RowKit

def jobCells (j : JobG) : List Value := [.int .i64 j.arr, .int .i64 j.dl, .int .i64 j.len, .int .i64 j.units, .int .i64 j.val]
def bidCells (b : BidG) : List Value := [.int .i64 b.ten, .int .i64 b.ref, .int .i64 b.job.arr, .int .i64 b.job.dl, .int .i64 b.job.len, .int .i64 b.job.units, .int .i64 b.job.val, .int .i64 b.arrival, .int .i64 b.state, .int .i64 b.start, .int .i64 b.entry, .bool b.charged]
def callCells (c : CallG) : List Value := [.int .i64 c.kind, .int .i64 c.a, .int .i64 c.b, .int .i64 c.c, .int .i64 c.job.arr, .int .i64 c.job.dl, .int .i64 c.job.len, .int .i64 c.job.units, .int .i64 c.job.val, .bool c.on]
def invCells (i : InvG) : List Value := [.int .i64 i.ten, .int .i64 i.ref, .int .i64 i.cents]

structure MV where
  uv : Value
  bv : Value
  sv : Value
  lv : Value
  pv : Value
  cv : Value

def MV.foot (V : MV) (p k : Nat) : Prop := k = p ∨ V.uv.ownBlock = some k ∨ V.bv.ownBlock = some k ∨ V.sv.ownBlock = some k ∨ V.lv.ownBlock = some k ∨ V.pv.ownBlock = some k ∨ V.cv.ownBlock = some k

def mktBox (V : MV) (m : MkG) : Array Value := #[.int .i64 m.c.ticks, .int .i64 m.c.cap, .int .i64 m.c.res, .int .i64 m.c.ten, .int .i64 m.c.quo, .int .i64 m.time, V.uv, V.bv, V.sv, V.lv, V.pv, V.cv, .int .i64 m.ghost, .int .i64 m.need]

structure MktAt (w : World) (p : Nat) (V : MV) (m : MkG) : Prop where
  box : w.heap[p]? = some (.cells (mktBox V m) 87 (0, 0))
  units : w.ownsRow 0 3 1 V.uv m.units.length (m.units.map (Value.int .i64))
  bids : w.ownsRow 0 118 12 V.bv m.bids.length (m.bids.flatMap bidCells)
  susp : w.ownsRow 0 4 1 V.sv m.susp.length (m.susp.map Value.bool)
  log : w.ownsRow 0 114 10 V.lv m.log.length (m.log.flatMap callCells)
  paid : w.ownsRow 0 3 1 V.pv m.paid.length (m.paid.map (Value.int .i64))
  charges : w.ownsRow 0 65 3 V.cv m.charges.length (m.charges.flatMap invCells)
  ne : ∀ k, V.uv.ownBlock = some k → V.pv.ownBlock ≠ some k

theorem ownsRow_keep {w w' : World} {base : Nat} {e : TypeId} {size : Nat} {v : Value} {n : Nat} {xs : List Value} (h : w.ownsRow base e size v n xs) (hb : ∀ k, v.ownBlock = some k → w'.heap[k]? = w.heap[k]?) : w'.ownsRow base e size v n xs := by
  refine ⟨h.1, ?_⟩
  rcases h.2 with h2 | ⟨g, cap, cur, hv, hg, hh, r⟩
  · exact .inl h2
  · exact .inr ⟨g, cap, cur, hv, hg, by rw [hb g (by rw [hv]; rfl)]; exact hh, r⟩

/-- the block of what is owned -/
theorem ownsRow_block {w : World} {base : Nat} {e : TypeId} {size : Nat} {v : Value} {n : Nat} {xs : List Value} (h : w.ownsRow base e size v n xs) {k : Nat} (hk : v.ownBlock = some k) : ∃ cur, w.heap[k]? = some (.cells cur e (0, 0)) := by
  rcases h.2 with ⟨hv, _⟩ | ⟨g, cap, cur, hv, hg, hh, r⟩
  · rw [hv] at hk; simp [Value.ownBlock] at hk
  · rw [hv] at hk
    simp [Value.ownBlock] at hk
    subst hk
    exact ⟨cur, hh⟩

/-- what is owned under two types is not one block -/
theorem ownsRow_apart {w : World} {base base' : Nat} {e e' : TypeId} {size size' : Nat} {v v' : Value} {n n' : Nat} {xs xs' : List Value} (h : w.ownsRow base e size v n xs) (h' : w.ownsRow base' e' size' v' n' xs') (he : e ≠ e') {k : Nat} (hk : v.ownBlock = some k) : v'.ownBlock ≠ some k := by
  intro hk'
  obtain ⟨c, h1⟩ := ownsRow_block h hk
  obtain ⟨c', h1'⟩ := ownsRow_block h' hk'
  rw [h1] at h1'
  simp at h1'
  exact he h1'.2
theorem ownsRow_box {w : World} {base : Nat} {e e' : TypeId} {size : Nat} {v : Value} {n : Nat} {xs : List Value} {p : Nat} {cs : Array Value} (h : w.ownsRow base e size v n xs) (hp : w.heap[p]? = some (.cells cs e' (0, 0))) (he : e ≠ e') : v.ownBlock ≠ some p := by
  intro hk
  obtain ⟨c, h1⟩ := ownsRow_block h hk
  rw [h1] at hp
  simp at hp
  exact he hp.2

theorem flat_get {α : Type} (f : α → List Value) (k : Nat) (hf : ∀ x, (f x).length = k) : ∀ (l : List α) (i : Nat) (x : α) (r : Nat), l[i]? = some x → r < k → (l.flatMap f)[i * k + r]? = (f x)[r]?
  | [], i, x, r, h, _ => by simp at h
  | y :: l, 0, x, r, h, hr => by
    simp at h
    subst h
    simp only [List.flatMap_cons, Nat.zero_mul, Nat.zero_add]
    rw [List.getElem?_append_left (by rw [hf]; exact hr)]
  | y :: l, i + 1, x, r, h, hr => by
    simp only [List.getElem?_cons_succ] at h
    simp only [List.flatMap_cons]
    rw [List.getElem?_append_right (by rw [hf, Nat.add_mul]; omega), hf, show (i + 1) * k + r - k = i * k + r by rw [Nat.add_mul]; omega]
    exact flat_get f k hf l i x r h hr

section
variable {w : World} {p : Nat} {V : MV} {m : MkG}
theorem MktAt.lt (h : MktAt w p V m) : p < w.heap.size := (Array.getElem?_eq_some_iff.1 h.box).1
theorem MktAt.foot_lt (h : MktAt w p V m) (k : Nat) (hk : V.foot p k) : k < w.heap.size := by
  rcases hk with rfl | hk | hk | hk | hk | hk | hk
  · exact h.lt
  · exact (h.units.lt k hk).2
  · exact (h.bids.lt k hk).2
  · exact (h.susp.lt k hk).2
  · exact (h.log.lt k hk).2
  · exact (h.paid.lt k hk).2
  · exact (h.charges.lt k hk).2
theorem MktAt.frame {w' : World} (h : MktAt w p V m) (hf : ∀ k, V.foot p k → w'.heap[k]? = w.heap[k]?) : MktAt w' p V m :=
  ⟨(hf p (.inl rfl)).trans h.box, ownsRow_keep h.units (fun k hk => hf k (.inr (.inl hk))), ownsRow_keep h.bids (fun k hk => hf k (.inr (.inr (.inl hk)))), ownsRow_keep h.susp (fun k hk => hf k (.inr (.inr (.inr (.inl hk))))),
    ownsRow_keep h.log (fun k hk => hf k (.inr (.inr (.inr (.inr (.inl hk)))))), ownsRow_keep h.paid (fun k hk => hf k (.inr (.inr (.inr (.inr (.inr (.inl hk))))))), ownsRow_keep h.charges (fun k hk => hf k (.inr (.inr (.inr (.inr (.inr (.inr hk))))))), h.ne⟩
theorem MktAt.chg {O : Nat → Prop} {w' : World} (h : MktAt w p V m) (hc : Chg O w w') (hO : ∀ k, V.foot p k → ¬ O k) : MktAt w' p V m := h.frame (fun k hk => hc.block k (h.foot_lt k hk) (hO k hk))
theorem MktAt.chg0 {w' : World} (h : MktAt w p V m) (hc : Chg (fun _ => False) w w') : MktAt w' p V m := h.chg hc (fun _ _ h => h)
theorem MktAt.cell (h : MktAt w p V m) (f : Nat) : w.cell? ⟨p, f, none⟩ = (mktBox V m)[f]? := by
  unfold World.cell?
  rw [h.box]
  rfl
theorem MktAt.free (h : MktAt w p V m) (f : Nat) : w.frozen? ⟨p, f, none⟩ = false := by
  unfold World.frozen?
  rw [h.box]
  simp
/-- the bids' slice: its form, its cells -/
theorem MktAt.bid_form (h : MktAt w p V m) : ∃ ao cap, V.bv = .slice ao m.bids.length cap ∧ ∀ i b, m.bids[i]? = some b → ∃ g, ao = some ⟨g, 0, none⟩ ∧ V.bv.ownBlock = some g ∧ (∀ r u, (bidCells b)[r]? = some u → w.cell? ⟨g, i * 12 + r, none⟩ = some u) ∧ ∀ r, w.frozen? ⟨g, r, none⟩ = false := by
  rcases h.bids.2 with ⟨hv, h0⟩ | ⟨g, cap, cur, hv, hg, hh, r⟩
  · refine ⟨none, 0, by rw [hv, h0], fun i b hb => ?_⟩
    have := (List.getElem?_eq_some_iff.1 hb).1
    omega
  · refine ⟨some ⟨g, 0, none⟩, cap, hv, fun i b hb => ⟨g, rfl, by rw [hv]; rfl, fun r u hu => ?_, fun r => by unfold World.frozen?; rw [hh]; simp⟩⟩
    have hr : r < 12 := by
      have := (List.getElem?_eq_some_iff.1 hu).1
      simpa [bidCells] using this
    have := h.bids.cells (g := g) (by rw [hv]; rfl) (i * 12 + r) u (by rw [flat_get bidCells 12 (fun _ => rfl) m.bids i b r hb hr]; exact hu)
    rwa [Addr.add_lit, Nat.zero_add] at this
theorem MktAt.susp_form (h : MktAt w p V m) : ∃ ao cap, V.sv = .slice ao m.susp.length cap ∧ ∀ i, i < m.susp.length → ∃ g, ao = some ⟨g, 0, none⟩ ∧ V.sv.ownBlock = some g ∧ w.cell? ⟨g, i, none⟩ = some (.bool (m.susp.getD i false)) ∧ w.frozen? ⟨g, i, none⟩ = false := by
  rcases h.susp.2 with ⟨hv, h0⟩ | ⟨g, cap, cur, hv, hg, hh, r⟩
  · exact ⟨none, 0, by rw [hv, h0], fun i hi => by omega⟩
  · refine ⟨some ⟨g, 0, none⟩, cap, hv, fun i hi => ⟨g, rfl, by rw [hv]; rfl, ?_, by unfold World.frozen?; rw [hh]; simp⟩⟩
    have := h.susp.cells (g := g) (by rw [hv]; rfl) i (.bool (m.susp.getD i false)) (by simp [List.getD, List.getElem?_eq_getElem hi])
    rwa [Addr.add_lit, Nat.zero_add] at this
theorem MktAt.units_form (h : MktAt w p V m) : ∃ ao cap, V.uv = .slice ao m.units.length cap ∧ ∀ i, i < m.units.length → ∃ g, ao = some ⟨g, 0, none⟩ ∧ V.uv.ownBlock = some g ∧ w.cell? ⟨g, i, none⟩ = some (.int .i64 (m.units.getD i 0)) ∧ w.frozen? ⟨g, i, none⟩ = false := by
  rcases h.units.2 with ⟨hv, h0⟩ | ⟨g, cap, cur, hv, hg, hh, r⟩
  · exact ⟨none, 0, by rw [hv, h0], fun i hi => by omega⟩
  · refine ⟨some ⟨g, 0, none⟩, cap, hv, fun i hi => ⟨g, rfl, by rw [hv]; rfl, ?_, by unfold World.frozen?; rw [hh]; simp⟩⟩
    have := h.units.cells (g := g) (by rw [hv]; rfl) i (.int .i64 (m.units.getD i 0)) (by simp [List.getD, List.getElem?_eq_getElem hi])
    rwa [Addr.add_lit, Nat.zero_add] at this
theorem MktAt.log_form (h : MktAt w p V m) : ∃ ao cap, V.lv = .slice ao m.log.length cap := by
  rcases h.log.2 with ⟨hv, h0⟩ | ⟨g, cap, cur, hv, _⟩
  · exact ⟨none, 0, by rw [hv, h0]⟩
  · exact ⟨_, cap, hv⟩
end
end Go.Proofs.YtminceigjejipabGreat

namespace Go.Proofs.YtminceigjejipabGreat
open Go.RowKit

theorem ret_two {k k' : IntKind} {a b c d : Int} (h : a = b) (h' : c = d) : Ending.returned (.tuple #[.int k a, .int k' c]) = .returned (.tuple #[.int k b, .int k' d]) := by rw [h, h']

set_option maxHeartbeats 400000 in
theorem calMin_bad (p g n cap : Nat) (f t : Int) (w : World) (hc : w.cell? ⟨p, 0, none⟩ = some (.slice (some ⟨g, 0, none⟩) n cap)) (hp : pieceB n f t = false) :
    Calls Tryz.prog 24 #[.pointer (some ⟨p, 0, none⟩), .int .i64 f, .int .i64 t] w fun e w' => e = .returned (.tuple #[.int .i64 0, .int .i64 9]) ∧ w' = w := by
  go_enter Tryz.func24, Tryz.ntmps24
  go_wp2_with (go_at_call 59; refine (hasPiece_any p g n cap _ _ _ hc).mono ?_; rintro e w' ⟨rfl, rfl⟩; rw [hp])
  go_ret2
  exact ⟨rfl, rfl⟩

set_option maxHeartbeats 400000 in
theorem refMin_bad (p g n cap : Nat) (f t : Int) (w : World) (hc : w.cell? ⟨p, 0, none⟩ = some (.slice (some ⟨g, 0, none⟩) n cap)) (hp : pieceB n f t = false) :
    Calls Tryz.prog 25 #[.pointer (some ⟨p, 0, none⟩), .int .i64 f, .int .i64 t] w fun e w' => e = .returned (.tuple #[.int .i64 0, .int .i64 9]) ∧ w' = w := by
  go_enter Tryz.func25, Tryz.ntmps25
  go_wp2_with (go_at_call 60; refine (piece_any p g n cap _ _ _ hc).mono ?_; rintro e w' ⟨rfl, rfl⟩; rw [hp])
  go_ret2
  exact ⟨rfl, rfl⟩

theorem pieceB_mk {n a b : Nat} (h1 : a < b) (h2 : b ≤ n) : pieceB n a b = true := by
  simp [pieceB]
  omega

set_option maxHeartbeats 1000000 in
theorem calMin_ok (p g n cap a b : Nat) (Z : Nat → Int) (w : World) (hc : w.cell? ⟨p, 0, none⟩ = some (.slice (some ⟨g, 0, none⟩) n cap)) (hn : n ≤ 100000) (hab : a < b) (hbn : b ≤ n)
    (hZ0 : ∀ j, j < n → w.cell? ⟨g, j, none⟩ = some (.int .i64 (Z j))) :
    Calls Tryz.prog 24 #[.pointer (some ⟨p, 0, none⟩), .int .i64 a, .int .i64 b] w fun e w' => e = .returned (.tuple #[.int .i64 (minZ Z a (b - 1 - a)), .int .i64 0]) ∧ w' = w := by
  have hZ : Hid (∀ j, j < n → w.cell? ⟨g, j, none⟩ = some (.int .i64 (Z j))) := hZ0
  clear hZ0
  have hca := hZ.out a (by omega)
  have hp : Hid (pieceB n a b = true) := pieceB_mk hab hbn
  go_enter Tryz.func24, Tryz.ntmps24
  go_wp2_with (go_at_call 59; refine (hasPiece_any p g n cap _ _ _ hc).mono ?_; rintro e w' ⟨rfl, rfl⟩; rw [hp.out])
  go_loop [8, 9] (fun m i => ∃ k : Nat, a < k ∧ k ≤ b ∧ i = .int .i64 k ∧ m = .int .i64 (minZ Z a (k - 1 - a))) (fun _ i => b - (intOf i).toNat)
  case atStart => exact ⟨a + 1, by omega, by omega, by go_num, by simp [minZ]⟩
  case round =>
    obtain ⟨k, hk1, hk2, rfl, rfl⟩ := hrel
    by_cases hlt : k < b
    · have hck := hZ.out k (by omega)
      have hs : Hid (minZ Z a (k + 1 - 1 - a) = if Z k < minZ Z a (k - 1 - a) then Z k else minZ Z a (k - 1 - a)) := by
        rw [show k + 1 - 1 - a = (k - 1 - a) + 1 by omega, minZ, show a + (k - 1 - a + 1) = k by omega]; exact rfl
      clear hca
      generalize minZ Z a (k - 1 - a) = m at *
      generalize Z k = z at *
      by_cases hz : z < m
      · go_wp2
        go_round
        case rel => exact ⟨k + 1, by omega, by omega, by go_num, by rw [hs.out, if_pos hz]⟩
        case measure => simp [intOf]; omega
      · go_wp2
        go_round
        case rel => exact ⟨k + 1, by omega, by omega, by go_num, by rw [hs.out, if_neg hz]⟩
        case measure => simp [intOf]; omega
    · go_wp2
      go_ret2
      exact ⟨ret_two (by rw [show k = b by omega]) rfl, rfl⟩

set_option maxHeartbeats 1000000 in
theorem refMin_ok (p g n cap a b : Nat) (Z : Nat → Int) (w : World) (hc : w.cell? ⟨p, 0, none⟩ = some (.slice (some ⟨g, 0, none⟩) n cap)) (hn : n ≤ 100000) (hab : a < b) (hbn : b ≤ n)
    (hZ0 : ∀ j, j < n → w.cell? ⟨g, j, none⟩ = some (.int .i64 (Z j))) :
    Calls Tryz.prog 25 #[.pointer (some ⟨p, 0, none⟩), .int .i64 a, .int .i64 b] w fun e w' => e = .returned (.tuple #[.int .i64 (minZ Z a (b - 1 - a)), .int .i64 0]) ∧ w' = w := by
  have hZ : Hid (∀ j, j < n → w.cell? ⟨g, j, none⟩ = some (.int .i64 (Z j))) := hZ0
  clear hZ0
  have hca := hZ.out a (by omega)
  have hp : Hid (pieceB n a b = true) := pieceB_mk hab hbn
  go_enter Tryz.func25, Tryz.ntmps25
  go_wp2_with (go_at_call 60; refine (piece_any p g n cap _ _ _ hc).mono ?_; rintro e w' ⟨rfl, rfl⟩; rw [hp.out])
  go_loop [9, 10] (fun m i => ∃ k : Nat, a ≤ k ∧ k ≤ b ∧ i = .int .i64 k ∧ m = .int .i64 (minZ Z a (k - 1 - a))) (fun _ i => b - (intOf i).toNat)
  case atStart => exact ⟨a, by omega, by omega, rfl, by rw [show a - 1 - a = 0 by omega]; rfl⟩
  case round =>
    obtain ⟨k, hk1, hk2, rfl, rfl⟩ := hrel
    by_cases hlt : k < b
    · have hck := hZ.out k (by omega)
      have hs : Hid (minZ Z a (k + 1 - 1 - a) = if Z k < minZ Z a (k - 1 - a) then Z k else minZ Z a (k - 1 - a)) := by
        by_cases e : k = a
        · subst e
          show minZ Z k (k + 1 - 1 - k) = _
          rw [show k + 1 - 1 - k = 0 by omega, show k - 1 - k = 0 by omega]
          simp [minZ]
        · rw [show k + 1 - 1 - a = (k - 1 - a) + 1 by omega, minZ, show a + (k - 1 - a + 1) = k by omega]; exact rfl
      clear hca
      generalize minZ Z a (k - 1 - a) = m at *
      generalize Z k = z at *
      by_cases hz : z < m
      · go_wp2
        go_round
        case rel => exact ⟨k + 1, by omega, by omega, by go_num, by rw [hs.out, if_pos hz]⟩
        case measure => simp [intOf]; omega
      · go_wp2
        go_round
        case rel => exact ⟨k + 1, by omega, by omega, by go_num, by rw [hs.out, if_neg hz]⟩
        case measure => simp [intOf]; omega
    · go_wp2
      go_ret2
      exact ⟨ret_two (by rw [show k = b by omega]) rfl, rfl⟩
end Go.Proofs.YtminceigjejipabGreat

namespace Go.Proofs.YtminceigjejipabGreat
open Go.RowKit

def newB (n v : Int) : Bool := decide (n < 1) || decide (4096 < n) || !standB v
theorem newB_true {n v : Int} (h : newB n v = true) : n < 1 ∨ (1 ≤ n ∧ 4096 < n) ∨ (1 ≤ n ∧ n ≤ 4096 ∧ standB v = false) := by
  simp [newB] at h
  by_cases h1 : n < 1
  · exact .inl h1
  · by_cases h2 : 4096 < n
    · exact .inr (.inl ⟨by omega, h2⟩)
    · refine .inr (.inr ⟨by omega, by omega, ?_⟩)
      rcases h with (h | h) | h
      · omega
      · omega
      · exact h
theorem newB_false {n v : Int} (h : newB n v = false) : 1 ≤ n ∧ n ≤ 4096 ∧ standB v = true := by
  simp [newB] at h
  exact ⟨by omega, by omega, h.2⟩

set_option maxHeartbeats 1000000 in
theorem calNew_bad (n v : Int) (w : World) (h : newB n v = true) :
    Calls Tryz.prog 20 #[.int .i64 n, .int .i64 v] w fun e w' => e = .returned (.tuple #[.pointer none, .int .i64 9]) ∧ w' = w := by
  rcases newB_true h with h1 | ⟨h1, h2⟩ | ⟨h1, h2, h3⟩
  all_goals
    clear h
    go_enter Tryz.func20, Tryz.ntmps20
    go_wp2_with (go_at_call 58; refine (canStand_any _ _).mono ?_; rintro e w' ⟨rfl, hw⟩; subst w'; rw [h3])
    go_ret2
    exact ⟨rfl, rfl⟩

set_option maxHeartbeats 1000000 in
theorem refNew_bad (n v : Int) (w : World) (h : newB n v = true) :
    Calls Tryz.prog 21 #[.int .i64 n, .int .i64 v] w fun e w' => e = .returned (.tuple #[.pointer none, .int .i64 9]) ∧ w' = w := by
  rcases newB_true h with h1 | ⟨h1, h2⟩ | ⟨h1, h2, h3⟩
  · clear h
    go_enter Tryz.func21, Tryz.ntmps21
    go_wp2
    go_ret2
    exact ⟨rfl, rfl⟩
  · clear h
    go_enter Tryz.func21, Tryz.ntmps21
    go_wp2
    go_ret2
    exact ⟨rfl, rfl⟩
  · rcases standB_false h3 with q | ⟨q, q'⟩
    all_goals
      clear h h3
      go_enter Tryz.func21, Tryz.ntmps21
      go_wp2
      go_ret2
      exact ⟨rfl, rfl⟩

def CellsAt (w : World) (g n : Nat) (Z : Nat → Int) : Prop := ∃ cur, w.heap[g]? = some (.cells cur 3 (0, 0)) ∧ n ≤ cur.size ∧ ∀ j, j < n → cur[j]? = some (.int .i64 (Z j))
theorem CellsAt.cell {w : World} {g n : Nat} {Z : Nat → Int} (h : CellsAt w g n Z) (j : Nat) (hj : j < n) : w.cell? ⟨g, j, none⟩ = some (.int .i64 (Z j)) := by
  obtain ⟨cur, h1, h2, h3⟩ := h
  unfold World.cell?
  rw [h1]
  exact h3 j hj
theorem CellsAt.free {w : World} {g n : Nat} {Z : Nat → Int} (h : CellsAt w g n Z) (j : Nat) : w.frozen? ⟨g, j, none⟩ = false := by
  obtain ⟨cur, h1, h2, h3⟩ := h
  unfold World.frozen?
  rw [h1]
  simp
theorem CellsAt.set {w : World} {g n : Nat} {Z : Nat → Int} (h : CellsAt w g n Z) (k : Nat) (v : Int) : CellsAt (w.setCell ⟨g, k, none⟩ (.int .i64 v)) g n (fun j => if j = k then v else Z j) := by
  obtain ⟨cur, h1, h2, h3⟩ := h
  refine ⟨cur.setIfInBounds k (.int .i64 v), ?_, by simpa using h2, fun j hj => ?_⟩
  · simp only [World.setCell, Array.getElem?_modify]
    simp [h1]
  · rw [Array.getElem?_setIfInBounds]
    by_cases e : k = j
    · subst e
      rw [if_pos rfl, if_pos (by omega)]
      simp
    · rw [if_neg e, h3 j hj]
      simp [Ne.symm e]
theorem CellsAt.congr {w : World} {g n : Nat} {Z Z' : Nat → Int} (h : CellsAt w g n Z) (e : ∀ j, j < n → Z j = Z' j) : CellsAt w g n Z' := by
  obtain ⟨cur, h1, h2, h3⟩ := h
  exact ⟨cur, h1, h2, fun j hj => by rw [h3 j hj, e j hj]⟩
theorem CellsAt.made (w : World) (n : Nat) : CellsAt (w.alloc (.cells (madeCells #[.int .i64 0] n) 3)) w.heap.size n (fun _ => 0) :=
  ⟨_, heap_alloc_new w _, by rw [size_madeCells]; exact Nat.le_refl _, fun j hj => by simp [madeCells, hj, Nat.mod_one]⟩

theorem infoInt : (Tryz.prog.info? 3).map (fun i => (i.zero, i.size, i.bytes)) = some (some (.int .i64 0), 1, 8) := by kernel_rfl

set_option maxHeartbeats 1000000 in
theorem calNew_ok (n : Nat) (v : Int) (w : World) (h1 : 1 ≤ n) (h2 : n ≤ 4096) (h3 : standB v = true) :
    Calls Tryz.prog 20 #[.int .i64 n, .int .i64 v] w fun e w' => ∃ p, e = .returned (.tuple #[.pointer (some ⟨p, 0, none⟩), .int .i64 0]) ∧ w.heap.size ≤ p ∧ RowAt 101 w' p w.heap.size n n (fun _ => v) ∧ Chg (fun _ => False) w w' := by
  have hmk := run_make_row' (P := Tryz.prog) 24 3 (.int .i64 0) 8 Tryz.underlying24 infoInt rfl .i64 .i64 n (by omega) (by omega)
  have HM : Hid (CellsAt (w.alloc (.cells (madeCells #[.int .i64 0] n) 3)) w.heap.size n (fun _ => 0)) := CellsAt.made w n
  go_enter Tryz.func20, Tryz.ntmps20
  go_wp2_with (go_at_call 58; refine (canStand_any _ _).mono ?_; rintro e w' ⟨rfl, hw⟩; subst w'; rw [h3])
  clear hmk
  go_loopw [23] (fun i wr => ∃ k : Nat, k ≤ n ∧ i = .int .i64 k ∧ CellsAt wr w.heap.size n (fun j => if j < k then v else 0) ∧ Chg (fun _ => False) w wr) (fun i _ => n - (intOf i).toNat)
  case atStart => exact ⟨0, by omega, rfl, HM.out.congr (fun j _ => by simp), (Chg.refl _ _).alloc _⟩
  case round =>
    obtain ⟨k, hk, rfl, hcs, hchg⟩ := hrel
    have HCS : Hid (CellsAt wr w.heap.size n (fun j => if j < k then v else 0)) := hcs
    have HCH : Hid (Chg (fun _ => False) w wr) := hchg
    by_cases hlt : k < n
    · have hck := hcs.cell k hlt
      have hfk := hcs.free k
      clear hcs hchg
      simp only [Nat.lt_irrefl, if_false] at hck
      go_wp2
      go_roundw
      case rel => exact ⟨k + 1, by omega, by go_num, (HCS.out.set k v).congr (fun j _ => by
        by_cases e : j = k
        · simp [e]
        · rw [if_neg e]; simp [show (j < k ↔ j < k + 1) by omega]), HCH.out.setCell (.inr (Nat.le_refl _)) _⟩
      case measure => simp [intOf]; omega
    · clear hcs hchg
      go_wp2
      go_ret2
      have hlts : w.heap.size < wr.heap.size := by
        obtain ⟨cur, hh, _⟩ := HCS.out
        exact (Array.getElem?_eq_some_iff.1 hh).1
      refine ⟨wr.heap.size, rfl, by omega, ⟨heap_alloc_new wr _, ?_⟩, HCH.out.alloc _⟩
      obtain ⟨cur, hh1, hh2, hh3⟩ := HCS.out
      exact ⟨cur, by rw [Below.heap_alloc _ _ _ hlts]; exact hh1, hh2, fun j hj => by rw [hh3 j hj]; simp [show j < k by omega]⟩

theorem refNew_step {w wr w1 : World} {o : Obj} {k : Nat} {sa : Option Addr} {sc : Nat} {v' : Value} {xs xs' : List Value} (hP : wr.heap[w.heap.size]? = some (.cells #[.slice sa k sc] 103 (0, 0)))
    (hown : wr.ownsRow (w.heap.size + 1) 3 1 (.slice sa k sc) k xs) (hown' : w1.ownsRow (w.heap.size + 1) 3 1 v' (k + 1) xs') (hg : (wr.alloc o).grownBy w1 (Value.ownBlock (.slice sa k sc))) (hchg : Chg (fun _ => False) w wr) :
    w1.cell? ⟨w.heap.size, 0, none⟩ = some (.slice sa k sc) ∧ w1.frozen? ⟨w.heap.size, 0, none⟩ = false ∧ (w1.setCell ⟨w.heap.size, 0, none⟩ v').heap[w.heap.size]? = some (.cells #[v'] 103 (0, 0)) ∧
      (w1.setCell ⟨w.heap.size, 0, none⟩ v').ownsRow (w.heap.size + 1) 3 1 v' (k + 1) xs' ∧ Chg (fun _ => False) w (w1.setCell ⟨w.heap.size, 0, none⟩ v') ∧ ∃ sa' sc', v' = .slice sa' (k + 1) sc' := by
  have hlt : w.heap.size < wr.heap.size := (Array.getElem?_eq_some_iff.1 hP).1
  have hrow : ∀ k', Value.ownBlock (.slice sa k sc) = some k' → w.heap.size + 1 ≤ k' := fun k' hk => (hown.lt k' hk).1
  have hP1 : w1.heap[w.heap.size]? = some (.cells #[.slice sa k sc] 103 (0, 0)) := by
    rw [hg.block _ (by simp; omega) (fun e => by have := hrow _ e.symm; omega), Below.heap_alloc _ _ _ hlt]
    exact hP
  refine ⟨cell_of_one hP1, free_of_one hP1, one_setCell hP1, ownsRow_setCell_below hown' (by show w.heap.size < _; omega) _, ?_, ?_⟩
  · exact ((hchg.alloc o).grown hg (fun k' hk => .inr (by have := hrow k' hk; omega))).setCell (.inr (Nat.le_refl _)) _
  · rcases hown'.2 with ⟨_, h0⟩ | ⟨g, cap, cur, rfl, _⟩
    · omega
    · exact ⟨_, _, rfl⟩

set_option maxRecDepth 100000 in
set_option maxHeartbeats 2000000 in
theorem refNew_ok (n : Nat) (v : Int) (w : World) (h1 : 1 ≤ n) (h2 : n ≤ 4096) (h3 : standB v = true) :
    Calls Tryz.prog 21 #[.int .i64 n, .int .i64 v] w fun e w' => ∃ g cap, e = .returned (.tuple #[.pointer (some ⟨w.heap.size, 0, none⟩), .int .i64 0]) ∧ w.heap.size ≤ g ∧ RowAt 103 w' w.heap.size g n cap (fun _ => v) ∧ Chg (fun _ => False) w w' := by
  obtain ⟨i0, hi, hz0, hz1, hz2⟩ := info_parts infoInt
  obtain ⟨q, q'⟩ := standB_true h3
  clear h3
  have e1 : decide (v < -1099511627776) = false := by simp; omega
  have e2 : decide (1099511627776 < v) = false := by simp; omega
  have e3 : decide ((n : Int) < 1) = false := by simp; omega
  have e4 : decide (4096 < (n : Int)) = false := by simp; omega
  go_enter Tryz.func21, Tryz.ntmps21
  go_wp2
  go_loopw [7] (fun i wr => ∃ (k : Nat) (sv : Value), k ≤ n ∧ i = .int .i64 k ∧ wr.heap[w.heap.size]? = some (.cells #[sv] 103 (0, 0)) ∧ wr.ownsRow (w.heap.size + 1) 3 1 sv k (List.replicate k (.int .i64 v)) ∧ Chg (fun _ => False) w wr) (fun i _ => n - (intOf i).toNat)
  case atStart => exact ⟨0, .slice none 0 0, by omega, rfl, heap_alloc_new w _, World.ownsRow_nil _ _ _ _, (Chg.refl _ _).alloc _⟩
  case round =>
    obtain ⟨k, sv, hk, rfl, hp, hown, hchg⟩ := hrel
    have HP : Hid (wr.heap[w.heap.size]? = some (.cells #[sv] 103 (0, 0))) := hp
    have hcp : wr.cell? ⟨w.heap.size, 0, none⟩ = some sv := cell_of_one hp
    have hlts : w.heap.size < wr.heap.size := (Array.getElem?_eq_some_iff.1 hp).1
    have HCH : Hid (Chg (fun _ => False) w wr) := hchg
    have HOWN : Hid (wr.ownsRow (w.heap.size + 1) 3 1 sv k (List.replicate k (.int .i64 v))) := hown
    have hsv : ∃ sa sc, sv = .slice sa k sc := by
      rcases hown.2 with ⟨rfl, rfl⟩ | ⟨g, cap, cur, rfl, _⟩
      · exact ⟨_, _, rfl⟩
      · exact ⟨_, _, rfl⟩
    obtain ⟨sa, sc, rfl⟩ := hsv
    clear hp hown hchg
    by_cases hlt : k < n
    · have hca : ∀ o, (wr.alloc o).cell? ⟨w.heap.size, 0, none⟩ = some (.slice sa k sc) := fun o => by rw [World.cell?_alloc_lt _ _ _ (by exact hlts)]; exact hcp
      go_wp2_with (first | (at_builtin; refine wpList_append_own _ rfl _ _ 24 rfl (w.heap.size + 1) 3 i0 (.int .i64 0) 1 8 Tryz.underlying24 hi hz0 hz1 hz2 rfl (by decide) _ _ _ rfl (HOWN.out.alloc _) ⟨wr.heap.size, 0, none⟩ 1 1 [.int .i64 v] rfl rfl ?c1 ?c2 ?c3 ?c4 ?c5 ?_))
      case c1 =>
        intro j u hj
        match j, hj with
        | 0, hj => simp at hj; subst hj; simp [Addr.add]
      case c2 => intro u hu; simp at hu; subst hu; rfl
      case c3 => unfold maxLen; omega
      case c4 => omega
      case c5 => simp; omega
      · intro v' w1 hown' hgrow _
        obtain ⟨s1, s2, s3, s4, s5, sa', sc', rfl⟩ := refNew_step HP.out HOWN.out hown' hgrow HCH.out
        have S3 := hide s3
        have S4 := hide s4
        have S5 := hide s5
        clear hown' hgrow hca hcp s3 s4 s5
        go_wp2
        go_roundw
        case rel => exact ⟨k + 1, _, by omega, by go_num, unhide S3, by have := unhide S4; rwa [← List.replicate_succ'] at this, unhide S5⟩
        case measure => simp [intOf]; omega
    · have hfin : ∃ g, w.heap.size ≤ g ∧ RowAt 103 wr w.heap.size g n sc (fun _ => v) := by
        have hkn : k = n := by omega
        rcases HOWN.out.2 with ⟨h, h0⟩ | ⟨g, cap, cur, h, hg, hh, hcap, _, hsz, htake⟩
        · omega
        · simp only [Value.slice.injEq] at h
          obtain ⟨rfl, _, rfl⟩ := h
          refine ⟨g, by omega, by rw [← hkn]; exact HP.out, cur, hh, by omega, fun j hj => ?_⟩
          have : (cur.toList.take (k * 1))[j]? = some (.int .i64 v) := by rw [htake, List.getElem?_replicate, if_pos (by omega)]
          rw [List.getElem?_take, if_pos (by omega)] at this
          simpa using this
      have HF := hide hfin
      clear hfin hcp
      go_wp2
      go_ret2
      obtain ⟨g, hg, hrow⟩ := unhide HF
      exact ⟨g, sc, rfl, hg, hrow, HCH.out⟩
end Go.Proofs.YtminceigjejipabGreat
