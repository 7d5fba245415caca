/-
  THE MARKET, AS PLAIN FUNCTIONS (the document's answer, up to the calls of stage 2). Nothing of the program.
-/
import Derived.Test.YtpenifeenfcphaaCheck
namespace Go.Proofs.Ytpenifeenfcphaa

structure JobG where
  arr : Int
  dl : Int
  len : Int
  units : Int
  val : Int
structure BidG where
  ten : Int
  ref : Int
  job : JobG
  arrival : Int
  state : Int
  start : Int
  entry : Int
  charged : Bool
structure CallG where
  kind : Int
  a : Int
  b : Int
  c : Int
  job : JobG
  on : Bool
structure InvG where
  ten : Int
  ref : Int
  cents : Int
structure CfgG where
  ticks : Int
  cap : Int
  res : Int
  ten : Int
  quo : Int
structure MkG where
  c : CfgG
  time : Int
  units : List Int
  bids : List BidG
  susp : List Bool
  log : List CallG
  paid : List Int
  charges : List InvG
  ghost : Int
  need : Int

def noJob : JobG := ⟨0, 0, 0, 0, 0⟩
def cfgOk (c : CfgG) : Bool := ckB c.ticks c.cap c.res c.ten c.quo

def openM (c : CfgG) : MkG := ⟨c, 0, List.replicate c.ticks.toNat c.cap, [], List.replicate c.ten.toNat false, [], List.replicate c.ten.toNat 0, [], -1, 0⟩

def BidG.runs (b : BidG) (t : Int) : Bool := (b.state == 2) && decide (b.start ≤ t) && decide (t < b.start + b.job.len)
def usedL (l : List BidG) (t : Int) : Int := (l.map fun b => if b.runs t then b.job.units else 0).sum
def BidG.is (b : BidG) (ten ref : Int) : Bool := (b.ten == ten) && (b.ref == ref)
def findL (l : List BidG) (ten ref : Int) : Option Nat := l.findIdx? fun b => b.is ten ref
def findZ (l : List BidG) (ten ref : Int) : Int := match findL l ten ref with | some i => i | none => -1
def BidG.pends (b : BidG) (ten : Int) : Bool := (b.ten == ten) && (b.state == 1)
def pendL (l : List BidG) (ten : Int) : Int := (l.countP fun b => b.pends ten : Nat)

def MkG.tenB (m : MkG) (k : Int) : Bool := decide (0 ≤ k) && decide (k < m.c.ten)
/-- the plain bounds of a job -/
def jobIn (ticks : Int) (j : JobG) : Bool := decide (0 ≤ j.arr) && decide (1 ≤ j.len) && decide (j.len ≤ ticks) && decide (1 ≤ j.units) && decide (j.units ≤ 1000) && decide (1 ≤ j.val) && decide (j.val ≤ 1048576) && decide (j.dl ≤ ticks)
def atOf (time : Int) (j : JobG) : Int := if j.arr < time then time else j.arr
def MkG.jobB (m : MkG) (j : JobG) : Bool := jobIn m.c.ticks j && decide (atOf m.time j + j.len ≤ j.dl)

def MkG.logs (m : MkG) (c : CallG) : MkG := { m with log := m.log ++ [c] }

def callSubmit (ten ref : Int) (j : JobG) : CallG := ⟨1, ten, ref, 0, j, false⟩
def callCancel (ten ref : Int) : CallG := ⟨2, ten, ref, 0, noJob, false⟩
def callCapacity (f t u : Int) : CallG := ⟨3, f, t, u, noJob, false⟩
def callSuspend (ten : Int) (on : Bool) : CallG := ⟨4, ten, 0, 0, noJob, on⟩

def suspAt (m : MkG) (ten : Int) : Bool := m.susp.getD ten.toNat false
def refB (m : MkG) (ten ref : Int) : Bool := decide (ref < 1) || decide (1073741824 < ref) || decide (0 ≤ findZ m.bids ten ref)

/-- why a Submit is refused behind the log: 0: it is not -/
def submitE (m : MkG) (ten ref : Int) (j : JobG) : Int :=
  if m.tenB ten = false then 3 else if suspAt m ten = true then 4 else if refB m ten ref = true then 5 else if m.jobB j = false then 6 else if m.c.quo ≤ pendL m.bids ten then 7 else 0
def newBid (m : MkG) (ten ref : Int) (j : JobG) : BidG := ⟨ten, ref, j, atOf m.time j, 1, -1, m.log.length, false⟩
def submitM (m : MkG) (ten ref : Int) (j : JobG) : MkG :=
  let m1 := m.logs (callSubmit ten ref j)
  if submitE m ten ref j = 0 then { m1 with bids := m1.bids ++ [newBid m ten ref j] } else m1

def stateAt (m : MkG) (i : Int) : Int := ((m.bids[i.toNat]?).map (·.state)).getD 0
def startAt (m : MkG) (i : Int) : Int := ((m.bids[i.toNat]?).map (·.start)).getD 0
def cancelE (m : MkG) (ten ref : Int) : Int :=
  if m.tenB ten = false then 3 else if findZ m.bids ten ref < 0 then 5 else if stateAt m (findZ m.bids ten ref) = 1 then 0 else 8
def setState (l : List BidG) (i : Nat) (s : Int) : List BidG := match l[i]? with | some b => l.set i { b with state := s } | none => l
def cancelM (m : MkG) (ten ref : Int) : MkG :=
  let m1 := m.logs (callCancel ten ref)
  if cancelE m ten ref = 0 then { m1 with bids := setState m1.bids (findZ m.bids ten ref).toNat 3 } else m1

def suspendE (m : MkG) (ten : Int) : Int := if m.tenB ten = false then 3 else 0
def suspendM (m : MkG) (ten : Int) (on : Bool) : MkG :=
  let m1 := m.logs (callSuspend ten on)
  if suspendE m ten = 0 then { m1 with susp := m1.susp.set ten.toNat on } else m1

def capArg (m : MkG) (f t u : Int) : Bool := decide (f < m.time) || decide (t ≤ f) || decide (m.c.ticks < t) || decide (u < 0) || decide (100000 < u)
/-- no more than u units are in use at the ticks f .. k -/
def capOk (m : MkG) (f k u : Int) : Prop := ∀ t, f ≤ t → t < k → usedL m.bids t ≤ u
def CapRes (m : MkG) (f t u z : Int) (m' : MkG) : Prop :=
  (capArg m f t u = true ∧ z = 9 ∧ m' = m.logs (callCapacity f t u)) ∨
  (capArg m f t u = false ∧ ¬ capOk m f t u ∧ z = 10 ∧ m' = m.logs (callCapacity f t u)) ∨
  (capArg m f t u = false ∧ capOk m f t u ∧ z = 0 ∧ m' = { m.logs (callCapacity f t u) with units := (List.range m.units.length).map fun i : Nat => if f ≤ (i : Int) ∧ (i : Int) < t then u else m.units.getD i 0 })

def lookE (m : MkG) (ten ref : Int) : Int := if m.tenB ten = false then 3 else if findZ m.bids ten ref < 0 then 5 else 0
def lookS (m : MkG) (ten ref : Int) : Int := if lookE m ten ref = 0 then stateAt m (findZ m.bids ten ref) else 0
def lookT (m : MkG) (ten ref : Int) : Int := if lookE m ten ref = 0 then startAt m (findZ m.bids ten ref) else 0
def freeE (m : MkG) (t : Int) : Int := if t < 0 ∨ m.c.ticks ≤ t then 9 else 0
def freeV (m : MkG) (t : Int) : Int := if t < 0 ∨ m.c.ticks ≤ t then 0 else m.units.getD t.toNat 0 - usedL m.bids t

/-! ### what holds of every market -/
structure BidOk (c : CfgG) (b : BidG) : Prop where
  t0 : 0 ≤ b.ten
  t1 : b.ten < c.ten
  r0 : 1 ≤ b.ref
  r1 : b.ref ≤ 1073741824
  job : jobIn c.ticks b.job = true
  a0 : b.job.arr ≤ b.arrival
  a1 : b.arrival + b.job.len ≤ b.job.dl
  s0 : 1 ≤ b.state
  s1 : b.state ≤ 4
  st0 : -1 ≤ b.start
  st1 : b.start ≤ 64
  e0 : 0 ≤ b.entry
  e1 : b.entry < 300
structure MkOk (m : MkG) : Prop where
  ck : cfgOk m.c = true
  nu : m.units.length = m.c.ticks.toNat
  ns : m.susp.length = m.c.ten.toNat
  np : m.paid.length = m.c.ten.toNat
  nl : m.log.length ≤ 300
  nb : m.bids.length ≤ m.log.length
  t0 : 0 ≤ m.time
  t1 : m.time ≤ m.c.ticks
  un : ∀ u ∈ m.units, 0 ≤ u ∧ u ≤ 100000
  bid : ∀ b ∈ m.bids, BidOk m.c b

theorem jobIn_true {ticks : Int} {j : JobG} (h : jobIn ticks j = true) : 0 ≤ j.arr ∧ 1 ≤ j.len ∧ j.len ≤ ticks ∧ 1 ≤ j.units ∧ j.units ≤ 1000 ∧ 1 ≤ j.val ∧ j.val ≤ 1048576 ∧ j.dl ≤ ticks := by
  simp [jobIn] at h
  omega
theorem cfgOk_true {c : CfgG} (h : cfgOk c = true) : (1 ≤ c.ticks ∧ c.ticks ≤ 64) ∧ (0 ≤ c.cap ∧ c.cap ≤ 100000) ∧ (0 ≤ c.res ∧ c.res ≤ 1000) ∧ (1 ≤ c.ten ∧ c.ten ≤ 8) ∧ 1 ≤ c.quo ∧ c.quo ≤ 16 := by
  simp only [cfgOk, ckB, Bool.and_eq_true] at h
  obtain ⟨⟨⟨⟨h1, h2⟩, h3⟩, h4⟩, h5⟩ := h
  exact ⟨inB_true h1, inB_true h2, inB_true h3, inB_true h4, inB_true h5⟩

theorem usedL_snoc (l : List BidG) (b : BidG) (t : Int) : usedL (l ++ [b]) t = usedL l t + if b.runs t then b.job.units else 0 := by
  simp [usedL]
theorem usedL_le (c : CfgG) (t : Int) : ∀ l : List BidG, (∀ b ∈ l, BidOk c b) → 0 ≤ usedL l t ∧ usedL l t ≤ 1000 * l.length
  | [], _ => by simp [usedL]
  | b :: l, h => by
    have ih := usedL_le c t l (fun x hx => h x (List.mem_cons_of_mem _ hx))
    have hj := jobIn_true (h b List.mem_cons_self).job
    simp only [usedL, List.map_cons, List.sum_cons, List.length_cons] at ih ⊢
    split <;> omega
theorem pendL_snoc (l : List BidG) (b : BidG) (t : Int) : pendL (l ++ [b]) t = pendL l t + if b.pends t then 1 else 0 := by
  simp only [pendL, List.countP_append, List.countP_cons, List.countP_nil]
  split <;> simp
theorem pendL_le (l : List BidG) (t : Int) : 0 ≤ pendL l t ∧ pendL l t ≤ l.length := by
  have : (l.countP fun b => b.pends t) ≤ l.length := List.countP_le_length
  unfold pendL
  omega
theorem findZ_none {l : List BidG} {ten ref : Int} (h : ∀ (i : Nat) (b : BidG), l[i]? = some b → b.is ten ref = false) : findZ l ten ref = -1 := by
  unfold findZ findL
  rw [List.findIdx?_eq_none_iff.2]
  intro x hx
  obtain ⟨i, hi⟩ := List.getElem?_of_mem hx
  exact h i x hi
theorem findZ_some {l : List BidG} {ten ref : Int} {k : Nat} {b : BidG} (hb : l[k]? = some b) (hk : b.is ten ref = true) (h : ∀ (i : Nat) (b : BidG), i < k → l[i]? = some b → b.is ten ref = false) : findZ l ten ref = k := by
  have hkl := (List.getElem?_eq_some_iff.1 hb)
  unfold findZ findL
  rw [List.findIdx?_eq_some_iff_getElem.2 ⟨hkl.1, by rw [hkl.2]; exact hk, fun j hj => by rw [h j _ hj (List.getElem?_eq_getElem (by have := hkl.1; omega))]; simp⟩]
theorem findZ_lt (l : List BidG) (ten ref : Int) : -1 ≤ findZ l ten ref ∧ findZ l ten ref < l.length := by
  unfold findZ
  split
  · rename_i i h
    have := List.findIdx?_eq_some_iff_getElem.1 h
    obtain ⟨h1, _⟩ := this
    omega
  · omega
end Go.Proofs.Ytpenifeenfcphaa
