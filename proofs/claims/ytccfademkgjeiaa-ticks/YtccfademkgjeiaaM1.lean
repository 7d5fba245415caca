import Derived.Test.YtccfademkgjeiaaCheck
import Derived.Test.YtccfademkgjeiaaR2
import Derived.Deep.AppendLies
import Derived.Deep.RegionHeld3
import Derived.BigRegion
/-
  THE MARKET, AS PLAIN FUNCTIONS (the document's answer, up to the calls of stage 2). Nothing of the program.
-/
namespace Go.Proofs.Ytccfademkgjeiaa

structure JobG where
  arr : Int
  dl : Int
  len : Int
  units : Int
  val : Int
structure BidG where
  ten : Int
  ref : Int
  job : JobG
  arrival : Int
  state : Int
  start : Int
  entry : Int
  charged : Bool
structure CallG where
  kind : Int
  a : Int
  b : Int
  c : Int
  job : JobG
  on : Bool
structure InvG where
  ten : Int
  ref : Int
  cents : Int
structure CfgG where
  ticks : Int
  cap : Int
  res : Int
  ten : Int
  quo : Int
structure MkG where
  c : CfgG
  time : Int
  units : List Int
  bids : List BidG
  susp : List Bool
  log : List CallG
  paid : List Int
  charges : List InvG
  ghost : Int
  need : Int

def noJob : JobG := ⟨0, 0, 0, 0, 0⟩
def cfgOk (c : CfgG) : Bool := ckB c.ticks c.cap c.res c.ten c.quo

def openM (c : CfgG) : MkG := ⟨c, 0, List.replicate c.ticks.toNat c.cap, [], List.replicate c.ten.toNat false, [], List.replicate c.ten.toNat 0, [], -1, 0⟩

def BidG.runs (b : BidG) (t : Int) : Bool := (b.state == 2) && decide (b.start ≤ t) && decide (t < b.start + b.job.len)
def usedL (l : List BidG) (t : Int) : Int := (l.map fun b => if b.runs t then b.job.units else 0).sum
def BidG.is (b : BidG) (ten ref : Int) : Bool := (b.ten == ten) && (b.ref == ref)
def findL (l : List BidG) (ten ref : Int) : Option Nat := l.findIdx? fun b => b.is ten ref
def findZ (l : List BidG) (ten ref : Int) : Int := match findL l ten ref with | some i => i | none => -1
def BidG.pends (b : BidG) (ten : Int) : Bool := (b.ten == ten) && (b.state == 1)
def pendL (l : List BidG) (ten : Int) : Int := (l.countP fun b => b.pends ten : Nat)

def MkG.tenB (m : MkG) (k : Int) : Bool := decide (0 ≤ k) && decide (k < m.c.ten)
/-- the plain bounds of a job -/
def jobIn (ticks : Int) (j : JobG) : Bool := decide (0 ≤ j.arr) && decide (1 ≤ j.len) && decide (j.len ≤ ticks) && decide (1 ≤ j.units) && decide (j.units ≤ 1000) && decide (1 ≤ j.val) && decide (j.val ≤ 1048576) && decide (j.dl ≤ ticks)
def atOf (time : Int) (j : JobG) : Int := if j.arr < time then time else j.arr
def MkG.jobB (m : MkG) (j : JobG) : Bool := jobIn m.c.ticks j && decide (atOf m.time j + j.len ≤ j.dl)

def MkG.logs (m : MkG) (c : CallG) : MkG := { m with log := m.log ++ [c] }

def callSubmit (ten ref : Int) (j : JobG) : CallG := ⟨1, ten, ref, 0, j, false⟩
def callCancel (ten ref : Int) : CallG := ⟨2, ten, ref, 0, noJob, false⟩
def callCapacity (f t u : Int) : CallG := ⟨3, f, t, u, noJob, false⟩
def callSuspend (ten : Int) (on : Bool) : CallG := ⟨4, ten, 0, 0, noJob, on⟩

def suspAt (m : MkG) (ten : Int) : Bool := m.susp.getD ten.toNat false
def refB (m : MkG) (ten ref : Int) : Bool := decide (ref < 1) || decide (1073741824 < ref) || decide (0 ≤ findZ m.bids ten ref)

/-- why a Submit is refused behind the log: 0: it is not -/
def submitE (m : MkG) (ten ref : Int) (j : JobG) : Int :=
  if m.tenB ten = false then 3 else if suspAt m ten = true then 4 else if refB m ten ref = true then 5 else if m.jobB j = false then 6 else if m.c.quo ≤ pendL m.bids ten then 7 else 0
def newBid (m : MkG) (ten ref : Int) (j : JobG) : BidG := ⟨ten, ref, j, atOf m.time j, 1, -1, m.log.length, false⟩
def submitM (m : MkG) (ten ref : Int) (j : JobG) : MkG :=
  let m1 := m.logs (callSubmit ten ref j)
  if submitE m ten ref j = 0 then { m1 with bids := m1.bids ++ [newBid m ten ref j] } else m1

def stateAt (m : MkG) (i : Int) : Int := ((m.bids[i.toNat]?).map (·.state)).getD 0
def startAt (m : MkG) (i : Int) : Int := ((m.bids[i.toNat]?).map (·.start)).getD 0
def cancelE (m : MkG) (ten ref : Int) : Int :=
  if m.tenB ten = false then 3 else if findZ m.bids ten ref < 0 then 5 else if stateAt m (findZ m.bids ten ref) = 1 then 0 else 8
def setState (l : List BidG) (i : Nat) (s : Int) : List BidG := match l[i]? with | some b => l.set i { b with state := s } | none => l
def cancelM (m : MkG) (ten ref : Int) : MkG :=
  let m1 := m.logs (callCancel ten ref)
  if cancelE m ten ref = 0 then { m1 with bids := setState m1.bids (findZ m.bids ten ref).toNat 3 } else m1

def suspendE (m : MkG) (ten : Int) : Int := if m.tenB ten = false then 3 else 0
def suspendM (m : MkG) (ten : Int) (on : Bool) : MkG :=
  let m1 := m.logs (callSuspend ten on)
  if suspendE m ten = 0 then { m1 with susp := m1.susp.set ten.toNat on } else m1

def capArg (m : MkG) (f t u : Int) : Bool := decide (f < m.time) || decide (t ≤ f) || decide (m.c.ticks < t) || decide (u < 0) || decide (100000 < u)
/-- no more than u units are in use at the ticks f .. k -/
def capOk (m : MkG) (f k u : Int) : Prop := ∀ t, f ≤ t → t < k → usedL m.bids t ≤ u
def CapRes (m : MkG) (f t u z : Int) (m' : MkG) : Prop :=
  (capArg m f t u = true ∧ z = 9 ∧ m' = m.logs (callCapacity f t u)) ∨
  (capArg m f t u = false ∧ ¬ capOk m f t u ∧ z = 10 ∧ m' = m.logs (callCapacity f t u)) ∨
  (capArg m f t u = false ∧ capOk m f t u ∧ z = 0 ∧ m' = { m.logs (callCapacity f t u) with units := (List.range m.units.length).map fun i : Nat => if f ≤ (i : Int) ∧ (i : Int) < t then u else m.units.getD i 0 })

def lookE (m : MkG) (ten ref : Int) : Int := if m.tenB ten = false then 3 else if findZ m.bids ten ref < 0 then 5 else 0
def lookS (m : MkG) (ten ref : Int) : Int := if lookE m ten ref = 0 then stateAt m (findZ m.bids ten ref) else 0
def lookT (m : MkG) (ten ref : Int) : Int := if lookE m ten ref = 0 then startAt m (findZ m.bids ten ref) else 0
def freeE (m : MkG) (t : Int) : Int := if t < 0 ∨ m.c.ticks ≤ t then 9 else 0
def freeV (m : MkG) (t : Int) : Int := if t < 0 ∨ m.c.ticks ≤ t then 0 else m.units.getD t.toNat 0 - usedL m.bids t

/-! ### what holds of every market -/
structure BidOk (c : CfgG) (b : BidG) : Prop where
  t0 : 0 ≤ b.ten
  t1 : b.ten < c.ten
  r0 : 1 ≤ b.ref
  r1 : b.ref ≤ 1073741824
  job : jobIn c.ticks b.job = true
  a0 : b.job.arr ≤ b.arrival
  a1 : b.arrival + b.job.len ≤ b.job.dl
  s0 : 1 ≤ b.state
  s1 : b.state ≤ 4
  st0 : -1 ≤ b.start
  st1 : b.start ≤ 64
  e0 : 0 ≤ b.entry
  e1 : b.entry < 300
structure MkOk (m : MkG) : Prop where
  ck : cfgOk m.c = true
  nu : m.units.length = m.c.ticks.toNat
  ns : m.susp.length = m.c.ten.toNat
  np : m.paid.length = m.c.ten.toNat
  nl : m.log.length ≤ 300
  nb : m.bids.length ≤ m.log.length
  t0 : 0 ≤ m.time
  t1 : m.time ≤ m.c.ticks
  un : ∀ u ∈ m.units, 0 ≤ u ∧ u ≤ 100000
  bid : ∀ b ∈ m.bids, BidOk m.c b

theorem jobIn_true {ticks : Int} {j : JobG} (h : jobIn ticks j = true) : 0 ≤ j.arr ∧ 1 ≤ j.len ∧ j.len ≤ ticks ∧ 1 ≤ j.units ∧ j.units ≤ 1000 ∧ 1 ≤ j.val ∧ j.val ≤ 1048576 ∧ j.dl ≤ ticks := by
  simp [jobIn] at h
  omega
theorem cfgOk_true {c : CfgG} (h : cfgOk c = true) : (1 ≤ c.ticks ∧ c.ticks ≤ 64) ∧ (0 ≤ c.cap ∧ c.cap ≤ 100000) ∧ (0 ≤ c.res ∧ c.res ≤ 1000) ∧ (1 ≤ c.ten ∧ c.ten ≤ 8) ∧ 1 ≤ c.quo ∧ c.quo ≤ 16 := by
  simp only [cfgOk, ckB, Bool.and_eq_true] at h
  obtain ⟨⟨⟨⟨h1, h2⟩, h3⟩, h4⟩, h5⟩ := h
  exact ⟨inB_true h1, inB_true h2, inB_true h3, inB_true h4, inB_true h5⟩

theorem usedL_snoc (l : List BidG) (b : BidG) (t : Int) : usedL (l ++ [b]) t = usedL l t + if b.runs t then b.job.units else 0 := by
  simp [usedL]
theorem usedL_le (c : CfgG) (t : Int) : ∀ l : List BidG, (∀ b ∈ l, BidOk c b) → 0 ≤ usedL l t ∧ usedL l t ≤ 1000 * l.length
  | [], _ => by simp [usedL]
  | b :: l, h => by
    have ih := usedL_le c t l (fun x hx => h x (List.mem_cons_of_mem _ hx))
    have hj := jobIn_true (h b List.mem_cons_self).job
    simp only [usedL, List.map_cons, List.sum_cons, List.length_cons] at ih ⊢
    split <;> omega
theorem pendL_snoc (l : List BidG) (b : BidG) (t : Int) : pendL (l ++ [b]) t = pendL l t + if b.pends t then 1 else 0 := by
  simp only [pendL, List.countP_append, List.countP_cons, List.countP_nil]
  split <;> simp
theorem pendL_le (l : List BidG) (t : Int) : 0 ≤ pendL l t ∧ pendL l t ≤ l.length := by
  have : (l.countP fun b => b.pends t) ≤ l.length := List.countP_le_length
  unfold pendL
  omega
theorem findZ_none {l : List BidG} {ten ref : Int} (h : ∀ (i : Nat) (b : BidG), l[i]? = some b → b.is ten ref = false) : findZ l ten ref = -1 := by
  unfold findZ findL
  rw [List.findIdx?_eq_none_iff.2]
  intro x hx
  obtain ⟨i, hi⟩ := List.getElem?_of_mem hx
  exact h i x hi
theorem findZ_some {l : List BidG} {ten ref : Int} {k : Nat} {b : BidG} (hb : l[k]? = some b) (hk : b.is ten ref = true) (h : ∀ (i : Nat) (b : BidG), i < k → l[i]? = some b → b.is ten ref = false) : findZ l ten ref = k := by
  have hkl := (List.getElem?_eq_some_iff.1 hb)
  unfold findZ findL
  rw [List.findIdx?_eq_some_iff_getElem.2 ⟨hkl.1, by rw [hkl.2]; exact hk, fun j hj => by rw [h j _ hj (List.getElem?_eq_getElem (by have := hkl.1; omega))]; simp⟩]
theorem findZ_lt (l : List BidG) (ten ref : Int) : -1 ≤ findZ l ten ref ∧ findZ l ten ref < l.length := by
  unfold findZ
  split
  · rename_i i h
    have := List.findIdx?_eq_some_iff_getElem.1 h
    obtain ⟨h1, _⟩ := this
    omega
  · omega
end Go.Proofs.Ytccfademkgjeiaa

/-
  THE DOCUMENT's MARKET IN MEMORY.
-/
namespace Go.Proofs.Ytccfademkgjeiaa
open Go.RowKit

def jobCells (j : JobG) : List Value := [.int .i64 j.arr, .int .i64 j.dl, .int .i64 j.len, .int .i64 j.units, .int .i64 j.val]
def bidCells (b : BidG) : List Value := [.int .i64 b.ten, .int .i64 b.ref, .int .i64 b.job.arr, .int .i64 b.job.dl, .int .i64 b.job.len, .int .i64 b.job.units, .int .i64 b.job.val, .int .i64 b.arrival, .int .i64 b.state, .int .i64 b.start, .int .i64 b.entry, .bool b.charged]
def callCells (c : CallG) : List Value := [.int .i64 c.kind, .int .i64 c.a, .int .i64 c.b, .int .i64 c.c, .int .i64 c.job.arr, .int .i64 c.job.dl, .int .i64 c.job.len, .int .i64 c.job.units, .int .i64 c.job.val, .bool c.on]
def invCells (i : InvG) : List Value := [.int .i64 i.ten, .int .i64 i.ref, .int .i64 i.cents]

structure MV where
  uv : Value
  bv : Value
  sv : Value
  lv : Value
  pv : Value
  cv : Value

def MV.foot (V : MV) (p k : Nat) : Prop := k = p ∨ V.uv.ownBlock = some k ∨ V.bv.ownBlock = some k ∨ V.sv.ownBlock = some k ∨ V.lv.ownBlock = some k ∨ V.pv.ownBlock = some k ∨ V.cv.ownBlock = some k

def mktBox (V : MV) (m : MkG) : Array Value := #[.int .i64 m.c.ticks, .int .i64 m.c.cap, .int .i64 m.c.res, .int .i64 m.c.ten, .int .i64 m.c.quo, .int .i64 m.time, V.uv, V.bv, V.sv, V.lv, V.pv, V.cv, .int .i64 m.ghost, .int .i64 m.need]

structure MktAt (w : World) (p : Nat) (V : MV) (m : MkG) : Prop where
  box : w.heap[p]? = some (.cells (mktBox V m) 152 (0, 0))
  units : w.ownsRow 0 3 1 V.uv m.units.length (m.units.map (Value.int .i64))
  bids : w.ownsRow 0 167 12 V.bv m.bids.length (m.bids.flatMap bidCells)
  susp : w.ownsRow 0 4 1 V.sv m.susp.length (m.susp.map Value.bool)
  log : w.ownsRow 0 165 10 V.lv m.log.length (m.log.flatMap callCells)
  paid : w.ownsRow 0 3 1 V.pv m.paid.length (m.paid.map (Value.int .i64))
  charges : w.ownsRow 0 139 3 V.cv m.charges.length (m.charges.flatMap invCells)
  ne : ∀ k, V.uv.ownBlock = some k → V.pv.ownBlock ≠ some k

theorem ownsRow_keep {w w' : World} {base : Nat} {e : TypeId} {size : Nat} {v : Value} {n : Nat} {xs : List Value} (h : w.ownsRow base e size v n xs) (hb : ∀ k, v.ownBlock = some k → w'.heap[k]? = w.heap[k]?) : w'.ownsRow base e size v n xs := by
  refine ⟨h.1, ?_⟩
  rcases h.2 with h2 | ⟨g, cap, cur, hv, hg, hh, r⟩
  · exact .inl h2
  · exact .inr ⟨g, cap, cur, hv, hg, by rw [hb g (by rw [hv]; rfl)]; exact hh, r⟩

/-- the block of what is owned -/
theorem ownsRow_block {w : World} {base : Nat} {e : TypeId} {size : Nat} {v : Value} {n : Nat} {xs : List Value} (h : w.ownsRow base e size v n xs) {k : Nat} (hk : v.ownBlock = some k) : ∃ cur, w.heap[k]? = some (.cells cur e (0, 0)) := by
  rcases h.2 with ⟨hv, _⟩ | ⟨g, cap, cur, hv, hg, hh, r⟩
  · rw [hv] at hk; simp [Value.ownBlock] at hk
  · rw [hv] at hk
    simp [Value.ownBlock] at hk
    subst hk
    exact ⟨cur, hh⟩

/-- what is owned under two types is not one block -/
theorem ownsRow_apart {w : World} {base base' : Nat} {e e' : TypeId} {size size' : Nat} {v v' : Value} {n n' : Nat} {xs xs' : List Value} (h : w.ownsRow base e size v n xs) (h' : w.ownsRow base' e' size' v' n' xs') (he : e ≠ e') {k : Nat} (hk : v.ownBlock = some k) : v'.ownBlock ≠ some k := by
  intro hk'
  obtain ⟨c, h1⟩ := ownsRow_block h hk
  obtain ⟨c', h1'⟩ := ownsRow_block h' hk'
  rw [h1] at h1'
  simp at h1'
  exact he h1'.2
theorem ownsRow_box {w : World} {base : Nat} {e e' : TypeId} {size : Nat} {v : Value} {n : Nat} {xs : List Value} {p : Nat} {cs : Array Value} (h : w.ownsRow base e size v n xs) (hp : w.heap[p]? = some (.cells cs e' (0, 0))) (he : e ≠ e') : v.ownBlock ≠ some p := by
  intro hk
  obtain ⟨c, h1⟩ := ownsRow_block h hk
  rw [h1] at hp
  simp at hp
  exact he hp.2

theorem flat_get {α : Type} (f : α → List Value) (k : Nat) (hf : ∀ x, (f x).length = k) : ∀ (l : List α) (i : Nat) (x : α) (r : Nat), l[i]? = some x → r < k → (l.flatMap f)[i * k + r]? = (f x)[r]?
  | [], i, x, r, h, _ => by simp at h
  | y :: l, 0, x, r, h, hr => by
    simp at h
    subst h
    simp only [List.flatMap_cons, Nat.zero_mul, Nat.zero_add]
    rw [List.getElem?_append_left (by rw [hf]; exact hr)]
  | y :: l, i + 1, x, r, h, hr => by
    simp only [List.getElem?_cons_succ] at h
    simp only [List.flatMap_cons]
    rw [List.getElem?_append_right (by rw [hf, Nat.add_mul]; omega), hf, show (i + 1) * k + r - k = i * k + r by rw [Nat.add_mul]; omega]
    exact flat_get f k hf l i x r h hr

section
variable {w : World} {p : Nat} {V : MV} {m : MkG}
theorem MktAt.lt (h : MktAt w p V m) : p < w.heap.size := (Array.getElem?_eq_some_iff.1 h.box).1
theorem MktAt.foot_lt (h : MktAt w p V m) (k : Nat) (hk : V.foot p k) : k < w.heap.size := by
  rcases hk with rfl | hk | hk | hk | hk | hk | hk
  · exact h.lt
  · exact (h.units.lt k hk).2
  · exact (h.bids.lt k hk).2
  · exact (h.susp.lt k hk).2
  · exact (h.log.lt k hk).2
  · exact (h.paid.lt k hk).2
  · exact (h.charges.lt k hk).2
theorem MktAt.frame {w' : World} (h : MktAt w p V m) (hf : ∀ k, V.foot p k → w'.heap[k]? = w.heap[k]?) : MktAt w' p V m :=
  ⟨(hf p (.inl rfl)).trans h.box, ownsRow_keep h.units (fun k hk => hf k (.inr (.inl hk))), ownsRow_keep h.bids (fun k hk => hf k (.inr (.inr (.inl hk)))), ownsRow_keep h.susp (fun k hk => hf k (.inr (.inr (.inr (.inl hk))))),
    ownsRow_keep h.log (fun k hk => hf k (.inr (.inr (.inr (.inr (.inl hk)))))), ownsRow_keep h.paid (fun k hk => hf k (.inr (.inr (.inr (.inr (.inr (.inl hk))))))), ownsRow_keep h.charges (fun k hk => hf k (.inr (.inr (.inr (.inr (.inr (.inr hk))))))), h.ne⟩
theorem MktAt.chg {O : Nat → Prop} {w' : World} (h : MktAt w p V m) (hc : Chg O w w') (hO : ∀ k, V.foot p k → ¬ O k) : MktAt w' p V m := h.frame (fun k hk => hc.block k (h.foot_lt k hk) (hO k hk))
theorem MktAt.chg0 {w' : World} (h : MktAt w p V m) (hc : Chg (fun _ => False) w w') : MktAt w' p V m := h.chg hc (fun _ _ h => h)
theorem MktAt.cell (h : MktAt w p V m) (f : Nat) : w.cell? ⟨p, f, none⟩ = (mktBox V m)[f]? := by
  unfold World.cell?
  rw [h.box]
  rfl
theorem MktAt.free (h : MktAt w p V m) (f : Nat) : w.frozen? ⟨p, f, none⟩ = false := by
  unfold World.frozen?
  rw [h.box]
  simp
/-- the bids' slice: its form, its cells -/
theorem MktAt.bid_form (h : MktAt w p V m) : ∃ ao cap, V.bv = .slice ao m.bids.length cap ∧ ∀ i b, m.bids[i]? = some b → ∃ g, ao = some ⟨g, 0, none⟩ ∧ V.bv.ownBlock = some g ∧ (∀ r u, (bidCells b)[r]? = some u → w.cell? ⟨g, i * 12 + r, none⟩ = some u) ∧ ∀ r, w.frozen? ⟨g, r, none⟩ = false := by
  rcases h.bids.2 with ⟨hv, h0⟩ | ⟨g, cap, cur, hv, hg, hh, r⟩
  · refine ⟨none, 0, by rw [hv, h0], fun i b hb => ?_⟩
    have := (List.getElem?_eq_some_iff.1 hb).1
    omega
  · refine ⟨some ⟨g, 0, none⟩, cap, hv, fun i b hb => ⟨g, rfl, by rw [hv]; rfl, fun r u hu => ?_, fun r => by unfold World.frozen?; rw [hh]; simp⟩⟩
    have hr : r < 12 := by
      have := (List.getElem?_eq_some_iff.1 hu).1
      simpa [bidCells] using this
    have := h.bids.cells (g := g) (by rw [hv]; rfl) (i * 12 + r) u (by rw [flat_get bidCells 12 (fun _ => rfl) m.bids i b r hb hr]; exact hu)
    rwa [Addr.add_lit, Nat.zero_add] at this
theorem MktAt.susp_form (h : MktAt w p V m) : ∃ ao cap, V.sv = .slice ao m.susp.length cap ∧ ∀ i, i < m.susp.length → ∃ g, ao = some ⟨g, 0, none⟩ ∧ V.sv.ownBlock = some g ∧ w.cell? ⟨g, i, none⟩ = some (.bool (m.susp.getD i false)) ∧ w.frozen? ⟨g, i, none⟩ = false := by
  rcases h.susp.2 with ⟨hv, h0⟩ | ⟨g, cap, cur, hv, hg, hh, r⟩
  · exact ⟨none, 0, by rw [hv, h0], fun i hi => by omega⟩
  · refine ⟨some ⟨g, 0, none⟩, cap, hv, fun i hi => ⟨g, rfl, by rw [hv]; rfl, ?_, by unfold World.frozen?; rw [hh]; simp⟩⟩
    have := h.susp.cells (g := g) (by rw [hv]; rfl) i (.bool (m.susp.getD i false)) (by simp [List.getD, List.getElem?_eq_getElem hi])
    rwa [Addr.add_lit, Nat.zero_add] at this
theorem MktAt.units_form (h : MktAt w p V m) : ∃ ao cap, V.uv = .slice ao m.units.length cap ∧ ∀ i, i < m.units.length → ∃ g, ao = some ⟨g, 0, none⟩ ∧ V.uv.ownBlock = some g ∧ w.cell? ⟨g, i, none⟩ = some (.int .i64 (m.units.getD i 0)) ∧ w.frozen? ⟨g, i, none⟩ = false := by
  rcases h.units.2 with ⟨hv, h0⟩ | ⟨g, cap, cur, hv, hg, hh, r⟩
  · exact ⟨none, 0, by rw [hv, h0], fun i hi => by omega⟩
  · refine ⟨some ⟨g, 0, none⟩, cap, hv, fun i hi => ⟨g, rfl, by rw [hv]; rfl, ?_, by unfold World.frozen?; rw [hh]; simp⟩⟩
    have := h.units.cells (g := g) (by rw [hv]; rfl) i (.int .i64 (m.units.getD i 0)) (by simp [List.getD, List.getElem?_eq_getElem hi])
    rwa [Addr.add_lit, Nat.zero_add] at this
theorem MktAt.log_form (h : MktAt w p V m) : ∃ ao cap, V.lv = .slice ao m.log.length cap := by
  rcases h.log.2 with ⟨hv, h0⟩ | ⟨g, cap, cur, hv, _⟩
  · exact ⟨none, 0, by rw [hv, h0]⟩
  · exact ⟨_, cap, hv⟩
end
end Go.Proofs.Ytccfademkgjeiaa

namespace Go.Proofs.Ytccfademkgjeiaa
open Go.RowKit

set_option maxHeartbeats 1000000 in
theorem tenant_any (p : Nat) (V : MV) (m : MkG) (k : Int) (w : World) (hm : MktAt w p V m) :
    Calls Try.prog 113 #[.pointer (some ⟨p, 0, none⟩), .int .i64 k] w fun e w' => e = .returned (.bool (m.tenB k)) ∧ w' = w := by
  have hc : w.cell? ⟨p, 3, none⟩ = some (.int .i64 m.c.ten) := hm.cell 3
  clear hm
  by_cases h : 0 ≤ k
  · by_cases h' : k < m.c.ten
    all_goals
      go_enter Try.func113, Try.ntmps113
      go_wp2
      go_ret
      exact ⟨ret_bool (by simp [MkG.tenB]; omega), rfl⟩
  · go_enter Try.func113, Try.ntmps113
    go_wp2
    go_ret
    exact ⟨ret_bool (by simp [MkG.tenB]; omega), rfl⟩

set_option maxHeartbeats 2000000 in
theorem find_any (p : Nat) (V : MV) (m : MkG) (ten ref : Int) (w : World) (hm : MktAt w p V m) (hn : m.bids.length ≤ 300) :
    Calls Try.prog 114 #[.pointer (some ⟨p, 0, none⟩), .int .i64 ten, .int .i64 ref] w fun e w' => e = .returned (.int .i64 (findZ m.bids ten ref)) ∧ w' = w := by
  have hc : w.cell? ⟨p, 7, none⟩ = some V.bv := hm.cell 7
  obtain ⟨ao, cap, hv, hel⟩ := hm.bid_form
  rw [hv] at hc
  have HEL := hide hel
  clear hv hel hm
  generalize hbl : m.bids = l at *
  obtain ⟨n, hln⟩ : ∃ n, n = l.length := ⟨_, rfl⟩
  rw [← hln] at hc hn
  have HLN := hide hln
  clear hln hbl
  go_enter Try.func114, Try.ntmps114
  go_wp2
  go_loop [7] (fun i => ∃ k : Nat, k ≤ n ∧ i = .int .i64 k ∧ ∀ (j : Nat) (b : BidG), j < k → l[j]? = some b → b.is ten ref = false) (fun i => n - (intOf i).toNat)
  case atStart => exact ⟨0, by omega, rfl, fun j b h => by omega⟩
  case round =>
    obtain ⟨k, hk, rfl, hno⟩ := hrel
    have HNO := hide hno
    clear hno
    by_cases hlt : k < n
    · obtain ⟨b, hb⟩ : ∃ b, l[k]? = some b := ⟨_, List.getElem?_eq_getElem (by rw [← HLN.out]; exact hlt)⟩
      have HB := hide hb
      obtain ⟨g, hao, hown, hcl, _⟩ := HEL.out k b hb
      subst hao
      have c0 : w.cell? ⟨g, k * 12, none⟩ = some (.int .i64 b.ten) := hcl 0 _ rfl
      have c1 : w.cell? ⟨g, k * 12 + 1, none⟩ = some (.int .i64 b.ref) := hcl 1 _ rfl
      clear hcl hb hown HEL
      cases h1 : b.ten == ten
      · go_wp2
        go_round
        case rel =>
          refine ⟨k + 1, by omega, by go_num, fun j b' hj hb' => ?_⟩
          by_cases e : j < k
          · exact HNO.out j b' e hb'
          · obtain rfl : j = k := by omega
            rw [HB.out] at hb'
            obtain rfl := Option.some.inj hb'
            simp [BidG.is, h1]
        case measure => simp [intOf]; omega
      · cases h2 : b.ref == ref
        · go_wp2
          go_round
          case rel =>
            refine ⟨k + 1, by omega, by go_num, fun j b' hj hb' => ?_⟩
            by_cases e : j < k
            · exact HNO.out j b' e hb'
            · obtain rfl : j = k := by omega
              rw [HB.out] at hb'
              obtain rfl := Option.some.inj hb'
              simp [BidG.is, h2]
          case measure => simp [intOf]; omega
        · have hf := hide (findZ_some HB.out (by simp [BidG.is, h1, h2]) HNO.out)
          go_wp2
          go_ret
          exact ⟨ret_int (by rw [hf.out]), rfl⟩
    · have hf := hide (findZ_none (l := l) (ten := ten) (ref := ref) (fun i b hb => HNO.out i b (by have := (List.getElem?_eq_some_iff.1 hb).1; rw [← HLN.out] at this; omega) hb))
      go_wp2
      go_ret
      exact ⟨ret_int (by rw [hf.out]), rfl⟩

theorem take_snoc {α : Type} {l : List α} {k : Nat} {x : α} (h : l[k]? = some x) : l.take (k + 1) = l.take k ++ [x] := by
  rw [List.take_add_one, h]
  rfl

set_option maxHeartbeats 2000000 in
theorem pending_any (p : Nat) (V : MV) (m : MkG) (ten : Int) (w : World) (hm : MktAt w p V m) (hn : m.bids.length ≤ 300) :
    Calls Try.prog 116 #[.pointer (some ⟨p, 0, none⟩), .int .i64 ten] w fun e w' => e = .returned (.int .i64 (pendL m.bids ten)) ∧ w' = w := by
  have hc : w.cell? ⟨p, 7, none⟩ = some V.bv := hm.cell 7
  obtain ⟨ao, cap, hv, hel⟩ := hm.bid_form
  rw [hv] at hc
  have HEL := hide hel
  clear hv hel hm
  generalize hbl : m.bids = l at *
  obtain ⟨n, hln⟩ : ∃ n, n = l.length := ⟨_, rfl⟩
  rw [← hln] at hc hn
  have HLN := hide hln
  clear hln hbl
  go_enter Try.func116, Try.ntmps116
  go_wp2
  go_loop [5, 6] (fun s i => ∃ k : Nat, k ≤ n ∧ i = .int .i64 k ∧ s = .int .i64 (pendL (l.take k) ten)) (fun _ i => n - (intOf i).toNat)
  case atStart => exact ⟨0, by omega, rfl, rfl⟩
  case round =>
    obtain ⟨k, hk, rfl, rfl⟩ := hrel
    have hb1 := pendL_le (l.take k) ten
    have hb2 : (l.take k).length ≤ k := List.length_take_le _ _
    by_cases hlt : k < n
    · obtain ⟨b, hb⟩ : ∃ b, l[k]? = some b := ⟨_, List.getElem?_eq_getElem (by rw [← HLN.out]; exact hlt)⟩
      have HS := pendL_snoc (l.take k) b ten
      rw [← take_snoc hb] at HS
      have HSh := hide HS
      obtain ⟨g, hao, hown, hcl, _⟩ := HEL.out k b hb
      subst hao
      have c0 : w.cell? ⟨g, k * 12, none⟩ = some (.int .i64 b.ten) := hcl 0 _ rfl
      have c1 : w.cell? ⟨g, k * 12 + 8, none⟩ = some (.int .i64 b.state) := hcl 8 _ rfl
      have hq : 0 ≤ pendL (l.take k) ten ∧ pendL (l.take k) ten ≤ 300 := by omega
      clear hcl hb hown HEL HS hb1 hb2
      generalize pendL (l.take k) ten = s at *
      obtain ⟨hq1, hq2⟩ := hq
      cases h1 : b.ten == ten
      · go_wp2
        go_round
        case rel => exact ⟨k + 1, by omega, by go_num, by rw [HSh.out]; simp [BidG.pends, h1]⟩
        case measure => simp [intOf]; omega
      · cases h2 : b.state == 1
        · go_wp2
          go_round
          case rel => exact ⟨k + 1, by omega, by go_num, by rw [HSh.out]; simp [BidG.pends, h2]⟩
          case measure => simp [intOf]; omega
        · go_wp2
          go_round
          case rel => exact ⟨k + 1, by omega, by go_num, by rw [HSh.out]; simp [BidG.pends, h1, h2]⟩
          case measure => simp [intOf]; omega
    · go_wp2
      go_ret
      exact ⟨ret_int (by rw [List.take_of_length_le (by rw [← HLN.out]; omega)]), rfl⟩
end Go.Proofs.Ytccfademkgjeiaa

namespace Go.Proofs.Ytccfademkgjeiaa
open Go.RowKit

set_option maxRecDepth 100000 in
set_option maxHeartbeats 4000000 in
theorem used_any (p : Nat) (V : MV) (m : MkG) (t : Int) (w : World) (hm : MktAt w p V m) (hn : m.bids.length ≤ 300) (hok : ∀ b ∈ m.bids, BidOk m.c b) (hcf : cfgOk m.c = true) :
    Calls Try.prog 117 #[.pointer (some ⟨p, 0, none⟩), .int .i64 t] w fun e w' => e = .returned (.int .i64 (usedL m.bids t)) ∧ Chg (fun _ => False) w w' := by
  have hc : w.cell? ⟨p, 7, none⟩ = some V.bv := hm.cell 7
  have hpl := hm.lt
  have hbl' := hide (fun k hk => (hm.bids.lt k hk).2)
  obtain ⟨ao, cap, hv, hel⟩ := hm.bid_form
  rw [hv] at hc
  have HEL := hide hel
  have HOK := hide hok
  have HCF := hide hcf
  clear hv hel hm hok hcf
  generalize hbl : m.bids = l at *
  obtain ⟨n, hln⟩ : ∃ n, n = l.length := ⟨_, rfl⟩
  rw [← hln] at hc hn
  have HLN := hide hln
  have HC := hide hc
  clear hln hbl
  go_enter Try.func117, Try.ntmps117
  go_wp2
  go_loopw [5, 6] (fun s i wr => ∃ k : Nat, k ≤ n ∧ i = .int .i64 k ∧ s = .int .i64 (usedL (l.take k) t) ∧ Chg (fun _ => False) w wr) (fun _ i _ => n - (intOf i).toNat)
  case atStart => exact ⟨0, by omega, rfl, rfl, Chg.refl _ _⟩
  case round =>
    obtain ⟨k, hk, rfl, rfl, hchg⟩ := hrel
    have HCH := hide hchg
    have hcr : wr.cell? ⟨p, 7, none⟩ = some (.slice ao n cap) := by rw [hchg.cell (by exact hpl) (fun h => h)]; exact HC.out
    clear hc
    by_cases hlt : k < n
    · obtain ⟨b, hb⟩ : ∃ b, l[k]? = some b := ⟨_, List.getElem?_eq_getElem (by rw [← HLN.out]; exact hlt)⟩
      have HS := usedL_snoc (l.take k) b t
      rw [← take_snoc hb] at HS
      have HSh := hide HS
      have hub := usedL_le m.c t (l.take k) (fun x hx => HOK.out x (List.mem_of_mem_take hx))
      have hub2 : (l.take k).length ≤ k := List.length_take_le _ _
      have hbok := HOK.out b (List.mem_of_getElem? hb)
      have hj := jobIn_true hbok.job
      have hcf := cfgOk_true HCF.out
      obtain ⟨g, hao, hown, hcl, _⟩ := HEL.out k b hb
      subst hao
      have hgl : g < w.heap.size := hbl'.out g hown
      have c0 : wr.cell? ⟨g, k * 12, none⟩ = some (.int .i64 b.ten) := by rw [hchg.cell (by exact hgl) (fun h => h)]; exact hcl 0 _ rfl
      have c1 : wr.cell? ⟨g, k * 12 + 1, none⟩ = some (.int .i64 b.ref) := by rw [hchg.cell (by exact hgl) (fun h => h)]; exact hcl 1 _ rfl
      have c2 : wr.cell? ⟨g, k * 12 + 2, none⟩ = some (.int .i64 b.job.arr) := by rw [hchg.cell (by exact hgl) (fun h => h)]; exact hcl 2 _ rfl
      have c3 : wr.cell? ⟨g, k * 12 + 3, none⟩ = some (.int .i64 b.job.dl) := by rw [hchg.cell (by exact hgl) (fun h => h)]; exact hcl 3 _ rfl
      have c4 : wr.cell? ⟨g, k * 12 + 4, none⟩ = some (.int .i64 b.job.len) := by rw [hchg.cell (by exact hgl) (fun h => h)]; exact hcl 4 _ rfl
      have c5 : wr.cell? ⟨g, k * 12 + 5, none⟩ = some (.int .i64 b.job.units) := by rw [hchg.cell (by exact hgl) (fun h => h)]; exact hcl 5 _ rfl
      have c6 : wr.cell? ⟨g, k * 12 + 6, none⟩ = some (.int .i64 b.job.val) := by rw [hchg.cell (by exact hgl) (fun h => h)]; exact hcl 6 _ rfl
      have c7 : wr.cell? ⟨g, k * 12 + 7, none⟩ = some (.int .i64 b.arrival) := by rw [hchg.cell (by exact hgl) (fun h => h)]; exact hcl 7 _ rfl
      have c8 : wr.cell? ⟨g, k * 12 + 8, none⟩ = some (.int .i64 b.state) := by rw [hchg.cell (by exact hgl) (fun h => h)]; exact hcl 8 _ rfl
      have c9 : wr.cell? ⟨g, k * 12 + 9, none⟩ = some (.int .i64 b.start) := by rw [hchg.cell (by exact hgl) (fun h => h)]; exact hcl 9 _ rfl
      have c10 : wr.cell? ⟨g, k * 12 + 10, none⟩ = some (.int .i64 b.entry) := by rw [hchg.cell (by exact hgl) (fun h => h)]; exact hcl 10 _ rfl
      have c11 : wr.cell? ⟨g, k * 12 + 11, none⟩ = some (.bool b.charged) := by rw [hchg.cell (by exact hgl) (fun h => h)]; exact hcl 11 _ rfl
      have q1 := hbok.st0
      have q2 := hbok.st1
      have q3 : 1 ≤ b.job.len ∧ b.job.len ≤ 64 := by omega
      have q4 : 1 ≤ b.job.units ∧ b.job.units ≤ 1000 := by omega
      have hq : 0 ≤ usedL (l.take k) t ∧ usedL (l.take k) t ≤ 300000 := by omega
      clear hcl hb hown HEL HS hub hub2 hbok hj hcf hchg
      generalize usedL (l.take k) t = s at *
      obtain ⟨hq1, hq2⟩ := hq
      obtain ⟨q3, q5⟩ := q3
      obtain ⟨q4, q6⟩ := q4
      cases h1 : b.state == 2
      · go_wp2
        go_roundw
        case rel => exact ⟨k + 1, by omega, by go_num, by rw [HSh.out]; simp [BidG.runs, h1], HCH.out.alloc _⟩
        case measure => simp [intOf]; omega
      · by_cases h2 : b.start ≤ t
        · by_cases h3 : t < b.start + b.job.len
          · go_wp2
            go_roundw
            case rel => exact ⟨k + 1, by omega, by go_num, by rw [HSh.out]; simp [BidG.runs, h1, h2, h3], HCH.out.alloc _⟩
            case measure => simp [intOf]; omega
          · go_wp2
            go_roundw
            case rel => exact ⟨k + 1, by omega, by go_num, by rw [HSh.out, if_neg (by simp [BidG.runs]; intro _ _; omega)]; go_num, HCH.out.alloc _⟩
            case measure => simp [intOf]; omega
        · go_wp2
          go_roundw
          case rel => exact ⟨k + 1, by omega, by go_num, by rw [HSh.out, if_neg (by simp [BidG.runs]; intro _ _; omega)]; go_num, HCH.out.alloc _⟩
          case measure => simp [intOf]; omega
    · go_wp2
      go_ret
      exact ⟨ret_int (by rw [List.take_of_length_le (by rw [← HLN.out]; omega)]), HCH.out⟩
end Go.Proofs.Ytccfademkgjeiaa
