/-
  THE DOCUMENT's MARKET IN MEMORY.
-/
import Derived.Test.YtpenifeenfcphaaMk
import Derived.Test.YtpenifeenfcphaaRow4
import Derived.Deep.AppendLies
import Derived.Deep.RegionHeld3
namespace Go.Proofs.Ytpenifeenfcphaa
open Go.RowKit

def jobCells (j : JobG) : List Value := [.int .i64 j.arr, .int .i64 j.dl, .int .i64 j.len, .int .i64 j.units, .int .i64 j.val]
def bidCells (b : BidG) : List Value := [.int .i64 b.ten, .int .i64 b.ref, .int .i64 b.job.arr, .int .i64 b.job.dl, .int .i64 b.job.len, .int .i64 b.job.units, .int .i64 b.job.val, .int .i64 b.arrival, .int .i64 b.state, .int .i64 b.start, .int .i64 b.entry, .bool b.charged]
def callCells (c : CallG) : List Value := [.int .i64 c.kind, .int .i64 c.a, .int .i64 c.b, .int .i64 c.c, .int .i64 c.job.arr, .int .i64 c.job.dl, .int .i64 c.job.len, .int .i64 c.job.units, .int .i64 c.job.val, .bool c.on]
def invCells (i : InvG) : List Value := [.int .i64 i.ten, .int .i64 i.ref, .int .i64 i.cents]

structure MV where
  uv : Value
  bv : Value
  sv : Value
  lv : Value
  pv : Value
  cv : Value

def MV.foot (V : MV) (p k : Nat) : Prop := k = p ∨ V.uv.ownBlock = some k ∨ V.bv.ownBlock = some k ∨ V.sv.ownBlock = some k ∨ V.lv.ownBlock = some k ∨ V.pv.ownBlock = some k ∨ V.cv.ownBlock = some k

def mktBox (V : MV) (m : MkG) : Array Value := #[.int .i64 m.c.ticks, .int .i64 m.c.cap, .int .i64 m.c.res, .int .i64 m.c.ten, .int .i64 m.c.quo, .int .i64 m.time, V.uv, V.bv, V.sv, V.lv, V.pv, V.cv, .int .i64 m.ghost, .int .i64 m.need]

structure MktAt (w : World) (p : Nat) (V : MV) (m : MkG) : Prop where
  box : w.heap[p]? = some (.cells (mktBox V m) 98 (0, 0))
  units : w.ownsRow 0 3 1 V.uv m.units.length (m.units.map (Value.int .i64))
  bids : w.ownsRow 0 123 12 V.bv m.bids.length (m.bids.flatMap bidCells)
  susp : w.ownsRow 0 4 1 V.sv m.susp.length (m.susp.map Value.bool)
  log : w.ownsRow 0 119 10 V.lv m.log.length (m.log.flatMap callCells)
  paid : w.ownsRow 0 3 1 V.pv m.paid.length (m.paid.map (Value.int .i64))
  charges : w.ownsRow 0 82 3 V.cv m.charges.length (m.charges.flatMap invCells)
  ne : ∀ k, V.uv.ownBlock = some k → V.pv.ownBlock ≠ some k

theorem ownsRow_keep {w w' : World} {base : Nat} {e : TypeId} {size : Nat} {v : Value} {n : Nat} {xs : List Value} (h : w.ownsRow base e size v n xs) (hb : ∀ k, v.ownBlock = some k → w'.heap[k]? = w.heap[k]?) : w'.ownsRow base e size v n xs := by
  refine ⟨h.1, ?_⟩
  rcases h.2 with h2 | ⟨g, cap, cur, hv, hg, hh, r⟩
  · exact .inl h2
  · exact .inr ⟨g, cap, cur, hv, hg, by rw [hb g (by rw [hv]; rfl)]; exact hh, r⟩

/-- the block of what is owned -/
theorem ownsRow_block {w : World} {base : Nat} {e : TypeId} {size : Nat} {v : Value} {n : Nat} {xs : List Value} (h : w.ownsRow base e size v n xs) {k : Nat} (hk : v.ownBlock = some k) : ∃ cur, w.heap[k]? = some (.cells cur e (0, 0)) := by
  rcases h.2 with ⟨hv, _⟩ | ⟨g, cap, cur, hv, hg, hh, r⟩
  · rw [hv] at hk; simp [Value.ownBlock] at hk
  · rw [hv] at hk
    simp [Value.ownBlock] at hk
    subst hk
    exact ⟨cur, hh⟩

/-- what is owned under two types is not one block -/
theorem ownsRow_apart {w : World} {base base' : Nat} {e e' : TypeId} {size size' : Nat} {v v' : Value} {n n' : Nat} {xs xs' : List Value} (h : w.ownsRow base e size v n xs) (h' : w.ownsRow base' e' size' v' n' xs') (he : e ≠ e') {k : Nat} (hk : v.ownBlock = some k) : v'.ownBlock ≠ some k := by
  intro hk'
  obtain ⟨c, h1⟩ := ownsRow_block h hk
  obtain ⟨c', h1'⟩ := ownsRow_block h' hk'
  rw [h1] at h1'
  simp at h1'
  exact he h1'.2
theorem ownsRow_box {w : World} {base : Nat} {e e' : TypeId} {size : Nat} {v : Value} {n : Nat} {xs : List Value} {p : Nat} {cs : Array Value} (h : w.ownsRow base e size v n xs) (hp : w.heap[p]? = some (.cells cs e' (0, 0))) (he : e ≠ e') : v.ownBlock ≠ some p := by
  intro hk
  obtain ⟨c, h1⟩ := ownsRow_block h hk
  rw [h1] at hp
  simp at hp
  exact he hp.2

theorem flat_get {α : Type} (f : α → List Value) (k : Nat) (hf : ∀ x, (f x).length = k) : ∀ (l : List α) (i : Nat) (x : α) (r : Nat), l[i]? = some x → r < k → (l.flatMap f)[i * k + r]? = (f x)[r]?
  | [], i, x, r, h, _ => by simp at h
  | y :: l, 0, x, r, h, hr => by
    simp at h
    subst h
    simp only [List.flatMap_cons, Nat.zero_mul, Nat.zero_add]
    rw [List.getElem?_append_left (by rw [hf]; exact hr)]
  | y :: l, i + 1, x, r, h, hr => by
    simp only [List.getElem?_cons_succ] at h
    simp only [List.flatMap_cons]
    rw [List.getElem?_append_right (by rw [hf, Nat.add_mul]; omega), hf, show (i + 1) * k + r - k = i * k + r by rw [Nat.add_mul]; omega]
    exact flat_get f k hf l i x r h hr

section
variable {w : World} {p : Nat} {V : MV} {m : MkG}
theorem MktAt.lt (h : MktAt w p V m) : p < w.heap.size := (Array.getElem?_eq_some_iff.1 h.box).1
theorem MktAt.foot_lt (h : MktAt w p V m) (k : Nat) (hk : V.foot p k) : k < w.heap.size := by
  rcases hk with rfl | hk | hk | hk | hk | hk | hk
  · exact h.lt
  · exact (h.units.lt k hk).2
  · exact (h.bids.lt k hk).2
  · exact (h.susp.lt k hk).2
  · exact (h.log.lt k hk).2
  · exact (h.paid.lt k hk).2
  · exact (h.charges.lt k hk).2
theorem MktAt.frame {w' : World} (h : MktAt w p V m) (hf : ∀ k, V.foot p k → w'.heap[k]? = w.heap[k]?) : MktAt w' p V m :=
  ⟨(hf p (.inl rfl)).trans h.box, ownsRow_keep h.units (fun k hk => hf k (.inr (.inl hk))), ownsRow_keep h.bids (fun k hk => hf k (.inr (.inr (.inl hk)))), ownsRow_keep h.susp (fun k hk => hf k (.inr (.inr (.inr (.inl hk))))),
    ownsRow_keep h.log (fun k hk => hf k (.inr (.inr (.inr (.inr (.inl hk)))))), ownsRow_keep h.paid (fun k hk => hf k (.inr (.inr (.inr (.inr (.inr (.inl hk))))))), ownsRow_keep h.charges (fun k hk => hf k (.inr (.inr (.inr (.inr (.inr (.inr hk))))))), h.ne⟩
theorem MktAt.chg {O : Nat → Prop} {w' : World} (h : MktAt w p V m) (hc : Chg O w w') (hO : ∀ k, V.foot p k → ¬ O k) : MktAt w' p V m := h.frame (fun k hk => hc.block k (h.foot_lt k hk) (hO k hk))
theorem MktAt.chg0 {w' : World} (h : MktAt w p V m) (hc : Chg (fun _ => False) w w') : MktAt w' p V m := h.chg hc (fun _ _ h => h)
theorem MktAt.cell (h : MktAt w p V m) (f : Nat) : w.cell? ⟨p, f, none⟩ = (mktBox V m)[f]? := by
  unfold World.cell?
  rw [h.box]
  rfl
theorem MktAt.free (h : MktAt w p V m) (f : Nat) : w.frozen? ⟨p, f, none⟩ = false := by
  unfold World.frozen?
  rw [h.box]
  simp
/-- the bids' slice: its form, its cells -/
theorem MktAt.bid_form (h : MktAt w p V m) : ∃ ao cap, V.bv = .slice ao m.bids.length cap ∧ ∀ i b, m.bids[i]? = some b → ∃ g, ao = some ⟨g, 0, none⟩ ∧ V.bv.ownBlock = some g ∧ (∀ r u, (bidCells b)[r]? = some u → w.cell? ⟨g, i * 12 + r, none⟩ = some u) ∧ ∀ r, w.frozen? ⟨g, r, none⟩ = false := by
  rcases h.bids.2 with ⟨hv, h0⟩ | ⟨g, cap, cur, hv, hg, hh, r⟩
  · refine ⟨none, 0, by rw [hv, h0], fun i b hb => ?_⟩
    have := (List.getElem?_eq_some_iff.1 hb).1
    omega
  · refine ⟨some ⟨g, 0, none⟩, cap, hv, fun i b hb => ⟨g, rfl, by rw [hv]; rfl, fun r u hu => ?_, fun r => by unfold World.frozen?; rw [hh]; simp⟩⟩
    have hr : r < 12 := by
      have := (List.getElem?_eq_some_iff.1 hu).1
      simpa [bidCells] using this
    have := h.bids.cells (g := g) (by rw [hv]; rfl) (i * 12 + r) u (by rw [flat_get bidCells 12 (fun _ => rfl) m.bids i b r hb hr]; exact hu)
    rwa [Addr.add_lit, Nat.zero_add] at this
theorem MktAt.susp_form (h : MktAt w p V m) : ∃ ao cap, V.sv = .slice ao m.susp.length cap ∧ ∀ i, i < m.susp.length → ∃ g, ao = some ⟨g, 0, none⟩ ∧ V.sv.ownBlock = some g ∧ w.cell? ⟨g, i, none⟩ = some (.bool (m.susp.getD i false)) ∧ w.frozen? ⟨g, i, none⟩ = false := by
  rcases h.susp.2 with ⟨hv, h0⟩ | ⟨g, cap, cur, hv, hg, hh, r⟩
  · exact ⟨none, 0, by rw [hv, h0], fun i hi => by omega⟩
  · refine ⟨some ⟨g, 0, none⟩, cap, hv, fun i hi => ⟨g, rfl, by rw [hv]; rfl, ?_, by unfold World.frozen?; rw [hh]; simp⟩⟩
    have := h.susp.cells (g := g) (by rw [hv]; rfl) i (.bool (m.susp.getD i false)) (by simp [List.getD, List.getElem?_eq_getElem hi])
    rwa [Addr.add_lit, Nat.zero_add] at this
theorem MktAt.units_form (h : MktAt w p V m) : ∃ ao cap, V.uv = .slice ao m.units.length cap ∧ ∀ i, i < m.units.length → ∃ g, ao = some ⟨g, 0, none⟩ ∧ V.uv.ownBlock = some g ∧ w.cell? ⟨g, i, none⟩ = some (.int .i64 (m.units.getD i 0)) ∧ w.frozen? ⟨g, i, none⟩ = false := by
  rcases h.units.2 with ⟨hv, h0⟩ | ⟨g, cap, cur, hv, hg, hh, r⟩
  · exact ⟨none, 0, by rw [hv, h0], fun i hi => by omega⟩
  · refine ⟨some ⟨g, 0, none⟩, cap, hv, fun i hi => ⟨g, rfl, by rw [hv]; rfl, ?_, by unfold World.frozen?; rw [hh]; simp⟩⟩
    have := h.units.cells (g := g) (by rw [hv]; rfl) i (.int .i64 (m.units.getD i 0)) (by simp [List.getD, List.getElem?_eq_getElem hi])
    rwa [Addr.add_lit, Nat.zero_add] at this
theorem MktAt.log_form (h : MktAt w p V m) : ∃ ao cap, V.lv = .slice ao m.log.length cap := by
  rcases h.log.2 with ⟨hv, h0⟩ | ⟨g, cap, cur, hv, _⟩
  · exact ⟨none, 0, by rw [hv, h0]⟩
  · exact ⟨_, cap, hv⟩
end
end Go.Proofs.Ytpenifeenfcphaa
