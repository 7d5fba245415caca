import Derived.Test.YtminceigjejipabGreatG3
import Derived.Test.YtminceigjejipabGreatG5
import Derived.Test.YtminceigjejipabGreatG2
import Derived.Test.YtminceigjejipabGreatMkJ
/-
  THE PROGRAM's MARKET IN MEMORY (stage 2's landed code): where its parts lie, what keeps it, what becomes of it.
-/
namespace Go.Proofs.YtminceigjejipabGreat
open Go.RowKit

def ybidCells (b : BidG) : List Value := [.int .i64 b.ten, .int .i64 b.ref, .int .i64 b.job.arr, .int .i64 b.job.dl, .int .i64 b.job.len, .int .i64 b.job.units, .int .i64 b.job.val, .int .i64 b.state, .int .i64 b.start]

/-- q the market, r its calendar, g the calendar's cells -/
structure YV where
  q : Nat
  r : Nat
  g : Nat
  cc : Nat
  uv : Value
  bv : Value
  sv : Value

def YV.foot (V : YV) (k : Nat) : Prop := k = V.q ∨ k = V.r ∨ k = V.g ∨ V.uv.ownBlock = some k ∨ V.bv.ownBlock = some k ∨ V.sv.ownBlock = some k
def ymBox (V : YV) (m : MkG) : Array Value := #[.int .i64 m.c.ticks, .int .i64 m.c.cap, .int .i64 m.c.res, .int .i64 m.c.ten, .int .i64 m.c.quo, .int .i64 m.time, V.bv, V.sv, V.uv, .pointer (some ⟨V.r, 0, none⟩)]
/-- units free, by tick -/
def freeZ (m : MkG) (j : Nat) : Int := m.units.getD j 0 - usedL m.bids j

structure YmAt (w : World) (V : YV) (m : MkG) : Prop where
  box : w.heap[V.q]? = some (.cells (ymBox V m) 121 (0, 0))
  bids : w.ownsRow 0 129 9 V.bv m.bids.length (m.bids.flatMap ybidCells)
  susp : w.ownsRow 0 4 1 V.sv m.susp.length (m.susp.map Value.bool)
  units : w.ownsRow 0 3 1 V.uv m.units.length (m.units.map (Value.int .i64))
  cal : RowAt 101 w V.r V.g m.units.length V.cc (freeZ m)
  ne : V.uv.ownBlock ≠ some V.g

theorem cells_ne {w : World} {p k : Nat} {c c' : Array Value} {T T' : TypeId} (h : w.heap[p]? = some (.cells c T (0, 0))) (h' : w.heap[k]? = some (.cells c' T' (0, 0))) (hT : T ≠ T') : p ≠ k := by
  rintro rfl
  rw [h] at h'
  simp at h'
  exact hT h'.2

section
variable {w : World} {V : YV} {m : MkG}
theorem YmAt.lt (h : YmAt w V m) : V.q < w.heap.size := (Array.getElem?_eq_some_iff.1 h.box).1
theorem YmAt.foot_lt (h : YmAt w V m) (k : Nat) (hk : V.foot k) : k < w.heap.size := by
  rcases hk with rfl | rfl | rfl | hk | hk | hk
  · exact h.lt
  · exact h.cal.ltp
  · exact h.cal.ltg
  · exact (h.units.lt k hk).2
  · exact (h.bids.lt k hk).2
  · exact (h.susp.lt k hk).2
/-- what a foot's block may hold -/
theorem YmAt.foot_ty (h : YmAt w V m) (k : Nat) (hk : V.foot k) : ∃ c T, w.heap[k]? = some (.cells c T (0, 0)) ∧ (T = 121 ∨ T = 101 ∨ T = 3 ∨ T = 129 ∨ T = 4) := by
  rcases hk with rfl | rfl | rfl | hk | hk | hk
  · exact ⟨_, _, h.box, .inl rfl⟩
  · exact ⟨_, _, h.cal.hp, .inr (.inl rfl)⟩
  · obtain ⟨cur, h1, _⟩ := h.cal.hg
    exact ⟨_, _, h1, .inr (.inr (.inl rfl))⟩
  · obtain ⟨c, hc⟩ := ownsRow_block h.units hk
    exact ⟨_, _, hc, .inr (.inr (.inl rfl))⟩
  · obtain ⟨c, hc⟩ := ownsRow_block h.bids hk
    exact ⟨_, _, hc, .inr (.inr (.inr (.inl rfl)))⟩
  · obtain ⟨c, hc⟩ := ownsRow_block h.susp hk
    exact ⟨_, _, hc, .inr (.inr (.inr (.inr rfl)))⟩
theorem YmAt.frame {w' : World} (h : YmAt w V m) (hf : ∀ k, V.foot k → w'.heap[k]? = w.heap[k]?) : YmAt w' V m :=
  ⟨(hf _ (.inl rfl)).trans h.box, ownsRow_keep h.bids (fun k hk => hf k (.inr (.inr (.inr (.inr (.inl hk)))))), ownsRow_keep h.susp (fun k hk => hf k (.inr (.inr (.inr (.inr (.inr hk)))))), ownsRow_keep h.units (fun k hk => hf k (.inr (.inr (.inr (.inl hk))))),
    h.cal.frame (hf _ (.inr (.inl rfl))) (hf _ (.inr (.inr (.inl rfl)))), h.ne⟩
theorem YmAt.chg {O : Nat → Prop} {w' : World} (h : YmAt w V m) (hc : Chg O w w') (hO : ∀ k, V.foot k → ¬ O k) : YmAt w' V m := h.frame (fun k hk => hc.block k (h.foot_lt k hk) (hO k hk))
theorem YmAt.chg0 {w' : World} (h : YmAt w V m) (hc : Chg (fun _ => False) w w') : YmAt w' V m := h.chg hc (fun _ _ h => h)
theorem YmAt.cell (h : YmAt w V m) (f : Nat) : w.cell? ⟨V.q, f, none⟩ = (ymBox V m)[f]? := by
  unfold World.cell?
  rw [h.box]
  rfl
theorem YmAt.free (h : YmAt w V m) (f : Nat) : w.frozen? ⟨V.q, f, none⟩ = false := by
  unfold World.frozen?
  rw [h.box]
  simp
theorem YmAt.bid_form (h : YmAt w V m) : ∃ ao cap, V.bv = .slice ao m.bids.length cap ∧ ∀ i b, m.bids[i]? = some b → ∃ g, ao = some ⟨g, 0, none⟩ ∧ V.bv.ownBlock = some g ∧ (∀ r u, (ybidCells b)[r]? = some u → w.cell? ⟨g, i * 9 + r, none⟩ = some u) ∧ ∀ r, w.frozen? ⟨g, r, none⟩ = false := by
  rcases h.bids.2 with ⟨hv, h0⟩ | ⟨g, cap, cur, hv, hg, hh, r⟩
  · refine ⟨none, 0, by rw [hv, h0], fun i b hb => ?_⟩
    have := (List.getElem?_eq_some_iff.1 hb).1
    omega
  · refine ⟨some ⟨g, 0, none⟩, cap, hv, fun i b hb => ⟨g, rfl, by rw [hv]; rfl, fun r u hu => ?_, fun r => by unfold World.frozen?; rw [hh]; simp⟩⟩
    have hr : r < 9 := by
      have := (List.getElem?_eq_some_iff.1 hu).1
      simpa [ybidCells] using this
    have := h.bids.cells (g := g) (by rw [hv]; rfl) (i * 9 + r) u (by rw [flat_get ybidCells 9 (fun _ => rfl) m.bids i b r hb hr]; exact hu)
    rwa [Addr.add_lit, Nat.zero_add] at this
theorem YmAt.susp_form (h : YmAt w V m) : ∃ ao cap, V.sv = .slice ao m.susp.length cap ∧ ∀ i, i < m.susp.length → ∃ g, ao = some ⟨g, 0, none⟩ ∧ V.sv.ownBlock = some g ∧ w.cell? ⟨g, i, none⟩ = some (.bool (m.susp.getD i false)) ∧ w.frozen? ⟨g, i, none⟩ = false := by
  rcases h.susp.2 with ⟨hv, h0⟩ | ⟨g, cap, cur, hv, hg, hh, r⟩
  · exact ⟨none, 0, by rw [hv, h0], fun i hi => by omega⟩
  · refine ⟨some ⟨g, 0, none⟩, cap, hv, fun i hi => ⟨g, rfl, by rw [hv]; rfl, ?_, by unfold World.frozen?; rw [hh]; simp⟩⟩
    have := h.susp.cells (g := g) (by rw [hv]; rfl) i (.bool (m.susp.getD i false)) (by simp [List.getD, List.getElem?_eq_getElem hi])
    rwa [Addr.add_lit, Nat.zero_add] at this
theorem YmAt.units_form (h : YmAt w V m) : ∃ ao cap, V.uv = .slice ao m.units.length cap ∧ ∀ i, i < m.units.length → ∃ g, ao = some ⟨g, 0, none⟩ ∧ V.uv.ownBlock = some g ∧ w.cell? ⟨g, i, none⟩ = some (.int .i64 (m.units.getD i 0)) ∧ w.frozen? ⟨g, i, none⟩ = false := by
  rcases h.units.2 with ⟨hv, h0⟩ | ⟨g, cap, cur, hv, hg, hh, r⟩
  · exact ⟨none, 0, by rw [hv, h0], fun i hi => by omega⟩
  · refine ⟨some ⟨g, 0, none⟩, cap, hv, fun i hi => ⟨g, rfl, by rw [hv]; rfl, ?_, by unfold World.frozen?; rw [hh]; simp⟩⟩
    have := h.units.cells (g := g) (by rw [hv]; rfl) i (.int .i64 (m.units.getD i 0)) (by simp [List.getD, List.getElem?_eq_getElem hi])
    rwa [Addr.add_lit, Nat.zero_add] at this
end

/-- a market that has become another: where it lies now, what has turned -/
def YmTo (w : World) (V : YV) (m' : MkG) (w' : World) : Prop :=
  ∃ V', V'.q = V.q ∧ YmAt w' V' m' ∧ Chg V.foot w w' ∧ ∀ k, V'.foot k → V.foot k ∨ w.heap.size ≤ k

theorem YmTo.refl {w : World} {V : YV} {m : MkG} (h : YmAt w V m) : YmTo w V m w := ⟨V, rfl, h, Chg.refl _ _, fun _ hk => .inl hk⟩
theorem YmTo.chg0 {w w' w2 : World} {V : YV} {m : MkG} (h : YmTo w V m w') (hc : Chg (fun _ => False) w' w2) : YmTo w V m w2 := by
  obtain ⟨V', h0, h1, h2, h3⟩ := h
  exact ⟨V', h0, h1.chg0 hc, h2.trans hc (fun _ _ h => h.elim), h3⟩
theorem YmTo.start {w w0 w' : World} {V : YV} {m : MkG} (hc : Chg (fun _ => False) w0 w) (h : YmTo w V m w') : YmTo w0 V m w' := by
  obtain ⟨V', h0, h1, h2, h3⟩ := h
  exact ⟨V', h0, h1, (hc.mono (O' := V.foot) (fun _ _ h => h.elim)).trans h2 (fun _ _ h => h), fun k hk => by
    rcases h3 k hk with h | h
    · exact .inl h
    · exact .inr (Nat.le_trans hc.size h)⟩
theorem YmTo.after {w w1 w2 : World} {V V1 : YV} {m2 : MkG} (hq : V1.q = V.q) (hc : Chg V.foot w w1) (hf : ∀ k, V1.foot k → V.foot k ∨ w.heap.size ≤ k) (h : YmTo w1 V1 m2 w2) : YmTo w V m2 w2 := by
  obtain ⟨V2, b0, b1, b2, b3⟩ := h
  refine ⟨V2, b0.trans hq, b1, hc.trans b2 (fun x hx hxf => ?_), fun k hk => ?_⟩
  · rcases hf x hxf with h | h
    · exact h
    · omega
  · rcases b3 k hk with h | h
    · exact hf k h
    · exact .inr (Nat.le_trans hc.size h)
theorem YmTo.same {w w' : World} {V : YV} {m : MkG} (h : YmAt w V m) (hc : Chg (fun _ => False) w w') : YmTo w V m w' := (YmTo.refl h).chg0 hc

/-- of the log the market knows nothing -/
theorem YmAt.logs {w : World} {V : YV} {m : MkG} (h : YmAt w V m) (c : CallG) : YmAt w V (m.logs c) := ⟨h.box, h.bids, h.susp, h.units, h.cal, h.ne⟩
theorem YmTo.logs {w w' : World} {V : YV} {m : MkG} (h : YmTo w V m w') (c : CallG) : YmTo w V (m.logs c) w' := by
  obtain ⟨V', h0, h1, h2, h3⟩ := h
  exact ⟨V', h0, h1.logs c, h2, h3⟩

/-- one bid more -/
theorem YmAt.bidMore {w w1 w2 : World} {V : YV} {m : MkG} {b : BidG} {g cap : Nat} (h : YmAt w V m) (hc1 : Chg (fun _ => False) w w1) (hst : b.state = 1)
    (hown : w2.ownsRow 0 129 9 (.slice (some ⟨g, 0, none⟩) (m.bids.length + 1) cap) (m.bids.length + 1) (m.bids.flatMap ybidCells ++ ybidCells b)) (hgrow : w1.grownBy w2 V.bv.ownBlock) (hat : V.bv.ownBlock = some g ∨ w.heap.size ≤ g) :
    w2.cell? ⟨V.q, 6, none⟩ = some V.bv ∧ w2.frozen? ⟨V.q, 6, none⟩ = false ∧ YmTo w V { m with bids := m.bids ++ [b] } (w2.setCell ⟨V.q, 6, none⟩ (.slice (some ⟨g, 0, none⟩) (m.bids.length + 1) cap)) := by
  have h1 := h.chg0 hc1
  have nl : V.bv.ownBlock ≠ some V.q := ownsRow_box h1.bids h1.box (by decide)
  have keep : ∀ k, V.foot k → V.bv.ownBlock ≠ some k → w2.heap[k]? = w1.heap[k]? := fun k hk hn => hgrow.block k (h1.foot_lt k hk) (fun e => hn e.symm)
  have hb2 : w2.heap[V.q]? = some (.cells (ymBox V m) 121 (0, 0)) := (keep _ (.inl rfl) nl).trans h1.box
  refine ⟨by unfold World.cell?; rw [hb2]; rfl, by unfold World.frozen?; rw [hb2]; simp, ?_⟩
  have far : ∀ k, k ≠ V.q → (w2.setCell ⟨V.q, 6, none⟩ (.slice (some ⟨g, 0, none⟩) (m.bids.length + 1) cap)).heap[k]? = w2.heap[k]? := fun k hk => Below.heap_setCell _ _ _ _ hk
  have ex : (ymBox V m).setIfInBounds 6 (.slice (some ⟨g, 0, none⟩) (m.bids.length + 1) cap) = ymBox { V with bv := .slice (some ⟨g, 0, none⟩) (m.bids.length + 1) cap } { m with bids := m.bids ++ [b] } := rfl
  have hgp : g ≠ V.q := by
    rintro rfl
    obtain ⟨cu, hc⟩ := ownsRow_block hown (k := V.q) rfl
    rw [hb2] at hc
    simp at hc
  have old : ∀ {e : TypeId} {size n : Nat} {v : Value} {xs : List Value}, w1.ownsRow 0 e size v n xs → e ≠ 129 → e ≠ 121 → (∀ k, v.ownBlock = some k → V.foot k) → (w2.setCell ⟨V.q, 6, none⟩ (.slice (some ⟨g, 0, none⟩) (m.bids.length + 1) cap)).ownsRow 0 e size v n xs := by
    intro e size n v xs ho he he' hf
    refine ownsRow_keep ho (fun k hk => ?_)
    rw [far k (fun e => ownsRow_box ho h1.box he' (e ▸ hk))]
    exact keep k (hf k hk) (ownsRow_apart ho h1.bids he hk)
  obtain ⟨curg, hg1, _⟩ := h1.cal.hg
  have kr : (w2.setCell ⟨V.q, 6, none⟩ (.slice (some ⟨g, 0, none⟩) (m.bids.length + 1) cap)).heap[V.r]? = w1.heap[V.r]? := by
    rw [far _ (cells_ne h1.cal.hp h1.box (by decide))]
    exact keep _ (.inr (.inl rfl)) (ownsRow_box h1.bids h1.cal.hp (by decide))
  have kg : (w2.setCell ⟨V.q, 6, none⟩ (.slice (some ⟨g, 0, none⟩) (m.bids.length + 1) cap)).heap[V.g]? = w1.heap[V.g]? := by
    rw [far _ (cells_ne hg1 h1.box (by decide))]
    exact keep _ (.inr (.inr (.inl rfl))) (ownsRow_box h1.bids hg1 (by decide))
  refine ⟨{ V with bv := .slice (some ⟨g, 0, none⟩) (m.bids.length + 1) cap }, rfl, ⟨by rw [box_set hb2, ex], ?_, old h1.susp (by decide) (by decide) (fun k hk => .inr (.inr (.inr (.inr (.inr hk))))), old h1.units (by decide) (by decide) (fun k hk => .inr (.inr (.inr (.inl hk)))), ?_, h.ne⟩, ?_, ?_⟩
  · show (w2.setCell _ _).ownsRow 0 _ 9 _ (m.bids ++ [b]).length ((m.bids ++ [b]).flatMap ybidCells)
    rw [List.length_append, List.flatMap_append]
    simp only [List.flatMap_cons, List.flatMap_nil, List.append_nil, List.length_cons, List.length_nil, Nat.zero_add]
    exact ownsRow_keep hown (fun k hk => far k (fun e => by simp [Value.ownBlock] at hk; exact hgp (hk.trans e)))
  · refine (h1.cal.frame kr kg).congr (fun j _ => ?_)
    show m.units.getD j 0 - usedL m.bids j = m.units.getD j 0 - usedL (m.bids ++ [b]) j
    rw [usedL_snoc, if_neg (by simp [BidG.runs, hst])]
    omega
  · exact (((hc1.mono (O' := V.foot) (fun _ _ h => h.elim)).grown hgrow (fun k hk => .inl (.inr (.inr (.inr (.inr (.inl hk)))))))).setCell (.inl (.inl rfl)) _
  · intro k hk
    rcases hk with rfl | rfl | rfl | hk | hk | hk
    · exact .inl (.inl rfl)
    · exact .inl (.inr (.inl rfl))
    · exact .inl (.inr (.inr (.inl rfl)))
    · exact .inl (.inr (.inr (.inr (.inl hk))))
    · simp [Value.ownBlock] at hk
      subst hk
      rcases hat with h | h
      · exact .inl (.inr (.inr (.inr (.inr (.inl h)))))
      · exact .inr h
    · exact .inl (.inr (.inr (.inr (.inr (.inr hk)))))

theorem ybids_arm {w w1 w2 : World} {V : YV} {m : MkG} {b : BidG} {ao : Option Addr} {cap n g cap' H : Nat} (h : YmAt w V m) (hv : V.bv = .slice ao m.bids.length cap) (hn : n = m.bids.length) (hst : b.state = 1) (hc1 : Chg (fun _ => False) w w1)
    (hown : w2.ownsRow 0 129 9 (.slice (some ⟨g, 0, none⟩) (n + 1) cap') (n + 1) (m.bids.flatMap ybidCells ++ ybidCells b)) (hgrow : w1.grownBy w2 (Value.ownBlock (.slice ao n cap))) (hat : Value.ownBlock (.slice ao n cap) = some g ∨ g = H) (hH : w.heap.size ≤ H) :
    w2.cell? ⟨V.q, 6, none⟩ = some (.slice ao n cap) ∧ w2.frozen? ⟨V.q, 6, none⟩ = false ∧ Hid (YmTo w V { m with bids := m.bids ++ [b] } (w2.setCell ⟨V.q, 6, none⟩ (.slice (some ⟨g, 0, none⟩) (n + 1) cap'))) := by
  subst hn
  rw [← hv] at hgrow hat ⊢
  exact h.bidMore hc1 hst hown hgrow (by rcases hat with h | h; exact .inl h; exact .inr (by omega))

theorem usedL_set (l : List BidG) (i : Nat) (b : BidG) (hb : l[i]? = some b) (s : Int) (h1 : b.state ≠ 2) (h2 : s ≠ 2) (t : Int) : usedL (l.set i { b with state := s }) t = usedL l t := by
  induction l generalizing i with
  | nil => simp at hb
  | cons y l ih =>
    cases i with
    | zero =>
      simp at hb
      subst hb
      simp [usedL, BidG.runs, h1, h2]
    | succ i =>
      simp only [List.getElem?_cons_succ] at hb
      have := ih i hb
      simp only [usedL, List.set_cons_succ, List.map_cons, List.sum_cons] at this ⊢
      omega

/-- a bid's state, written -/
theorem YmAt.setState {w : World} {V : YV} {m : MkG} {i g : Nat} {b : BidG} {s : Int} (h : YmAt w V m) (hb : m.bids[i]? = some b) (h1 : b.state ≠ 2) (h2 : s ≠ 2) (hg : V.bv.ownBlock = some g) :
    YmTo w V { m with bids := m.bids.set i { b with state := s } } (w.setCell ⟨g, i * 9 + 7, none⟩ (.int .i64 s)) := by
  have hil : i < m.bids.length := (List.getElem?_eq_some_iff.1 hb).1
  have hgp : g ≠ V.q := fun e => ownsRow_box h.bids h.box (by decide) (e ▸ hg)
  have far : ∀ k, k ≠ g → (w.setCell ⟨g, i * 9 + 7, none⟩ (.int .i64 s)).heap[k]? = w.heap[k]? := fun k hk => Below.heap_setCell _ _ _ _ hk
  have old : ∀ {e : TypeId} {size n : Nat} {v : Value} {xs : List Value}, w.ownsRow 0 e size v n xs → e ≠ 129 → (w.setCell ⟨g, i * 9 + 7, none⟩ (.int .i64 s)).ownsRow 0 e size v n xs := by
    intro e size n v xs ho he
    exact ownsRow_keep ho (fun k hk => far k (fun e => ownsRow_apart ho h.bids he hk (e ▸ hg)))
  obtain ⟨curg, hg1, _⟩ := h.cal.hg
  refine ⟨V, rfl, ⟨(far _ (Ne.symm hgp)).trans h.box, ?_, old h.susp (by decide), old h.units (by decide), ?_, h.ne⟩, ?_, fun k hk => .inl hk⟩
  · show (w.setCell _ _).ownsRow 0 _ 9 _ (m.bids.set i { b with state := s }).length ((m.bids.set i { b with state := s }).flatMap ybidCells)
    rw [List.length_set]
    have key : ∀ (l : List BidG) (i : Nat) (b : BidG), l[i]? = some b → (l.set i { b with state := s }).flatMap ybidCells = (l.flatMap ybidCells).set (i * 9 + 7) (.int .i64 s) := by
      intro l
      induction l with
      | nil => intro i b hb; simp at hb
      | cons y l ih =>
        intro i b hb
        cases i with
        | zero =>
          simp at hb
          subst hb
          simp [ybidCells]
        | succ i =>
          simp only [List.getElem?_cons_succ] at hb
          simp only [List.set_cons_succ, List.flatMap_cons, ih i b hb]
          rw [show (i + 1) * 9 + 7 = (ybidCells y).length + (i * 9 + 7) by simp [ybidCells]; omega]
          rw [List.set_append_right _ _ (by omega)]
          simp
    rw [key m.bids i b hb]
    rcases h.bids.2 with ⟨hv, h0⟩ | ⟨g', cap, cur, hv, hb0, hh, hc, hmx, hsz, htake⟩
    · omega
    · have hgg : g' = g := by rw [hv] at hg; simpa [Value.ownBlock] using hg
      subst hgg
      refine ⟨by simp [h.bids.1], .inr ⟨g', cap, cur.setIfInBounds (i * 9 + 7) (.int .i64 s), hv, hb0, box_set hh _, hc, hmx, by simpa using hsz, ?_⟩⟩
      rw [Array.toList_setIfInBounds, List.take_set, htake]
  · refine (h.cal.frame (far _ (fun e => ownsRow_box h.bids h.cal.hp (by decide) (e ▸ hg))) (far _ (fun e => ownsRow_box h.bids hg1 (by decide) (e ▸ hg)))).congr (fun j _ => ?_)
    show m.units.getD j 0 - usedL m.bids j = m.units.getD j 0 - usedL (m.bids.set i { b with state := s }) j
    rw [usedL_set m.bids i b hb s h1 h2]
  · exact (Chg.refl _ _).setCell (.inl (.inr (.inr (.inr (.inr (.inl hg)))))) _

/-- a tenant's mark, written -/
theorem YmAt.setSusp {w : World} {V : YV} {m : MkG} {i g : Nat} {s : Bool} (h : YmAt w V m) (hi : i < m.susp.length) (hg : V.sv.ownBlock = some g) :
    YmTo w V { m with susp := m.susp.set i s } (w.setCell ⟨g, i, none⟩ (.bool s)) := by
  have hgp : g ≠ V.q := fun e => ownsRow_box h.susp h.box (by decide) (e ▸ hg)
  have far : ∀ k, k ≠ g → (w.setCell ⟨g, i, none⟩ (.bool s)).heap[k]? = w.heap[k]? := fun k hk => Below.heap_setCell _ _ _ _ hk
  have old : ∀ {e : TypeId} {size n : Nat} {v : Value} {xs : List Value}, w.ownsRow 0 e size v n xs → e ≠ 4 → (w.setCell ⟨g, i, none⟩ (.bool s)).ownsRow 0 e size v n xs := by
    intro e size n v xs ho he
    exact ownsRow_keep ho (fun k hk => far k (fun e => ownsRow_apart ho h.susp he hk (e ▸ hg)))
  obtain ⟨curg, hg1, _⟩ := h.cal.hg
  refine ⟨V, rfl, ⟨(far _ (Ne.symm hgp)).trans h.box, old h.bids (by decide), ?_, old h.units (by decide), h.cal.frame (far _ (fun e => ownsRow_box h.susp h.cal.hp (by decide) (e ▸ hg))) (far _ (fun e => ownsRow_box h.susp hg1 (by decide) (e ▸ hg))), h.ne⟩, ?_, fun k hk => .inl hk⟩
  · show (w.setCell _ _).ownsRow 0 _ 1 _ (m.susp.set i s).length ((m.susp.set i s).map Value.bool)
    rw [List.length_set, List.map_set]
    rcases h.susp.2 with ⟨hv, h0⟩ | ⟨g', cap, cur, hv, hb0, hh, hc, hmx, hsz, htake⟩
    · omega
    · have hgg : g' = g := by rw [hv] at hg; simpa [Value.ownBlock] using hg
      subst hgg
      refine ⟨by simp, .inr ⟨g', cap, cur.setIfInBounds i (.bool s), hv, hb0, box_set hh _, hc, hmx, by simpa using hsz, ?_⟩⟩
      rw [Array.toList_setIfInBounds, List.take_set, htake]
  · exact (Chg.refl _ _).setCell (.inl (.inr (.inr (.inr (.inr (.inr hg)))))) _

/-- the units of a tick, written once the calendar knows of it -/
theorem YmAt.setUnit {w w' : World} {V : YV} {m : MkG} {i g : Nat} {u : Int} (h : YmAt w V m) (hi : i < m.units.length) (hg : V.uv.ownBlock = some g)
    (hrow : RowAt 101 w' V.r V.g m.units.length V.cc (addZ (freeZ m) i (i + 1) (u - m.units.getD i 0))) (hc : Chg (fun k => k = V.g) w w') :
    YmTo w V { m with units := m.units.set i u } (w'.setCell ⟨g, i, none⟩ (.int .i64 u)) := by
  have hgg0 : g ≠ V.g := fun e => h.ne (e ▸ hg)
  have hgp : g ≠ V.q := fun e => ownsRow_box h.units h.box (by decide) (e ▸ hg)
  obtain ⟨curg, hg1, _⟩ := h.cal.hg
  have far : ∀ k, k ≠ g → (w'.setCell ⟨g, i, none⟩ (.int .i64 u)).heap[k]? = w'.heap[k]? := fun k hk => Below.heap_setCell _ _ _ _ hk
  have mid : ∀ k, V.foot k → k ≠ V.g → w'.heap[k]? = w.heap[k]? := fun k hk hn => hc.block k (h.foot_lt k hk) hn
  have old : ∀ {e : TypeId} {size n : Nat} {v : Value} {xs : List Value}, w.ownsRow 0 e size v n xs → e ≠ 3 → (∀ k, v.ownBlock = some k → V.foot k) → (w'.setCell ⟨g, i, none⟩ (.int .i64 u)).ownsRow 0 e size v n xs := by
    intro e size n v xs ho he hf
    refine ownsRow_keep ho (fun k hk => ?_)
    rw [far k (fun e => ownsRow_apart ho h.units he hk (e ▸ hg))]
    exact mid k (hf k hk) (fun e => ownsRow_box ho hg1 he (e ▸ hk))
  refine ⟨V, rfl, ⟨?_, old h.bids (by decide) (fun k hk => .inr (.inr (.inr (.inr (.inl hk))))), old h.susp (by decide) (fun k hk => .inr (.inr (.inr (.inr (.inr hk))))), ?_, ?_, h.ne⟩, ?_, fun k hk => .inl hk⟩
  · rw [far _ (Ne.symm hgp), mid _ (.inl rfl) (cells_ne h.box hg1 (by decide))]
    exact h.box
  · show (w'.setCell _ _).ownsRow 0 _ 1 _ (m.units.set i u).length ((m.units.set i u).map (Value.int .i64))
    rw [List.length_set, List.map_set]
    have hu := ownsRow_keep (w' := w') h.units (fun k hk => mid k (.inr (.inr (.inr (.inl hk)))) (fun e => h.ne (e ▸ hk)))
    rcases hu.2 with ⟨hv, h0⟩ | ⟨g', cap, cur, hv, hb0, hh, hcp, hmx, hsz, htake⟩
    · omega
    · have hgg : g' = g := by rw [hv] at hg; simpa [Value.ownBlock] using hg
      subst hgg
      refine ⟨by simp, .inr ⟨g', cap, cur.setIfInBounds i (.int .i64 u), hv, hb0, box_set hh _, hcp, hmx, by simpa using hsz, ?_⟩⟩
      rw [Array.toList_setIfInBounds, List.take_set, htake]
  · show RowAt _ _ V.r V.g (m.units.set i u).length V.cc _
    rw [List.length_set]
    refine (hrow.frame (far _ (fun e => ownsRow_box h.units h.cal.hp (by decide) (e ▸ hg))) (far _ (Ne.symm hgg0))).congr (fun j hj => ?_)
    show addZ (freeZ m) i (i + 1) (u - m.units.getD i 0) j = (m.units.set i u).getD j 0 - usedL m.bids j
    unfold addZ freeZ
    by_cases e : j = i
    · subst e
      rw [if_pos ⟨by omega, by omega⟩]
      simp [List.getD, hj]
      omega
    · rw [if_neg (by omega)]
      simp [List.getD, Ne.symm e]
  · exact (hc.mono (O' := V.foot) (fun _ _ h => .inr (.inr (.inl h)))).setCell (.inl (.inr (.inr (.inr (.inl hg))))) _
end Go.Proofs.YtminceigjejipabGreat

namespace Go.Proofs.YtminceigjejipabGreat
open Go.RowKit

theorem ownsRow_set {w : World} {e : TypeId} {v : Value} {n i g : Nat} {xs : List Value} (h : w.ownsRow 0 e 1 v n xs) (hi : i < n) (hg : v.ownBlock = some g) (u : Value) : (w.setCell ⟨g, i, none⟩ u).ownsRow 0 e 1 v n (xs.set i u) := by
  rcases h.2 with ⟨hv, h0⟩ | ⟨g', cap, cur, hv, hb0, hh, hc, hmx, hsz, htake⟩
  · omega
  · have hgg : g' = g := by rw [hv] at hg; simpa [Value.ownBlock] using hg
    subst hgg
    refine ⟨by simp [h.1], .inr ⟨g', cap, cur.setIfInBounds i u, hv, hb0, box_set hh _, hc, hmx, by simpa using hsz, ?_⟩⟩
    rw [Array.toList_setIfInBounds, List.take_set, htake]

def fillL (n k : Nat) (cap : Int) : List Value := (List.range n).map fun j => .int .i64 (if j < k then cap else 0)
theorem fillL_start (n : Nat) (cap : Int) : fillL n 0 cap = List.replicate n (.int .i64 0) := by
  apply List.ext_getElem?
  intro i
  by_cases hi : i < n
  · simp [fillL, hi]
  · simp [fillL, hi]
theorem fillL_step (n k : Nat) (cap : Int) (hk : k < n) : (fillL n k cap).set k (.int .i64 cap) = fillL n (k + 1) cap := by
  apply List.ext_getElem?
  intro i
  rw [List.getElem?_set]
  by_cases hi : i < n
  · by_cases e : k = i
    · subst e
      simp [fillL, hi]
    · simp only [if_neg e, fillL, List.getElem?_map, List.getElem?_range hi, Option.map_some]
      simp [show (i < k ↔ i < k + 1) by omega]
  · by_cases e : k = i
    · omega
    · simp [fillL, hi, e]
theorem fillL_end (n : Nat) (cap : Int) : fillL n n cap = (List.replicate n cap).map (Value.int .i64) := by
  apply List.ext_getElem?
  intro i
  by_cases hi : i < n
  · simp [fillL, hi]
  · simp [fillL, hi]

/-- the parts of a fresh market, as they lie -/
theorem ymOpen {W : World} {nk nt q r g U S : Nat} {cap res quo : Int} (h8 : nt ≤ 8) (_ : 1 ≤ nk) (hU : U ≠ g) (hbox : W.heap[q]? = some (.cells #[.int .i64 (nk : Int), .int .i64 cap, .int .i64 res, .int .i64 (nt : Int), .int .i64 quo, .int .i64 0, .slice none 0 0, .slice (some ⟨S, 0, none⟩) nt nt, .slice (some ⟨U, 0, none⟩) nk nk, .pointer (some ⟨r, 0, none⟩)] 121 (0, 0)))
    (hu : W.ownsRow 0 3 1 (.slice (some ⟨U, 0, none⟩) nk nk) nk (fillL nk nk cap)) (hs : W.heap[S]? = some (.cells (madeCells #[.bool false] nt) 4 (0, 0))) (hc : RowAt 101 W r g nk nk (fun _ => cap)) :
    YmAt W ⟨q, r, g, nk, .slice (some ⟨U, 0, none⟩) nk nk, .slice none 0 0, .slice (some ⟨S, 0, none⟩) nt nt⟩ (openM ⟨nk, cap, res, nt, quo⟩) := by
  refine ⟨hbox, World.ownsRow_nil _ _ _ _, ?_, ?_, ?_, ?_⟩
  · show W.ownsRow 0 _ 1 _ (List.replicate (Int.toNat (nt : Int)) false).length ((List.replicate (Int.toNat (nt : Int)) false).map Value.bool)
    rw [Int.toNat_natCast, List.length_replicate, List.map_replicate]
    exact ⟨by simp, .inr ⟨S, nt, _, rfl, Nat.zero_le _, hs, Nat.le_refl _, by unfold maxLen; omega, by rw [size_madeCells]; omega, by rw [made_list]; simp⟩⟩
  · show W.ownsRow 0 _ 1 _ (List.replicate (Int.toNat (nk : Int)) cap).length ((List.replicate (Int.toNat (nk : Int)) cap).map (Value.int .i64))
    rw [Int.toNat_natCast, List.length_replicate, ← fillL_end]
    exact hu
  · show RowAt _ W r g (List.replicate (Int.toNat (nk : Int)) cap).length nk _
    rw [Int.toNat_natCast, List.length_replicate]
    refine hc.congr (fun j hj => ?_)
    simp [freeZ, openM, usedL, List.getD, hj]
  · simp [Value.ownBlock, hU]

set_option maxRecDepth 100000 in
set_option maxHeartbeats 4000000 in
theorem newMarket_any (c : CfgG) (w : World) (hc : cfgOk c = true) :
    Calls Tryz.prog 61 #[.agg #[.int .i64 c.ticks, .int .i64 c.cap, .int .i64 c.res, .int .i64 c.ten, .int .i64 c.quo]] w fun e w' => ∃ V, e = .returned (.pointer (some ⟨V.q, 0, none⟩)) ∧ YmAt w' V (openM c) ∧ Chg (fun _ => False) w w' ∧ ∀ k, V.foot k → w.heap.size ≤ k := by
  obtain ⟨⟨a1, a2⟩, ⟨a3, a4⟩, ⟨a5, a6⟩, ⟨a7, a8⟩, a9, a10⟩ := cfgOk_true hc
  obtain ⟨tk, cap, res, ten, quo⟩ := c
  simp only at *
  obtain ⟨nt, rfl⟩ := Int.eq_ofNat_of_zero_le (show 0 ≤ ten by omega)
  obtain ⟨nk, rfl⟩ := Int.eq_ofNat_of_zero_le (show 0 ≤ tk by omega)
  have hmk1 := run_make_row' (P := Tryz.prog) 84 4 (.bool false) 1 Tryz.underlying84 infoBool rfl .i64 .i64 nt (by omega) (by omega)
  have hmk2 := run_make_row' (P := Tryz.prog) 24 3 (.int .i64 0) 8 Tryz.underlying24 infoInt' rfl .i64 .i64 nk (by omega) (by omega)
  have HST := hide (show standB cap = true by simp [standB, inB]; omega)
  clear hc
  go_enter Tryz.func61, Tryz.ntmps61
  go_wp2_with fail
  obtain ⟨w1, hw1⟩ : ∃ w1, w1 = w.alloc (.cells #[.int .i64 (nk : Int), .int .i64 cap, .int .i64 res, .int .i64 (nt : Int), .int .i64 quo] 49) := ⟨_, rfl⟩
  rw [← hw1]
  have hb1 : w1.heap[w.heap.size]? = some (.cells #[.int .i64 (nk : Int), .int .i64 cap, .int .i64 res, .int .i64 (nt : Int), .int .i64 quo] 49 (0, 0)) := by rw [hw1]; exact heap_alloc_new w _
  have hc1 : Chg (fun _ => False) w w1 := by rw [hw1]; exact (Chg.refl _ _).alloc _
  have hs1 : w1.heap.size = w.heap.size + 1 := by rw [hw1]; simp
  clear hw1
  refine (calNew_ok nk cap _ (by omega) (by omega) HST.out).mono ?_
  rintro e w2 ⟨r, rfl, hr, hrow, hq⟩
  have hb2 : w2.heap[w.heap.size]? = some (.cells #[.int .i64 (nk : Int), .int .i64 cap, .int .i64 res, .int .i64 (nt : Int), .int .i64 quo] 49 (0, 0)) := (hq.block _ (by omega) (fun h => h)).trans hb1
  have hs2 := hq.size
  have hl2 := hrow.ltp
  have hg2 := hrow.ltg
  have HC2 := hide (hc1.trans hq (fun _ _ h => h))
  have HROW := hide hrow
  have HB2 := hide hb2
  have q0 : w2.cell? ⟨w.heap.size, 0, none⟩ = some (.int .i64 (nk : Int)) := by unfold World.cell?; rw [hb2]; rfl
  clear hb1 hc1 hq hrow hb2
  go_wp2_with fail
  clear hmk2
  go_loopw [21] (fun i wr => ∃ k : Nat, k ≤ nk ∧ i = .int .i64 k ∧ wr.ownsRow 0 3 1 (.slice (some ⟨w2.heap.size, 0, none⟩) nk nk) nk (fillL nk k cap) ∧ Chg (fun _ => False) w2 wr) (fun i _ => nk - (intOf i).toNat)
  case atStart =>
    refine ⟨0, by omega, rfl, ?_, (Chg.refl _ _).alloc _⟩
    rw [fillL_start]
    exact ⟨by simp, .inr ⟨w2.heap.size, nk, _, rfl, Nat.zero_le _, heap_alloc_new w2 _, Nat.le_refl _, by unfold maxLen; omega, by rw [size_madeCells]; omega, by rw [made_list]; simp⟩⟩
  case round =>
    obtain ⟨k, hk, rfl, hown, hchg⟩ := hrel
    have HOWN := hide hown
    have HCH := hide hchg
    have hbr : wr.heap[w.heap.size]? = some (.cells #[.int .i64 (nk : Int), .int .i64 cap, .int .i64 res, .int .i64 (nt : Int), .int .i64 quo] 49 (0, 0)) := (hchg.block _ (by omega) (fun h => h)).trans HB2.out
    have q1 : wr.cell? ⟨w.heap.size, 1, none⟩ = some (.int .i64 cap) := by unfold World.cell?; rw [hbr]; rfl
    have q0 : wr.cell? ⟨w.heap.size, 0, none⟩ = some (.int .i64 (nk : Int)) := by unfold World.cell?; rw [hbr]; rfl
    have q2 : wr.cell? ⟨w.heap.size, 2, none⟩ = some (.int .i64 res) := by unfold World.cell?; rw [hbr]; rfl
    have q3 : wr.cell? ⟨w.heap.size, 3, none⟩ = some (.int .i64 (nt : Int)) := by unfold World.cell?; rw [hbr]; rfl
    have q4 : wr.cell? ⟨w.heap.size, 4, none⟩ = some (.int .i64 quo) := by unfold World.cell?; rw [hbr]; rfl
    have hsr := hchg.size
    have hlr : w2.heap.size < wr.heap.size := (hown.lt w2.heap.size rfl).2
    by_cases hlt : k < nk
    · obtain ⟨cu, hcu⟩ := ownsRow_block hown (k := w2.heap.size) rfl
      have fz : wr.frozen? ⟨w2.heap.size, k, none⟩ = false := by unfold World.frozen?; rw [hcu]; simp
      have hcell := hown.cells (g := w2.heap.size) rfl k (.int .i64 0) (by simp [fillL, hlt])
      rw [Addr.add_lit, Nat.zero_add] at hcell
      clear hown hchg hbr hcu
      go_wp2
      go_roundw
      case rel => exact ⟨k + 1, by omega, by go_num, by rw [← fillL_step nk k cap hlt]; exact ownsRow_set HOWN.out hlt rfl _, HCH.out.setCell (.inr (Nat.le_refl _)) _⟩
      case measure => simp [intOf]; omega
    · have q0' : ∀ o, (wr.alloc o).cell? ⟨w.heap.size, 0, none⟩ = some (.int .i64 (nk : Int)) := fun o => by rw [World.cell?_alloc_lt _ _ _ (by show w.heap.size < wr.heap.size; omega)]; exact q0
      have q1' : ∀ o, (wr.alloc o).cell? ⟨w.heap.size, 1, none⟩ = some (.int .i64 cap) := fun o => by rw [World.cell?_alloc_lt _ _ _ (by show w.heap.size < wr.heap.size; omega)]; exact q1
      have q2' : ∀ o, (wr.alloc o).cell? ⟨w.heap.size, 2, none⟩ = some (.int .i64 res) := fun o => by rw [World.cell?_alloc_lt _ _ _ (by show w.heap.size < wr.heap.size; omega)]; exact q2
      have q3' : ∀ o, (wr.alloc o).cell? ⟨w.heap.size, 3, none⟩ = some (.int .i64 (nt : Int)) := fun o => by rw [World.cell?_alloc_lt _ _ _ (by show w.heap.size < wr.heap.size; omega)]; exact q3
      have q4' : ∀ o, (wr.alloc o).cell? ⟨w.heap.size, 4, none⟩ = some (.int .i64 quo) := fun o => by rw [World.cell?_alloc_lt _ _ _ (by show w.heap.size < wr.heap.size; omega)]; exact q4
      have hkn : k = nk := by omega
      have HK := hide hkn
      clear hown hchg hbr hkn
      go_wp2
      go_ret
      refine ⟨⟨wr.heap.size + 1, r, w1.heap.size, nk, .slice (some ⟨w2.heap.size, 0, none⟩) nk nk, .slice none 0 0, .slice (some ⟨wr.heap.size, 0, none⟩) nt nt⟩, rfl, ?_, ?_, ?_⟩
      · refine ymOpen (by omega) (by omega) (by omega) (heap_at_new (by simp)) ?_ ?_ ?_
        · have := HOWN.out
          rw [HK.out] at this
          exact (this.alloc _).alloc _
        · rw [Below.heap_alloc _ _ _ (by simp)]; exact heap_alloc_new wr _
        · exact HROW.out.frame (by rw [Below.heap_alloc _ _ _ (by simp; omega), Below.heap_alloc _ _ _ (by omega)]; exact HCH.out.block _ hl2 (fun h => h)) (by rw [Below.heap_alloc _ _ _ (by simp; omega), Below.heap_alloc _ _ _ (by omega)]; exact HCH.out.block _ hg2 (fun h => h))
      · exact ((HC2.out.trans HCH.out (fun _ _ h => h)).alloc _).alloc _
      · intro x hx
        rcases hx with h | h | h | h | h | h
        · simp only at h; omega
        · simp only at h; omega
        · simp only at h; omega
        · simp [Value.ownBlock] at h; omega
        · simp [Value.ownBlock] at h
        · simp [Value.ownBlock] at h; omega
end Go.Proofs.YtminceigjejipabGreat

namespace Go.Proofs.YtminceigjejipabGreat
open Go.RowKit

theorem within_ten {m : MkG} {k : Int} : inB k 0 (m.c.ten - 1) = m.tenB k := by
  rw [Bool.eq_iff_iff]
  simp [inB, MkG.tenB]
  omega

set_option maxHeartbeats 1000000 in
theorem hasTenant_any (V : YV) (m : MkG) (k : Int) (w : World) (hm : YmAt w V m) (hcf : cfgOk m.c = true) :
    Calls Tryz.prog 84 #[.pointer (some ⟨V.q, 0, none⟩), .int .i64 k] w fun e w' => e = .returned (.bool (m.tenB k)) ∧ w' = w := by
  have hc : w.cell? ⟨V.q, 3, none⟩ = some (.int .i64 m.c.ten) := hm.cell 3
  have hq := cfgOk_true hcf
  have HE := hide (@within_ten m k)
  have hw1 : IntKind.i64.wrap (m.c.ten - 1) = m.c.ten - 1 := by rw [IntKind.wrap_i64]; omega
  clear hm hcf
  generalize m.c.ten = tn at *
  go_enter Tryz.func84, Tryz.ntmps84
  go_wp2_with (go_at_call 30; refine (within_any _ _ _ _).mono ?_; rintro e w' ⟨rfl, hw⟩; subst w')
  go_ret
  exact ⟨ret_bool HE.out, rfl⟩

set_option maxRecDepth 100000 in
set_option maxHeartbeats 4000000 in
theorem indexOf_any (V : YV) (m : MkG) (ten ref : Int) (w : World) (hm : YmAt w V m) (hn : m.bids.length ≤ 300) :
    Calls Tryz.prog 93 #[.pointer (some ⟨V.q, 0, none⟩), .agg #[.int .i64 ten, .int .i64 ref]] w fun e w' => e = .returned (.int .i64 (findZ m.bids ten ref)) ∧ Chg (fun _ => False) w w' := by
  have hc : w.cell? ⟨V.q, 6, none⟩ = some V.bv := hm.cell 6
  have hpl := hm.lt
  have hbl' := hide (fun k hk => (hm.bids.lt k hk).2)
  obtain ⟨ao, cap, hv, hel⟩ := hm.bid_form
  rw [hv] at hc
  have HEL := hide hel
  clear hv hel hm
  generalize hbl : m.bids = l at *
  obtain ⟨n, hln⟩ : ∃ n, n = l.length := ⟨_, rfl⟩
  rw [← hln] at hc hn
  have HLN := hide hln
  clear hln hbl
  have d6 : ∀ o, (w.alloc o).cell? ⟨V.q, 6, none⟩ = some (.slice ao n cap) := fun o => by rw [World.cell?_alloc_lt _ _ _ (by exact hpl)]; exact hc
  go_enter Tryz.func93, Tryz.ntmps93
  go_wp2
  obtain ⟨w1, hw1⟩ : ∃ w1, w1 = w.alloc (.cells #[.int .i64 ten, .int .i64 ref] 61) := ⟨_, rfl⟩
  rw [← hw1]
  have HC1 : Hid (Chg (fun _ => False) w w1) := by rw [hw1]; exact (Chg.refl _ _).alloc _
  have b0 : w1.cell? ⟨w.heap.size, 0, none⟩ = some (.int .i64 ten) := by rw [hw1]; simp
  have b1 : w1.cell? ⟨w.heap.size, 1, none⟩ = some (.int .i64 ref) := by rw [hw1]; simp
  have c6 : w1.cell? ⟨V.q, 6, none⟩ = some (.slice ao n cap) := by rw [hw1]; exact d6 _
  clear hw1 d6 hc
  have HB0 := hide b0
  have HB1 := hide b1
  have HC6 := hide c6
  have hqs : w.heap.size < w1.heap.size := by
    rcases Nat.lt_or_ge w.heap.size w1.heap.size with h | h
    · exact h
    · exfalso
      unfold World.cell? at b0
      rw [Array.getElem?_eq_none h] at b0
      simp at b0
  have hqp : V.q < w1.heap.size := by omega
  clear b0 b1 c6
  go_loopw [11] (fun i wr => ∃ k : Nat, k ≤ n ∧ i = .int .i64 k ∧ (∀ (j : Nat) (b : BidG), j < k → l[j]? = some b → b.is ten ref = false) ∧ Chg (fun _ => False) w1 wr) (fun i _ => n - (intOf i).toNat)
  case atStart => exact ⟨0, by omega, rfl, fun j b h => by omega, Chg.refl _ _⟩
  case round =>
    obtain ⟨k, hk, rfl, hno, hch⟩ := hrel
    have HNO := hide hno
    have HCH := hide hch
    clear hno
    by_cases hlt : k < n
    · obtain ⟨b, hb⟩ : ∃ b, l[k]? = some b := ⟨_, List.getElem?_eq_getElem (by rw [← HLN.out]; exact hlt)⟩
      have HB := hide hb
      obtain ⟨g, hao, hown, hcl, _⟩ := HEL.out k b hb
      subst hao
      have hgl : g < w.heap.size := hbl'.out g hown
      have b0 : wr.cell? ⟨w.heap.size, 0, none⟩ = some (.int .i64 ten) := by rw [hch.cell (by exact hqs) (fun h => h)]; exact HB0.out
      have b1 : wr.cell? ⟨w.heap.size, 1, none⟩ = some (.int .i64 ref) := by rw [hch.cell (by exact hqs) (fun h => h)]; exact HB1.out
      have c6 : wr.cell? ⟨V.q, 6, none⟩ = some (.slice (some ⟨g, 0, none⟩) n cap) := by rw [hch.cell (by exact hqp) (fun h => h)]; exact HC6.out
      have c0 : wr.cell? ⟨g, k * 9, none⟩ = some (.int .i64 b.ten) := by rw [hch.cell (by show g < w1.heap.size; omega) (fun h => h), HC1.out.cell (by exact hgl) (fun h => h)]; exact hcl 0 _ rfl
      have c1 : wr.cell? ⟨g, k * 9 + 1, none⟩ = some (.int .i64 b.ref) := by rw [hch.cell (by show g < w1.heap.size; omega) (fun h => h), HC1.out.cell (by exact hgl) (fun h => h)]; exact hcl 1 _ rfl
      clear hcl hb hown HEL hch HC6
      have i0 : (0 : Int) ≤ (k : Int) := by omega
      have i1 : (k : Int) < (n : Int) := by omega
      cases h1 : b.ten == ten
      · go_wp2
        go_quiet (fail)
        go_wp2
        go_roundw
        case rel =>
          refine ⟨k + 1, by omega, by go_num, fun j b' hj hb' => ?_, HCH.out.drewN _⟩
          by_cases e : j < k
          · exact HNO.out j b' e hb'
          · obtain rfl : j = k := by omega
            rw [HB.out] at hb'
            obtain rfl := Option.some.inj hb'
            simp [BidG.is, h1]
        case measure => simp [intOf]; omega
      · cases h2 : b.ref == ref
        · go_wp2
          go_quiet (fail)
          go_wp2
          go_roundw
          case rel =>
            refine ⟨k + 1, by omega, by go_num, fun j b' hj hb' => ?_, HCH.out.drewN _⟩
            by_cases e : j < k
            · exact HNO.out j b' e hb'
            · obtain rfl : j = k := by omega
              rw [HB.out] at hb'
              obtain rfl := Option.some.inj hb'
              simp [BidG.is, h2]
          case measure => simp [intOf]; omega
        · have hf := hide (findZ_some HB.out (by simp [BidG.is, h1, h2]) HNO.out)
          go_wp2
          go_quiet (fail)
          go_wp2
          go_ret
          exact ⟨ret_int (by rw [hf.out]), HC1.out.trans (HCH.out.drewN _) (fun _ _ h => h)⟩
    · have hf := hide (findZ_none (l := l) (ten := ten) (ref := ref) (fun i b hb => HNO.out i b (by have := (List.getElem?_eq_some_iff.1 hb).1; rw [← HLN.out] at this; omega) hb))
      clear hch
      go_wp2
      go_ret
      exact ⟨ret_int (by rw [hf.out]), HC1.out.trans HCH.out (fun _ _ h => h)⟩

set_option maxHeartbeats 2000000 in
theorem countPending_any (V : YV) (m : MkG) (ten : Int) (w : World) (hm : YmAt w V m) (hn : m.bids.length ≤ 300) :
    Calls Tryz.prog 106 #[.pointer (some ⟨V.q, 0, none⟩), .int .i64 ten] w fun e w' => e = .returned (.int .i64 (pendL m.bids ten)) ∧ w' = w := by
  have hc : w.cell? ⟨V.q, 6, none⟩ = some V.bv := hm.cell 6
  obtain ⟨ao, cap, hv, hel⟩ := hm.bid_form
  rw [hv] at hc
  have HEL := hide hel
  clear hv hel hm
  generalize hbl : m.bids = l at *
  obtain ⟨n, hln⟩ : ∃ n, n = l.length := ⟨_, rfl⟩
  rw [← hln] at hc hn
  have HLN := hide hln
  clear hln hbl
  go_enter Tryz.func106, Tryz.ntmps106
  go_wp2
  go_loop [5, 12] (fun s i => ∃ k : Nat, k ≤ n ∧ i = .int .i64 k ∧ s = .int .i64 (pendL (l.take k) ten)) (fun _ i => n - (intOf i).toNat)
  case atStart => exact ⟨0, by omega, rfl, rfl⟩
  case round =>
    obtain ⟨k, hk, rfl, rfl⟩ := hrel
    have hb1 := pendL_le (l.take k) ten
    have hb2 : (l.take k).length ≤ k := List.length_take_le _ _
    by_cases hlt : k < n
    · obtain ⟨b, hb⟩ : ∃ b, l[k]? = some b := ⟨_, List.getElem?_eq_getElem (by rw [← HLN.out]; exact hlt)⟩
      have HS := pendL_snoc (l.take k) b ten
      rw [← take_snoc hb] at HS
      have HSh := hide HS
      obtain ⟨g, hao, hown, hcl, _⟩ := HEL.out k b hb
      subst hao
      have c0 : w.cell? ⟨g, k * 9, none⟩ = some (.int .i64 b.ten) := hcl 0 _ rfl
      have c1 : w.cell? ⟨g, k * 9 + 7, none⟩ = some (.int .i64 b.state) := hcl 7 _ rfl
      have hq : 0 ≤ pendL (l.take k) ten ∧ pendL (l.take k) ten ≤ 300 := by omega
      clear hcl hb hown HEL HS hb1 hb2
      generalize pendL (l.take k) ten = s at *
      obtain ⟨hq1, hq2⟩ := hq
      cases h1 : b.ten == ten
      · go_wp2
        go_round
        case rel => exact ⟨k + 1, by omega, by go_num, by rw [HSh.out]; simp [BidG.pends, h1]⟩
        case measure => simp [intOf]; omega
      · cases h2 : b.state == 1
        · go_wp2
          go_round
          case rel => exact ⟨k + 1, by omega, by go_num, by rw [HSh.out]; simp [BidG.pends, h2]⟩
          case measure => simp [intOf]; omega
        · go_wp2
          go_round
          case rel => exact ⟨k + 1, by omega, by go_num, by rw [HSh.out]; simp [BidG.pends, h1, h2]⟩
          case measure => simp [intOf]; omega
    · go_wp2
      go_ret
      exact ⟨ret_int (by rw [List.take_of_length_le (by rw [← HLN.out]; omega)]), rfl⟩
end Go.Proofs.YtminceigjejipabGreat
