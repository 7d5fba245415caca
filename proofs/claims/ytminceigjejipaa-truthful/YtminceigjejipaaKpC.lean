import Derived.Test.YtminceigjejipaaKpB
import Derived.Test.YtminceigjejipaaG3
/-
  yardkeep: THE BOOK, as plain data and in memory.
-/
namespace Go.Proofs.Ytminceigjejipaa
open Go.RowKit

structure KnownG where
  ten : Int
  ref : Int
  job : JobG
  arrival : Int
  step : Int
  wasS : Int
  wasT : Int
  charged : Bool
def knownCells (o : KnownG) : List Value := [.int .i64 o.ten, .int .i64 o.ref, .int .i64 o.job.arr, .int .i64 o.job.dl, .int .i64 o.job.len, .int .i64 o.job.units, .int .i64 o.job.val, .int .i64 o.arrival, .int .i64 o.step, .int .i64 o.wasS, .int .i64 o.wasT, .bool o.charged]
structure BookG where
  c : CfgG
  bids : List KnownG
  susp : List Bool
  units : List Int
structure BV where
  bv : Value
  sv : Value
  uv : Value
def BV.foot (V : BV) (p k : Nat) : Prop := k = p ∨ V.bv.ownBlock = some k ∨ V.sv.ownBlock = some k ∨ V.uv.ownBlock = some k
def bookBox (V : BV) (b : BookG) : Array Value := #[.int .i64 b.c.ticks, .int .i64 b.c.cap, .int .i64 b.c.res, .int .i64 b.c.ten, .int .i64 b.c.quo, V.bv, V.sv, V.uv]

structure BookAt (w : World) (p : Nat) (V : BV) (b : BookG) : Prop where
  box : w.heap[p]? = some (.cells (bookBox V b) 66 (0, 0))
  bids : w.ownsRow 0 70 12 V.bv b.bids.length (b.bids.flatMap knownCells)
  susp : w.ownsRow 0 4 1 V.sv b.susp.length (b.susp.map Value.bool)
  units : w.ownsRow 0 3 1 V.uv b.units.length (b.units.map (Value.int .i64))

section
variable {w w' : World} {p : Nat} {V : BV} {b : BookG}
theorem BookAt.lt (h : BookAt w p V b) : p < w.heap.size := (Array.getElem?_eq_some_iff.1 h.box).1
theorem BookAt.foot_lt (h : BookAt w p V b) (k : Nat) (hk : V.foot p k) : k < w.heap.size := by
  rcases hk with rfl | hk | hk | hk
  · exact h.lt
  · exact (h.bids.lt k hk).2
  · exact (h.susp.lt k hk).2
  · exact (h.units.lt k hk).2
theorem BookAt.frame (h : BookAt w p V b) (hf : ∀ k, V.foot p k → w'.heap[k]? = w.heap[k]?) : BookAt w' p V b :=
  ⟨(hf _ (.inl rfl)).trans h.box, ownsRow_keep h.bids (fun k hk => hf k (.inr (.inl hk))), ownsRow_keep h.susp (fun k hk => hf k (.inr (.inr (.inl hk)))), ownsRow_keep h.units (fun k hk => hf k (.inr (.inr (.inr hk))))⟩
theorem BookAt.chg {O : Nat → Prop} (h : BookAt w p V b) (hc : Chg O w w') (hO : ∀ k, V.foot p k → ¬ O k) : BookAt w' p V b := h.frame (fun k hk => hc.block k (h.foot_lt k hk) (hO k hk))
theorem BookAt.chg0 (h : BookAt w p V b) (hc : Chg (fun _ => False) w w') : BookAt w' p V b := h.chg hc (fun _ _ h => h)
theorem BookAt.cell (h : BookAt w p V b) (f : Nat) : w.cell? ⟨p, f, none⟩ = (bookBox V b)[f]? := by
  unfold World.cell?
  rw [h.box]
  rfl
theorem BookAt.free (h : BookAt w p V b) (f : Nat) : w.frozen? ⟨p, f, none⟩ = false := by
  unfold World.frozen?
  rw [h.box]
  simp
theorem BookAt.bidForm (h : BookAt w p V b) : ∃ ao cap, V.bv = .slice ao b.bids.length cap := ownsRow_form h.bids
theorem BookAt.bidCell (h : BookAt w p V b) {i : Nat} {o : KnownG} (ho : b.bids[i]? = some o) : ∃ g cap, V.bv = .slice (some ⟨g, 0, none⟩) b.bids.length cap ∧ V.bv.ownBlock = some g ∧ g < w.heap.size ∧ (∀ r u, (knownCells o)[r]? = some u → w.cell? ⟨g, i * 12 + r, none⟩ = some u) ∧ ∀ r, w.frozen? ⟨g, r, none⟩ = false := by
  rcases h.bids.2 with ⟨hv, h0⟩ | ⟨g, cap, cur, hv, hg, hh, r⟩
  · have := (List.getElem?_eq_some_iff.1 ho).1
    omega
  · refine ⟨g, cap, hv, by rw [hv]; rfl, (Array.getElem?_eq_some_iff.1 hh).1, fun r u hu => ?_, fun r => by unfold World.frozen?; rw [hh]; simp⟩
    have hr : r < 12 := by
      have := (List.getElem?_eq_some_iff.1 hu).1
      simpa [knownCells] using this
    have := h.bids.cells (g := g) (by rw [hv]; rfl) (i * 12 + r) u (by rw [flat_get knownCells 12 (fun _ => rfl) b.bids i o r ho hr]; exact hu)
    rwa [Addr.add_lit, Nat.zero_add] at this
theorem BookAt.suspCell (h : BookAt w p V b) {i : Nat} (hi : i < b.susp.length) : ∃ g cap, V.sv = .slice (some ⟨g, 0, none⟩) b.susp.length cap ∧ V.sv.ownBlock = some g ∧ g < w.heap.size ∧ w.cell? ⟨g, i, none⟩ = some (.bool (b.susp.getD i false)) ∧ w.frozen? ⟨g, i, none⟩ = false := by
  rcases h.susp.2 with ⟨hv, h0⟩ | ⟨g, cap, cur, hv, hg, hh, r⟩
  · omega
  · refine ⟨g, cap, hv, by rw [hv]; rfl, (Array.getElem?_eq_some_iff.1 hh).1, ?_, by unfold World.frozen?; rw [hh]; simp⟩
    have := h.susp.cells (g := g) (by rw [hv]; rfl) i (.bool (b.susp.getD i false)) (by simp [List.getD, List.getElem?_eq_getElem hi])
    rwa [Addr.add_lit, Nat.zero_add] at this
theorem BookAt.unitCell (h : BookAt w p V b) {i : Nat} (hi : i < b.units.length) : ∃ g cap, V.uv = .slice (some ⟨g, 0, none⟩) b.units.length cap ∧ V.uv.ownBlock = some g ∧ g < w.heap.size ∧ w.cell? ⟨g, i, none⟩ = some (.int .i64 (b.units.getD i 0)) ∧ w.frozen? ⟨g, i, none⟩ = false := by
  rcases h.units.2 with ⟨hv, h0⟩ | ⟨g, cap, cur, hv, hg, hh, r⟩
  · omega
  · refine ⟨g, cap, hv, by rw [hv]; rfl, (Array.getElem?_eq_some_iff.1 hh).1, ?_, by unfold World.frozen?; rw [hh]; simp⟩
    have := h.units.cells (g := g) (by rw [hv]; rfl) i (.int .i64 (b.units.getD i 0)) (by simp [List.getD, List.getElem?_eq_getElem hi])
    rwa [Addr.add_lit, Nat.zero_add] at this
end

/-- a book that has become another -/
def BookTo (w : World) (p : Nat) (V : BV) (b' : BookG) (w' : World) : Prop :=
  ∃ V', BookAt w' p V' b' ∧ Chg (V.foot p) w w' ∧ ∀ k, V'.foot p k → V.foot p k ∨ w.heap.size ≤ k
theorem BookTo.same {w w' : World} {p : Nat} {V : BV} {b : BookG} (h : BookAt w p V b) (hc : Chg (fun _ => False) w w') : BookTo w p V b w' := ⟨V, h.chg0 hc, hc.mono (fun _ _ h => h.elim), fun _ hk => .inl hk⟩
theorem BookTo.start {w w0 w' : World} {p : Nat} {V : BV} {b : BookG} (hc : Chg (fun _ => False) w0 w) (h : BookTo w p V b w') : BookTo w0 p V b w' := by
  obtain ⟨V', h1, h2, h3⟩ := h
  exact ⟨V', h1, (hc.mono (fun _ _ h => h.elim)).trans h2 (fun _ _ h => h), fun k hk => by
    rcases h3 k hk with h | h
    · exact .inl h
    · exact .inr (Nat.le_trans hc.size h)⟩
theorem BookTo.chg0 {w w' w2 : World} {p : Nat} {V : BV} {b : BookG} (h : BookTo w p V b w') (hc : Chg (fun _ => False) w' w2) : BookTo w p V b w2 := by
  obtain ⟨V', h1, h2, h3⟩ := h
  exact ⟨V', h1.chg0 hc, h2.trans hc (fun _ _ h => h.elim), h3⟩

/-- one more is known -/
theorem BookAt.bidMore {w w1 w2 : World} {p : Nat} {V : BV} {b : BookG} {o : KnownG} {g cap : Nat} (h : BookAt w p V b) (hc1 : Chg (fun _ => False) w w1)
    (hown : w2.ownsRow 0 70 12 (.slice (some ⟨g, 0, none⟩) (b.bids.length + 1) cap) (b.bids.length + 1) (b.bids.flatMap knownCells ++ knownCells o)) (hgrow : w1.grownBy w2 V.bv.ownBlock) (hat : V.bv.ownBlock = some g ∨ w.heap.size ≤ g) :
    w2.cell? ⟨p, 5, none⟩ = some V.bv ∧ w2.frozen? ⟨p, 5, none⟩ = false ∧ BookTo w p V { b with bids := b.bids ++ [o] } (w2.setCell ⟨p, 5, none⟩ (.slice (some ⟨g, 0, none⟩) (b.bids.length + 1) cap)) := by
  have h1 := h.chg0 hc1
  have nl : V.bv.ownBlock ≠ some p := ownsRow_box h1.bids h1.box (by decide)
  have keep : ∀ k, V.foot p k → V.bv.ownBlock ≠ some k → w2.heap[k]? = w1.heap[k]? := fun k hk hn => hgrow.block k (h1.foot_lt k hk) (fun e => hn e.symm)
  have hb2 : w2.heap[p]? = some (.cells (bookBox V b) 66 (0, 0)) := (keep _ (.inl rfl) nl).trans h1.box
  refine ⟨by unfold World.cell?; rw [hb2]; rfl, by unfold World.frozen?; rw [hb2]; simp, ?_⟩
  have far : ∀ k, k ≠ p → (w2.setCell ⟨p, 5, none⟩ (.slice (some ⟨g, 0, none⟩) (b.bids.length + 1) cap)).heap[k]? = w2.heap[k]? := fun k hk => Below.heap_setCell _ _ _ _ hk
  have hgp : g ≠ p := by
    rintro rfl
    obtain ⟨cu, hc⟩ := ownsRow_block hown (k := g) rfl
    rw [hb2] at hc
    simp at hc
  have old : ∀ {e : TypeId} {size n : Nat} {v : Value} {xs : List Value}, w1.ownsRow 0 e size v n xs → e ≠ 70 → e ≠ 66 → (∀ k, v.ownBlock = some k → V.foot p k) → (w2.setCell ⟨p, 5, none⟩ (.slice (some ⟨g, 0, none⟩) (b.bids.length + 1) cap)).ownsRow 0 e size v n xs := by
    intro e size n v xs ho he he' hf
    refine ownsRow_keep ho (fun k hk => ?_)
    rw [far k (fun e => ownsRow_box ho h1.box he' (e ▸ hk))]
    exact keep k (hf k hk) (ownsRow_apart ho h1.bids he hk)
  refine ⟨{ V with bv := .slice (some ⟨g, 0, none⟩) (b.bids.length + 1) cap }, ⟨by rw [box_set hb2]; rfl, ?_, old h1.susp (by decide) (by decide) (fun k hk => .inr (.inr (.inl hk))), old h1.units (by decide) (by decide) (fun k hk => .inr (.inr (.inr hk)))⟩, ?_, ?_⟩
  · show (w2.setCell _ _).ownsRow 0 _ 12 _ (b.bids ++ [o]).length ((b.bids ++ [o]).flatMap knownCells)
    rw [List.length_append, List.flatMap_append]
    simp only [List.flatMap_cons, List.flatMap_nil, List.append_nil, List.length_cons, List.length_nil, Nat.zero_add]
    exact ownsRow_keep hown (fun k hk => far k (fun e => by simp [Value.ownBlock] at hk; exact hgp (hk.trans e)))
  · exact (((hc1.mono (O' := V.foot p) (fun _ _ h => h.elim)).grown hgrow (fun k hk => .inl (.inr (.inl hk))))).setCell (.inl (.inl rfl)) _
  · intro k hk
    rcases hk with rfl | hk | hk | hk
    · exact .inl (.inl rfl)
    · simp [Value.ownBlock] at hk
      subst hk
      rcases hat with h | h
      · exact .inl (.inr (.inl h))
      · exact .inr h
    · exact .inl (.inr (.inr (.inl hk)))
    · exact .inl (.inr (.inr (.inr hk)))
theorem book_arm {w w1 w2 : World} {p : Nat} {V : BV} {b : BookG} {o : KnownG} {ao : Option Addr} {cap n g cap' H : Nat} (h : BookAt w p V b) (hv : V.bv = .slice ao b.bids.length cap) (hn : n = b.bids.length) (hc1 : Chg (fun _ => False) w w1)
    (hown : w2.ownsRow 0 70 12 (.slice (some ⟨g, 0, none⟩) (n + 1) cap') (n + 1) (b.bids.flatMap knownCells ++ knownCells o)) (hgrow : w1.grownBy w2 (Value.ownBlock (.slice ao n cap))) (hat : Value.ownBlock (.slice ao n cap) = some g ∨ g = H) (hH : w.heap.size ≤ H) :
    w2.cell? ⟨p, 5, none⟩ = some (.slice ao n cap) ∧ w2.frozen? ⟨p, 5, none⟩ = false ∧ Hid (BookTo w p V { b with bids := b.bids ++ [o] } (w2.setCell ⟨p, 5, none⟩ (.slice (some ⟨g, 0, none⟩) (n + 1) cap'))) := by
  subst hn
  rw [← hv] at hgrow hat ⊢
  exact h.bidMore hc1 hown hgrow (by rcases hat with h | h; exact .inl h; exact .inr (by omega))

/-- a cell of one of the three lists, written -/
theorem BookAt.setSusp {w : World} {p : Nat} {V : BV} {b : BookG} {i g : Nat} {s : Bool} (h : BookAt w p V b) (hi : i < b.susp.length) (hg : V.sv.ownBlock = some g) : BookAt (w.setCell ⟨g, i, none⟩ (.bool s)) p V { b with susp := b.susp.set i s } := by
  have far : ∀ k, k ≠ g → (w.setCell ⟨g, i, none⟩ (.bool s)).heap[k]? = w.heap[k]? := fun k hk => Below.heap_setCell _ _ _ _ hk
  refine ⟨(far p (fun e => ownsRow_box h.susp h.box (by decide) (e ▸ hg))).trans h.box, ownsRow_keep h.bids (fun k hk => far k (fun e => ownsRow_apart h.bids h.susp (by decide) hk (e ▸ hg))), ?_, ownsRow_keep h.units (fun k hk => far k (fun e => ownsRow_apart h.units h.susp (by decide) hk (e ▸ hg)))⟩
  show (w.setCell _ _).ownsRow 0 _ 1 _ (b.susp.set i s).length ((b.susp.set i s).map Value.bool)
  rw [List.length_set, List.map_set]
  exact ownsRow_set2 h.susp (by omega) hg _
theorem BookAt.setUnit {w : World} {p : Nat} {V : BV} {b : BookG} {i g : Nat} {u : Int} (h : BookAt w p V b) (hi : i < b.units.length) (hg : V.uv.ownBlock = some g) : BookAt (w.setCell ⟨g, i, none⟩ (.int .i64 u)) p V { b with units := b.units.set i u } := by
  have far : ∀ k, k ≠ g → (w.setCell ⟨g, i, none⟩ (.int .i64 u)).heap[k]? = w.heap[k]? := fun k hk => Below.heap_setCell _ _ _ _ hk
  refine ⟨(far p (fun e => ownsRow_box h.units h.box (by decide) (e ▸ hg))).trans h.box, ownsRow_keep h.bids (fun k hk => far k (fun e => ownsRow_apart h.bids h.units (by decide) hk (e ▸ hg))), ownsRow_keep h.susp (fun k hk => far k (fun e => ownsRow_apart h.susp h.units (by decide) hk (e ▸ hg))), ?_⟩
  show (w.setCell _ _).ownsRow 0 _ 1 _ (b.units.set i u).length ((b.units.set i u).map (Value.int .i64))
  rw [List.length_set, List.map_set]
  exact ownsRow_set2 h.units (by omega) hg _
theorem known_set {r : Nat} {u : Value} {o o' : KnownG} (hc : knownCells o' = (knownCells o).set r u) (hr : r < 12) : ∀ (l : List KnownG) (i : Nat), l[i]? = some o → (l.set i o').flatMap knownCells = (l.flatMap knownCells).set (i * 12 + r) u := by
  intro l
  induction l with
  | nil => intro i hb; simp at hb
  | cons y l ih =>
    intro i hb
    cases i with
    | zero =>
      simp at hb
      subst hb
      simp only [List.set_cons_zero, List.flatMap_cons, hc, Nat.zero_mul, Nat.zero_add]
      rw [List.set_append_left _ _ (by simpa [knownCells] using hr)]
    | succ i =>
      simp only [List.getElem?_cons_succ] at hb
      simp only [List.set_cons_succ, List.flatMap_cons, ih i hb]
      rw [show (i + 1) * 12 + r = (knownCells y).length + (i * 12 + r) by simp [knownCells]; omega]
      rw [List.set_append_right _ _ (by omega)]
      simp
theorem BookAt.setKnown {w : World} {p : Nat} {V : BV} {b : BookG} {i g r : Nat} {o o' : KnownG} {u : Value} (h : BookAt w p V b) (ho : b.bids[i]? = some o) (hr : r < 12) (hg : V.bv.ownBlock = some g) (hc : knownCells o' = (knownCells o).set r u) : BookAt (w.setCell ⟨g, i * 12 + r, none⟩ u) p V { b with bids := b.bids.set i o' } := by
  have hil : i < b.bids.length := (List.getElem?_eq_some_iff.1 ho).1
  have far : ∀ k, k ≠ g → (w.setCell ⟨g, i * 12 + r, none⟩ u).heap[k]? = w.heap[k]? := fun k hk => Below.heap_setCell _ _ _ _ hk
  refine ⟨(far p (fun e => ownsRow_box h.bids h.box (by decide) (e ▸ hg))).trans h.box, ?_, ownsRow_keep h.susp (fun k hk => far k (fun e => ownsRow_apart h.susp h.bids (by decide) hk (e ▸ hg))), ownsRow_keep h.units (fun k hk => far k (fun e => ownsRow_apart h.units h.bids (by decide) hk (e ▸ hg)))⟩
  show (w.setCell _ _).ownsRow 0 _ 12 _ (b.bids.set i o').length ((b.bids.set i o').flatMap knownCells)
  rw [List.length_set, known_set hc hr b.bids i ho]
  exact ownsRow_set2 h.bids (by omega) hg _

/-! ### begin -/
def startB (c : CfgG) : BookG := ⟨c, [], List.replicate c.ten.toNat false, List.replicate c.ticks.toNat c.cap⟩

theorem three_alloc (w : World) (a b c : Obj) : (((w.alloc a).alloc b).alloc c).heap[w.heap.size]? = some a ∧ (((w.alloc a).alloc b).alloc c).heap[w.heap.size + 1]? = some b ∧ (((w.alloc a).alloc b).alloc c).heap[w.heap.size + 1 + 1]? = some c := by
  refine ⟨?_, ?_, ?_⟩
  · rw [Below.heap_alloc _ _ _ (by simp; omega), Below.heap_alloc _ _ _ (by simp)]
    exact heap_alloc_new w a
  · rw [Below.heap_alloc _ _ _ (by simp)]
    have := heap_alloc_new (w.alloc a) b
    simpa using this
  · have := heap_alloc_new ((w.alloc a).alloc b) c
    simpa using this
def fillU (n k : Nat) (cap : Int) : List Int := (List.range n).map fun j => if j < k then cap else 0
theorem fillU_zero (n : Nat) (cap : Int) : fillU n 0 cap = List.replicate n 0 := by
  apply List.ext_getElem?
  intro i
  by_cases hi : i < n <;> simp [fillU, hi]
theorem fillU_succ (n k : Nat) (cap : Int) (hk : k < n) : (fillU n k cap).set k cap = fillU n (k + 1) cap := by
  apply List.ext_getElem?
  intro i
  rw [List.getElem?_set]
  by_cases hi : i < n
  · by_cases e : k = i
    · subst e
      simp [fillU, hi]
    · simp only [if_neg e, fillU, List.getElem?_map, List.getElem?_range hi, Option.map_some]
      simp [show (i < k ↔ i < k + 1) by omega]
  · by_cases e : k = i
    · omega
    · simp [fillU, hi, e]
theorem fillU_all (n : Nat) (cap : Int) : fillU n n cap = List.replicate n cap := by
  apply List.ext_getElem?
  intro i
  by_cases hi : i < n <;> simp [fillU, hi]
theorem begin_mk {W : World} {nk nt p X Y : Nat} {cap res quo : Int} (h8 : nt ≤ 8) (h64 : nk ≤ 64) (hb : W.heap[p]? = some (.cells #[.int .i64 (nk : Int), .int .i64 cap, .int .i64 res, .int .i64 (nt : Int), .int .i64 quo, .slice none 0 0, .slice (some ⟨X, 0, none⟩) nt nt, .slice (some ⟨Y, 0, none⟩) nk nk] 66 (0, 0)))
    (hX : W.heap[X]? = some (.cells (madeCells #[.bool false] nt) 4 (0, 0))) (hYb : W.heap[Y]? = some (.cells (madeCells #[.int .i64 0] nk) 3 (0, 0))) :
    BookAt W p ⟨.slice none 0 0, .slice (some ⟨X, 0, none⟩) nt nt, .slice (some ⟨Y, 0, none⟩) nk nk⟩ ⟨⟨nk, cap, res, nt, quo⟩, [], List.replicate nt false, fillU nk 0 cap⟩ := by
  refine ⟨hb, World.ownsRow_nil _ _ _ _, ?_, ?_⟩
  · show W.ownsRow 0 _ 1 _ (List.replicate nt false).length ((List.replicate nt false).map Value.bool)
    rw [List.length_replicate, List.map_replicate]
    exact ⟨by simp, .inr ⟨X, nt, _, rfl, Nat.zero_le _, hX, Nat.le_refl _, by unfold maxLen; omega, by rw [size_madeCells]; omega, by rw [made_list]; simp⟩⟩
  · show W.ownsRow 0 _ 1 _ (fillU nk 0 cap).length ((fillU nk 0 cap).map (Value.int .i64))
    rw [fillU_zero, List.length_replicate, List.map_replicate]
    exact ⟨by simp, .inr ⟨Y, nk, _, rfl, Nat.zero_le _, hYb, Nat.le_refl _, by unfold maxLen; omega, by rw [size_madeCells]; omega, by rw [made_list]; simp⟩⟩

set_option maxRecDepth 100000 in
set_option maxHeartbeats 4000000 in
theorem begin_any (c : CfgG) (w : World) (hc : cfgOk c = true) :
    Calls Try.prog 16 #[cfgV c] w fun e w' => ∃ p V, e = .returned (.pointer (some ⟨p, 0, none⟩)) ∧ BookAt w' p V (startB c) ∧ Chg (fun _ => False) w w' ∧ ∀ k, V.foot p k → w.heap.size ≤ k := by
  unfold cfgV
  obtain ⟨⟨a1, a2⟩, ⟨a3, a4⟩, ⟨a5, a6⟩, ⟨a7, a8⟩, a9, a10⟩ := cfgOk_true hc
  obtain ⟨tk, cap, res, ten, quo⟩ := c
  simp only at *
  obtain ⟨nt, rfl⟩ := Int.eq_ofNat_of_zero_le (show 0 ≤ ten by omega)
  obtain ⟨nk, rfl⟩ := Int.eq_ofNat_of_zero_le (show 0 ≤ tk by omega)
  have hmk1 := run_make_row' (P := Try.prog) 64 4 (.bool false) 1 Try.underlying64 infoBool rfl .i64 .i64 nt (by omega) (by omega)
  have hmk2 := run_make_row' (P := Try.prog) 27 3 (.int .i64 0) 8 Try.underlying27 infoInt' rfl .i64 .i64 nk (by omega) (by omega)
  clear hc
  go_enter Try.func16, Try.ntmps16
  go_wp2_with fail
  obtain ⟨w1, hw1⟩ : ∃ w1, w1 = w.alloc (.cells #[.int .i64 (nk : Int), .int .i64 cap, .int .i64 res, .int .i64 (nt : Int), .int .i64 quo] 38) := ⟨_, rfl⟩
  rw [← hw1]
  have hb1 : w1.heap[w.heap.size]? = some (.cells #[.int .i64 (nk : Int), .int .i64 cap, .int .i64 res, .int .i64 (nt : Int), .int .i64 quo] 38 (0, 0)) := by rw [hw1]; exact heap_alloc_new w _
  have HC1 : Hid (Chg (fun _ => False) w w1) := by rw [hw1]; exact (Chg.refl _ _).alloc _
  have hs1 : w1.heap.size = w.heap.size + 1 := by rw [hw1]; simp
  have HS1 := hide hs1
  have q0 : w1.cell? ⟨w.heap.size, 0, none⟩ = some (.int .i64 (nk : Int)) := by unfold World.cell?; rw [hb1]; rfl
  have q1 : w1.cell? ⟨w.heap.size, 1, none⟩ = some (.int .i64 cap) := by unfold World.cell?; rw [hb1]; rfl
  have q2 : w1.cell? ⟨w.heap.size, 2, none⟩ = some (.int .i64 res) := by unfold World.cell?; rw [hb1]; rfl
  have q3 : w1.cell? ⟨w.heap.size, 3, none⟩ = some (.int .i64 (nt : Int)) := by unfold World.cell?; rw [hb1]; rfl
  have q4 : w1.cell? ⟨w.heap.size, 4, none⟩ = some (.int .i64 quo) := by unfold World.cell?; rw [hb1]; rfl
  have n1 : w1.heap.size ≠ w.heap.size := by omega
  have n2 : w1.heap.size + 1 ≠ w.heap.size := by omega
  have n3 : w1.heap.size + 2 ≠ w.heap.size := by omega
  have n4 : w.heap.size ≠ w1.heap.size + 2 := by omega
  have n5 : w.heap.size ≠ w1.heap.size + 1 := by omega
  have n6 : w.heap.size ≠ w1.heap.size := by omega
  have n7 : w1.heap.size + 1 + 1 ≠ w.heap.size := by omega
  have hk1 : ∀ x f, (w1.alloc x).cell? ⟨w.heap.size, f, none⟩ = w1.cell? ⟨w.heap.size, f, none⟩ := fun x f => World.cell?_alloc_lt _ _ _ (by show w.heap.size < _; omega)
  have hk2 : ∀ x y f, ((w1.alloc x).alloc y).cell? ⟨w.heap.size, f, none⟩ = w1.cell? ⟨w.heap.size, f, none⟩ := fun x y f => by rw [World.cell?_alloc_lt _ _ _ (by show w.heap.size < _; simp; omega)]; exact hk1 x f
  have hk3 : ∀ x y z f, (((w1.alloc x).alloc y).alloc z).cell? ⟨w.heap.size, f, none⟩ = w1.cell? ⟨w.heap.size, f, none⟩ := fun x y z f => by rw [World.cell?_alloc_lt _ _ _ (by show w.heap.size < _; simp; omega)]; exact hk2 x y f
  have HB1 := hide hb1
  clear hw1 hb1 hs1
  go_region_held3 (fun w' => w'.cell? ⟨w.heap.size, 0, none⟩ = some (.int .i64 (nk : Int)) ∧ w'.cell? ⟨w.heap.size, 1, none⟩ = some (.int .i64 cap) ∧ w'.cell? ⟨w.heap.size, 2, none⟩ = some (.int .i64 res) ∧ w'.cell? ⟨w.heap.size, 3, none⟩ = some (.int .i64 (nt : Int)) ∧ w'.cell? ⟨w.heap.size, 4, none⟩ = some (.int .i64 quo)) (go_keep) (fail)
  · obtain ⟨W, hW⟩ : ∃ W, W = (((w1.alloc (.cells (madeCells #[.bool false] nt) 4)).alloc (.cells (madeCells #[.int .i64 0] nk) 3)).alloc (.cells #[.int .i64 (nk : Int), .int .i64 cap, .int .i64 res, .int .i64 (nt : Int), .int .i64 quo, .slice none 0 0, .slice (some ⟨w1.heap.size, 0, none⟩) nt nt, .slice (some ⟨w1.heap.size + 1, 0, none⟩) nk nk] 66)).drew := ⟨_, rfl⟩
    rw [← hW]
    obtain ⟨t0, t1, t2⟩ := three_alloc w1 (.cells (madeCells #[.bool false] nt) 4) (.cells (madeCells #[.int .i64 0] nk) 3) (.cells #[.int .i64 (nk : Int), .int .i64 cap, .int .i64 res, .int .i64 (nt : Int), .int .i64 quo, .slice none 0 0, .slice (some ⟨w1.heap.size, 0, none⟩) nt nt, .slice (some ⟨w1.heap.size + 1, 0, none⟩) nk nk] 66)
    have hbk := begin_mk (by omega) (by omega) (W := (((w1.alloc (.cells (madeCells #[.bool false] nt) 4)).alloc (.cells (madeCells #[.int .i64 0] nk) 3)).alloc (.cells #[.int .i64 (nk : Int), .int .i64 cap, .int .i64 res, .int .i64 (nt : Int), .int .i64 quo, .slice none 0 0, .slice (some ⟨w1.heap.size, 0, none⟩) nt nt, .slice (some ⟨w1.heap.size + 1, 0, none⟩) nk nk] 66)).drew) t2 t0 t1
    rw [← hW] at hbk
    have hcW : Chg (fun _ => False) w1 W := by rw [hW]; exact ((((Chg.refl _ w1).alloc _).alloc _).alloc _).drew
    have HBK := hide hbk
    have HCW := hide hcW
    clear t0 t1 t2 hW hbk hcW q0 q1 q2 q3 q4 hmk1 hmk2 hk1 hk2 hk3 n1 n2 n3 n4 n5 n6 n7
    go_wp2
    go_loopw [4] (fun y wr => ∃ k : Nat, k ≤ nk ∧ y = .int .i64 k ∧ BookAt wr (w1.heap.size + 1 + 1) ⟨.slice none 0 0, .slice (some ⟨w1.heap.size, 0, none⟩) nt nt, .slice (some ⟨w1.heap.size + 1, 0, none⟩) nk nk⟩ ⟨⟨nk, cap, res, nt, quo⟩, [], List.replicate nt false, fillU nk k cap⟩ ∧ Chg (fun _ => False) w1 wr) (fun y _ => nk - (intOf y).toNat)
    case atStart => exact ⟨0, by omega, rfl, HBK.out, HCW.out⟩
    case round =>
      clear HBK HCW
      obtain ⟨k, hk, rfl, hbk, hch⟩ := hrel
      have hbr := (hch.block _ (by have := HS1.out; omega) (fun h => h)).trans HB1.out
      have q0 : wr.cell? ⟨w.heap.size, 0, none⟩ = some (.int .i64 (nk : Int)) := by unfold World.cell?; rw [hbr]; rfl
      have q1 : wr.cell? ⟨w.heap.size, 1, none⟩ = some (.int .i64 cap) := by unfold World.cell?; rw [hbr]; rfl
      have HBK := hide hbk
      have HCH := hide hch
      by_cases hlt : k < nk
      · have hul : k < (fillU nk k cap).length := by simp [fillU]; exact hlt
        obtain ⟨g, gc, hv, hown, hgl, hcl, hfr⟩ := hbk.unitCell (i := k) hul
        have hgg : w1.heap.size + 1 = g := by simpa [Value.ownBlock] using hown
        subst hgg
        have c7 : wr.cell? ⟨w1.heap.size + 1 + 1, 7, none⟩ = some (.slice (some ⟨w1.heap.size + 1, 0, none⟩) nk nk) := hbk.cell 7
        have HN := hide (show BookAt _ _ _ _ from hbk.setUnit (u := cap) hul hown)
        have k0 : (0 : Int) ≤ (k : Int) := by omega
        have k1 : (k : Int) < (nk : Int) := by omega
        have ne1 : w1.heap.size + 1 ≠ w.heap.size := by have := HS1.out; omega
        have ne2 : w1.heap.size + 1 ≠ w1.heap.size + 1 + 1 := by omega
        clear hbk hch hbr hv hown
        go_wp2
        go_region_held3 (fun w' => w'.cell? ⟨w.heap.size, 1, none⟩ = some (.int .i64 cap) ∧ w'.cell? ⟨w1.heap.size + 1 + 1, 7, none⟩ = some (.slice (some ⟨w1.heap.size + 1, 0, none⟩) nk nk)) (go_keep) (fail)
        all_goals
          go_wp2
          go_roundw
          case rel => first | exact ⟨k + 1, by omega, by go_num, by rw [← fillU_succ nk k cap hlt]; exact HN.out, HCH.out.setCell (.inr (by dsimp only; omega)) _⟩ | exact ⟨k + 1, by omega, by go_num, by rw [← fillU_succ nk k cap hlt]; exact HN.out.chg0 ((Chg.refl _ _).drew), (HCH.out.setCell (.inr (by dsimp only; omega)) _).drew⟩
          case measure => simp [intOf]; omega
      · have hkn : k = nk := by omega
        have HK := hide hkn
        clear hbk hch hbr hkn
        go_wp2
        go_ret
        have hfb := HBK.out
        rw [HK.out, fillU_all] at hfb
        refine ⟨w1.heap.size + 1 + 1, ⟨.slice none 0 0, .slice (some ⟨w1.heap.size, 0, none⟩) nt nt, .slice (some ⟨w1.heap.size + 1, 0, none⟩) nk nk⟩, rfl, ?_, HC1.out.trans HCH.out (fun _ _ h => h), fun x hx => ?_⟩
        · unfold startB
          simp only [Int.toNat_natCast]
          exact hfb
        · have := HS1.out
          rcases hx with h | h | h | h
          · omega
          · simp [Value.ownBlock] at h
          · simp [Value.ownBlock] at h; omega
          · simp [Value.ownBlock] at h; omega
  · obtain ⟨W, hW⟩ : ∃ W, W = (((w1.alloc (.cells (madeCells #[.int .i64 0] nk) 3)).alloc (.cells (madeCells #[.bool false] nt) 4)).alloc (.cells #[.int .i64 (nk : Int), .int .i64 cap, .int .i64 res, .int .i64 (nt : Int), .int .i64 quo, .slice none 0 0, .slice (some ⟨w1.heap.size + 1, 0, none⟩) nt nt, .slice (some ⟨w1.heap.size, 0, none⟩) nk nk] 66)).drew := ⟨_, rfl⟩
    rw [← hW]
    obtain ⟨t0, t1, t2⟩ := three_alloc w1 (.cells (madeCells #[.int .i64 0] nk) 3) (.cells (madeCells #[.bool false] nt) 4) (.cells #[.int .i64 (nk : Int), .int .i64 cap, .int .i64 res, .int .i64 (nt : Int), .int .i64 quo, .slice none 0 0, .slice (some ⟨w1.heap.size + 1, 0, none⟩) nt nt, .slice (some ⟨w1.heap.size, 0, none⟩) nk nk] 66)
    have hbk := begin_mk (by omega) (by omega) (W := (((w1.alloc (.cells (madeCells #[.int .i64 0] nk) 3)).alloc (.cells (madeCells #[.bool false] nt) 4)).alloc (.cells #[.int .i64 (nk : Int), .int .i64 cap, .int .i64 res, .int .i64 (nt : Int), .int .i64 quo, .slice none 0 0, .slice (some ⟨w1.heap.size + 1, 0, none⟩) nt nt, .slice (some ⟨w1.heap.size, 0, none⟩) nk nk] 66)).drew) t2 t1 t0
    rw [← hW] at hbk
    have hcW : Chg (fun _ => False) w1 W := by rw [hW]; exact ((((Chg.refl _ w1).alloc _).alloc _).alloc _).drew
    have HBK := hide hbk
    have HCW := hide hcW
    clear t0 t1 t2 hW hbk hcW q0 q1 q2 q3 q4 hmk1 hmk2 hk1 hk2 hk3 n1 n2 n3 n4 n5 n6 n7
    go_wp2
    go_loopw [4] (fun y wr => ∃ k : Nat, k ≤ nk ∧ y = .int .i64 k ∧ BookAt wr (w1.heap.size + 1 + 1) ⟨.slice none 0 0, .slice (some ⟨w1.heap.size + 1, 0, none⟩) nt nt, .slice (some ⟨w1.heap.size, 0, none⟩) nk nk⟩ ⟨⟨nk, cap, res, nt, quo⟩, [], List.replicate nt false, fillU nk k cap⟩ ∧ Chg (fun _ => False) w1 wr) (fun y _ => nk - (intOf y).toNat)
    case atStart => exact ⟨0, by omega, rfl, HBK.out, HCW.out⟩
    case round =>
      clear HBK HCW
      obtain ⟨k, hk, rfl, hbk, hch⟩ := hrel
      have hbr := (hch.block _ (by have := HS1.out; omega) (fun h => h)).trans HB1.out
      have q0 : wr.cell? ⟨w.heap.size, 0, none⟩ = some (.int .i64 (nk : Int)) := by unfold World.cell?; rw [hbr]; rfl
      have q1 : wr.cell? ⟨w.heap.size, 1, none⟩ = some (.int .i64 cap) := by unfold World.cell?; rw [hbr]; rfl
      have HBK := hide hbk
      have HCH := hide hch
      by_cases hlt : k < nk
      · have hul : k < (fillU nk k cap).length := by simp [fillU]; exact hlt
        obtain ⟨g, gc, hv, hown, hgl, hcl, hfr⟩ := hbk.unitCell (i := k) hul
        have hgg : w1.heap.size = g := by simpa [Value.ownBlock] using hown
        subst hgg
        have c7 : wr.cell? ⟨w1.heap.size + 1 + 1, 7, none⟩ = some (.slice (some ⟨w1.heap.size, 0, none⟩) nk nk) := hbk.cell 7
        have HN := hide (show BookAt _ _ _ _ from hbk.setUnit (u := cap) hul hown)
        have k0 : (0 : Int) ≤ (k : Int) := by omega
        have k1 : (k : Int) < (nk : Int) := by omega
        have ne1 : w1.heap.size ≠ w.heap.size := by have := HS1.out; omega
        have ne2 : w1.heap.size ≠ w1.heap.size + 1 + 1 := by omega
        clear hbk hch hbr hv hown
        go_wp2
        go_region_held3 (fun w' => w'.cell? ⟨w.heap.size, 1, none⟩ = some (.int .i64 cap) ∧ w'.cell? ⟨w1.heap.size + 1 + 1, 7, none⟩ = some (.slice (some ⟨w1.heap.size, 0, none⟩) nk nk)) (go_keep) (fail)
        all_goals
          go_wp2
          go_roundw
          case rel => first | exact ⟨k + 1, by omega, by go_num, by rw [← fillU_succ nk k cap hlt]; exact HN.out, HCH.out.setCell (.inr (by dsimp only; omega)) _⟩ | exact ⟨k + 1, by omega, by go_num, by rw [← fillU_succ nk k cap hlt]; exact HN.out.chg0 ((Chg.refl _ _).drew), (HCH.out.setCell (.inr (by dsimp only; omega)) _).drew⟩
          case measure => simp [intOf]; omega
      · have hkn : k = nk := by omega
        have HK := hide hkn
        clear hbk hch hbr hkn
        go_wp2
        go_ret
        have hfb := HBK.out
        rw [HK.out, fillU_all] at hfb
        refine ⟨w1.heap.size + 1 + 1, ⟨.slice none 0 0, .slice (some ⟨w1.heap.size + 1, 0, none⟩) nt nt, .slice (some ⟨w1.heap.size, 0, none⟩) nk nk⟩, rfl, ?_, HC1.out.trans HCH.out (fun _ _ h => h), fun x hx => ?_⟩
        · unfold startB
          simp only [Int.toNat_natCast]
          exact hfb
        · have := HS1.out
          rcases hx with h | h | h | h
          · omega
          · simp [Value.ownBlock] at h
          · simp [Value.ownBlock] at h; omega
          · simp [Value.ownBlock] at h; omega
end Go.Proofs.Ytminceigjejipaa
