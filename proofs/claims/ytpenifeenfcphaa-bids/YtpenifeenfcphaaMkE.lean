import Derived.Test.YtpenifeenfcphaaMkD
namespace Go.Proofs.Ytpenifeenfcphaa
open Go.RowKit

/-- one bid more -/
theorem MktAt.bidMore {w w1 w2 : World} {p : Nat} {V : MV} {m : MkG} {b : BidG} {g cap : Nat} (h : MktAt w p V m) (hc1 : Chg (fun _ => False) w w1)
    (hown : w2.ownsRow 0 123 12 (.slice (some ⟨g, 0, none⟩) (m.bids.length + 1) cap) (m.bids.length + 1) (m.bids.flatMap bidCells ++ bidCells b)) (hgrow : w1.grownBy w2 V.bv.ownBlock) (hat : V.bv.ownBlock = some g ∨ w.heap.size ≤ g) :
    w2.cell? ⟨p, 7, none⟩ = some V.bv ∧ w2.frozen? ⟨p, 7, none⟩ = false ∧ MktTo w p V { m with bids := m.bids ++ [b] } (w2.setCell ⟨p, 7, none⟩ (.slice (some ⟨g, 0, none⟩) (m.bids.length + 1) cap)) := by
  have h1 := h.chg0 hc1
  have nl : V.bv.ownBlock ≠ some p := ownsRow_box h1.bids h1.box (by decide)
  have keep : ∀ k, V.foot p k → V.bv.ownBlock ≠ some k → w2.heap[k]? = w1.heap[k]? := fun k hk hn => hgrow.block k (h1.foot_lt k hk) (fun e => hn e.symm)
  have hb2 : w2.heap[p]? = some (.cells (mktBox V m) 98 (0, 0)) := (keep p (.inl rfl) nl).trans h1.box
  refine ⟨by unfold World.cell?; rw [hb2]; rfl, by unfold World.frozen?; rw [hb2]; simp, ?_⟩
  have far : ∀ k, k ≠ p → (w2.setCell ⟨p, 7, none⟩ (.slice (some ⟨g, 0, none⟩) (m.bids.length + 1) cap)).heap[k]? = w2.heap[k]? := fun k hk => Below.heap_setCell _ _ _ _ hk
  have ex : (mktBox V m).setIfInBounds 7 (.slice (some ⟨g, 0, none⟩) (m.bids.length + 1) cap) = mktBox { V with bv := .slice (some ⟨g, 0, none⟩) (m.bids.length + 1) cap } { m with bids := m.bids ++ [b] } := rfl
  have hgp : g ≠ p := by
    rintro rfl
    obtain ⟨cu, hc⟩ := ownsRow_block hown (k := g) rfl
    rw [hb2] at hc
    simp at hc
  have old : ∀ {e : TypeId} {size n : Nat} {v : Value} {xs : List Value}, w1.ownsRow 0 e size v n xs → e ≠ 123 → e ≠ 98 → (∀ k, v.ownBlock = some k → V.foot p k) → (w2.setCell ⟨p, 7, none⟩ (.slice (some ⟨g, 0, none⟩) (m.bids.length + 1) cap)).ownsRow 0 e size v n xs := by
    intro e size n v xs ho he he' hf
    refine ownsRow_keep ho (fun k hk => ?_)
    rw [far k (fun e => ownsRow_box ho h1.box he' (e ▸ hk))]
    exact keep k (hf k hk) (ownsRow_apart ho h1.bids he hk)
  refine ⟨{ V with bv := .slice (some ⟨g, 0, none⟩) (m.bids.length + 1) cap }, ⟨by rw [box_set hb2, ex], old h1.units (by decide) (by decide) (fun k hk => .inr (.inl hk)), ?_, old h1.susp (by decide) (by decide) (fun k hk => .inr (.inr (.inr (.inl hk)))), old h1.log (by decide) (by decide) (fun k hk => .inr (.inr (.inr (.inr (.inl hk))))),
    old h1.paid (by decide) (by decide) (fun k hk => .inr (.inr (.inr (.inr (.inr (.inl hk)))))), old h1.charges (by decide) (by decide) (fun k hk => .inr (.inr (.inr (.inr (.inr (.inr hk)))))), h.ne⟩, ?_, ?_⟩
  · show (w2.setCell _ _).ownsRow 0 _ 12 _ (m.bids ++ [b]).length ((m.bids ++ [b]).flatMap bidCells)
    rw [List.length_append, List.flatMap_append]
    simp only [List.flatMap_cons, List.flatMap_nil, List.append_nil, List.length_cons, List.length_nil, Nat.zero_add]
    exact ownsRow_keep hown (fun k hk => far k (fun e => by simp [Value.ownBlock] at hk; exact hgp (hk.trans e)))
  · exact (((hc1.mono (O' := V.foot p) (fun _ _ h => h.elim)).grown hgrow (fun k hk => .inl (.inr (.inr (.inl hk)))))).setCell (.inl (.inl rfl)) _
  · intro k hk
    rcases hk with rfl | hk | hk | hk | hk | hk | hk
    · exact .inl (.inl rfl)
    · exact .inl (.inr (.inl hk))
    · simp [Value.ownBlock] at hk
      subst hk
      rcases hat with h | h
      · exact .inl (.inr (.inr (.inl h)))
      · exact .inr h
    · exact .inl (.inr (.inr (.inr (.inl hk))))
    · exact .inl (.inr (.inr (.inr (.inr (.inl hk)))))
    · exact .inl (.inr (.inr (.inr (.inr (.inr (.inl hk))))))
    · exact .inl (.inr (.inr (.inr (.inr (.inr (.inr hk))))))

theorem bids_arm {w w1 w2 : World} {p : Nat} {V : MV} {m : MkG} {b : BidG} {ao : Option Addr} {cap n g cap' H : Nat} (h : MktAt w p V m) (hv : V.bv = .slice ao m.bids.length cap) (hn : n = m.bids.length) (hc1 : Chg (fun _ => False) w w1)
    (hown : w2.ownsRow 0 123 12 (.slice (some ⟨g, 0, none⟩) (n + 1) cap') (n + 1) (m.bids.flatMap bidCells ++ bidCells b)) (hgrow : w1.grownBy w2 (Value.ownBlock (.slice ao n cap))) (hat : Value.ownBlock (.slice ao n cap) = some g ∨ g = H) (hH : w.heap.size ≤ H) :
    w2.cell? ⟨p, 7, none⟩ = some (.slice ao n cap) ∧ w2.frozen? ⟨p, 7, none⟩ = false ∧ Hid (MktTo w p V { m with bids := m.bids ++ [b] } (w2.setCell ⟨p, 7, none⟩ (.slice (some ⟨g, 0, none⟩) (n + 1) cap'))) := by
  subst hn
  rw [← hv] at hgrow hat ⊢
  exact h.bidMore hc1 hown hgrow (by rcases hat with h | h; exact .inl h; exact .inr (by omega))

/-- a bid's state, written -/
theorem MktAt.setState {w : World} {p : Nat} {V : MV} {m : MkG} {i g : Nat} {b : BidG} {s : Int} (h : MktAt w p V m) (hb : m.bids[i]? = some b) (hg : V.bv.ownBlock = some g) :
    MktTo w p V { m with bids := m.bids.set i { b with state := s } } (w.setCell ⟨g, i * 12 + 8, none⟩ (.int .i64 s)) := by
  have hil : i < m.bids.length := (List.getElem?_eq_some_iff.1 hb).1
  have hgp : g ≠ p := fun e => ownsRow_box h.bids h.box (by decide) (e ▸ hg)
  have far : ∀ k, k ≠ g → (w.setCell ⟨g, i * 12 + 8, none⟩ (.int .i64 s)).heap[k]? = w.heap[k]? := fun k hk => Below.heap_setCell _ _ _ _ hk
  have old : ∀ {e : TypeId} {size n : Nat} {v : Value} {xs : List Value}, w.ownsRow 0 e size v n xs → e ≠ 123 → (w.setCell ⟨g, i * 12 + 8, none⟩ (.int .i64 s)).ownsRow 0 e size v n xs := by
    intro e size n v xs ho he
    exact ownsRow_keep ho (fun k hk => far k (fun e => ownsRow_apart ho h.bids he hk (e ▸ hg)))
  refine ⟨V, ⟨(far p (Ne.symm hgp)).trans h.box, old h.units (by decide), ?_, old h.susp (by decide), old h.log (by decide), old h.paid (by decide), old h.charges (by decide), h.ne⟩, ?_, fun k hk => .inl hk⟩
  · show (w.setCell _ _).ownsRow 0 _ 12 _ (m.bids.set i { b with state := s }).length ((m.bids.set i { b with state := s }).flatMap bidCells)
    rw [List.length_set]
    have key : ∀ (l : List BidG) (i : Nat) (b : BidG), l[i]? = some b → (l.set i { b with state := s }).flatMap bidCells = (l.flatMap bidCells).set (i * 12 + 8) (.int .i64 s) := by
      intro l
      induction l with
      | nil => intro i b hb; simp at hb
      | cons y l ih =>
        intro i b hb
        cases i with
        | zero =>
          simp at hb
          subst hb
          simp [bidCells]
        | succ i =>
          simp only [List.getElem?_cons_succ] at hb
          simp only [List.set_cons_succ, List.flatMap_cons, ih i b hb]
          rw [show (i + 1) * 12 + 8 = (bidCells y).length + (i * 12 + 8) by simp [bidCells]; omega]
          rw [List.set_append_right _ _ (by omega)]
          simp
    rw [key m.bids i b hb]
    rcases h.bids.2 with ⟨hv, h0⟩ | ⟨g', cap, cur, hv, hb0, hh, hc, hmx, hsz, htake⟩
    · omega
    · have hgg : g' = g := by rw [hv] at hg; simpa [Value.ownBlock] using hg
      subst hgg
      refine ⟨by simp [h.bids.1], .inr ⟨g', cap, cur.setIfInBounds (i * 12 + 8) (.int .i64 s), hv, hb0, box_set hh _, hc, hmx, by simpa using hsz, ?_⟩⟩
      rw [Array.toList_setIfInBounds, List.take_set, htake]
  · exact (Chg.refl _ _).setCell (.inl (.inr (.inr (.inl hg)))) _

/-- a tenant's mark, written -/
theorem MktAt.setSusp {w : World} {p : Nat} {V : MV} {m : MkG} {i g : Nat} {s : Bool} (h : MktAt w p V m) (hi : i < m.susp.length) (hg : V.sv.ownBlock = some g) :
    MktTo w p V { m with susp := m.susp.set i s } (w.setCell ⟨g, i, none⟩ (.bool s)) := by
  have hgp : g ≠ p := fun e => ownsRow_box h.susp h.box (by decide) (e ▸ hg)
  have far : ∀ k, k ≠ g → (w.setCell ⟨g, i, none⟩ (.bool s)).heap[k]? = w.heap[k]? := fun k hk => Below.heap_setCell _ _ _ _ hk
  have old : ∀ {e : TypeId} {size n : Nat} {v : Value} {xs : List Value}, w.ownsRow 0 e size v n xs → e ≠ 4 → (w.setCell ⟨g, i, none⟩ (.bool s)).ownsRow 0 e size v n xs := by
    intro e size n v xs ho he
    exact ownsRow_keep ho (fun k hk => far k (fun e => ownsRow_apart ho h.susp he hk (e ▸ hg)))
  refine ⟨V, ⟨(far p (Ne.symm hgp)).trans h.box, old h.units (by decide), old h.bids (by decide), ?_, old h.log (by decide), old h.paid (by decide), old h.charges (by decide), h.ne⟩, ?_, fun k hk => .inl hk⟩
  · show (w.setCell _ _).ownsRow 0 _ 1 _ (m.susp.set i s).length ((m.susp.set i s).map Value.bool)
    rw [List.length_set, List.map_set]
    rcases h.susp.2 with ⟨hv, h0⟩ | ⟨g', cap, cur, hv, hb0, hh, hc, hmx, hsz, htake⟩
    · omega
    · have hgg : g' = g := by rw [hv] at hg; simpa [Value.ownBlock] using hg
      subst hgg
      refine ⟨by simp, .inr ⟨g', cap, cur.setIfInBounds i (.bool s), hv, hb0, box_set hh _, hc, hmx, by simpa using hsz, ?_⟩⟩
      rw [Array.toList_setIfInBounds, List.take_set, htake]
  · exact (Chg.refl _ _).setCell (.inl (.inr (.inr (.inr (.inl hg))))) _
end Go.Proofs.Ytpenifeenfcphaa
