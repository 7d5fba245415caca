import Derived.Test.YtminceigjejipaaGreatStepR
import Derived.Test.YtminceigjejipaaGreatPlays
import Derived.Test.YtminceigjejipaaGreatLooks
import Derived.Test.YtminceigjejipaaGreatOpen
namespace Go.Proofs.YtminceigjejipaaGreat
open Go.RowKit

/-- a pair of rows, as it lies in memory -/
structure PairG where
  pc : Nat
  gc : Nat
  pr : Nat
  gr : Nat
  n : Nat
  cc : Nat
  cr : Nat
  Z : Nat → Int

def PairG.at (g : PairG) (w : World) : Prop := PairAt w g.pc g.gc g.pr g.gr g.n g.cc g.cr g.Z
def PairG.within (g : PairG) (B N : Nat) : Prop := (B ≤ g.pc ∧ g.pc < N) ∧ (B ≤ g.gc ∧ g.gc < N) ∧ (B ≤ g.pr ∧ g.pr < N) ∧ B ≤ g.gr ∧ g.gr < N
def PairG.off (g h : PairG) : Prop := g.gc ≠ h.gc ∧ g.gc ≠ h.gr ∧ g.gr ≠ h.gc ∧ g.gr ≠ h.gr

def ptrs : List PairG → List Value
  | [] => []
  | g :: r => .pointer (some ⟨g.pc, 0, none⟩) :: .pointer (some ⟨g.pr, 0, none⟩) :: ptrs r

theorem ptrs_append (a b : List PairG) : ptrs (a ++ b) = ptrs a ++ ptrs b := by
  induction a with
  | nil => rfl
  | cons g r ih => simp [ptrs, ih]
theorem ptrs_get0 : ∀ (ps : List PairG) (j : Nat) (g : PairG), ps[j]? = some g → (ptrs ps)[j * 2]? = some (.pointer (some ⟨g.pc, 0, none⟩))
  | [], j, g, h => by simp at h
  | x :: r, 0, g, h => by simp at h; subst h; rfl
  | x :: r, j + 1, g, h => by
    rw [show (j + 1) * 2 = j * 2 + 1 + 1 by omega]
    simp only [ptrs, List.getElem?_cons_succ] at h ⊢
    exact ptrs_get0 r j g h
theorem ptrs_get1 : ∀ (ps : List PairG) (j : Nat) (g : PairG), ps[j]? = some g → (ptrs ps)[j * 2 + 1]? = some (.pointer (some ⟨g.pr, 0, none⟩))
  | [], j, g, h => by simp at h
  | x :: r, 0, g, h => by simp at h; subst h; rfl
  | x :: r, j + 1, g, h => by
    rw [show (j + 1) * 2 + 1 = j * 2 + 1 + 1 + 1 by omega]
    simp only [ptrs, List.getElem?_cons_succ] at h ⊢
    exact ptrs_get1 r j g h
theorem ptrs_set : ∀ (ps : List PairG) (j : Nat) (g h : PairG), ps[j]? = some g → h.pc = g.pc → h.pr = g.pr → ptrs (ps.set j h) = ptrs ps
  | [], j, g, h, e, _, _ => by simp at e
  | x :: r, 0, g, h, e, e1, e2 => by simp at e; subst e; simp [ptrs, e1, e2]
  | x :: r, j + 1, g, h, e, e1, e2 => by
    simp only [List.getElem?_cons_succ] at e
    simp only [List.set_cons_succ, ptrs, ptrs_set r j g h e e1 e2]

theorem ownsRow_of_block {w w' : World} {base : Nat} {e : TypeId} {size : Nat} {v : Value} {n : Nat} {xs : List Value} (h : w.ownsRow base e size v n xs) (hb : ∀ k, v.ownBlock = some k → w'.heap[k]? = w.heap[k]?) : w'.ownsRow base e size v n xs := by
  refine ⟨h.1, ?_⟩
  rcases h.2 with h2 | ⟨g, cap, cur, hv, hg, hh, r⟩
  · exact .inl h2
  · exact .inr ⟨g, cap, cur, hv, hg, by rw [hb g (by rw [hv]; rfl)]; exact hh, r⟩

structure RowsAt (B N : Nat) (ca : Option Addr) (cl cc : Nat) (v2 v3 v4 : Value) (ra : Option Addr) (rc : Nat) (ps : List PairG) (w : World) : Prop where
  box : BoxAt w B (.slice ca cl cc) (.slice ra ps.length rc) v2 v3 v4
  own : w.ownsRow (B + 1) 46 2 (.slice ra ps.length rc) ps.length (ptrs ps)
  lt : ∀ k, Value.ownBlock (.slice ra ps.length rc) = some k → k < N
  bn : B < N
  nw : N ≤ w.heap.size
  at' : ∀ (i : Nat) g, ps[i]? = some g → g.at w ∧ g.within B N
  off : ∀ (i j : Nat) g h, ps[i]? = some g → ps[j]? = some h → i ≠ j → g.off h

/-- the blocks of the rows -/
def rwFoot (ra : Option Addr) (rc : Nat) (ps : List PairG) (k : Nat) : Prop := Value.ownBlock (.slice ra ps.length rc) = some k ∨ ∃ (i : Nat) (g : PairG), ps[i]? = some g ∧ (k = g.pc ∨ k = g.gc ∨ k = g.pr ∨ k = g.gr)

section
variable {B N : Nat} {ca : Option Addr} {cl cc : Nat} {v2 v3 v4 : Value} {ra : Option Addr} {rc : Nat} {ps : List PairG} {w w' : World}
theorem RowsAt.frame (h : RowsAt B N ca cl cc v2 v3 v4 ra rc ps w) (hc : ∀ k, B ≤ k → k < N → w'.heap[k]? = w.heap[k]?) (hs : w.heap.size ≤ w'.heap.size) : RowsAt B N ca cl cc v2 v3 v4 ra rc ps w' := by
  refine ⟨(hc B (Nat.le_refl _) h.bn).trans h.box, ownsRow_of_block h.own (fun k hk => hc k (by have := (h.own.lt k hk).1; omega) (h.lt k hk)), h.lt, h.bn, Nat.le_trans h.nw hs, fun i g hg => ?_, h.off⟩
  obtain ⟨h1, h2, h3, h4, h5⟩ := h.at' i g hg
  exact ⟨PairAt.frame h1 (hc _ h2.1 h2.2) (hc _ h3.1 h3.2) (hc _ h4.1 h4.2) (hc _ h5.1 h5.2), h2, h3, h4, h5⟩
theorem RowsAt.more (h : RowsAt B N ca cl cc v2 v3 v4 ra rc ps w) {M : Nat} (h1 : N ≤ M) (h2 : M ≤ w.heap.size) : RowsAt B M ca cl cc v2 v3 v4 ra rc ps w := by
  refine ⟨h.box, h.own, fun k hk => Nat.lt_of_lt_of_le (h.lt k hk) h1, Nat.lt_of_lt_of_le h.bn h1, h2, fun i g hg => ?_, h.off⟩
  obtain ⟨a1, a2, a3, a4, a5⟩ := h.at' i g hg
  exact ⟨a1, ⟨a2.1, by omega⟩, ⟨a3.1, by omega⟩, ⟨a4.1, by omega⟩, a5.1, by omega⟩
/-- the blocks of other types than an int's row -/
theorem RowsAt.nob (h : RowsAt B N ca cl cc v2 v3 v4 ra rc ps w) (i : Nat) (g : PairG) (hg : ps[i]? = some g) : (B ≠ g.gc ∧ B ≠ g.gr) ∧ ∀ k, Value.ownBlock (.slice ra ps.length rc) = some k → k ≠ g.gc ∧ k ≠ g.gr := by
  obtain ⟨hat, _⟩ := h.at' i g hg
  obtain ⟨cur, c1, _⟩ := hat.c.hg
  obtain ⟨cur', c1', _⟩ := hat.r.hg
  have hb := h.box
  unfold BoxAt at hb
  refine ⟨⟨?_, ?_⟩, fun k hk => ?_⟩
  · intro e
    rw [e, c1] at hb
    simp at hb
  · intro e
    rw [e, c1'] at hb
    simp at hb
  · rcases h.own.2 with ⟨hv, _⟩ | ⟨x, cap, cu, hv, _, hh, _⟩
    · rw [hv] at hk
      simp [Value.ownBlock] at hk
    · rw [hv] at hk
      simp [Value.ownBlock] at hk
      subst hk
      refine ⟨?_, ?_⟩
      · intro e
        rw [e, c1] at hh
        simp at hh
      · intro e
        rw [e, c1'] at hh
        simp at hh
/-- a call on row j -/
theorem RowsAt.turned (h : RowsAt B N ca cl cc v2 v3 v4 ra rc ps w) (j : Nat) (g : PairG) (hg : ps[j]? = some g) (Z' : Nat → Int) (hp : PairAt w' g.pc g.gc g.pr g.gr g.n g.cc g.cr Z') (hc : Chg (fun k => k = g.gc ∨ k = g.gr) w w') :
    ∃ ps', ps'.length = ps.length ∧ RowsAt B N ca cl cc v2 v3 v4 ra rc ps' w' ∧ ∀ k, rwFoot ra rc ps' k → rwFoot ra rc ps k := by
  have hnob := h.nob j g hg
  have hlen : (ps.set j { g with Z := Z' }).length = ps.length := by simp
  have hjl : j < ps.length := (List.getElem?_eq_some_iff.1 hg).1
  have get : ∀ (i : Nat) x, (ps.set j { g with Z := Z' })[i]? = some x → (i = j ∧ x = { g with Z := Z' }) ∨ (i ≠ j ∧ ps[i]? = some x) := fun i x hx => by
    rw [List.getElem?_set] at hx
    by_cases e : j = i
    · subst e
      simp [hjl] at hx
      exact .inl ⟨rfl, hx.symm⟩
    · rw [if_neg e] at hx
      exact .inr ⟨fun x => e x.symm, hx⟩
  refine ⟨ps.set j { g with Z := Z' }, hlen, ⟨?_, ?_, ?_, h.bn, Nat.le_trans h.nw hc.size, ?_, ?_⟩, fun k hk => ?_⟩
  · rw [hlen]
    exact h.box.chg hc (fun e => by rcases e with e | e; exact hnob.1.1 e; exact hnob.1.2 e)
  · rw [hlen, ptrs_set ps j g { g with Z := Z' } hg rfl rfl]
    exact ownsRow_of_block h.own (fun k hk => hc.block k ((h.own.lt k hk).2) (fun e => by rcases e with e | e; exact (hnob.2 k hk).1 e; exact (hnob.2 k hk).2 e))
  · rw [hlen]
    exact h.lt
  · intro i x hx
    rcases get i x hx with ⟨rfl, rfl⟩ | ⟨hij, hx⟩
    · exact ⟨hp, (h.at' i g hg).2⟩
    · obtain ⟨a1, a2⟩ := h.at' i x hx
      obtain ⟨o1, o2, o3, o4⟩ := h.off i j x g hx hg hij
      obtain ⟨b1, _⟩ := h.at' j g hg
      have e1 := a1.c.apart b1.r (by decide) (by decide) (by decide)
      have e2 := b1.c.apart a1.r (by decide) (by decide) (by decide)
      have e3 := a1.c.hp
      have e4 := a1.r.hp
      obtain ⟨u, c1, _⟩ := b1.c.hg
      obtain ⟨u', c1', _⟩ := b1.r.hg
      refine ⟨PairAt.chg a1 hc ?_ ?_ ?_ ?_, a2⟩
      · rintro (e | e)
        · rw [e, c1] at e3
          simp at e3
        · exact e1.2.1 e
      · rintro (e | e)
        · exact o1 e
        · exact o2 e
      · rintro (e | e)
        · exact e2.2.2 e.symm
        · rw [e, c1'] at e4
          simp at e4
      · rintro (e | e)
        · exact o3 e
        · exact o4 e
  · intro i i' x y hx hy hne
    rcases get i x hx with ⟨rfl, rfl⟩ | ⟨hij, hx2⟩
    · rcases get i' y hy with ⟨rfl, rfl⟩ | ⟨hij', hy⟩
      · exact absurd rfl hne
      · exact h.off i i' g y hg hy hne
    · rcases get i' y hy with ⟨rfl, rfl⟩ | ⟨hij', hy⟩
      · exact h.off i i' x g hx2 hg hne
      · exact h.off i i' x y hx2 hy hne
  · rcases hk with hk | ⟨i, x, hx, hk⟩
    · rw [hlen] at hk
      exact .inl hk
    · rcases get i x hx with ⟨rfl, rfl⟩ | ⟨_, hx⟩
      · exact .inr ⟨i, g, hg, hk⟩
      · exact .inr ⟨i, x, hx, hk⟩
/-- one row more -/
theorem RowsAt.added (h : RowsAt B N ca cl cc v2 v3 v4 ra rc ps w) {n : Nat} {v : Int} (hr : Rowed w B n ps.length v (.slice ca cl cc) (.slice ra ps.length rc) v2 v3 v4 (ptrs ps) w') :
    ∃ ra' rc' ps', ps'.length = ps.length + 1 ∧ RowsAt B w'.heap.size ca cl cc v2 v3 v4 ra' rc' ps' w' ∧ ∀ k, rwFoot ra' rc' ps' k → rwFoot ra rc ps k ∨ w.heap.size ≤ k := by
  obtain ⟨rv', p1, g1, p2, g2, c2, hbox, hown, hpair, l1, l2, l3, l4, hc, hat⟩ := hr
  have hrv : ∃ ra' rc', rv' = .slice ra' (ps.length + 1) rc' := by
    rcases hown.2 with ⟨_, h0⟩ | ⟨g, cap, cur, rfl, _⟩
    · omega
    · exact ⟨_, _, rfl⟩
  obtain ⟨ra', rc', rfl⟩ := hrv
  have hlen : (ps ++ [PairG.mk p1 g1 p2 g2 n n c2 (fun _ => v)]).length = ps.length + 1 := by simp
  have get : ∀ (i : Nat) x, (ps ++ [PairG.mk p1 g1 p2 g2 n n c2 (fun _ => v)])[i]? = some x → (i = ps.length ∧ x = PairG.mk p1 g1 p2 g2 n n c2 (fun _ => v)) ∨ (i < ps.length ∧ ps[i]? = some x) := fun i x hx => by
    rw [List.getElem?_append] at hx
    by_cases e : i < ps.length
    · rw [if_pos e] at hx
      exact .inr ⟨e, hx⟩
    · rw [if_neg e] at hx
      by_cases e2 : i = ps.length
      · subst e2
        simp at hx
        exact .inl ⟨rfl, hx.symm⟩
      · have : 1 ≤ i - ps.length := by omega
        rw [List.getElem?_eq_none (by simpa using this)] at hx
        cases hx
  have old : ∀ (i : Nat) x, ps[i]? = some x → x.at w' ∧ x.within B N := fun i x hx => by
    obtain ⟨a1, a2⟩ := h.at' i x hx
    have hn := h.nob i x hx
    have hap : ∀ k, (k = x.pc ∨ k = x.pr) → ¬ (k = B ∨ Value.ownBlock (.slice ra ps.length rc) = some k) := by
      intro k hk
      have hb := h.box
      unfold BoxAt at hb
      rintro (e | e)
      · rcases hk with hk | hk
        · have := a1.c.hp
          rw [← hk, e, hb] at this
          simp at this
        · have := a1.r.hp
          rw [← hk, e, hb] at this
          simp at this
      · rcases h.own.2 with ⟨hv, _⟩ | ⟨y, cap, cu, hv, _, hh, _⟩
        · rw [hv] at e
          simp [Value.ownBlock] at e
        · rw [hv] at e
          simp [Value.ownBlock] at e
          subst e
          rcases hk with hk | hk
          · have := a1.c.hp
            rw [← hk, hh] at this
            simp at this
          · have := a1.r.hp
            rw [← hk, hh] at this
            simp at this
    refine ⟨PairAt.chg a1 hc (hap _ (.inl rfl)) ?_ (hap _ (.inr rfl)) ?_, a2⟩
    · rintro (e | e)
      · exact hn.1.1 e.symm
      · exact (hn.2 _ e).1 rfl
    · rintro (e | e)
      · exact hn.1.2 e.symm
      · exact (hn.2 _ e).2 rfl
  have hsz := hc.size
  have hnw := h.nw
  have hbn := h.bn
  refine ⟨ra', rc', _, hlen, ⟨?_, ?_, ?_, hbox.lt, Nat.le_refl _, ?_, ?_⟩, fun k hk => ?_⟩
  · rw [hlen]; exact hbox
  · rw [hlen, ptrs_append]; exact hown
  · rw [hlen]; intro k hk; exact (hown.lt k hk).2
  · intro i x hx
    rcases get i x hx with ⟨rfl, rfl⟩ | ⟨hi, hx⟩
    · refine ⟨hpair, ?_⟩
      have q1 := hpair.c.ltp
      have q2 := hpair.c.ltg
      have q3 := hpair.r.ltp
      have q4 := hpair.r.ltg
      unfold PairG.within
      exact ⟨⟨by simp only; omega, q1⟩, ⟨by simp only; omega, q2⟩, ⟨by simp only; omega, q3⟩, by simp only; omega, q4⟩
    · obtain ⟨a1, a2, a3, a4, a5⟩ := old i x hx
      exact ⟨a1, ⟨a2.1, by omega⟩, ⟨a3.1, by omega⟩, ⟨a4.1, by omega⟩, a5.1, by omega⟩
  · intro i i' x y hx hy hne
    rcases get i x hx with ⟨rfl, rfl⟩ | ⟨hi, hx⟩
    · rcases get i' y hy with ⟨rfl, rfl⟩ | ⟨hi', hy⟩
      · exact absurd rfl hne
      · obtain ⟨_, a2, a3, a4, a5⟩ := old i' y hy
        unfold PairG.off
        exact ⟨by simp only; omega, by simp only; omega, by simp only; omega, by simp only; omega⟩
    · rcases get i' y hy with ⟨rfl, rfl⟩ | ⟨hi', hy⟩
      · obtain ⟨_, a2, a3, a4, a5⟩ := old i x hx
        unfold PairG.off
        exact ⟨by simp only; omega, by simp only; omega, by simp only; omega, by simp only; omega⟩
      · exact h.off i i' x y hx hy hne
  · rcases hk with hk | ⟨i, x, hx, hk⟩
    · rw [hlen] at hk
      rcases hat k hk with e | e
      · exact .inl (.inl e)
      · exact .inr e
    · rcases get i x hx with ⟨rfl, rfl⟩ | ⟨_, hx⟩
      · simp only at hk
        exact .inr (by omega)
      · exact .inl (.inr ⟨i, x, hx, hk⟩)
theorem RowsAt.foot_in (h : RowsAt B N ca cl cc v2 v3 v4 ra rc ps w) (k : Nat) (hk : rwFoot ra rc ps k) : B < k ∧ k < N := by
  have hb := h.box
  unfold BoxAt at hb
  rcases hk with hk | ⟨i, g, hg, hk⟩
  · have := (h.own.lt k hk).1
    exact ⟨by omega, h.lt k hk⟩
  · obtain ⟨a1, a2, a3, a4, a5⟩ := h.at' i g hg
    have nB : k ≠ B := by
      intro e
      rw [← e] at hb
      rcases hk with hk | hk | hk | hk
      · have := a1.c.hp
        rw [← hk, hb] at this
        simp at this
      · obtain ⟨cur, c1, _⟩ := a1.c.hg
        rw [← hk, hb] at c1
        simp at c1
      · have := a1.r.hp
        rw [← hk, hb] at this
        simp at this
      · obtain ⟨cur, c1, _⟩ := a1.r.hg
        rw [← hk, hb] at c1
        simp at c1
    rcases hk with hk | hk | hk | hk <;> omega
/-- the rest of the box, and blocks of others, have turned -/
theorem RowsAt.frameF {v2' v3' v4' : Value} {N' : Nat} (h : RowsAt B N ca cl cc v2 v3 v4 ra rc ps w) (hbox : BoxAt w' B (.slice ca cl cc) (.slice ra ps.length rc) v2' v3' v4') (hc : ∀ k, rwFoot ra rc ps k → w'.heap[k]? = w.heap[k]?) (h1 : N ≤ N') (h2 : N' ≤ w'.heap.size) : RowsAt B N' ca cl cc v2' v3' v4' ra rc ps w' := by
  refine ⟨hbox, ownsRow_of_block h.own (fun k hk => hc k (.inl hk)), fun k hk => Nat.lt_of_lt_of_le (h.lt k hk) h1, Nat.lt_of_lt_of_le h.bn h1, h2, fun i g hg => ?_, h.off⟩
  obtain ⟨a1, a2, a3, a4, a5⟩ := h.at' i g hg
  exact ⟨PairAt.frame a1 (hc _ (.inr ⟨i, g, hg, .inl rfl⟩)) (hc _ (.inr ⟨i, g, hg, .inr (.inl rfl)⟩)) (hc _ (.inr ⟨i, g, hg, .inr (.inr (.inl rfl))⟩)) (hc _ (.inr ⟨i, g, hg, .inr (.inr (.inr rfl))⟩)), ⟨a2.1, by omega⟩, ⟨a3.1, by omega⟩, ⟨a4.1, by omega⟩, a5.1, by omega⟩
end
end Go.Proofs.YtminceigjejipaaGreat
