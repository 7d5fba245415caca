import Derived.Test.YtccfademkgjeiaaStepN
import Derived.Test.YtccfademkgjeiaaPlays
import Derived.Test.YtccfademkgjeiaaA1
namespace Go.Proofs.Ytccfademkgjeiaa
open Go.RowKit

structure MkO where
  y : Nat
  r : Nat
  F : Nat → Prop
  m : MkG

def mptrs : List MkO → List Value
  | [] => []
  | o :: l => .pointer (some ⟨o.y, 0, none⟩) :: .pointer (some ⟨o.r, 0, none⟩) :: mptrs l
theorem mptrs_append (a b : List MkO) : mptrs (a ++ b) = mptrs a ++ mptrs b := by
  induction a with
  | nil => rfl
  | cons g l ih => simp [mptrs, ih]
theorem mptrs_get0 : ∀ (os : List MkO) (j : Nat) (g : MkO), os[j]? = some g → (mptrs os)[j * 2]? = some (.pointer (some ⟨g.y, 0, none⟩))
  | [], j, g, h => by simp at h
  | x :: l, 0, g, h => by simp at h; subst h; rfl
  | x :: l, j + 1, g, h => by
    rw [show (j + 1) * 2 = j * 2 + 1 + 1 by omega]
    simp only [mptrs, List.getElem?_cons_succ] at h ⊢
    exact mptrs_get0 l j g h
theorem mptrs_get1 : ∀ (os : List MkO) (j : Nat) (g : MkO), os[j]? = some g → (mptrs os)[j * 2 + 1]? = some (.pointer (some ⟨g.r, 0, none⟩))
  | [], j, g, h => by simp at h
  | x :: l, 0, g, h => by simp at h; subst h; rfl
  | x :: l, j + 1, g, h => by
    rw [show (j + 1) * 2 + 1 = j * 2 + 1 + 1 + 1 by omega]
    simp only [mptrs, List.getElem?_cons_succ] at h ⊢
    exact mptrs_get1 l j g h
theorem mptrs_set : ∀ (os : List MkO) (j : Nat) (g h : MkO), os[j]? = some g → h.y = g.y → h.r = g.r → mptrs (os.set j h) = mptrs os
  | [], j, g, h, e, _, _ => by simp at e
  | x :: l, 0, g, h, e, e1, e2 => by simp at e; subst e; simp [mptrs, e1, e2]
  | x :: l, j + 1, g, h, e, e1, e2 => by
    simp only [List.getElem?_cons_succ] at e
    simp only [List.set_cons_succ, mptrs, mptrs_set l j g h e e1 e2]

/-- all markets that a script has made, and the world's box -/
structure MsAt (YAt : World → Nat → (Nat → Prop) → MkG → Prop) (B N : Nat) (v0 v1 v3 v4 : Value) (ma : Option Addr) (mc : Nat) (os : List MkO) (w : World) : Prop where
  box : BoxAt w B v0 v1 (.slice ma os.length mc) v3 v4
  own : w.ownsRow 0 134 2 (.slice ma os.length mc) os.length (mptrs os)
  ownB : ∀ k, Value.ownBlock (.slice ma os.length mc) = some k → B < k ∧ k < N
  bn : B < N
  nw : N ≤ w.heap.size
  at' : ∀ (i : Nat) o, os[i]? = some o → PairM YAt w o.y o.r o.F o.m ∧ (∀ k, o.F k → B < k ∧ k < N) ∧ ∀ k, Value.ownBlock (.slice ma os.length mc) = some k → ¬ o.F k
  off : ∀ (i j : Nat) o o', os[i]? = some o → os[j]? = some o' → i ≠ j → ∀ k, o.F k → ¬ o'.F k

/-- the blocks of the markets -/
def msFoot (ma : Option Addr) (mc : Nat) (os : List MkO) (k : Nat) : Prop := Value.ownBlock (.slice ma os.length mc) = some k ∨ ∃ (i : Nat) (o : MkO), os[i]? = some o ∧ o.F k

section
variable {YAt : World → Nat → (Nat → Prop) → MkG → Prop} {B N : Nat} {v0 v1 v3 v4 : Value} {ma : Option Addr} {mc : Nat} {os : List MkO} {w w' : World}
theorem MsAt.frame (hY : YardSpec YAt) (h : MsAt YAt B N v0 v1 v3 v4 ma mc os w) (hc : ∀ k, B ≤ k → k < N → w'.heap[k]? = w.heap[k]?) (hs : w.heap.size ≤ w'.heap.size) : MsAt YAt B N v0 v1 v3 v4 ma mc os w' := by
  refine ⟨(hc B (Nat.le_refl _) h.bn).trans h.box, ownsRow_keep h.own (fun k hk => by have := h.ownB k hk; exact hc k (by omega) this.2), h.ownB, h.bn, Nat.le_trans h.nw hs, fun i o ho => ?_, h.off⟩
  obtain ⟨h1, h2, h3⟩ := h.at' i o ho
  exact ⟨PairM.frame hY h1 (fun k hk => by have := h2 k hk; exact hc k (by omega) this.2), h2, h3⟩

/-- a call on market i -/
theorem MsAt.turned (hY : YardSpec YAt) (h : MsAt YAt B N v0 v1 v3 v4 ma mc os w) {i : Nat} {o : MkO} (ho : os[i]? = some o) {W : World} (hW : Chg (fun _ => False) w W) {m' : MkG} (hto : PairTo YAt W o.y o.r o.F m' w') :
    ∃ os', os'.length = os.length ∧ MsAt YAt B w'.heap.size v0 v1 v3 v4 ma mc os' w' := by
  obtain ⟨F', hp, hc, hf⟩ := hto
  have hi : i < os.length := (List.getElem?_eq_some_iff.1 ho).1
  obtain ⟨a1, a2, a3⟩ := h.at' i o ho
  have hsW := hW.size
  have hs' := hc.size
  have hnw := h.nw
  have hlen : (os.set i { o with F := F', m := m' }).length = os.length := by simp
  have get : ∀ (x : Nat) u, (os.set i { o with F := F', m := m' })[x]? = some u → (x = i ∧ u = { o with F := F', m := m' }) ∨ (x ≠ i ∧ os[x]? = some u) := fun x u hx => by
    rw [List.getElem?_set] at hx
    by_cases e : i = x
    · subst e
      simp [hi] at hx
      exact .inl ⟨rfl, hx.symm⟩
    · rw [if_neg e] at hx
      exact .inr ⟨fun x => e x.symm, hx⟩
  have keep : ∀ k, B ≤ k → k < N → ¬ o.F k → w'.heap[k]? = w.heap[k]? := fun k h1 h2 h3 => by
    rw [hc.block k (by omega) h3, hW.block k (by omega) (fun h => h)]
  have newF : ∀ k, F' k → o.F k ∨ N ≤ k := fun k hk => by
    rcases hf k hk with h | h
    · exact .inl h
    · exact .inr (by omega)
  have hpl := PairM.lt hY hp
  refine ⟨os.set i { o with F := F', m := m' }, hlen, ?_, ?_, ?_, by have := h.bn; omega, Nat.le_refl _, ?_, ?_⟩
  · rw [hlen]
    exact (keep B (Nat.le_refl _) h.bn (fun hx => by have := a2 _ hx; omega)).trans h.box
  · rw [hlen, mptrs_set os i o { o with F := F', m := m' } ho rfl rfl]
    exact ownsRow_keep h.own (fun k hk => by have := h.ownB k hk; exact keep k (by omega) this.2 (a3 k hk))
  · rw [hlen]
    intro k hk
    have := h.ownB k hk
    omega
  · intro x u hx
    rw [hlen]
    rcases get x u hx with ⟨rfl, rfl⟩ | ⟨hne, hx2⟩
    · refine ⟨hp, fun k hk => ⟨?_, hpl k hk⟩, fun k hk hF => ?_⟩
      · rcases newF k hk with h' | h'
        · exact (a2 k h').1
        · have := h.bn; omega
      · rcases newF k hF with h' | h'
        · exact a3 k hk h'
        · have := h.ownB k hk; omega
    · obtain ⟨b1, b2, b3⟩ := h.at' x u hx2
      refine ⟨PairM.frame hY b1 (fun k hk => by have := b2 k hk; exact keep k (by omega) this.2 (h.off x i u o hx2 ho hne k hk)), fun k hk => by have := b2 k hk; omega, b3⟩
  · intro x x' u u' hx hx' hne k hk hk'
    rcases get x u hx with ⟨rfl, rfl⟩ | ⟨hn1, hx2⟩
    · rcases get x' u' hx' with ⟨rfl, rfl⟩ | ⟨hn2, hx2'⟩
      · exact hne rfl
      · rcases newF k hk with h' | h'
        · exact h.off x x' o u' ho hx2' hne k h' hk'
        · have := (h.at' x' u' hx2').2.1 k hk'; omega
    · rcases get x' u' hx' with ⟨rfl, rfl⟩ | ⟨hn2, hx2'⟩
      · rcases newF k hk' with h' | h'
        · exact h.off x x' u o hx2 ho hne k hk h'
        · have := (h.at' x u hx2).2.1 k hk; omega
      · exact h.off x x' u u' hx2 hx2' hne k hk hk'

/-- one market more -/
theorem MsAt.added2 (hY : YardSpec YAt) (h : MsAt YAt B N v0 v1 v3 v4 ma mc os w) {W : World} (hW : Chg (fun _ => False) w W) {c : CfgG} (hop : Opened YAt W B os.length c v0 v1 (.slice ma os.length mc) v3 v4 (mptrs os) w') :
    ∃ ma' mc' os', os'.length = os.length + 1 ∧ MsAt YAt B w'.heap.size v0 v1 v3 v4 ma' mc' os' w' ∧ ∀ k, msFoot ma' mc' os' k → msFoot ma mc os k ∨ w.heap.size ≤ k := by
  obtain ⟨g, cap, y, r, F, hbox, hown, hp, hF, hFg, hc, hat⟩ := hop
  have hsW := hW.size
  have hs' := hc.size
  have hnw := h.nw
  have hbn := h.bn
  have hlen : (os ++ [MkO.mk y r F (openM c)]).length = os.length + 1 := by simp
  have get : ∀ (i : Nat) x, (os ++ [MkO.mk y r F (openM c)])[i]? = some x → (i = os.length ∧ x = MkO.mk y r F (openM c)) ∨ (i < os.length ∧ os[i]? = some x) := fun i x hx => by
    rw [List.getElem?_append] at hx
    by_cases e : i < os.length
    · rw [if_pos e] at hx
      exact .inr ⟨e, hx⟩
    · rw [if_neg e] at hx
      by_cases e2 : i = os.length
      · subst e2
        simp at hx
        exact .inl ⟨rfl, hx.symm⟩
      · have : 1 ≤ i - os.length := by omega
        rw [List.getElem?_eq_none (by simpa using this)] at hx
        cases hx
  have hpl := PairM.lt hY hp
  have hgB : B < g := by
    rcases hat with e | e
    · exact (h.ownB g e).1
    · omega
  have hgl : g < w'.heap.size := (hown.lt g rfl).2
  have old : ∀ (i : Nat) x, os[i]? = some x → PairM YAt w' x.y x.r x.F x.m ∧ (∀ k, x.F k → B < k ∧ k < N) ∧ ¬ x.F g := fun i x hx => by
    obtain ⟨a1, a2, a3⟩ := h.at' i x hx
    refine ⟨PairM.frame hY a1 (fun k hk => ?_), a2, fun hg => ?_⟩
    · have := a2 k hk
      rw [hc.block k (by omega) (fun e => by
        rcases e with e | e
        · omega
        · exact a3 k e hk), hW.block k (by omega) (fun h => h)]
    · rcases hat with e | e
      · exact a3 g e hg
      · have := a2 g hg; omega
  refine ⟨some ⟨g, 0, none⟩, cap, _, hlen, ⟨?_, ?_, ?_, by omega, Nat.le_refl _, ?_, ?_⟩, ?_⟩
  · rw [hlen]; exact hbox
  · rw [hlen, mptrs_append]; exact hown
  · rw [hlen]
    intro k hk
    simp [Value.ownBlock] at hk
    omega
  · intro i x hx
    rw [hlen]
    rcases get i x hx with ⟨rfl, rfl⟩ | ⟨hi, hx2⟩
    · refine ⟨hp, fun k hk => ⟨by have := hF k hk; omega, hpl k hk⟩, fun k hk => ?_⟩
      simp [Value.ownBlock] at hk
      subst hk
      exact hFg
    · obtain ⟨a1, a2, a3⟩ := old i x hx2
      refine ⟨a1, fun k hk => by have := a2 k hk; omega, fun k hk => ?_⟩
      simp [Value.ownBlock] at hk
      subst hk
      exact a3
  · intro i i' x x' hx hx' hne k hk hk'
    rcases get i x hx with ⟨rfl, rfl⟩ | ⟨hi, hx2⟩
    · rcases get i' x' hx' with ⟨rfl, rfl⟩ | ⟨hi', hx2'⟩
      · exact hne rfl
      · have a := (old i' x' hx2').2.1 k hk'
        have b := hF k hk
        omega
    · rcases get i' x' hx' with ⟨rfl, rfl⟩ | ⟨hi', hx2'⟩
      · have a := (old i x hx2).2.1 k hk
        have b := hF k hk'
        omega
      · exact h.off i i' x x' hx2 hx2' hne k hk hk'
  · intro k hk
    rcases hk with hk | ⟨x, u, hx, hk⟩
    · simp [Value.ownBlock] at hk
      subst hk
      rcases hat with e | e
      · exact .inl (.inl e)
      · exact .inr (by omega)
    · rcases get x u hx with ⟨rfl, rfl⟩ | ⟨hi, hx2⟩
      · have := hF k hk
        exact .inr (by omega)
      · exact .inl (.inr ⟨x, u, hx2, hk⟩)
theorem MsAt.added (hY : YardSpec YAt) (h : MsAt YAt B N v0 v1 v3 v4 ma mc os w) {W : World} (hW : Chg (fun _ => False) w W) {c : CfgG} (hop : Opened YAt W B os.length c v0 v1 (.slice ma os.length mc) v3 v4 (mptrs os) w') :
    ∃ ma' mc' os', os'.length = os.length + 1 ∧ MsAt YAt B w'.heap.size v0 v1 v3 v4 ma' mc' os' w' := by
  obtain ⟨ma', mc', os', h1, h2, _⟩ := h.added2 hY hW hop
  exact ⟨ma', mc', os', h1, h2⟩
end
end Go.Proofs.Ytccfademkgjeiaa
