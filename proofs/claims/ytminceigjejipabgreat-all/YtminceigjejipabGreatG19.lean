import Derived.Test.YtminceigjejipabGreatG1
import Derived.Test.YtminceigjejipabGreatStepN
import Derived.Test.YtminceigjejipabGreatLawU
import Derived.Test.YtminceigjejipabGreatStepT
import Derived.Test.YtminceigjejipabGreatLawY
import Derived.Test.YtminceigjejipabGreatStepR
import Derived.Test.YtminceigjejipabGreatStepP
import Derived.Test.YtminceigjejipabGreatStepC
namespace Go.Proofs.YtminceigjejipabGreat
open Go.RowKit

set_option maxHeartbeats 400000 in
/-- nothing has come out yet -/
theorem looks_nil (bw : Nat) (w : World) (h3 : w.cell? ⟨bw, 3, none⟩ = some (.slice none 0 0)) (h4 : w.cell? ⟨bw, 4, none⟩ = some (.slice none 0 0)) :
    Calls Tryz.prog 7 #[.pointer (some ⟨bw, 0, none⟩)] w fun e w' => e = .returned (.bool true) ∧ w' = w := by
  go_enter Tryz.func7, Tryz.ntmps7
  go_wp2
  go_loop [3] (fun i => i = .int .i64 0) (fun _ => 0)
  case atStart => rfl
  case round =>
    subst hrel
    go_wp2
    go_loop [5] (fun i => i = .int .i64 0) (fun _ => 0)
    case atStart => rfl
    case round =>
      subst hrel
      go_wp2
      go_ret
      exact ⟨rfl, rfl⟩
end Go.Proofs.YtminceigjejipabGreat

namespace Go.Proofs.YtminceigjejipabGreat
open Go.RowKit

structure MkO where
  y : Nat
  r : Nat
  F : Nat → Prop
  m : MkG

def mptrs : List MkO → List Value
  | [] => []
  | o :: l => .pointer (some ⟨o.y, 0, none⟩) :: .pointer (some ⟨o.r, 0, none⟩) :: mptrs l
theorem mptrs_append (a b : List MkO) : mptrs (a ++ b) = mptrs a ++ mptrs b := by
  induction a with
  | nil => rfl
  | cons g l ih => simp [mptrs, ih]
theorem mptrs_get0 : ∀ (os : List MkO) (j : Nat) (g : MkO), os[j]? = some g → (mptrs os)[j * 2]? = some (.pointer (some ⟨g.y, 0, none⟩))
  | [], j, g, h => by simp at h
  | x :: l, 0, g, h => by simp at h; subst h; rfl
  | x :: l, j + 1, g, h => by
    rw [show (j + 1) * 2 = j * 2 + 1 + 1 by omega]
    simp only [mptrs, List.getElem?_cons_succ] at h ⊢
    exact mptrs_get0 l j g h
theorem mptrs_get1 : ∀ (os : List MkO) (j : Nat) (g : MkO), os[j]? = some g → (mptrs os)[j * 2 + 1]? = some (.pointer (some ⟨g.r, 0, none⟩))
  | [], j, g, h => by simp at h
  | x :: l, 0, g, h => by simp at h; subst h; rfl
  | x :: l, j + 1, g, h => by
    rw [show (j + 1) * 2 + 1 = j * 2 + 1 + 1 + 1 by omega]
    simp only [mptrs, List.getElem?_cons_succ] at h ⊢
    exact mptrs_get1 l j g h
theorem mptrs_set : ∀ (os : List MkO) (j : Nat) (g h : MkO), os[j]? = some g → h.y = g.y → h.r = g.r → mptrs (os.set j h) = mptrs os
  | [], j, g, h, e, _, _ => by simp at e
  | x :: l, 0, g, h, e, e1, e2 => by simp at e; subst e; simp [mptrs, e1, e2]
  | x :: l, j + 1, g, h, e, e1, e2 => by
    simp only [List.getElem?_cons_succ] at e
    simp only [List.set_cons_succ, mptrs, mptrs_set l j g h e e1 e2]

/-- all markets that a script has made, and the world's box -/
structure MsAt (YAt : World → Nat → (Nat → Prop) → MkG → Prop) (B N : Nat) (v0 v1 v3 v4 : Value) (ma : Option Addr) (mc : Nat) (os : List MkO) (w : World) : Prop where
  box : BoxAt w B v0 v1 (.slice ma os.length mc) v3 v4
  own : w.ownsRow 0 56 2 (.slice ma os.length mc) os.length (mptrs os)
  ownB : ∀ k, Value.ownBlock (.slice ma os.length mc) = some k → B < k ∧ k < N
  bn : B < N
  nw : N ≤ w.heap.size
  at' : ∀ (i : Nat) o, os[i]? = some o → PairM YAt w o.y o.r o.F o.m ∧ (∀ k, o.F k → B < k ∧ k < N) ∧ ∀ k, Value.ownBlock (.slice ma os.length mc) = some k → ¬ o.F k
  off : ∀ (i j : Nat) o o', os[i]? = some o → os[j]? = some o' → i ≠ j → ∀ k, o.F k → ¬ o'.F k

/-- the blocks of the markets -/
def msFoot (ma : Option Addr) (mc : Nat) (os : List MkO) (k : Nat) : Prop := Value.ownBlock (.slice ma os.length mc) = some k ∨ ∃ (i : Nat) (o : MkO), os[i]? = some o ∧ o.F k

section
variable {YAt : World → Nat → (Nat → Prop) → MkG → Prop} {B N : Nat} {v0 v1 v3 v4 : Value} {ma : Option Addr} {mc : Nat} {os : List MkO} {w w' : World}
theorem MsAt.frame (hY : YardSpec YAt) (h : MsAt YAt B N v0 v1 v3 v4 ma mc os w) (hc : ∀ k, B ≤ k → k < N → w'.heap[k]? = w.heap[k]?) (hs : w.heap.size ≤ w'.heap.size) : MsAt YAt B N v0 v1 v3 v4 ma mc os w' := by
  refine ⟨(hc B (Nat.le_refl _) h.bn).trans h.box, ownsRow_keep h.own (fun k hk => by have := h.ownB k hk; exact hc k (by omega) this.2), h.ownB, h.bn, Nat.le_trans h.nw hs, fun i o ho => ?_, h.off⟩
  obtain ⟨h1, h2, h3⟩ := h.at' i o ho
  exact ⟨PairM.frame hY h1 (fun k hk => by have := h2 k hk; exact hc k (by omega) this.2), h2, h3⟩

/-- a call on market i -/
theorem MsAt.turned (hY : YardSpec YAt) (h : MsAt YAt B N v0 v1 v3 v4 ma mc os w) {i : Nat} {o : MkO} (ho : os[i]? = some o) {W : World} (hW : Chg (fun _ => False) w W) {m' : MkG} (hto : PairTo YAt W o.y o.r o.F m' w') :
    ∃ os', os'.length = os.length ∧ MsAt YAt B w'.heap.size v0 v1 v3 v4 ma mc os' w' := by
  obtain ⟨F', hp, hc, hf⟩ := hto
  have hi : i < os.length := (List.getElem?_eq_some_iff.1 ho).1
  obtain ⟨a1, a2, a3⟩ := h.at' i o ho
  have hsW := hW.size
  have hs' := hc.size
  have hnw := h.nw
  have hlen : (os.set i { o with F := F', m := m' }).length = os.length := by simp
  have get : ∀ (x : Nat) u, (os.set i { o with F := F', m := m' })[x]? = some u → (x = i ∧ u = { o with F := F', m := m' }) ∨ (x ≠ i ∧ os[x]? = some u) := fun x u hx => by
    rw [List.getElem?_set] at hx
    by_cases e : i = x
    · subst e
      simp [hi] at hx
      exact .inl ⟨rfl, hx.symm⟩
    · rw [if_neg e] at hx
      exact .inr ⟨fun x => e x.symm, hx⟩
  have keep : ∀ k, B ≤ k → k < N → ¬ o.F k → w'.heap[k]? = w.heap[k]? := fun k h1 h2 h3 => by
    rw [hc.block k (by omega) h3, hW.block k (by omega) (fun h => h)]
  have newF : ∀ k, F' k → o.F k ∨ N ≤ k := fun k hk => by
    rcases hf k hk with h | h
    · exact .inl h
    · exact .inr (by omega)
  have hpl := PairM.lt hY hp
  refine ⟨os.set i { o with F := F', m := m' }, hlen, ?_, ?_, ?_, by have := h.bn; omega, Nat.le_refl _, ?_, ?_⟩
  · rw [hlen]
    exact (keep B (Nat.le_refl _) h.bn (fun hx => by have := a2 _ hx; omega)).trans h.box
  · rw [hlen, mptrs_set os i o { o with F := F', m := m' } ho rfl rfl]
    exact ownsRow_keep h.own (fun k hk => by have := h.ownB k hk; exact keep k (by omega) this.2 (a3 k hk))
  · rw [hlen]
    intro k hk
    have := h.ownB k hk
    omega
  · intro x u hx
    rw [hlen]
    rcases get x u hx with ⟨rfl, rfl⟩ | ⟨hne, hx2⟩
    · refine ⟨hp, fun k hk => ⟨?_, hpl k hk⟩, fun k hk hF => ?_⟩
      · rcases newF k hk with h' | h'
        · exact (a2 k h').1
        · have := h.bn; omega
      · rcases newF k hF with h' | h'
        · exact a3 k hk h'
        · have := h.ownB k hk; omega
    · obtain ⟨b1, b2, b3⟩ := h.at' x u hx2
      refine ⟨PairM.frame hY b1 (fun k hk => by have := b2 k hk; exact keep k (by omega) this.2 (h.off x i u o hx2 ho hne k hk)), fun k hk => by have := b2 k hk; omega, b3⟩
  · intro x x' u u' hx hx' hne k hk hk'
    rcases get x u hx with ⟨rfl, rfl⟩ | ⟨hn1, hx2⟩
    · rcases get x' u' hx' with ⟨rfl, rfl⟩ | ⟨hn2, hx2'⟩
      · exact hne rfl
      · rcases newF k hk with h' | h'
        · exact h.off x x' o u' ho hx2' hne k h' hk'
        · have := (h.at' x' u' hx2').2.1 k hk'; omega
    · rcases get x' u' hx' with ⟨rfl, rfl⟩ | ⟨hn2, hx2'⟩
      · rcases newF k hk' with h' | h'
        · exact h.off x x' u o hx2 ho hne k hk h'
        · have := (h.at' x u hx2).2.1 k hk; omega
      · exact h.off x x' u u' hx2 hx2' hne k hk hk'

/-- one market more -/
theorem MsAt.added2 (hY : YardSpec YAt) (h : MsAt YAt B N v0 v1 v3 v4 ma mc os w) {W : World} (hW : Chg (fun _ => False) w W) {c : CfgG} (hop : Opened YAt W B os.length c v0 v1 (.slice ma os.length mc) v3 v4 (mptrs os) w') :
    ∃ ma' mc' os', os'.length = os.length + 1 ∧ MsAt YAt B w'.heap.size v0 v1 v3 v4 ma' mc' os' w' ∧ ∀ k, msFoot ma' mc' os' k → msFoot ma mc os k ∨ w.heap.size ≤ k := by
  obtain ⟨g, cap, y, r, F, hbox, hown, hp, hF, hFg, hc, hat⟩ := hop
  have hsW := hW.size
  have hs' := hc.size
  have hnw := h.nw
  have hbn := h.bn
  have hlen : (os ++ [MkO.mk y r F (openM c)]).length = os.length + 1 := by simp
  have get : ∀ (i : Nat) x, (os ++ [MkO.mk y r F (openM c)])[i]? = some x → (i = os.length ∧ x = MkO.mk y r F (openM c)) ∨ (i < os.length ∧ os[i]? = some x) := fun i x hx => by
    rw [List.getElem?_append] at hx
    by_cases e : i < os.length
    · rw [if_pos e] at hx
      exact .inr ⟨e, hx⟩
    · rw [if_neg e] at hx
      by_cases e2 : i = os.length
      · subst e2
        simp at hx
        exact .inl ⟨rfl, hx.symm⟩
      · have : 1 ≤ i - os.length := by omega
        rw [List.getElem?_eq_none (by simpa using this)] at hx
        cases hx
  have hpl := PairM.lt hY hp
  have hgB : B < g := by
    rcases hat with e | e
    · exact (h.ownB g e).1
    · omega
  have hgl : g < w'.heap.size := (hown.lt g rfl).2
  have old : ∀ (i : Nat) x, os[i]? = some x → PairM YAt w' x.y x.r x.F x.m ∧ (∀ k, x.F k → B < k ∧ k < N) ∧ ¬ x.F g := fun i x hx => by
    obtain ⟨a1, a2, a3⟩ := h.at' i x hx
    refine ⟨PairM.frame hY a1 (fun k hk => ?_), a2, fun hg => ?_⟩
    · have := a2 k hk
      rw [hc.block k (by omega) (fun e => by
        rcases e with e | e
        · omega
        · exact a3 k e hk), hW.block k (by omega) (fun h => h)]
    · rcases hat with e | e
      · exact a3 g e hg
      · have := a2 g hg; omega
  refine ⟨some ⟨g, 0, none⟩, cap, _, hlen, ⟨?_, ?_, ?_, by omega, Nat.le_refl _, ?_, ?_⟩, ?_⟩
  · rw [hlen]; exact hbox
  · rw [hlen, mptrs_append]; exact hown
  · rw [hlen]
    intro k hk
    simp [Value.ownBlock] at hk
    omega
  · intro i x hx
    rw [hlen]
    rcases get i x hx with ⟨rfl, rfl⟩ | ⟨hi, hx2⟩
    · refine ⟨hp, fun k hk => ⟨by have := hF k hk; omega, hpl k hk⟩, fun k hk => ?_⟩
      simp [Value.ownBlock] at hk
      subst hk
      exact hFg
    · obtain ⟨a1, a2, a3⟩ := old i x hx2
      refine ⟨a1, fun k hk => by have := a2 k hk; omega, fun k hk => ?_⟩
      simp [Value.ownBlock] at hk
      subst hk
      exact a3
  · intro i i' x x' hx hx' hne k hk hk'
    rcases get i x hx with ⟨rfl, rfl⟩ | ⟨hi, hx2⟩
    · rcases get i' x' hx' with ⟨rfl, rfl⟩ | ⟨hi', hx2'⟩
      · exact hne rfl
      · have a := (old i' x' hx2').2.1 k hk'
        have b := hF k hk
        omega
    · rcases get i' x' hx' with ⟨rfl, rfl⟩ | ⟨hi', hx2'⟩
      · have a := (old i x hx2).2.1 k hk
        have b := hF k hk'
        omega
      · exact h.off i i' x x' hx2 hx2' hne k hk hk'
  · intro k hk
    rcases hk with hk | ⟨x, u, hx, hk⟩
    · simp [Value.ownBlock] at hk
      subst hk
      rcases hat with e | e
      · exact .inl (.inl e)
      · exact .inr (by omega)
    · rcases get x u hx with ⟨rfl, rfl⟩ | ⟨hi, hx2⟩
      · have := hF k hk
        exact .inr (by omega)
      · exact .inl (.inr ⟨x, u, hx2, hk⟩)
theorem MsAt.added (hY : YardSpec YAt) (h : MsAt YAt B N v0 v1 v3 v4 ma mc os w) {W : World} (hW : Chg (fun _ => False) w W) {c : CfgG} (hop : Opened YAt W B os.length c v0 v1 (.slice ma os.length mc) v3 v4 (mptrs os) w') :
    ∃ ma' mc' os', os'.length = os.length + 1 ∧ MsAt YAt B w'.heap.size v0 v1 v3 v4 ma' mc' os' w' := by
  obtain ⟨ma', mc', os', h1, h2, _⟩ := h.added2 hY hW hop
  exact ⟨ma', mc', os', h1, h2⟩
end
end Go.Proofs.YtminceigjejipabGreat

/-
  MARKETS AND LISTS TOGETHER: what holds between the steps of a script in which ticks go by.
-/
namespace Go.Proofs.YtminceigjejipabGreat
open Go.RowKit

section
variable {YAt : World → Nat → (Nat → Prop) → MkG → Prop} {B N : Nat} {v0 v1 v3 v4 : Value} {ma : Option Addr} {mc : Nat} {os : List MkO} {w w' : World}
theorem MsAt.foot_lt (h : MsAt YAt B N v0 v1 v3 v4 ma mc os w) (k : Nat) (hk : msFoot ma mc os k) : B < k ∧ k < N := by
  rcases hk with hk | ⟨i, o, ho, hk⟩
  · exact h.ownB k hk
  · exact (h.at' i o ho).2.1 k hk

/-- market i has turned; the box may have turned in its last two cells; of the other blocks those of X alone -/
theorem MsAt.turnG (hY : YardSpec YAt) (h : MsAt YAt B N v0 v1 v3 v4 ma mc os w) {i : Nat} {o : MkO} (ho : os[i]? = some o) {v3' v4' : Value} {F' : Nat → Prop} {m' : MkG} {X : Nat → Prop} (hX : ∀ k, X k → ¬ msFoot ma mc os k)
    (hbox : BoxAt w' B v0 v1 (.slice ma os.length mc) v3' v4') (hp : PairM YAt w' o.y o.r F' m') (hc : ∀ k, k < w.heap.size → k ≠ B → ¬ o.F k → ¬ X k → w'.heap[k]? = w.heap[k]?) (hs : w.heap.size ≤ w'.heap.size) (hf : ∀ k, F' k → o.F k ∨ w.heap.size ≤ k) :
    MsAt YAt B w'.heap.size v0 v1 v3' v4' ma mc (os.set i { o with F := F', m := m' }) w' ∧ ∀ k, msFoot ma mc (os.set i { o with F := F', m := m' }) k → msFoot ma mc os k ∨ w.heap.size ≤ k := by
  have hi : i < os.length := (List.getElem?_eq_some_iff.1 ho).1
  obtain ⟨a1, a2, a3⟩ := h.at' i o ho
  have hnw := h.nw
  have hbn := h.bn
  have hlen : (os.set i { o with F := F', m := m' }).length = os.length := by simp
  have get : ∀ (x : Nat) u, (os.set i { o with F := F', m := m' })[x]? = some u → (x = i ∧ u = { o with F := F', m := m' }) ∨ (x ≠ i ∧ os[x]? = some u) := fun x u hx => by
    rw [List.getElem?_set] at hx
    by_cases e : i = x
    · subst e
      simp [hi] at hx
      exact .inl ⟨rfl, hx.symm⟩
    · rw [if_neg e] at hx
      exact .inr ⟨fun x => e x.symm, hx⟩
  have keep : ∀ k, msFoot ma mc os k → ¬ o.F k → w'.heap[k]? = w.heap[k]? := fun k h1 h2 => hc k (by have := h.foot_lt k h1; omega) (by have := h.foot_lt k h1; omega) h2 (fun hx => hX k hx h1)
  have newF : ∀ k, F' k → o.F k ∨ N ≤ k := fun k hk => by
    rcases hf k hk with h | h
    · exact .inl h
    · exact .inr (by omega)
  have hpl := PairM.lt hY hp
  refine ⟨⟨?_, ?_, ?_, by omega, Nat.le_refl _, ?_, ?_⟩, ?_⟩
  · rw [hlen]
    exact hbox
  · rw [hlen, mptrs_set os i o { o with F := F', m := m' } ho rfl rfl]
    exact ownsRow_keep h.own (fun k hk => keep k (.inl hk) (a3 k hk))
  · rw [hlen]
    intro k hk
    have := h.ownB k hk
    omega
  · intro x u hx
    rw [hlen]
    rcases get x u hx with ⟨rfl, rfl⟩ | ⟨hne, hx2⟩
    · refine ⟨hp, fun k hk => ⟨?_, hpl k hk⟩, fun k hk hF => ?_⟩
      · rcases newF k hk with h' | h'
        · exact (a2 k h').1
        · omega
      · rcases newF k hF with h' | h'
        · exact a3 k hk h'
        · have := h.ownB k hk; omega
    · obtain ⟨b1, b2, b3⟩ := h.at' x u hx2
      refine ⟨PairM.frame hY b1 (fun k hk => keep k (.inr ⟨x, u, hx2, hk⟩) (h.off x i u o hx2 ho hne k hk)), fun k hk => by have := b2 k hk; omega, b3⟩
  · intro x x' u u' hx hx' hne k hk hk'
    rcases get x u hx with ⟨rfl, rfl⟩ | ⟨hn1, hx2⟩
    · rcases get x' u' hx' with ⟨rfl, rfl⟩ | ⟨hn2, hx2'⟩
      · exact hne rfl
      · rcases newF k hk with h' | h'
        · exact h.off x x' o u' ho hx2' hne k h' hk'
        · have := (h.at' x' u' hx2').2.1 k hk'; omega
    · rcases get x' u' hx' with ⟨rfl, rfl⟩ | ⟨hn2, hx2'⟩
      · rcases newF k hk' with h' | h'
        · exact h.off x x' u o hx2 ho hne k hk h'
        · have := (h.at' x u hx2).2.1 k hk; omega
      · exact h.off x x' u u' hx2 hx2' hne k hk hk'
  · intro k hk
    rcases hk with hk | ⟨x, u, hx, hk⟩
    · rw [hlen] at hk
      exact .inl (.inl hk)
    · rcases get x u hx with ⟨rfl, rfl⟩ | ⟨hne, hx2⟩
      · rcases hf k hk with h' | h'
        · exact .inl (.inr ⟨x, o, ho, h'⟩)
        · exact .inr h'
      · exact .inl (.inr ⟨x, u, hx2, hk⟩)
end

/-- what holds between the steps: the markets, the lists that came out, all apart -/
structure MNAt (YAt : World → Nat → (Nat → Prop) → MkG → Prop) (B N : Nat) (v0 v1 : Value) (ma : Option Addr) (mc : Nat) (os : List MkO) (nv bv : Value) (ns bs : List Value) (FN FB : Nat → Prop) (w : World) : Prop where
  ms : MsAt YAt B N v0 v1 nv bv ma mc os w
  names : OutC 59 2 w nv ns FN
  bills : OutC 63 3 w bv bs FB
  evn : ns.length % 2 = 0
  evb : bs.length % 2 = 0
  fn : ∀ k, FN k → B < k ∧ k < N ∧ ¬ FB k ∧ ¬ msFoot ma mc os k
  fb : ∀ k, FB k → B < k ∧ k < N ∧ ¬ msFoot ma mc os k

/-- all blocks of markets and lists -/
def mnFoot (ma : Option Addr) (mc : Nat) (os : List MkO) (FN FB : Nat → Prop) (k : Nat) : Prop := msFoot ma mc os k ∨ FN k ∨ FB k

section
variable {YAt : World → Nat → (Nat → Prop) → MkG → Prop} {B N : Nat} {v0 v1 nv bv : Value} {ma : Option Addr} {mc : Nat} {os : List MkO} {ns bs : List Value} {FN FB : Nat → Prop} {w w' : World}
theorem MNAt.frame (hY : YardSpec YAt) (h : MNAt YAt B N v0 v1 ma mc os nv bv ns bs FN FB w) (hc : ∀ k, B ≤ k → k < N → w'.heap[k]? = w.heap[k]?) (hs : w.heap.size ≤ w'.heap.size) : MNAt YAt B N v0 v1 ma mc os nv bv ns bs FN FB w' :=
  ⟨h.ms.frame hY hc hs, h.names.frame (fun k hk => by have := h.fn k hk; exact hc k (by omega) this.2.1), h.bills.frame (fun k hk => by have := h.fb k hk; exact hc k (by omega) this.2.1), h.evn, h.evb, h.fn, h.fb⟩

/-- a call on market i -/
theorem MNAt.turned (hY : YardSpec YAt) (h : MNAt YAt B N v0 v1 ma mc os nv bv ns bs FN FB w) {i : Nat} {o : MkO} (ho : os[i]? = some o) {W : World} (hW : Chg (fun _ => False) w W) {m' : MkG} (hto : PairTo YAt W o.y o.r o.F m' w') :
    ∃ os', os'.length = os.length ∧ MNAt YAt B w'.heap.size v0 v1 ma mc os' nv bv ns bs FN FB w' ∧ ∀ k, mnFoot ma mc os' FN FB k → mnFoot ma mc os FN FB k ∨ w.heap.size ≤ k := by
  obtain ⟨F', hp, hc, hf⟩ := hto
  have hsW := hW.size
  have hs' := hc.size
  have hnw := h.ms.nw
  have a2 := (h.ms.at' i o ho).2.1
  have hk : ∀ k, k < w.heap.size → ¬ o.F k → w'.heap[k]? = w.heap[k]? := fun k h1 h2 => by rw [hc.block k (by omega) h2, hW.block k h1 (fun h => h)]
  have hbl := h.ms.box.lt
  have hnF : ∀ k, FN k → ¬ o.F k := fun k hk hF => (h.fn k hk).2.2.2 (.inr ⟨i, o, ho, hF⟩)
  have hbF : ∀ k, FB k → ¬ o.F k := fun k hk hF => (h.fb k hk).2.2 (.inr ⟨i, o, ho, hF⟩)
  obtain ⟨b1, b2⟩ := h.ms.turnG hY ho (X := fun _ => False) (fun _ h => h.elim) (show BoxAt w' B v0 v1 (.slice ma os.length mc) nv bv from (hk B hbl (fun hF => by have := a2 B hF; omega)).trans h.ms.box) hp (fun k h1 _ h3 _ => hk k h1 h3) (by omega) (fun k hk => by rcases hf k hk with h | h; exact .inl h; exact .inr (by omega))
  refine ⟨_, by simp, ⟨b1, h.names.frame (fun k hk' => hk k (h.names.lt k hk') (hnF k hk')), h.bills.frame (fun k hk' => hk k (h.bills.lt k hk') (hbF k hk')), h.evn, h.evb, fun k hk' => ?_, fun k hk' => ?_⟩, fun k hk' => ?_⟩
  · have := h.fn k hk'
    refine ⟨this.1, by omega, this.2.2.1, fun hm => ?_⟩
    rcases b2 k hm with e | e
    · exact this.2.2.2 e
    · omega
  · have := h.fb k hk'
    refine ⟨this.1, by omega, fun hm => ?_⟩
    rcases b2 k hm with e | e
    · exact this.2.2 e
    · omega
  · rcases hk' with e | e | e
    · rcases b2 k e with e | e
      · exact .inl (.inl e)
      · exact .inr e
    · exact .inl (.inr (.inl e))
    · exact .inl (.inr (.inr e))

/-- a tick of market i -/
theorem MNAt.ticked (hY : YardSpec YAt) (h : MNAt YAt B N v0 v1 ma mc os nv bv ns bs FN FB w) {i : Nat} {o : MkO} (ho : os[i]? = some o) {W : World} (hW : Chg (fun _ => False) w W) (hto : Ticked YAt W B o.y o.r o.F FN v0 v1 (.slice ma os.length mc) bv ns.length w') :
    ∃ os' nv' ns' FN', os'.length = os.length ∧ ns'.length = ns.length + 2 ∧ MNAt YAt B w'.heap.size v0 v1 ma mc os' nv' bv ns' bs FN' FB w' ∧ ∀ k, mnFoot ma mc os' FN' FB k → mnFoot ma mc os FN FB k ∨ w.heap.size ≤ k := by
  obtain ⟨m', F', FN', nv', ns', hp, hbox, hN, hlen, hc, hf, hfn, hdis⟩ := hto
  have hsW := hW.size
  have hs' := hc.size
  have hnw := h.ms.nw
  have hbn := h.ms.bn
  have a2 := (h.ms.at' i o ho).2.1
  have hk : ∀ k, k < w.heap.size → k ≠ B → ¬ o.F k → ¬ FN k → w'.heap[k]? = w.heap[k]? := fun k h1 h2 h3 h4 => by
    rw [hc.block k (by omega) (by rintro (e | e | e); exact h2 e; exact h3 e; exact h4 e), hW.block k h1 (fun h => h)]
  have hbF : ∀ k, FB k → ¬ o.F k := fun k hk hF => (h.fb k hk).2.2 (.inr ⟨i, o, ho, hF⟩)
  obtain ⟨b1, b2⟩ := h.ms.turnG hY ho (X := FN) (fun k hx => (h.fn k hx).2.2.2) hbox hp hk (by omega) (fun k hk => by rcases hf k hk with h | h; exact .inl h; exact .inr (by omega))
  refine ⟨_, nv', ns', FN', by simp, hlen, ⟨b1, hN, h.bills.frame (fun k hk' => hk k (h.bills.lt k hk') (by have := h.fb k hk'; omega) (hbF k hk') (fun hx => (h.fn k hx).2.2.1 hk')), by have := h.evn; omega, h.evb, fun k hk' => ?_, fun k hk' => ?_⟩, fun k hk' => ?_⟩
  · have hkl := hN.lt k hk'
    rcases hfn k hk' with e | e
    · have := h.fn k e
      refine ⟨this.1, hkl, this.2.2.1, fun hm => ?_⟩
      rcases hm with hm | ⟨x, u, hx, hu⟩
      · simp only [List.length_set] at hm
        exact this.2.2.2 (.inl hm)
      · rw [List.getElem?_set] at hx
        by_cases ex : i = x
        · subst ex
          have hi : i < os.length := (List.getElem?_eq_some_iff.1 ho).1
          simp [hi] at hx
          subst hx
          exact hdis k hu hk'
        · rw [if_neg ex] at hx
          exact this.2.2.2 (.inr ⟨x, u, hx, hu⟩)
    · refine ⟨by omega, hkl, fun hb => by have := h.bills.lt k hb; omega, fun hm => ?_⟩
      rcases hm with hm | ⟨x, u, hx, hu⟩
      · simp only [List.length_set] at hm
        have := h.ms.ownB k hm
        omega
      · rw [List.getElem?_set] at hx
        by_cases ex : i = x
        · subst ex
          have hi : i < os.length := (List.getElem?_eq_some_iff.1 ho).1
          simp [hi] at hx
          subst hx
          exact hdis k hu hk'
        · rw [if_neg ex] at hx
          have := (h.ms.at' x u hx).2.1 k hu
          omega
  · have := h.fb k hk'
    refine ⟨this.1, by omega, fun hm => ?_⟩
    rcases b2 k hm with e | e
    · exact this.2.2 e
    · omega
  · rcases hk' with e | e | e
    · rcases b2 k e with e | e
      · exact .inl (.inl e)
      · exact .inr e
    · rcases hfn k e with e | e
      · exact .inl (.inr (.inl e))
      · exact .inr (by omega)
    · exact .inl (.inr (.inr e))

/-- a list of invoices of market i -/
theorem MNAt.billed (hY : YardSpec YAt) (h : MNAt YAt B N v0 v1 ma mc os nv bv ns bs FN FB w) {i : Nat} {o : MkO} (ho : os[i]? = some o) {W : World} (hW : Chg (fun _ => False) w W) (hto : PaidL YAt W B o.y o.r o.F FB v0 v1 (.slice ma os.length mc) nv bs.length w') :
    ∃ os' bv' bs' FB', os'.length = os.length ∧ bs'.length = bs.length + 2 ∧ MNAt YAt B w'.heap.size v0 v1 ma mc os' nv bv' ns bs' FN FB' w' ∧ ∀ k, mnFoot ma mc os' FN FB' k → mnFoot ma mc os FN FB k ∨ w.heap.size ≤ k := by
  obtain ⟨m', F', FB', bv', bs', hp, hbox, hN, hlen, hc, hf, hfn, hdis⟩ := hto
  have hsW := hW.size
  have hs' := hc.size
  have hnw := h.ms.nw
  have hbn := h.ms.bn
  have a2 := (h.ms.at' i o ho).2.1
  have hk : ∀ k, k < w.heap.size → k ≠ B → ¬ o.F k → ¬ FB k → w'.heap[k]? = w.heap[k]? := fun k h1 h2 h3 h4 => by
    rw [hc.block k (by omega) (by rintro (e | e | e); exact h2 e; exact h3 e; exact h4 e), hW.block k h1 (fun h => h)]
  have hnF : ∀ k, FN k → ¬ o.F k := fun k hk hF => (h.fn k hk).2.2.2 (.inr ⟨i, o, ho, hF⟩)
  obtain ⟨b1, b2⟩ := h.ms.turnG hY ho (X := FB) (fun k hx => (h.fb k hx).2.2) hbox hp hk (by omega) (fun k hk => by rcases hf k hk with h | h; exact .inl h; exact .inr (by omega))
  have newB : ∀ k, FB' k → ¬ msFoot ma mc (os.set i { o with F := F', m := m' }) k := fun k hk' hm => by
    rcases hm with hm | ⟨x, u, hx, hu⟩
    · simp only [List.length_set] at hm
      rcases hfn k hk' with e | e
      · exact (h.fb k e).2.2 (.inl hm)
      · have := h.ms.ownB k hm
        omega
    · rw [List.getElem?_set] at hx
      by_cases ex : i = x
      · subst ex
        have hi : i < os.length := (List.getElem?_eq_some_iff.1 ho).1
        simp [hi] at hx
        subst hx
        exact hdis k hu hk'
      · rw [if_neg ex] at hx
        rcases hfn k hk' with e | e
        · exact (h.fb k e).2.2 (.inr ⟨x, u, hx, hu⟩)
        · have := (h.ms.at' x u hx).2.1 k hu
          omega
  refine ⟨_, bv', bs', FB', by simp, hlen, ⟨b1, h.names.frame (fun k hk' => hk k (h.names.lt k hk') (by have := h.fn k hk'; omega) (hnF k hk') (h.fn k hk').2.2.1), hN, h.evn, by have := h.evb; omega, fun k hk' => ?_, fun k hk' => ?_⟩, fun k hk' => ?_⟩
  · have := h.fn k hk'
    refine ⟨this.1, by omega, fun hb => ?_, fun hm => ?_⟩
    · rcases hfn k hb with e | e
      · exact this.2.2.1 e
      · have := h.names.lt k hk'; omega
    · rcases b2 k hm with e | e
      · exact this.2.2.2 e
      · omega
  · have hkl := hN.lt k hk'
    refine ⟨?_, hkl, newB k hk'⟩
    rcases hfn k hk' with e | e
    · exact (h.fb k e).1
    · omega
  · rcases hk' with e | e | e
    · rcases b2 k e with e | e
      · exact .inl (.inl e)
      · exact .inr e
    · exact .inl (.inr (.inl e))
    · rcases hfn k e with e | e
      · exact .inl (.inr (.inr e))
      · exact .inr (by omega)
/-- one market more -/
theorem MNAt.added (hY : YardSpec YAt) (h : MNAt YAt B N v0 v1 ma mc os nv bv ns bs FN FB w) {W : World} (hW : Chg (fun _ => False) w W) {c : CfgG} (hop : Opened YAt W B os.length c v0 v1 (.slice ma os.length mc) nv bv (mptrs os) w') :
    ∃ ma' mc' os', os'.length = os.length + 1 ∧ MNAt YAt B w'.heap.size v0 v1 ma' mc' os' nv bv ns bs FN FB w' ∧ ∀ k, mnFoot ma' mc' os' FN FB k → mnFoot ma mc os FN FB k ∨ w.heap.size ≤ k := by
  obtain ⟨ma', mc', os', hlen, h', hft⟩ := h.ms.added2 hY hW hop
  obtain ⟨g, cap, y, r, F, _, _, _, _, _, hc, _⟩ := hop
  have hsW := hW.size
  have hs' := hc.size
  have hnw := h.ms.nw
  have keep : ∀ k, k < w.heap.size → k ≠ B → Value.ownBlock (.slice ma os.length mc) ≠ some k → w'.heap[k]? = w.heap[k]? := fun k h1 h2 h3 => by
    rw [hc.block k (by omega) (by rintro (e | e); exact h2 e; exact h3 e), hW.block k h1 (fun h => h)]
  refine ⟨ma', mc', os', hlen, ⟨h', h.names.frame (fun k hk => keep k (h.names.lt k hk) (by have := h.fn k hk; omega) (fun e => (h.fn k hk).2.2.2 (.inl e))), h.bills.frame (fun k hk => keep k (h.bills.lt k hk) (by have := h.fb k hk; omega) (fun e => (h.fb k hk).2.2 (.inl e))), h.evn, h.evb, fun k hk => ?_, fun k hk => ?_⟩, fun k hk => ?_⟩
  · have := h.fn k hk
    refine ⟨this.1, by omega, this.2.2.1, fun hm => ?_⟩
    rcases hft k hm with e | e
    · exact this.2.2.2 e
    · omega
  · have := h.fb k hk
    refine ⟨this.1, by omega, fun hm => ?_⟩
    rcases hft k hm with e | e
    · exact this.2.2 e
    · omega
  · rcases hk with e | e | e
    · rcases hft k e with e | e
      · exact .inl (.inl e)
      · exact .inr (by omega)
    · exact .inl (.inr (.inl e))
    · exact .inl (.inr (.inr e))
/-- a row has turned, or is new: the box's second cell, and blocks of others -/
theorem MNAt.frame1 (hY : YardSpec YAt) (h : MNAt YAt B N v0 v1 ma mc os nv bv ns bs FN FB w) {v1' : Value} {N' : Nat} (hbox : BoxAt w' B v0 v1' (.slice ma os.length mc) nv bv) (hc : ∀ k, mnFoot ma mc os FN FB k → w'.heap[k]? = w.heap[k]?) (h1 : N ≤ N') (h2 : N' ≤ w'.heap.size) : MNAt YAt B N' v0 v1' ma mc os nv bv ns bs FN FB w' := by
  have hm := h.ms
  refine ⟨⟨hbox, ownsRow_keep hm.own (fun k hk => hc k (.inl (.inl hk))), fun k hk => by have := hm.ownB k hk; omega, by have := hm.bn; omega, h2, fun i o ho => ?_, hm.off⟩, h.names.frame (fun k hk => hc k (.inr (.inl hk))), h.bills.frame (fun k hk => hc k (.inr (.inr hk))), h.evn, h.evb, fun k hk => by have := h.fn k hk; exact ⟨this.1, by omega, this.2.2⟩, fun k hk => by have := h.fb k hk; exact ⟨this.1, by omega, this.2.2⟩⟩
  obtain ⟨b1, b2, b3⟩ := hm.at' i o ho
  exact ⟨PairM.frame hY b1 (fun k hk => hc k (.inl (.inr ⟨i, o, ho, hk⟩))), fun k hk => by have := b2 k hk; omega, b3⟩
theorem MNAt.foot_in (h : MNAt YAt B N v0 v1 ma mc os nv bv ns bs FN FB w) (k : Nat) (hk : mnFoot ma mc os FN FB k) : B < k ∧ k < N := by
  rcases hk with e | e | e
  · exact h.ms.foot_lt k e
  · have := h.fn k e; exact ⟨this.1, this.2.1⟩
  · have := h.fb k e; exact ⟨this.1, this.2.1⟩
end
end Go.Proofs.YtminceigjejipabGreat

namespace Go.Proofs.YtminceigjejipabGreat
open Go.RowKit

/-- a pair of rows, as it lies in memory -/
structure PairG where
  pc : Nat
  gc : Nat
  pr : Nat
  gr : Nat
  n : Nat
  cc : Nat
  cr : Nat
  Z : Nat → Int

def PairG.at (g : PairG) (w : World) : Prop := PairAt w g.pc g.gc g.pr g.gr g.n g.cc g.cr g.Z
def PairG.within (g : PairG) (B N : Nat) : Prop := (B ≤ g.pc ∧ g.pc < N) ∧ (B ≤ g.gc ∧ g.gc < N) ∧ (B ≤ g.pr ∧ g.pr < N) ∧ B ≤ g.gr ∧ g.gr < N
def PairG.off (g h : PairG) : Prop := g.gc ≠ h.gc ∧ g.gc ≠ h.gr ∧ g.gr ≠ h.gc ∧ g.gr ≠ h.gr

def ptrs : List PairG → List Value
  | [] => []
  | g :: r => .pointer (some ⟨g.pc, 0, none⟩) :: .pointer (some ⟨g.pr, 0, none⟩) :: ptrs r

theorem ptrs_append (a b : List PairG) : ptrs (a ++ b) = ptrs a ++ ptrs b := by
  induction a with
  | nil => rfl
  | cons g r ih => simp [ptrs, ih]
theorem ptrs_get0 : ∀ (ps : List PairG) (j : Nat) (g : PairG), ps[j]? = some g → (ptrs ps)[j * 2]? = some (.pointer (some ⟨g.pc, 0, none⟩))
  | [], j, g, h => by simp at h
  | x :: r, 0, g, h => by simp at h; subst h; rfl
  | x :: r, j + 1, g, h => by
    rw [show (j + 1) * 2 = j * 2 + 1 + 1 by omega]
    simp only [ptrs, List.getElem?_cons_succ] at h ⊢
    exact ptrs_get0 r j g h
theorem ptrs_get1 : ∀ (ps : List PairG) (j : Nat) (g : PairG), ps[j]? = some g → (ptrs ps)[j * 2 + 1]? = some (.pointer (some ⟨g.pr, 0, none⟩))
  | [], j, g, h => by simp at h
  | x :: r, 0, g, h => by simp at h; subst h; rfl
  | x :: r, j + 1, g, h => by
    rw [show (j + 1) * 2 + 1 = j * 2 + 1 + 1 + 1 by omega]
    simp only [ptrs, List.getElem?_cons_succ] at h ⊢
    exact ptrs_get1 r j g h
theorem ptrs_set : ∀ (ps : List PairG) (j : Nat) (g h : PairG), ps[j]? = some g → h.pc = g.pc → h.pr = g.pr → ptrs (ps.set j h) = ptrs ps
  | [], j, g, h, e, _, _ => by simp at e
  | x :: r, 0, g, h, e, e1, e2 => by simp at e; subst e; simp [ptrs, e1, e2]
  | x :: r, j + 1, g, h, e, e1, e2 => by
    simp only [List.getElem?_cons_succ] at e
    simp only [List.set_cons_succ, ptrs, ptrs_set r j g h e e1 e2]

theorem ownsRow_of_block {w w' : World} {base : Nat} {e : TypeId} {size : Nat} {v : Value} {n : Nat} {xs : List Value} (h : w.ownsRow base e size v n xs) (hb : ∀ k, v.ownBlock = some k → w'.heap[k]? = w.heap[k]?) : w'.ownsRow base e size v n xs := by
  refine ⟨h.1, ?_⟩
  rcases h.2 with h2 | ⟨g, cap, cur, hv, hg, hh, r⟩
  · exact .inl h2
  · exact .inr ⟨g, cap, cur, hv, hg, by rw [hb g (by rw [hv]; rfl)]; exact hh, r⟩

structure RowsAt (B N : Nat) (ca : Option Addr) (cl cc : Nat) (v2 v3 v4 : Value) (ra : Option Addr) (rc : Nat) (ps : List PairG) (w : World) : Prop where
  box : BoxAt w B (.slice ca cl cc) (.slice ra ps.length rc) v2 v3 v4
  own : w.ownsRow (B + 1) 46 2 (.slice ra ps.length rc) ps.length (ptrs ps)
  lt : ∀ k, Value.ownBlock (.slice ra ps.length rc) = some k → k < N
  bn : B < N
  nw : N ≤ w.heap.size
  at' : ∀ (i : Nat) g, ps[i]? = some g → g.at w ∧ g.within B N
  off : ∀ (i j : Nat) g h, ps[i]? = some g → ps[j]? = some h → i ≠ j → g.off h

/-- the blocks of the rows -/
def rwFoot (ra : Option Addr) (rc : Nat) (ps : List PairG) (k : Nat) : Prop := Value.ownBlock (.slice ra ps.length rc) = some k ∨ ∃ (i : Nat) (g : PairG), ps[i]? = some g ∧ (k = g.pc ∨ k = g.gc ∨ k = g.pr ∨ k = g.gr)

section
variable {B N : Nat} {ca : Option Addr} {cl cc : Nat} {v2 v3 v4 : Value} {ra : Option Addr} {rc : Nat} {ps : List PairG} {w w' : World}
theorem RowsAt.frame (h : RowsAt B N ca cl cc v2 v3 v4 ra rc ps w) (hc : ∀ k, B ≤ k → k < N → w'.heap[k]? = w.heap[k]?) (hs : w.heap.size ≤ w'.heap.size) : RowsAt B N ca cl cc v2 v3 v4 ra rc ps w' := by
  refine ⟨(hc B (Nat.le_refl _) h.bn).trans h.box, ownsRow_of_block h.own (fun k hk => hc k (by have := (h.own.lt k hk).1; omega) (h.lt k hk)), h.lt, h.bn, Nat.le_trans h.nw hs, fun i g hg => ?_, h.off⟩
  obtain ⟨h1, h2, h3, h4, h5⟩ := h.at' i g hg
  exact ⟨PairAt.frame h1 (hc _ h2.1 h2.2) (hc _ h3.1 h3.2) (hc _ h4.1 h4.2) (hc _ h5.1 h5.2), h2, h3, h4, h5⟩
theorem RowsAt.more (h : RowsAt B N ca cl cc v2 v3 v4 ra rc ps w) {M : Nat} (h1 : N ≤ M) (h2 : M ≤ w.heap.size) : RowsAt B M ca cl cc v2 v3 v4 ra rc ps w := by
  refine ⟨h.box, h.own, fun k hk => Nat.lt_of_lt_of_le (h.lt k hk) h1, Nat.lt_of_lt_of_le h.bn h1, h2, fun i g hg => ?_, h.off⟩
  obtain ⟨a1, a2, a3, a4, a5⟩ := h.at' i g hg
  exact ⟨a1, ⟨a2.1, by omega⟩, ⟨a3.1, by omega⟩, ⟨a4.1, by omega⟩, a5.1, by omega⟩
/-- the blocks of other types than an int's row -/
theorem RowsAt.nob (h : RowsAt B N ca cl cc v2 v3 v4 ra rc ps w) (i : Nat) (g : PairG) (hg : ps[i]? = some g) : (B ≠ g.gc ∧ B ≠ g.gr) ∧ ∀ k, Value.ownBlock (.slice ra ps.length rc) = some k → k ≠ g.gc ∧ k ≠ g.gr := by
  obtain ⟨hat, _⟩ := h.at' i g hg
  obtain ⟨cur, c1, _⟩ := hat.c.hg
  obtain ⟨cur', c1', _⟩ := hat.r.hg
  have hb := h.box
  unfold BoxAt at hb
  refine ⟨⟨?_, ?_⟩, fun k hk => ?_⟩
  · intro e
    rw [e, c1] at hb
    simp at hb
  · intro e
    rw [e, c1'] at hb
    simp at hb
  · rcases h.own.2 with ⟨hv, _⟩ | ⟨x, cap, cu, hv, _, hh, _⟩
    · rw [hv] at hk
      simp [Value.ownBlock] at hk
    · rw [hv] at hk
      simp [Value.ownBlock] at hk
      subst hk
      refine ⟨?_, ?_⟩
      · intro e
        rw [e, c1] at hh
        simp at hh
      · intro e
        rw [e, c1'] at hh
        simp at hh
/-- a call on row j -/
theorem RowsAt.turned (h : RowsAt B N ca cl cc v2 v3 v4 ra rc ps w) (j : Nat) (g : PairG) (hg : ps[j]? = some g) (Z' : Nat → Int) (hp : PairAt w' g.pc g.gc g.pr g.gr g.n g.cc g.cr Z') (hc : Chg (fun k => k = g.gc ∨ k = g.gr) w w') :
    ∃ ps', ps'.length = ps.length ∧ RowsAt B N ca cl cc v2 v3 v4 ra rc ps' w' ∧ ∀ k, rwFoot ra rc ps' k → rwFoot ra rc ps k := by
  have hnob := h.nob j g hg
  have hlen : (ps.set j { g with Z := Z' }).length = ps.length := by simp
  have hjl : j < ps.length := (List.getElem?_eq_some_iff.1 hg).1
  have get : ∀ (i : Nat) x, (ps.set j { g with Z := Z' })[i]? = some x → (i = j ∧ x = { g with Z := Z' }) ∨ (i ≠ j ∧ ps[i]? = some x) := fun i x hx => by
    rw [List.getElem?_set] at hx
    by_cases e : j = i
    · subst e
      simp [hjl] at hx
      exact .inl ⟨rfl, hx.symm⟩
    · rw [if_neg e] at hx
      exact .inr ⟨fun x => e x.symm, hx⟩
  refine ⟨ps.set j { g with Z := Z' }, hlen, ⟨?_, ?_, ?_, h.bn, Nat.le_trans h.nw hc.size, ?_, ?_⟩, fun k hk => ?_⟩
  · rw [hlen]
    exact h.box.chg hc (fun e => by rcases e with e | e; exact hnob.1.1 e; exact hnob.1.2 e)
  · rw [hlen, ptrs_set ps j g { g with Z := Z' } hg rfl rfl]
    exact ownsRow_of_block h.own (fun k hk => hc.block k ((h.own.lt k hk).2) (fun e => by rcases e with e | e; exact (hnob.2 k hk).1 e; exact (hnob.2 k hk).2 e))
  · rw [hlen]
    exact h.lt
  · intro i x hx
    rcases get i x hx with ⟨rfl, rfl⟩ | ⟨hij, hx⟩
    · exact ⟨hp, (h.at' i g hg).2⟩
    · obtain ⟨a1, a2⟩ := h.at' i x hx
      obtain ⟨o1, o2, o3, o4⟩ := h.off i j x g hx hg hij
      obtain ⟨b1, _⟩ := h.at' j g hg
      have e1 := a1.c.apart b1.r (by decide) (by decide) (by decide)
      have e2 := b1.c.apart a1.r (by decide) (by decide) (by decide)
      have e3 := a1.c.hp
      have e4 := a1.r.hp
      obtain ⟨u, c1, _⟩ := b1.c.hg
      obtain ⟨u', c1', _⟩ := b1.r.hg
      refine ⟨PairAt.chg a1 hc ?_ ?_ ?_ ?_, a2⟩
      · rintro (e | e)
        · rw [e, c1] at e3
          simp at e3
        · exact e1.2.1 e
      · rintro (e | e)
        · exact o1 e
        · exact o2 e
      · rintro (e | e)
        · exact e2.2.2 e.symm
        · rw [e, c1'] at e4
          simp at e4
      · rintro (e | e)
        · exact o3 e
        · exact o4 e
  · intro i i' x y hx hy hne
    rcases get i x hx with ⟨rfl, rfl⟩ | ⟨hij, hx2⟩
    · rcases get i' y hy with ⟨rfl, rfl⟩ | ⟨hij', hy⟩
      · exact absurd rfl hne
      · exact h.off i i' g y hg hy hne
    · rcases get i' y hy with ⟨rfl, rfl⟩ | ⟨hij', hy⟩
      · exact h.off i i' x g hx2 hg hne
      · exact h.off i i' x y hx2 hy hne
  · rcases hk with hk | ⟨i, x, hx, hk⟩
    · rw [hlen] at hk
      exact .inl hk
    · rcases get i x hx with ⟨rfl, rfl⟩ | ⟨_, hx⟩
      · exact .inr ⟨i, g, hg, hk⟩
      · exact .inr ⟨i, x, hx, hk⟩
/-- one row more -/
theorem RowsAt.added (h : RowsAt B N ca cl cc v2 v3 v4 ra rc ps w) {n : Nat} {v : Int} (hr : Rowed w B n ps.length v (.slice ca cl cc) (.slice ra ps.length rc) v2 v3 v4 (ptrs ps) w') :
    ∃ ra' rc' ps', ps'.length = ps.length + 1 ∧ RowsAt B w'.heap.size ca cl cc v2 v3 v4 ra' rc' ps' w' ∧ ∀ k, rwFoot ra' rc' ps' k → rwFoot ra rc ps k ∨ w.heap.size ≤ k := by
  obtain ⟨rv', p1, g1, p2, g2, c2, hbox, hown, hpair, l1, l2, l3, l4, hc, hat⟩ := hr
  have hrv : ∃ ra' rc', rv' = .slice ra' (ps.length + 1) rc' := by
    rcases hown.2 with ⟨_, h0⟩ | ⟨g, cap, cur, rfl, _⟩
    · omega
    · exact ⟨_, _, rfl⟩
  obtain ⟨ra', rc', rfl⟩ := hrv
  have hlen : (ps ++ [PairG.mk p1 g1 p2 g2 n n c2 (fun _ => v)]).length = ps.length + 1 := by simp
  have get : ∀ (i : Nat) x, (ps ++ [PairG.mk p1 g1 p2 g2 n n c2 (fun _ => v)])[i]? = some x → (i = ps.length ∧ x = PairG.mk p1 g1 p2 g2 n n c2 (fun _ => v)) ∨ (i < ps.length ∧ ps[i]? = some x) := fun i x hx => by
    rw [List.getElem?_append] at hx
    by_cases e : i < ps.length
    · rw [if_pos e] at hx
      exact .inr ⟨e, hx⟩
    · rw [if_neg e] at hx
      by_cases e2 : i = ps.length
      · subst e2
        simp at hx
        exact .inl ⟨rfl, hx.symm⟩
      · have : 1 ≤ i - ps.length := by omega
        rw [List.getElem?_eq_none (by simpa using this)] at hx
        cases hx
  have old : ∀ (i : Nat) x, ps[i]? = some x → x.at w' ∧ x.within B N := fun i x hx => by
    obtain ⟨a1, a2⟩ := h.at' i x hx
    have hn := h.nob i x hx
    have hap : ∀ k, (k = x.pc ∨ k = x.pr) → ¬ (k = B ∨ Value.ownBlock (.slice ra ps.length rc) = some k) := by
      intro k hk
      have hb := h.box
      unfold BoxAt at hb
      rintro (e | e)
      · rcases hk with hk | hk
        · have := a1.c.hp
          rw [← hk, e, hb] at this
          simp at this
        · have := a1.r.hp
          rw [← hk, e, hb] at this
          simp at this
      · rcases h.own.2 with ⟨hv, _⟩ | ⟨y, cap, cu, hv, _, hh, _⟩
        · rw [hv] at e
          simp [Value.ownBlock] at e
        · rw [hv] at e
          simp [Value.ownBlock] at e
          subst e
          rcases hk with hk | hk
          · have := a1.c.hp
            rw [← hk, hh] at this
            simp at this
          · have := a1.r.hp
            rw [← hk, hh] at this
            simp at this
    refine ⟨PairAt.chg a1 hc (hap _ (.inl rfl)) ?_ (hap _ (.inr rfl)) ?_, a2⟩
    · rintro (e | e)
      · exact hn.1.1 e.symm
      · exact (hn.2 _ e).1 rfl
    · rintro (e | e)
      · exact hn.1.2 e.symm
      · exact (hn.2 _ e).2 rfl
  have hsz := hc.size
  have hnw := h.nw
  have hbn := h.bn
  refine ⟨ra', rc', _, hlen, ⟨?_, ?_, ?_, hbox.lt, Nat.le_refl _, ?_, ?_⟩, fun k hk => ?_⟩
  · rw [hlen]; exact hbox
  · rw [hlen, ptrs_append]; exact hown
  · rw [hlen]; intro k hk; exact (hown.lt k hk).2
  · intro i x hx
    rcases get i x hx with ⟨rfl, rfl⟩ | ⟨hi, hx⟩
    · refine ⟨hpair, ?_⟩
      have q1 := hpair.c.ltp
      have q2 := hpair.c.ltg
      have q3 := hpair.r.ltp
      have q4 := hpair.r.ltg
      unfold PairG.within
      exact ⟨⟨by simp only; omega, q1⟩, ⟨by simp only; omega, q2⟩, ⟨by simp only; omega, q3⟩, by simp only; omega, q4⟩
    · obtain ⟨a1, a2, a3, a4, a5⟩ := old i x hx
      exact ⟨a1, ⟨a2.1, by omega⟩, ⟨a3.1, by omega⟩, ⟨a4.1, by omega⟩, a5.1, by omega⟩
  · intro i i' x y hx hy hne
    rcases get i x hx with ⟨rfl, rfl⟩ | ⟨hi, hx⟩
    · rcases get i' y hy with ⟨rfl, rfl⟩ | ⟨hi', hy⟩
      · exact absurd rfl hne
      · obtain ⟨_, a2, a3, a4, a5⟩ := old i' y hy
        unfold PairG.off
        exact ⟨by simp only; omega, by simp only; omega, by simp only; omega, by simp only; omega⟩
    · rcases get i' y hy with ⟨rfl, rfl⟩ | ⟨hi', hy⟩
      · obtain ⟨_, a2, a3, a4, a5⟩ := old i x hx
        unfold PairG.off
        exact ⟨by simp only; omega, by simp only; omega, by simp only; omega, by simp only; omega⟩
      · exact h.off i i' x y hx hy hne
  · rcases hk with hk | ⟨i, x, hx, hk⟩
    · rw [hlen] at hk
      rcases hat k hk with e | e
      · exact .inl (.inl e)
      · exact .inr e
    · rcases get i x hx with ⟨rfl, rfl⟩ | ⟨_, hx⟩
      · simp only at hk
        exact .inr (by omega)
      · exact .inl (.inr ⟨i, x, hx, hk⟩)
theorem RowsAt.foot_in (h : RowsAt B N ca cl cc v2 v3 v4 ra rc ps w) (k : Nat) (hk : rwFoot ra rc ps k) : B < k ∧ k < N := by
  have hb := h.box
  unfold BoxAt at hb
  rcases hk with hk | ⟨i, g, hg, hk⟩
  · have := (h.own.lt k hk).1
    exact ⟨by omega, h.lt k hk⟩
  · obtain ⟨a1, a2, a3, a4, a5⟩ := h.at' i g hg
    have nB : k ≠ B := by
      intro e
      rw [← e] at hb
      rcases hk with hk | hk | hk | hk
      · have := a1.c.hp
        rw [← hk, hb] at this
        simp at this
      · obtain ⟨cur, c1, _⟩ := a1.c.hg
        rw [← hk, hb] at c1
        simp at c1
      · have := a1.r.hp
        rw [← hk, hb] at this
        simp at this
      · obtain ⟨cur, c1, _⟩ := a1.r.hg
        rw [← hk, hb] at c1
        simp at c1
    rcases hk with hk | hk | hk | hk <;> omega
/-- the rest of the box, and blocks of others, have turned -/
theorem RowsAt.frameF {v2' v3' v4' : Value} {N' : Nat} (h : RowsAt B N ca cl cc v2 v3 v4 ra rc ps w) (hbox : BoxAt w' B (.slice ca cl cc) (.slice ra ps.length rc) v2' v3' v4') (hc : ∀ k, rwFoot ra rc ps k → w'.heap[k]? = w.heap[k]?) (h1 : N ≤ N') (h2 : N' ≤ w'.heap.size) : RowsAt B N' ca cl cc v2' v3' v4' ra rc ps w' := by
  refine ⟨hbox, ownsRow_of_block h.own (fun k hk => hc k (.inl hk)), fun k hk => Nat.lt_of_lt_of_le (h.lt k hk) h1, Nat.lt_of_lt_of_le h.bn h1, h2, fun i g hg => ?_, h.off⟩
  obtain ⟨a1, a2, a3, a4, a5⟩ := h.at' i g hg
  exact ⟨PairAt.frame a1 (hc _ (.inr ⟨i, g, hg, .inl rfl⟩)) (hc _ (.inr ⟨i, g, hg, .inr (.inl rfl)⟩)) (hc _ (.inr ⟨i, g, hg, .inr (.inr (.inl rfl))⟩)) (hc _ (.inr ⟨i, g, hg, .inr (.inr (.inr rfl))⟩)), ⟨a2.1, by omega⟩, ⟨a3.1, by omega⟩, ⟨a4.1, by omega⟩, a5.1, by omega⟩
end
end Go.Proofs.YtminceigjejipabGreat

/-
  ALL KINDS OF STEPS, over rows, markets and lists together.
-/
namespace Go.Proofs.YtminceigjejipabGreat
open Go.RowKit

/-- what holds between the steps: rows, markets, the lists that came out, all apart -/
structure AllAt (YAt : World → Nat → (Nat → Prop) → MkG → Prop) (B N : Nat) (ca : Option Addr) (cl cc : Nat) (ra : Option Addr) (rc : Nat) (ps : List PairG) (ma : Option Addr) (mc : Nat) (os : List MkO) (nv bv : Value) (ns bs : List Value) (FN FB : Nat → Prop) (w : World) : Prop where
  rows : RowsAt B N ca cl cc (.slice ma os.length mc) nv bv ra rc ps w
  mn : MNAt YAt B N (.slice ca cl cc) (.slice ra ps.length rc) ma mc os nv bv ns bs FN FB w
  dis : ∀ k, rwFoot ra rc ps k → ¬ mnFoot ma mc os FN FB k

section
variable {YAt : World → Nat → (Nat → Prop) → MkG → Prop} {B N : Nat} {ca : Option Addr} {cl cc : Nat} {ra : Option Addr} {rc : Nat} {ps : List PairG} {ma : Option Addr} {mc : Nat} {os : List MkO} {nv bv : Value} {ns bs : List Value} {FN FB : Nat → Prop} {w w' : World}
theorem AllAt.frame (hY : YardSpec YAt) (h : AllAt YAt B N ca cl cc ra rc ps ma mc os nv bv ns bs FN FB w) (hc : ∀ k, B ≤ k → k < N → w'.heap[k]? = w.heap[k]?) (hs : w.heap.size ≤ w'.heap.size) : AllAt YAt B N ca cl cc ra rc ps ma mc os nv bv ns bs FN FB w' :=
  ⟨h.rows.frame hc hs, h.mn.frame hY hc hs, h.dis⟩
/-- a step on markets -/
theorem AllAt.onMn (h : AllAt YAt B N ca cl cc ra rc ps ma mc os nv bv ns bs FN FB w) {ma' : Option Addr} {mc' : Nat} {os' : List MkO} {nv' bv' : Value} {ns' bs' : List Value} {FN' FB' : Nat → Prop} (h' : MNAt YAt B w'.heap.size (.slice ca cl cc) (.slice ra ps.length rc) ma' mc' os' nv' bv' ns' bs' FN' FB' w')
    (hg : ∀ k, mnFoot ma' mc' os' FN' FB' k → mnFoot ma mc os FN FB k ∨ w.heap.size ≤ k) (hc : Chg (fun k => k = B ∨ mnFoot ma mc os FN FB k) w w') : AllAt YAt B w'.heap.size ca cl cc ra rc ps ma' mc' os' nv' bv' ns' bs' FN' FB' w' := by
  have hnw := h.rows.nw
  have hs := hc.size
  refine ⟨h.rows.frameF h'.ms.box (fun k hk => ?_) (by omega) (Nat.le_refl _), h', fun k hk hm => ?_⟩
  · have := h.rows.foot_in k hk
    refine hc.block k (by omega) ?_
    rintro (e | e)
    · omega
    · exact h.dis k hk e
  · have := h.rows.foot_in k hk
    rcases hg k hm with e | e
    · exact h.dis k hk e
    · omega
/-- a step on rows -/
theorem AllAt.onRow (hY : YardSpec YAt) (h : AllAt YAt B N ca cl cc ra rc ps ma mc os nv bv ns bs FN FB w) {N' : Nat} {ra' : Option Addr} {rc' : Nat} {ps' : List PairG} (h' : RowsAt B N' ca cl cc (.slice ma os.length mc) nv bv ra' rc' ps' w') (hN : N ≤ N')
    (hg : ∀ k, rwFoot ra' rc' ps' k → rwFoot ra rc ps k ∨ w.heap.size ≤ k) (hc : Chg (fun k => k = B ∨ rwFoot ra rc ps k) w w') : AllAt YAt B N' ca cl cc ra' rc' ps' ma mc os nv bv ns bs FN FB w' := by
  have hnw := h.rows.nw
  refine ⟨h', h.mn.frame1 hY h'.box (fun k hk => ?_) hN h'.nw, fun k hk hm => ?_⟩
  · have := h.mn.foot_in k hk
    refine hc.block k (by omega) ?_
    rintro (e | e)
    · omega
    · exact h.dis k e hk
  · have := h.mn.foot_in k hm
    rcases hg k hk with e | e
    · exact h.dis k e hm
    · omega
end

def InvA (YAt : World → Nat → (Nat → Prop) → MkG → Prop) (B : Nat) (ca : Option Addr) (cl cc : Nat) (i : Nat) (O : Nat → Prop) (w : World) : Prop :=
  ∃ N ra rc ps ma mc os nv bv ns bs FN FB, AllAt YAt B N ca cl cc ra rc ps ma mc os nv bv ns bs FN FB w ∧ (ps.length ≤ i ∧ os.length ≤ i ∧ ns.length ≤ 2 * i ∧ bs.length ≤ 2 * i) ∧ ∀ k, O k ↔ B ≤ k ∧ k < N

theorem i64_ofA {z : Int} (h : IsI64 z) : I64 z := h

/-- an answer that holds, and what holds behind it -/
def StepOkA (YAt : World → Nat → (Nat → Prop) → MkG → Prop) (B : Nat) (ca : Option Addr) (cl cc i : Nat) (O : Nat → Prop) (w1 : World) (e : Ending) (w2 : World) : Prop :=
  ∃ O', e = .returned (.bool true) ∧ InvA YAt B ca cl cc (i + 1) O' w2 ∧ Chg O w1 w2

/-- a step of a kind from 6 to 15 -/
theorem stepA1 {YAt : World → Nat → (Nat → Prop) → MkG → Prop} (hY : YardSpec YAt) (hT : TickY YAt) (w w0 : World) (ca : Option Addr) (cl cc slen : Nat) (S : Nat → Int) (hw : ∀ t, t < slen * 10 → IsI64 (S t)) (hsl : slen < 1759218604391) (hb : Below w0.heap.size w0 w) (hc : IntRows w0 5 ca cl) (hcl : cl < 5000000000000)
    (i : Nat) (hi : i < slen) (hp : S (i * 10) = 6 ∨ S (i * 10) = 7 ∨ S (i * 10) = 8 ∨ S (i * 10) = 9 ∨ S (i * 10) = 10 ∨ S (i * 10) = 11 ∨ S (i * 10) = 12 ∨ S (i * 10) = 13 ∨ S (i * 10) = 14 ∨ S (i * 10) = 15) (O : Nat → Prop) (w1 : World) (hI : InvA YAt w.heap.size ca cl cc i O w1) (hbel : Below w.heap.size w w1) :
    Calls Tryz.prog 6 #[.pointer (some ⟨w.heap.size, 0, none⟩), opAt S i] w1 (StepOkA YAt w.heap.size ca cl cc i O w1) := by
  obtain ⟨N, ra, rc, ps, ma, mc, os, nv, bv, ns, bs, FN, FB, h, hl, hO⟩ := hI
  have I := fun f (hf : f < 10) => i64_ofA (hw (i * 10 + f) (by omega))
  have finA : ∀ (e : Ending) w2, e = .returned (.bool true) → (∃ N' ra' rc' ps' ma' mc' os' nv' bv' ns' bs' FN' FB', AllAt YAt w.heap.size N' ca cl cc ra' rc' ps' ma' mc' os' nv' bv' ns' bs' FN' FB' w2 ∧ (ps'.length ≤ i + 1 ∧ os'.length ≤ i + 1 ∧ ns'.length ≤ 2 * (i + 1) ∧ bs'.length ≤ 2 * (i + 1))) → Chg O w1 w2 → StepOkA YAt w.heap.size ca cl cc i O w1 e w2 := by
    rintro e w2 rfl ⟨N', ra', rc', ps', ma', mc', os', nv', bv', ns', bs', FN', FB', h', hl'⟩ hc
    exact ⟨fun k => w.heap.size ≤ k ∧ k < N', rfl, ⟨N', ra', rc', ps', ma', mc', os', nv', bv', ns', bs', FN', FB', h', hl', fun _ => Iff.rfl⟩, hc⟩
  have quiet : ∀ (e : Ending) w2, (e = .returned (.bool true) ∧ Chg (fun _ => False) w1 w2) → StepOkA YAt w.heap.size ca cl cc i O w1 e w2 := by
    rintro e w2 ⟨he, hq⟩
    exact finA e w2 he ⟨N, ra, rc, ps, ma, mc, os, nv, bv, ns, bs, FN, FB, h.frame hY (fun k _ h2 => hq.block k (by have := h.rows.nw; omega) (fun hn => hn)) hq.size, by omega⟩ (hq.mono (fun _ _ hx => hx.elim))
  have finM : ∀ (e : Ending) w2, e = .returned (.bool true) → (∃ ma' mc' os' nv' bv' ns' bs' FN' FB', MNAt YAt w.heap.size w2.heap.size (.slice ca cl cc) (.slice ra ps.length rc) ma' mc' os' nv' bv' ns' bs' FN' FB' w2 ∧ (os'.length ≤ i + 1 ∧ ns'.length ≤ 2 * (i + 1) ∧ bs'.length ≤ 2 * (i + 1)) ∧ ∀ k, mnFoot ma' mc' os' FN' FB' k → mnFoot ma mc os FN FB k ∨ w1.heap.size ≤ k) → Chg (fun k => k = w.heap.size ∨ mnFoot ma mc os FN FB k) w1 w2 → StepOkA YAt w.heap.size ca cl cc i O w1 e w2 := by
    rintro e w2 he ⟨ma', mc', os', nv', bv', ns', bs', FN', FB', h', hl', hg⟩ hc
    refine finA e w2 he ⟨_, ra, rc, ps, ma', mc', os', nv', bv', ns', bs', FN', FB', h.onMn h' hg hc, by omega⟩ (hc.mono (fun x _ hx => (hO x).2 ?_))
    rcases hx with e | e
    · have := h.rows.bn; omega
    · have := h.mn.foot_in x e; omega
  -- a call on a market
  have onM : ∀ (n : Nat) (o : MkO), os[n]? = some o → ∀ (e : Ending) w2, (e = .returned (.bool true) ∧ ∃ W, Chg (fun _ => False) w1 W ∧ ∃ m', PairTo YAt W o.y o.r o.F m' w2) → StepOkA YAt w.heap.size ca cl cc i O w1 e w2 := by
    rintro n o ho e w2 ⟨he, W, hW, m', hto⟩
    obtain ⟨os', hlen, h', hg⟩ := h.mn.turned hY ho hW hto
    obtain ⟨F', _, hcF, _⟩ := hto
    exact finM e w2 he ⟨ma, mc, os', nv, bv, ns, bs, FN, FB, h', by omega, hg⟩ ((hW.mono (fun _ _ hx => hx.elim)).trans hcF (fun x hx hxx => .inr (.inl (.inr ⟨n, o, ho, hxx⟩))))
  -- a tick
  have onT : ∀ (n : Nat) (o : MkO), os[n]? = some o → ∀ (e : Ending) w2, (e = .returned (.bool true) ∧ ∃ W, Chg (fun _ => False) w1 W ∧ Ticked YAt W w.heap.size o.y o.r o.F FN (.slice ca cl cc) (.slice ra ps.length rc) (.slice ma os.length mc) bv ns.length w2) → StepOkA YAt w.heap.size ca cl cc i O w1 e w2 := by
    rintro n o ho e w2 ⟨he, W, hW, hto⟩
    obtain ⟨os', nv', ns', FN', hlen, hlen2, h', hg⟩ := h.mn.ticked hY ho hW hto
    obtain ⟨m', F', FN2, nv2, ns2, _, _, _, _, hcF, _⟩ := hto
    refine finM e w2 he ⟨ma, mc, os', nv', bv, ns', bs, FN', FB, h', by omega, hg⟩ ((hW.mono (fun _ _ hx => hx.elim)).trans hcF (fun x hx hxx => ?_))
    rcases hxx with e | e | e
    · exact .inl e
    · exact .inr (.inl (.inr ⟨n, o, ho, e⟩))
    · exact .inr (.inr (.inl e))
  have cell2 := h.mn.ms.box.cell 2
  simp at cell2
  have pickM : os.length ≠ 0 → ∃ (n : Nat) (o : MkO) (gb : Nat), pickZ (S (i * 10 + 1)) os.length = (n : Int) ∧ n < os.length ∧ os[n]? = some o ∧ ma = some ⟨gb, 0, none⟩ ∧ w1.cell? ⟨gb, n * 2, none⟩ = some (.pointer (some ⟨o.y, 0, none⟩)) ∧ w1.cell? ⟨gb, n * 2 + 1, none⟩ = some (.pointer (some ⟨o.r, 0, none⟩)) := by
    intro hm
    obtain ⟨n, hn, hnl⟩ : ∃ n : Nat, pickZ (S (i * 10 + 1)) os.length = (n : Int) ∧ n < os.length := by
      have := pickZ_lt (S (i * 10 + 1)) os.length (by omega)
      exact ⟨(pickZ (S (i * 10 + 1)) os.length).toNat, by omega, by omega⟩
    obtain ⟨o, ho⟩ : ∃ o, os[n]? = some o := ⟨_, List.getElem?_eq_getElem hnl⟩
    obtain ⟨gb, hma⟩ : ∃ gb, ma = some ⟨gb, 0, none⟩ := by
      rcases h.mn.ms.own.2 with ⟨_, h0⟩ | ⟨x, cap, cu, hv, _⟩
      · omega
      · simp only [Value.slice.injEq] at hv
        exact ⟨x, hv.1⟩
    subst hma
    have c0 := h.mn.ms.own.cells (g := gb) rfl (n * 2) _ (mptrs_get0 os n o ho)
    have c1 := h.mn.ms.own.cells (g := gb) rfl (n * 2 + 1) _ (mptrs_get1 os n o ho)
    rw [Addr.add_lit] at c0 c1
    simp only [Nat.zero_add] at c0 c1
    exact ⟨n, o, gb, hn, hnl, ho, rfl, c0, c1⟩
  have pairW : ∀ (n : Nat) (o : MkO), os[n]? = some o → ∀ W, Chg (fun _ => False) w1 W → PairM YAt W o.y o.r o.F o.m := fun n o ho W hW =>
    PairM.frame hY (h.mn.ms.at' n o ho).1 (fun k hk => hW.block k (PairM.lt hY (h.mn.ms.at' n o ho).1 k hk) (fun h => h))
  rcases hp with hk | hk | hk | hk | hk | hk | hk | hk | hk | hk
  · have e : opAt S i = .agg #[.int .i64 6, .int .i64 (S (i * 10 + 1)), .int .i64 (S (i * 10 + 2)), .int .i64 (S (i * 10 + 3)), .int .i64 (S (i * 10 + 4)), .int .i64 (S (i * 10 + 5)), .int .i64 (S (i * 10 + 6)), .int .i64 (S (i * 10 + 7)), .int .i64 (S (i * 10 + 8)), .int .i64 (S (i * 10 + 9))] := by
      unfold opAt; rw [hk]
    rw [e]
    have hcell := h.mn.ms.box.cell 0
    simp at hcell
    rcases hc with rfl | ⟨b0, off, Z, hcl0, rfl, hbl, hZ, _⟩
    · exact (step_open_none w.heap.size cc ca _ _ _ _ ⟨S (i * 10 + 5), S (i * 10 + 6), S (i * 10 + 7), S (i * 10 + 8), S (i * 10 + 9)⟩ w1 hcell).mono quiet
    · have hz : ∀ t, t < cl * 5 → w1.cell? ⟨b0, off + t, none⟩ = some (.int .i64 (Z t)) := fun t ht => by
        rw [hbel.cell (by have := hb.size; show b0 < _; omega), hb.cell (by exact hbl)]
        exact hZ t ht
      obtain ⟨n, hn, hnl⟩ : ∃ n : Nat, pickZ (S (i * 10 + 1)) cl = (n : Int) ∧ n < cl := by
        have := pickZ_lt (S (i * 10 + 1)) cl (by omega)
        exact ⟨(pickZ (S (i * 10 + 1)) cl).toNat, by omega, by omega⟩
      have boxW : ∀ W, Chg (fun _ => False) w1 W → BoxAt W w.heap.size (.slice (some ⟨b0, off, none⟩) cl cc) (.slice ra ps.length rc) (.slice ma os.length mc) nv bv ∧ W.ownsRow 0 56 2 (.slice ma os.length mc) os.length (mptrs os) := fun W hW =>
        ⟨h.mn.ms.box.chg hW (fun h => h), ownsRow_keep h.mn.ms.own (fun k hk => hW.block k ((h.mn.ms.own.lt k hk).2) (fun h => h))⟩
      cases hck : cfgOk ⟨Z (n * 5), Z (n * 5 + 1), Z (n * 5 + 2), Z (n * 5 + 3), Z (n * 5 + 4)⟩
      · refine (step_open_some w.heap.size b0 off cl cc n Z _ _ _ _ ⟨S (i * 10 + 5), S (i * 10 + 6), S (i * 10 + 7), S (i * 10 + 8), S (i * 10 + 9)⟩ w1 (fun W w' => Chg (fun _ => False) W w') hcell hcl0 (by omega) (I 1 (by omega)).1 (I 1 (by omega)).2 hn hnl hz (fun W hW => opened_bad hY w.heap.size _ W hck)).mono ?_
        rintro e w2 ⟨he, W, hW, hq⟩
        exact quiet e w2 ⟨he, hW.trans hq (fun _ _ h => h)⟩
      · refine (step_open_some w.heap.size b0 off cl cc n Z _ _ _ _ ⟨S (i * 10 + 5), S (i * 10 + 6), S (i * 10 + 7), S (i * 10 + 8), S (i * 10 + 9)⟩ w1 (fun W w' => ∃ o, Opened YAt (W.alloc o) w.heap.size os.length ⟨Z (n * 5), Z (n * 5 + 1), Z (n * 5 + 2), Z (n * 5 + 3), Z (n * 5 + 4)⟩ (.slice (some ⟨b0, off, none⟩) cl cc) (.slice ra ps.length rc) (.slice ma os.length mc) nv bv (mptrs os) w') hcell hcl0 (by omega) (I 1 (by omega)).1 (I 1 (by omega)).2 hn hnl hz
          (fun W hW => opened_ok hY w.heap.size os.length _ ma mc _ _ _ _ (mptrs os) W hck (by omega) (boxW W hW).1 (boxW W hW).2)).mono ?_
        rintro e w2 ⟨he, W, hW, o, hop⟩
        obtain ⟨ma', mc', os', hlen, h', hg⟩ := h.mn.added hY (hW.alloc o) hop
        obtain ⟨g, cap, y, r, F, _, _, _, _, _, hcF, _⟩ := hop
        refine finM e w2 he ⟨ma', mc', os', nv, bv, ns, bs, FN, FB, h', by omega, hg⟩ (((hW.alloc o).mono (fun _ _ hx => hx.elim)).trans hcF (fun x hx hxx => ?_))
        rcases hxx with e | e
        · exact .inl e
        · exact .inr (.inl (.inl e))
  · have e : opAt S i = .agg #[.int .i64 7, .int .i64 (S (i * 10 + 1)), .int .i64 (S (i * 10 + 2)), .int .i64 (S (i * 10 + 3)), .int .i64 (S (i * 10 + 4)), .int .i64 (S (i * 10 + 5)), .int .i64 (S (i * 10 + 6)), .int .i64 (S (i * 10 + 7)), .int .i64 (S (i * 10 + 8)), .int .i64 (S (i * 10 + 9))] := by
      unfold opAt; rw [hk]
    rw [e]
    by_cases hm : os.length = 0
    · rw [hm] at cell2
      exact (step_m7_none w.heap.size mc ma _ _ _ _ ⟨S (i * 10 + 5), S (i * 10 + 6), S (i * 10 + 7), S (i * 10 + 8), S (i * 10 + 9)⟩ w1 cell2).mono quiet
    · obtain ⟨n, o, gb, hn, hnl, ho, hma, c0, c1⟩ := pickM hm
      rw [hma] at cell2
      exact (step_m7_some w.heap.size gb os.length mc n o.y o.r _ _ _ _ ⟨S (i * 10 + 5), S (i * 10 + 6), S (i * 10 + 7), S (i * 10 + 8), S (i * 10 + 9)⟩ w1 (fun W w' => ∃ m', PairTo YAt W o.y o.r o.F m' w') cell2 (by omega) hn hnl (I 1 (by omega)).1 (I 1 (by omega)).2 c0 c1 (fun W hW => (bid_submit hY o.y o.r o.F o.m _ _ _ _ ⟨S (i * 10 + 5), S (i * 10 + 6), S (i * 10 + 7), S (i * 10 + 8), S (i * 10 + 9)⟩ W (pairW n o ho W hW) (I 2 (by omega)) (I 3 (by omega)) ⟨I 5 (by omega), I 6 (by omega), I 7 (by omega), I 8 (by omega), I 9 (by omega)⟩).mono (fun e w' ⟨m', he, ht⟩ => ⟨he, m', ht⟩))).mono (onM n o ho)
  · have e : opAt S i = .agg #[.int .i64 8, .int .i64 (S (i * 10 + 1)), .int .i64 (S (i * 10 + 2)), .int .i64 (S (i * 10 + 3)), .int .i64 (S (i * 10 + 4)), .int .i64 (S (i * 10 + 5)), .int .i64 (S (i * 10 + 6)), .int .i64 (S (i * 10 + 7)), .int .i64 (S (i * 10 + 8)), .int .i64 (S (i * 10 + 9))] := by
      unfold opAt; rw [hk]
    rw [e]
    by_cases hm : os.length = 0
    · rw [hm] at cell2
      exact (step_m8_none w.heap.size mc ma _ _ _ _ ⟨S (i * 10 + 5), S (i * 10 + 6), S (i * 10 + 7), S (i * 10 + 8), S (i * 10 + 9)⟩ w1 cell2).mono quiet
    · obtain ⟨n, o, gb, hn, hnl, ho, hma, c0, c1⟩ := pickM hm
      rw [hma] at cell2
      exact (step_m8_some w.heap.size gb os.length mc n o.y o.r _ _ _ _ ⟨S (i * 10 + 5), S (i * 10 + 6), S (i * 10 + 7), S (i * 10 + 8), S (i * 10 + 9)⟩ w1 (fun W w' => ∃ m', PairTo YAt W o.y o.r o.F m' w') cell2 (by omega) hn hnl (I 1 (by omega)).1 (I 1 (by omega)).2 c0 c1 (fun W hW => (bid_cancel hY o.y o.r o.F o.m _ _ _ _ ⟨S (i * 10 + 5), S (i * 10 + 6), S (i * 10 + 7), S (i * 10 + 8), S (i * 10 + 9)⟩ W (pairW n o ho W hW) (I 2 (by omega)) (I 3 (by omega))).mono (fun e w' ⟨m', he, ht⟩ => ⟨he, m', ht⟩))).mono (onM n o ho)
  · have e : opAt S i = .agg #[.int .i64 9, .int .i64 (S (i * 10 + 1)), .int .i64 (S (i * 10 + 2)), .int .i64 (S (i * 10 + 3)), .int .i64 (S (i * 10 + 4)), .int .i64 (S (i * 10 + 5)), .int .i64 (S (i * 10 + 6)), .int .i64 (S (i * 10 + 7)), .int .i64 (S (i * 10 + 8)), .int .i64 (S (i * 10 + 9))] := by
      unfold opAt; rw [hk]
    rw [e]
    by_cases hm : os.length = 0
    · rw [hm] at cell2
      exact (step_m9_none w.heap.size mc ma _ _ _ _ ⟨S (i * 10 + 5), S (i * 10 + 6), S (i * 10 + 7), S (i * 10 + 8), S (i * 10 + 9)⟩ w1 cell2).mono quiet
    · obtain ⟨n, o, gb, hn, hnl, ho, hma, c0, c1⟩ := pickM hm
      rw [hma] at cell2
      exact (step_m9_some w.heap.size gb os.length mc n o.y o.r _ _ _ _ ⟨S (i * 10 + 5), S (i * 10 + 6), S (i * 10 + 7), S (i * 10 + 8), S (i * 10 + 9)⟩ w1 (fun W w' => ∃ m', PairTo YAt W o.y o.r o.F m' w') cell2 (by omega) hn hnl (I 1 (by omega)).1 (I 1 (by omega)).2 c0 c1 (fun W hW => (bid_suspend hY o.y o.r o.F o.m _ _ _ _ ⟨S (i * 10 + 5), S (i * 10 + 6), S (i * 10 + 7), S (i * 10 + 8), S (i * 10 + 9)⟩ W (pairW n o ho W hW) (I 2 (by omega)) (I 3 (by omega))).mono (fun e w' ⟨m', he, ht⟩ => ⟨he, m', ht⟩))).mono (onM n o ho)
  · have e : opAt S i = .agg #[.int .i64 10, .int .i64 (S (i * 10 + 1)), .int .i64 (S (i * 10 + 2)), .int .i64 (S (i * 10 + 3)), .int .i64 (S (i * 10 + 4)), .int .i64 (S (i * 10 + 5)), .int .i64 (S (i * 10 + 6)), .int .i64 (S (i * 10 + 7)), .int .i64 (S (i * 10 + 8)), .int .i64 (S (i * 10 + 9))] := by
      unfold opAt; rw [hk]
    rw [e]
    by_cases hm : os.length = 0
    · rw [hm] at cell2
      exact (step_m10_none w.heap.size mc ma _ _ _ _ ⟨S (i * 10 + 5), S (i * 10 + 6), S (i * 10 + 7), S (i * 10 + 8), S (i * 10 + 9)⟩ w1 cell2).mono quiet
    · obtain ⟨n, o, gb, hn, hnl, ho, hma, c0, c1⟩ := pickM hm
      rw [hma] at cell2
      exact (step_m10_some w.heap.size gb os.length mc n o.y o.r _ _ _ _ ⟨S (i * 10 + 5), S (i * 10 + 6), S (i * 10 + 7), S (i * 10 + 8), S (i * 10 + 9)⟩ w1 (fun W w' => ∃ m', PairTo YAt W o.y o.r o.F m' w') cell2 (by omega) hn hnl (I 1 (by omega)).1 (I 1 (by omega)).2 c0 c1 (fun W hW => (bid_capacity hY o.y o.r o.F o.m _ _ _ _ ⟨S (i * 10 + 5), S (i * 10 + 6), S (i * 10 + 7), S (i * 10 + 8), S (i * 10 + 9)⟩ W (pairW n o ho W hW) (I 2 (by omega)) (I 3 (by omega)) (I 4 (by omega))).mono (fun e w' ⟨m', he, ht⟩ => ⟨he, m', ht⟩))).mono (onM n o ho)
  · have e : opAt S i = .agg #[.int .i64 11, .int .i64 (S (i * 10 + 1)), .int .i64 (S (i * 10 + 2)), .int .i64 (S (i * 10 + 3)), .int .i64 (S (i * 10 + 4)), .int .i64 (S (i * 10 + 5)), .int .i64 (S (i * 10 + 6)), .int .i64 (S (i * 10 + 7)), .int .i64 (S (i * 10 + 8)), .int .i64 (S (i * 10 + 9))] := by
      unfold opAt; rw [hk]
    rw [e]
    by_cases hm : os.length = 0
    · rw [hm] at cell2
      exact (step_m11_none w.heap.size mc ma _ _ _ _ ⟨S (i * 10 + 5), S (i * 10 + 6), S (i * 10 + 7), S (i * 10 + 8), S (i * 10 + 9)⟩ w1 cell2).mono quiet
    · obtain ⟨n, o, gb, hn, hnl, ho, hma, c0, c1⟩ := pickM hm
      rw [hma] at cell2
      exact (step_m11_some w.heap.size gb os.length mc n o.y o.r _ _ _ _ ⟨S (i * 10 + 5), S (i * 10 + 6), S (i * 10 + 7), S (i * 10 + 8), S (i * 10 + 9)⟩ w1 (fun W w' => ∃ m', PairTo YAt W o.y o.r o.F m' w') cell2 (by omega) hn hnl (I 1 (by omega)).1 (I 1 (by omega)).2 c0 c1 (fun W hW => (looked_now hY o.y o.r o.F o.m _ _ _ _ ⟨S (i * 10 + 5), S (i * 10 + 6), S (i * 10 + 7), S (i * 10 + 8), S (i * 10 + 9)⟩ W (pairW n o ho W hW)).mono (fun e w' ⟨he, ht⟩ => ⟨he, _, ht⟩))).mono (onM n o ho)
  · have e : opAt S i = .agg #[.int .i64 12, .int .i64 (S (i * 10 + 1)), .int .i64 (S (i * 10 + 2)), .int .i64 (S (i * 10 + 3)), .int .i64 (S (i * 10 + 4)), .int .i64 (S (i * 10 + 5)), .int .i64 (S (i * 10 + 6)), .int .i64 (S (i * 10 + 7)), .int .i64 (S (i * 10 + 8)), .int .i64 (S (i * 10 + 9))] := by
      unfold opAt; rw [hk]
    rw [e]
    by_cases hm : os.length = 0
    · rw [hm] at cell2
      exact (step_m12_none w.heap.size mc ma _ _ _ _ ⟨S (i * 10 + 5), S (i * 10 + 6), S (i * 10 + 7), S (i * 10 + 8), S (i * 10 + 9)⟩ w1 cell2).mono quiet
    · obtain ⟨n, o, gb, hn, hnl, ho, hma, c0, c1⟩ := pickM hm
      rw [hma] at cell2
      exact (step_m12_some w.heap.size gb os.length mc n o.y o.r _ _ _ _ ⟨S (i * 10 + 5), S (i * 10 + 6), S (i * 10 + 7), S (i * 10 + 8), S (i * 10 + 9)⟩ w1 (fun W w' => ∃ m', PairTo YAt W o.y o.r o.F m' w') cell2 (by omega) hn hnl (I 1 (by omega)).1 (I 1 (by omega)).2 c0 c1 (fun W hW => (looked_left hY o.y o.r o.F o.m _ _ _ _ ⟨S (i * 10 + 5), S (i * 10 + 6), S (i * 10 + 7), S (i * 10 + 8), S (i * 10 + 9)⟩ W (pairW n o ho W hW)).mono (fun e w' ⟨he, ht⟩ => ⟨he, _, ht⟩))).mono (onM n o ho)
  · have e : opAt S i = .agg #[.int .i64 13, .int .i64 (S (i * 10 + 1)), .int .i64 (S (i * 10 + 2)), .int .i64 (S (i * 10 + 3)), .int .i64 (S (i * 10 + 4)), .int .i64 (S (i * 10 + 5)), .int .i64 (S (i * 10 + 6)), .int .i64 (S (i * 10 + 7)), .int .i64 (S (i * 10 + 8)), .int .i64 (S (i * 10 + 9))] := by
      unfold opAt; rw [hk]
    rw [e]
    by_cases hm : os.length = 0
    · rw [hm] at cell2
      exact (step_m13_none w.heap.size mc ma _ _ _ _ ⟨S (i * 10 + 5), S (i * 10 + 6), S (i * 10 + 7), S (i * 10 + 8), S (i * 10 + 9)⟩ w1 cell2).mono quiet
    · obtain ⟨n, o, gb, hn, hnl, ho, hma, c0, c1⟩ := pickM hm
      rw [hma] at cell2
      exact (step_m13_some w.heap.size gb os.length mc n o.y o.r _ _ _ _ ⟨S (i * 10 + 5), S (i * 10 + 6), S (i * 10 + 7), S (i * 10 + 8), S (i * 10 + 9)⟩ w1 (fun W w' => ∃ m', PairTo YAt W o.y o.r o.F m' w') cell2 (by omega) hn hnl (I 1 (by omega)).1 (I 1 (by omega)).2 c0 c1 (fun W hW => (looked_look hY o.y o.r o.F o.m _ _ _ _ ⟨S (i * 10 + 5), S (i * 10 + 6), S (i * 10 + 7), S (i * 10 + 8), S (i * 10 + 9)⟩ W (pairW n o ho W hW) (I 2 (by omega)) (I 3 (by omega))).mono (fun e w' ⟨he, ht⟩ => ⟨he, _, ht⟩))).mono (onM n o ho)
  · have e : opAt S i = .agg #[.int .i64 14, .int .i64 (S (i * 10 + 1)), .int .i64 (S (i * 10 + 2)), .int .i64 (S (i * 10 + 3)), .int .i64 (S (i * 10 + 4)), .int .i64 (S (i * 10 + 5)), .int .i64 (S (i * 10 + 6)), .int .i64 (S (i * 10 + 7)), .int .i64 (S (i * 10 + 8)), .int .i64 (S (i * 10 + 9))] := by
      unfold opAt; rw [hk]
    rw [e]
    by_cases hm : os.length = 0
    · rw [hm] at cell2
      exact (step_m14_none w.heap.size mc ma _ _ _ _ ⟨S (i * 10 + 5), S (i * 10 + 6), S (i * 10 + 7), S (i * 10 + 8), S (i * 10 + 9)⟩ w1 cell2).mono quiet
    · obtain ⟨n, o, gb, hn, hnl, ho, hma, c0, c1⟩ := pickM hm
      rw [hma] at cell2
      exact (step_m14_some w.heap.size gb os.length mc n o.y o.r _ _ _ _ ⟨S (i * 10 + 5), S (i * 10 + 6), S (i * 10 + 7), S (i * 10 + 8), S (i * 10 + 9)⟩ w1 (fun W w' => ∃ m', PairTo YAt W o.y o.r o.F m' w') cell2 (by omega) hn hnl (I 1 (by omega)).1 (I 1 (by omega)).2 c0 c1 (fun W hW => (looked_free hY o.y o.r o.F o.m _ _ _ _ ⟨S (i * 10 + 5), S (i * 10 + 6), S (i * 10 + 7), S (i * 10 + 8), S (i * 10 + 9)⟩ W (pairW n o ho W hW) (I 2 (by omega))).mono (fun e w' ⟨he, ht⟩ => ⟨he, _, ht⟩))).mono (onM n o ho)
  · have e : opAt S i = .agg #[.int .i64 15, .int .i64 (S (i * 10 + 1)), .int .i64 (S (i * 10 + 2)), .int .i64 (S (i * 10 + 3)), .int .i64 (S (i * 10 + 4)), .int .i64 (S (i * 10 + 5)), .int .i64 (S (i * 10 + 6)), .int .i64 (S (i * 10 + 7)), .int .i64 (S (i * 10 + 8)), .int .i64 (S (i * 10 + 9))] := by
      unfold opAt; rw [hk]
    rw [e]
    by_cases hm : os.length = 0
    · rw [hm] at cell2
      exact (step_m15_none w.heap.size mc ma _ _ _ _ ⟨S (i * 10 + 5), S (i * 10 + 6), S (i * 10 + 7), S (i * 10 + 8), S (i * 10 + 9)⟩ w1 cell2).mono quiet
    · obtain ⟨n, o, gb, hn, hnl, ho, hma, c0, c1⟩ := pickM hm
      rw [hma] at cell2
      have a2 := (h.mn.ms.at' n o ho).2.1
      exact (step_m15_some w.heap.size gb os.length mc n o.y o.r _ _ _ _ ⟨S (i * 10 + 5), S (i * 10 + 6), S (i * 10 + 7), S (i * 10 + 8), S (i * 10 + 9)⟩ w1 (fun W w' => Ticked YAt W w.heap.size o.y o.r o.F FN (.slice ca cl cc) (.slice ra ps.length rc) (.slice ma os.length mc) bv ns.length w') cell2 (by omega) hn hnl (I 1 (by omega)).1 (I 1 (by omega)).2 c0 c1 (fun W hW => ticked_any hY hT w.heap.size o.y o.r o.F FN o.m _ _ _ nv bv ns W (pairW n o ho W hW) (h.mn.ms.box.chg hW (fun h => h)) (h.mn.names.chg0 hW) h.mn.evn (by omega) (fun k hk hf => (h.mn.fn k hf).2.2.2 (.inr ⟨n, o, ho, hk⟩)) (fun hf => by have := a2 _ hf; omega) (fun hf => by have := h.mn.fn _ hf; omega))).mono (onT n o ho)

/-- a step of a kind from 16 to 20 -/
theorem stepA2 {YAt : World → Nat → (Nat → Prop) → MkG → Prop} (hY : YardSpec YAt) (hP : PaidY YAt) (w w0 : World) (ca : Option Addr) (cl cc slen : Nat) (S : Nat → Int) (hw : ∀ t, t < slen * 10 → IsI64 (S t)) (hsl : slen < 1759218604391) (_ : Below w0.heap.size w0 w) (_ : IntRows w0 5 ca cl) (_ : cl < 5000000000000)
    (i : Nat) (hi : i < slen) (hp : S (i * 10) = 16 ∨ S (i * 10) = 17 ∨ S (i * 10) = 18 ∨ S (i * 10) = 19 ∨ S (i * 10) = 20) (O : Nat → Prop) (w1 : World) (hI : InvA YAt w.heap.size ca cl cc i O w1) (_ : Below w.heap.size w w1) :
    Calls Tryz.prog 6 #[.pointer (some ⟨w.heap.size, 0, none⟩), opAt S i] w1 (StepOkA YAt w.heap.size ca cl cc i O w1) := by
  obtain ⟨N, ra, rc, ps, ma, mc, os, nv, bv, ns, bs, FN, FB, h, hl, hO⟩ := hI
  have I := fun f (hf : f < 10) => i64_ofA (hw (i * 10 + f) (by omega))
  have finA : ∀ (e : Ending) w2, e = .returned (.bool true) → (∃ N' ra' rc' ps' ma' mc' os' nv' bv' ns' bs' FN' FB', AllAt YAt w.heap.size N' ca cl cc ra' rc' ps' ma' mc' os' nv' bv' ns' bs' FN' FB' w2 ∧ (ps'.length ≤ i + 1 ∧ os'.length ≤ i + 1 ∧ ns'.length ≤ 2 * (i + 1) ∧ bs'.length ≤ 2 * (i + 1))) → Chg O w1 w2 → StepOkA YAt w.heap.size ca cl cc i O w1 e w2 := by
    rintro e w2 rfl ⟨N', ra', rc', ps', ma', mc', os', nv', bv', ns', bs', FN', FB', h', hl'⟩ hc
    exact ⟨fun k => w.heap.size ≤ k ∧ k < N', rfl, ⟨N', ra', rc', ps', ma', mc', os', nv', bv', ns', bs', FN', FB', h', hl', fun _ => Iff.rfl⟩, hc⟩
  have quiet : ∀ (e : Ending) w2, (e = .returned (.bool true) ∧ Chg (fun _ => False) w1 w2) → StepOkA YAt w.heap.size ca cl cc i O w1 e w2 := by
    rintro e w2 ⟨he, hq⟩
    exact finA e w2 he ⟨N, ra, rc, ps, ma, mc, os, nv, bv, ns, bs, FN, FB, h.frame hY (fun k _ h2 => hq.block k (by have := h.rows.nw; omega) (fun hn => hn)) hq.size, by omega⟩ (hq.mono (fun _ _ hx => hx.elim))
  have finM : ∀ (e : Ending) w2, e = .returned (.bool true) → (∃ ma' mc' os' nv' bv' ns' bs' FN' FB', MNAt YAt w.heap.size w2.heap.size (.slice ca cl cc) (.slice ra ps.length rc) ma' mc' os' nv' bv' ns' bs' FN' FB' w2 ∧ (os'.length ≤ i + 1 ∧ ns'.length ≤ 2 * (i + 1) ∧ bs'.length ≤ 2 * (i + 1)) ∧ ∀ k, mnFoot ma' mc' os' FN' FB' k → mnFoot ma mc os FN FB k ∨ w1.heap.size ≤ k) → Chg (fun k => k = w.heap.size ∨ mnFoot ma mc os FN FB k) w1 w2 → StepOkA YAt w.heap.size ca cl cc i O w1 e w2 := by
    rintro e w2 he ⟨ma', mc', os', nv', bv', ns', bs', FN', FB', h', hl', hg⟩ hc
    refine finA e w2 he ⟨_, ra, rc, ps, ma', mc', os', nv', bv', ns', bs', FN', FB', h.onMn h' hg hc, by omega⟩ (hc.mono (fun x _ hx => (hO x).2 ?_))
    rcases hx with e | e
    · have := h.rows.bn; omega
    · have := h.mn.foot_in x e; omega
  -- a call on a market
  have onM : ∀ (n : Nat) (o : MkO), os[n]? = some o → ∀ (e : Ending) w2, (e = .returned (.bool true) ∧ ∃ W, Chg (fun _ => False) w1 W ∧ ∃ m', PairTo YAt W o.y o.r o.F m' w2) → StepOkA YAt w.heap.size ca cl cc i O w1 e w2 := by
    rintro n o ho e w2 ⟨he, W, hW, m', hto⟩
    obtain ⟨os', hlen, h', hg⟩ := h.mn.turned hY ho hW hto
    obtain ⟨F', _, hcF, _⟩ := hto
    exact finM e w2 he ⟨ma, mc, os', nv, bv, ns, bs, FN, FB, h', by omega, hg⟩ ((hW.mono (fun _ _ hx => hx.elim)).trans hcF (fun x hx hxx => .inr (.inl (.inr ⟨n, o, ho, hxx⟩))))
  -- a list of invoices
  have onB : ∀ (n : Nat) (o : MkO), os[n]? = some o → ∀ (e : Ending) w2, (e = .returned (.bool true) ∧ ∃ W, Chg (fun _ => False) w1 W ∧ PaidL YAt W w.heap.size o.y o.r o.F FB (.slice ca cl cc) (.slice ra ps.length rc) (.slice ma os.length mc) nv bs.length w2) → StepOkA YAt w.heap.size ca cl cc i O w1 e w2 := by
    rintro n o ho e w2 ⟨he, W, hW, hto⟩
    obtain ⟨os', bv', bs', FB', hlen, hlen2, h', hg⟩ := h.mn.billed hY ho hW hto
    obtain ⟨m', F', FB2, bv2, bs2, _, _, _, _, hcF, _⟩ := hto
    refine finM e w2 he ⟨ma, mc, os', nv, bv', ns, bs', FN, FB', h', by omega, hg⟩ ((hW.mono (fun _ _ hx => hx.elim)).trans hcF (fun x hx hxx => ?_))
    rcases hxx with e | e | e
    · exact .inl e
    · exact .inr (.inl (.inr ⟨n, o, ho, e⟩))
    · exact .inr (.inr (.inr e))
  have cell2 := h.mn.ms.box.cell 2
  simp at cell2
  have pickM : os.length ≠ 0 → ∃ (n : Nat) (o : MkO) (gb : Nat), pickZ (S (i * 10 + 1)) os.length = (n : Int) ∧ n < os.length ∧ os[n]? = some o ∧ ma = some ⟨gb, 0, none⟩ ∧ w1.cell? ⟨gb, n * 2, none⟩ = some (.pointer (some ⟨o.y, 0, none⟩)) ∧ w1.cell? ⟨gb, n * 2 + 1, none⟩ = some (.pointer (some ⟨o.r, 0, none⟩)) := by
    intro hm
    obtain ⟨n, hn, hnl⟩ : ∃ n : Nat, pickZ (S (i * 10 + 1)) os.length = (n : Int) ∧ n < os.length := by
      have := pickZ_lt (S (i * 10 + 1)) os.length (by omega)
      exact ⟨(pickZ (S (i * 10 + 1)) os.length).toNat, by omega, by omega⟩
    obtain ⟨o, ho⟩ : ∃ o, os[n]? = some o := ⟨_, List.getElem?_eq_getElem hnl⟩
    obtain ⟨gb, hma⟩ : ∃ gb, ma = some ⟨gb, 0, none⟩ := by
      rcases h.mn.ms.own.2 with ⟨_, h0⟩ | ⟨x, cap, cu, hv, _⟩
      · omega
      · simp only [Value.slice.injEq] at hv
        exact ⟨x, hv.1⟩
    subst hma
    have c0 := h.mn.ms.own.cells (g := gb) rfl (n * 2) _ (mptrs_get0 os n o ho)
    have c1 := h.mn.ms.own.cells (g := gb) rfl (n * 2 + 1) _ (mptrs_get1 os n o ho)
    rw [Addr.add_lit] at c0 c1
    simp only [Nat.zero_add] at c0 c1
    exact ⟨n, o, gb, hn, hnl, ho, rfl, c0, c1⟩
  have pairW : ∀ (n : Nat) (o : MkO), os[n]? = some o → ∀ W, Chg (fun _ => False) w1 W → PairM YAt W o.y o.r o.F o.m := fun n o ho W hW =>
    PairM.frame hY (h.mn.ms.at' n o ho).1 (fun k hk => hW.block k (PairM.lt hY (h.mn.ms.at' n o ho).1 k hk) (fun h => h))
  rcases hp with hk | hk | hk | hk | hk
  · have e : opAt S i = .agg #[.int .i64 16, .int .i64 (S (i * 10 + 1)), .int .i64 (S (i * 10 + 2)), .int .i64 (S (i * 10 + 3)), .int .i64 (S (i * 10 + 4)), .int .i64 (S (i * 10 + 5)), .int .i64 (S (i * 10 + 6)), .int .i64 (S (i * 10 + 7)), .int .i64 (S (i * 10 + 8)), .int .i64 (S (i * 10 + 9))] := by
      unfold opAt; rw [hk]
    rw [e]
    by_cases hm : os.length = 0
    · rw [hm] at cell2
      exact (step_m16_none w.heap.size mc ma _ _ _ _ ⟨S (i * 10 + 5), S (i * 10 + 6), S (i * 10 + 7), S (i * 10 + 8), S (i * 10 + 9)⟩ w1 cell2).mono quiet
    · obtain ⟨n, o, gb, hn, hnl, ho, hma, c0, c1⟩ := pickM hm
      rw [hma] at cell2
      exact (step_m16_some w.heap.size gb os.length mc n o.y o.r _ _ _ _ ⟨S (i * 10 + 5), S (i * 10 + 6), S (i * 10 + 7), S (i * 10 + 8), S (i * 10 + 9)⟩ w1 (fun W w' => ∃ m', PairTo YAt W o.y o.r o.F m' w') cell2 (by omega) hn hnl (I 1 (by omega)).1 (I 1 (by omega)).2 c0 c1 (fun W hW => (paid_price hY hP w.heap.size o.y o.r o.F o.m _ _ _ _ ⟨S (i * 10 + 5), S (i * 10 + 6), S (i * 10 + 7), S (i * 10 + 8), S (i * 10 + 9)⟩ W (pairW n o ho W hW) (I 2 (by omega)) (I 3 (by omega))).mono (fun e w' ⟨he, ht⟩ => ⟨he, _, ht⟩))).mono (onM n o ho)
  · have e : opAt S i = .agg #[.int .i64 17, .int .i64 (S (i * 10 + 1)), .int .i64 (S (i * 10 + 2)), .int .i64 (S (i * 10 + 3)), .int .i64 (S (i * 10 + 4)), .int .i64 (S (i * 10 + 5)), .int .i64 (S (i * 10 + 6)), .int .i64 (S (i * 10 + 7)), .int .i64 (S (i * 10 + 8)), .int .i64 (S (i * 10 + 9))] := by
      unfold opAt; rw [hk]
    rw [e]
    by_cases hm : os.length = 0
    · rw [hm] at cell2
      exact (step_m17_none w.heap.size mc ma _ _ _ _ ⟨S (i * 10 + 5), S (i * 10 + 6), S (i * 10 + 7), S (i * 10 + 8), S (i * 10 + 9)⟩ w1 cell2).mono quiet
    · obtain ⟨n, o, gb, hn, hnl, ho, hma, c0, c1⟩ := pickM hm
      rw [hma] at cell2
      have a2 := (h.mn.ms.at' n o ho).2.1
      exact (step_m17_some w.heap.size gb os.length mc n o.y o.r _ _ _ _ ⟨S (i * 10 + 5), S (i * 10 + 6), S (i * 10 + 7), S (i * 10 + 8), S (i * 10 + 9)⟩ w1 (fun W w' => PaidL YAt W w.heap.size o.y o.r o.F FB (.slice ca cl cc) (.slice ra ps.length rc) (.slice ma os.length mc) nv bs.length w') cell2 (by omega) hn hnl (I 1 (by omega)).1 (I 1 (by omega)).2 c0 c1 (fun W hW => paid_bill hY hP w.heap.size o.y o.r o.F o.m _ _ _ _ ⟨S (i * 10 + 5), S (i * 10 + 6), S (i * 10 + 7), S (i * 10 + 8), S (i * 10 + 9)⟩ W (pairW n o ho W hW) FB _ _ _ nv bv bs (h.mn.ms.box.chg hW (fun h => h)) (h.mn.bills.chg0 hW) h.mn.evb (by omega) (fun k hk hf => (h.mn.fb k hf).2.2 (.inr ⟨n, o, ho, hk⟩)) (fun hf => by have := a2 _ hf; omega) (fun hf => by have := h.mn.fb _ hf; omega))).mono (onB n o ho)
  · have e : opAt S i = .agg #[.int .i64 18, .int .i64 (S (i * 10 + 1)), .int .i64 (S (i * 10 + 2)), .int .i64 (S (i * 10 + 3)), .int .i64 (S (i * 10 + 4)), .int .i64 (S (i * 10 + 5)), .int .i64 (S (i * 10 + 6)), .int .i64 (S (i * 10 + 7)), .int .i64 (S (i * 10 + 8)), .int .i64 (S (i * 10 + 9))] := by
      unfold opAt; rw [hk]
    rw [e]
    by_cases hm : os.length = 0
    · rw [hm] at cell2
      exact (step_m18_none w.heap.size mc ma _ _ _ _ ⟨S (i * 10 + 5), S (i * 10 + 6), S (i * 10 + 7), S (i * 10 + 8), S (i * 10 + 9)⟩ w1 cell2).mono quiet
    · obtain ⟨n, o, gb, hn, hnl, ho, hma, c0, c1⟩ := pickM hm
      rw [hma] at cell2
      exact (step_m18_some w.heap.size gb os.length mc n o.y o.r _ _ _ _ ⟨S (i * 10 + 5), S (i * 10 + 6), S (i * 10 + 7), S (i * 10 + 8), S (i * 10 + 9)⟩ w1 (fun W w' => ∃ m', PairTo YAt W o.y o.r o.F m' w') cell2 (by omega) hn hnl (I 1 (by omega)).1 (I 1 (by omega)).2 c0 c1 (fun W hW => (paid_pay hY hP w.heap.size o.y o.r o.F o.m _ _ _ _ ⟨S (i * 10 + 5), S (i * 10 + 6), S (i * 10 + 7), S (i * 10 + 8), S (i * 10 + 9)⟩ W (pairW n o ho W hW) (I 2 (by omega)) (I 3 (by omega))).mono (fun e w' ⟨m', he, ht⟩ => ⟨he, m', ht⟩))).mono (onM n o ho)
  · have e : opAt S i = .agg #[.int .i64 19, .int .i64 (S (i * 10 + 1)), .int .i64 (S (i * 10 + 2)), .int .i64 (S (i * 10 + 3)), .int .i64 (S (i * 10 + 4)), .int .i64 (S (i * 10 + 5)), .int .i64 (S (i * 10 + 6)), .int .i64 (S (i * 10 + 7)), .int .i64 (S (i * 10 + 8)), .int .i64 (S (i * 10 + 9))] := by
      unfold opAt; rw [hk]
    rw [e]
    by_cases hm : os.length = 0
    · rw [hm] at cell2
      exact (step_m19_none w.heap.size mc ma _ _ _ _ ⟨S (i * 10 + 5), S (i * 10 + 6), S (i * 10 + 7), S (i * 10 + 8), S (i * 10 + 9)⟩ w1 cell2).mono quiet
    · obtain ⟨n, o, gb, hn, hnl, ho, hma, c0, c1⟩ := pickM hm
      rw [hma] at cell2
      exact (step_m19_some w.heap.size gb os.length mc n o.y o.r _ _ _ _ ⟨S (i * 10 + 5), S (i * 10 + 6), S (i * 10 + 7), S (i * 10 + 8), S (i * 10 + 9)⟩ w1 (fun W w' => ∃ m', PairTo YAt W o.y o.r o.F m' w') cell2 (by omega) hn hnl (I 1 (by omega)).1 (I 1 (by omega)).2 c0 c1 (fun W hW => (paid_balance hY hP w.heap.size o.y o.r o.F o.m _ _ _ _ ⟨S (i * 10 + 5), S (i * 10 + 6), S (i * 10 + 7), S (i * 10 + 8), S (i * 10 + 9)⟩ W (pairW n o ho W hW) (I 2 (by omega))).mono (fun e w' ⟨he, ht⟩ => ⟨he, _, ht⟩))).mono (onM n o ho)
  · have e : opAt S i = .agg #[.int .i64 20, .int .i64 (S (i * 10 + 1)), .int .i64 (S (i * 10 + 2)), .int .i64 (S (i * 10 + 3)), .int .i64 (S (i * 10 + 4)), .int .i64 (S (i * 10 + 5)), .int .i64 (S (i * 10 + 6)), .int .i64 (S (i * 10 + 7)), .int .i64 (S (i * 10 + 8)), .int .i64 (S (i * 10 + 9))] := by
      unfold opAt; rw [hk]
    rw [e]
    by_cases hm : os.length = 0
    · rw [hm] at cell2
      exact (step_m20_none w.heap.size mc ma _ _ _ _ ⟨S (i * 10 + 5), S (i * 10 + 6), S (i * 10 + 7), S (i * 10 + 8), S (i * 10 + 9)⟩ w1 cell2).mono quiet
    · obtain ⟨n, o, gb, hn, hnl, ho, hma, c0, c1⟩ := pickM hm
      rw [hma] at cell2
      have a2 := (h.mn.ms.at' n o ho).2.1
      exact (step_m20_some w.heap.size gb os.length mc n o.y o.r _ _ _ _ ⟨S (i * 10 + 5), S (i * 10 + 6), S (i * 10 + 7), S (i * 10 + 8), S (i * 10 + 9)⟩ w1 (fun W w' => PaidL YAt W w.heap.size o.y o.r o.F FB (.slice ca cl cc) (.slice ra ps.length rc) (.slice ma os.length mc) nv bs.length w') cell2 (by omega) hn hnl (I 1 (by omega)).1 (I 1 (by omega)).2 c0 c1 (fun W hW => paid_invoices hY hP w.heap.size o.y o.r o.F o.m _ _ _ _ ⟨S (i * 10 + 5), S (i * 10 + 6), S (i * 10 + 7), S (i * 10 + 8), S (i * 10 + 9)⟩ W (pairW n o ho W hW) FB _ _ _ nv bv bs (h.mn.ms.box.chg hW (fun h => h)) (h.mn.bills.chg0 hW) h.mn.evb (by omega) (fun k hk hf => (h.mn.fb k hf).2.2 (.inr ⟨n, o, ho, hk⟩)) (fun hf => by have := a2 _ hf; omega) (fun hf => by have := h.mn.fb _ hf; omega) (I 2 (by omega)))).mono (onB n o ho)

/-- a step of a kind from 1 to 5 -/
theorem stepA0 {YAt : World → Nat → (Nat → Prop) → MkG → Prop} (hY : YardSpec YAt) (w w0 : World) (ca : Option Addr) (cl cc slen : Nat) (S : Nat → Int) (hw : ∀ t, t < slen * 10 → IsI64 (S t)) (hsl : slen < 1759218604391) (hb : Below w0.heap.size w0 w) (hc : IntRows w0 5 ca cl) (hcl : cl < 5000000000000)
    (i : Nat) (hi : i < slen) (hp : S (i * 10) = 1 ∨ S (i * 10) = 2 ∨ S (i * 10) = 3 ∨ S (i * 10) = 4 ∨ S (i * 10) = 5) (O : Nat → Prop) (w1 : World) (hI : InvA YAt w.heap.size ca cl cc i O w1) (hbel : Below w.heap.size w w1) :
    Calls Tryz.prog 6 #[.pointer (some ⟨w.heap.size, 0, none⟩), opAt S i] w1 (StepOkA YAt w.heap.size ca cl cc i O w1) := by
  obtain ⟨N, ra, rc, ps, ma, mc, os, nv, bv, ns, bs, FN, FB, h, hl, hO⟩ := hI
  have I := fun f (hf : f < 10) => i64_ofA (hw (i * 10 + f) (by omega))
  have finA : ∀ (e : Ending) w2, e = .returned (.bool true) → (∃ N' ra' rc' ps' ma' mc' os' nv' bv' ns' bs' FN' FB', AllAt YAt w.heap.size N' ca cl cc ra' rc' ps' ma' mc' os' nv' bv' ns' bs' FN' FB' w2 ∧ (ps'.length ≤ i + 1 ∧ os'.length ≤ i + 1 ∧ ns'.length ≤ 2 * (i + 1) ∧ bs'.length ≤ 2 * (i + 1))) → Chg O w1 w2 → StepOkA YAt w.heap.size ca cl cc i O w1 e w2 := by
    rintro e w2 rfl ⟨N', ra', rc', ps', ma', mc', os', nv', bv', ns', bs', FN', FB', h', hl'⟩ hc
    exact ⟨fun k => w.heap.size ≤ k ∧ k < N', rfl, ⟨N', ra', rc', ps', ma', mc', os', nv', bv', ns', bs', FN', FB', h', hl', fun _ => Iff.rfl⟩, hc⟩
  have quiet : ∀ (e : Ending) w2, (e = .returned (.bool true) ∧ Chg (fun _ => False) w1 w2) → StepOkA YAt w.heap.size ca cl cc i O w1 e w2 := by
    rintro e w2 ⟨he, hq⟩
    exact finA e w2 he ⟨N, ra, rc, ps, ma, mc, os, nv, bv, ns, bs, FN, FB, h.frame hY (fun k _ h2 => hq.block k (by have := h.rows.nw; omega) (fun hn => hn)) hq.size, by omega⟩ (hq.mono (fun _ _ hx => hx.elim))
  have finR : ∀ (e : Ending) w2, e = .returned (.bool true) → (∃ N' ra' rc' ps', RowsAt w.heap.size N' ca cl cc (.slice ma os.length mc) nv bv ra' rc' ps' w2 ∧ N ≤ N' ∧ ps'.length ≤ i + 1 ∧ ∀ k, rwFoot ra' rc' ps' k → rwFoot ra rc ps k ∨ w1.heap.size ≤ k) → Chg (fun k => k = w.heap.size ∨ rwFoot ra rc ps k) w1 w2 → StepOkA YAt w.heap.size ca cl cc i O w1 e w2 := by
    rintro e w2 he ⟨N', ra', rc', ps', h', hN, hl', hg⟩ hc
    refine finA e w2 he ⟨N', ra', rc', ps', ma, mc, os, nv, bv, ns, bs, FN, FB, h.onRow hY h' hN hg hc, by omega⟩ (hc.mono (fun x _ hx => (hO x).2 ?_))
    rcases hx with e | e
    · have := h.rows.bn; omega
    · have := h.rows.foot_in x e; omega
  have ha := hw (i * 10 + 1) (by omega)
  have hb' := hw (i * 10 + 2) (by omega)
  rcases hp with hk | hk | hk | hk | hk
  · have e : opAt S i = .agg #[.int .i64 1, .int .i64 (S (i * 10 + 1)), .int .i64 (S (i * 10 + 2)), .int .i64 (S (i * 10 + 3)), .int .i64 (S (i * 10 + 4)), .int .i64 (S (i * 10 + 5)), .int .i64 (S (i * 10 + 6)), .int .i64 (S (i * 10 + 7)), .int .i64 (S (i * 10 + 8)), .int .i64 (S (i * 10 + 9))] := by
      unfold opAt; rw [hk]
    rw [e]
    have hcell := h.rows.box.cell 0
    simp at hcell
    rcases hc with rfl | ⟨b, off, Z, hcl0, rfl, hbl, hZ, _⟩
    · exact (step_check_none w.heap.size cc ca _ _ _ _ _ _ _ _ _ w1 hcell).mono quiet
    · have hz : ∀ t, t < cl * 5 → w1.cell? ⟨b, off + t, none⟩ = some (.int .i64 (Z t)) := fun t ht => by
        rw [hbel.cell (by have := hb.size; show b < _; omega), hb.cell (by exact hbl)]
        exact hZ t ht
      exact (step_check_some w.heap.size b off cl cc Z _ _ _ _ _ _ _ _ _ w1 hcell hcl0 (by omega) ha.1 ha.2 hz).mono quiet
  · have e : opAt S i = .agg #[.int .i64 2, .int .i64 (S (i * 10 + 1)), .int .i64 (S (i * 10 + 2)), .int .i64 (S (i * 10 + 3)), .int .i64 (S (i * 10 + 4)), .int .i64 (S (i * 10 + 5)), .int .i64 (S (i * 10 + 6)), .int .i64 (S (i * 10 + 7)), .int .i64 (S (i * 10 + 8)), .int .i64 (S (i * 10 + 9))] := by
      unfold opAt; rw [hk]
    rw [e]
    generalize S (i * 10 + 1) = n0 at *
    generalize S (i * 10 + 2) = v0 at *
    have hr := h.rows
    cases hnew : newB n0 v0
    · obtain ⟨n1, n2, n3⟩ := newB_false hnew
      obtain ⟨n, rfl⟩ := Int.eq_ofNat_of_zero_le (show 0 ≤ n0 by omega)
      have hf : ∀ o, RowsAt w.heap.size N ca cl cc (.slice ma os.length mc) nv bv ra rc ps (w1.alloc o) := fun o => hr.frame (fun k _ h2 => Below.heap_alloc _ _ _ (by have := hr.nw; omega)) (by simp)
      refine (step_row w.heap.size n v0 _ _ _ _ _ _ _ w1 (fun wa w' => Rowed wa w.heap.size n ps.length v0 (.slice ca cl cc) (.slice ra ps.length rc) (.slice ma os.length mc) nv bv (ptrs ps) w') (fun o => rowed_ok w.heap.size n ps.length v0 ra rc _ _ _ _ (ptrs ps) (w1.alloc o) (by omega) (by omega) n3 (by omega) (hf o).box (hf o).own)).mono ?_
      rintro e w2 ⟨o, he, hro⟩
      obtain ⟨ra', rc', ps', hlen, h', hg⟩ := (hf o).added hro
      obtain ⟨_, _, _, _, _, _, _, _, _, _, _, _, _, hc, _⟩ := hro
      have hs := hc.size
      refine finR e w2 he ⟨_, ra', rc', ps', h', by have := hr.nw; simp at hs; omega, by omega, fun k hk => ?_⟩ (((Chg.refl _ w1).alloc o).trans hc (fun x hx hxx => ?_))
      · rcases hg k hk with e | e
        · exact .inl e
        · exact .inr (by simp at e; omega)
      · rcases hxx with e | e
        · exact .inl e
        · exact .inr (.inl e)
    · refine (step_row w.heap.size n0 v0 _ _ _ _ _ _ _ w1 (fun wa w' => w' = wa) (fun o => rowed_bad w.heap.size n0 v0 _ hnew)).mono ?_
      rintro e w2 ⟨o, he, rfl⟩
      exact quiet e _ ⟨he, (Chg.refl _ _).alloc _⟩
  · have e : opAt S i = .agg #[.int .i64 3, .int .i64 (S (i * 10 + 1)), .int .i64 (S (i * 10 + 2)), .int .i64 (S (i * 10 + 3)), .int .i64 (S (i * 10 + 4)), .int .i64 (S (i * 10 + 5)), .int .i64 (S (i * 10 + 6)), .int .i64 (S (i * 10 + 7)), .int .i64 (S (i * 10 + 8)), .int .i64 (S (i * 10 + 9))] := by
      unfold opAt; rw [hk]
    rw [e]
    have hcell := h.rows.box.cell 1
    simp at hcell
    by_cases hm : ps.length = 0
    · rw [hm] at hcell
      exact (step_add_none w.heap.size rc ra _ _ _ _ _ _ _ _ _ w1 hcell).mono quiet
    · obtain ⟨j, hj, hjl⟩ : ∃ j : Nat, pickZ (S (i * 10 + 1)) ps.length = (j : Int) ∧ j < ps.length := by
        have := pickZ_lt (S (i * 10 + 1)) ps.length (by omega)
        exact ⟨(pickZ (S (i * 10 + 1)) ps.length).toNat, by omega, by omega⟩
      obtain ⟨g, hg⟩ : ∃ g, ps[j]? = some g := ⟨_, List.getElem?_eq_getElem hjl⟩
      obtain ⟨hat, hwi⟩ := h.rows.at' j g hg
      have hnob := h.rows.nob j g hg
      obtain ⟨gb, hra⟩ : ∃ gb, ra = some ⟨gb, 0, none⟩ := by
        rcases h.rows.own.2 with ⟨_, h0⟩ | ⟨x, cap, cu, hv, _⟩
        · omega
        · simp only [Value.slice.injEq] at hv
          exact ⟨x, hv.1⟩
      subst hra
      have c0 := h.rows.own.cells (g := gb) rfl (j * 2) _ (ptrs_get0 ps j g hg)
      have c1 := h.rows.own.cells (g := gb) rfl (j * 2 + 1) _ (ptrs_get1 ps j g hg)
      rw [Addr.add_lit] at c0 c1
      simp only [Nat.zero_add] at c0 c1
      refine (step_add_some w.heap.size gb ps.length rc j g.pc g.gc g.pr g.gr g.n g.cc g.cr g.Z _ _ _ _ _ _ _ _ _ w1 hcell (by omega) hj hjl ha.1 ha.2 hb'.2 c0 c1 hat hnob.1.1 hnob.1.2 (hnob.2 gb rfl).1 (hnob.2 gb rfl).2).mono ?_
      rintro e w2 ⟨Z', he, hp2, hc2⟩
      obtain ⟨ps', hlen, h', hgr⟩ := h.rows.turned j g hg Z' hp2 hc2
      refine finR e w2 he ⟨N, _, rc, ps', h', Nat.le_refl _, by omega, fun k hk => .inl (hgr k hk)⟩ (hc2.mono (fun x _ hxx => ?_))
      rcases hxx with rfl | rfl
      · exact .inr (.inr ⟨j, g, hg, .inr (.inl rfl)⟩)
      · exact .inr (.inr ⟨j, g, hg, .inr (.inr (.inr rfl))⟩)
  · have e : opAt S i = .agg #[.int .i64 4, .int .i64 (S (i * 10 + 1)), .int .i64 (S (i * 10 + 2)), .int .i64 (S (i * 10 + 3)), .int .i64 (S (i * 10 + 4)), .int .i64 (S (i * 10 + 5)), .int .i64 (S (i * 10 + 6)), .int .i64 (S (i * 10 + 7)), .int .i64 (S (i * 10 + 8)), .int .i64 (S (i * 10 + 9))] := by
      unfold opAt; rw [hk]
    rw [e]
    have hcell := h.rows.box.cell 1
    simp at hcell
    by_cases hm : ps.length = 0
    · rw [hm] at hcell
      exact (step_min_none w.heap.size rc ra _ _ _ _ _ _ _ _ _ w1 hcell).mono quiet
    · obtain ⟨j, hj, hjl⟩ : ∃ j : Nat, pickZ (S (i * 10 + 1)) ps.length = (j : Int) ∧ j < ps.length := by
        have := pickZ_lt (S (i * 10 + 1)) ps.length (by omega)
        exact ⟨(pickZ (S (i * 10 + 1)) ps.length).toNat, by omega, by omega⟩
      obtain ⟨g, hg⟩ : ∃ g, ps[j]? = some g := ⟨_, List.getElem?_eq_getElem hjl⟩
      obtain ⟨hat, hwi⟩ := h.rows.at' j g hg
      have hnob := h.rows.nob j g hg
      obtain ⟨gb, hra⟩ : ∃ gb, ra = some ⟨gb, 0, none⟩ := by
        rcases h.rows.own.2 with ⟨_, h0⟩ | ⟨x, cap, cu, hv, _⟩
        · omega
        · simp only [Value.slice.injEq] at hv
          exact ⟨x, hv.1⟩
      subst hra
      have c0 := h.rows.own.cells (g := gb) rfl (j * 2) _ (ptrs_get0 ps j g hg)
      have c1 := h.rows.own.cells (g := gb) rfl (j * 2 + 1) _ (ptrs_get1 ps j g hg)
      rw [Addr.add_lit] at c0 c1
      simp only [Nat.zero_add] at c0 c1
      refine (step_min_some w.heap.size gb ps.length rc j g.pc g.gc g.pr g.gr g.n g.cc g.cr g.Z _ _ _ _ _ _ _ _ _ w1 hcell (by omega) hj hjl ha.1 ha.2 hb'.2 c0 c1 hat hnob.1.1 hnob.1.2 (hnob.2 gb rfl).1 (hnob.2 gb rfl).2).mono ?_
      rintro e w2 ⟨Z', he, hp2, hc2⟩
      obtain ⟨ps', hlen, h', hgr⟩ := h.rows.turned j g hg Z' hp2 hc2
      refine finR e w2 he ⟨N, _, rc, ps', h', Nat.le_refl _, by omega, fun k hk => .inl (hgr k hk)⟩ (hc2.mono (fun x _ hxx => ?_))
      rcases hxx with rfl | rfl
      · exact .inr (.inr ⟨j, g, hg, .inr (.inl rfl)⟩)
      · exact .inr (.inr ⟨j, g, hg, .inr (.inr (.inr rfl))⟩)
  · have e : opAt S i = .agg #[.int .i64 5, .int .i64 (S (i * 10 + 1)), .int .i64 (S (i * 10 + 2)), .int .i64 (S (i * 10 + 3)), .int .i64 (S (i * 10 + 4)), .int .i64 (S (i * 10 + 5)), .int .i64 (S (i * 10 + 6)), .int .i64 (S (i * 10 + 7)), .int .i64 (S (i * 10 + 8)), .int .i64 (S (i * 10 + 9))] := by
      unfold opAt; rw [hk]
    rw [e]
    have hcell := h.rows.box.cell 1
    simp at hcell
    by_cases hm : ps.length = 0
    · rw [hm] at hcell
      exact (step_fit_none w.heap.size rc ra _ _ _ _ _ _ _ _ _ w1 hcell).mono quiet
    · obtain ⟨j, hj, hjl⟩ : ∃ j : Nat, pickZ (S (i * 10 + 1)) ps.length = (j : Int) ∧ j < ps.length := by
        have := pickZ_lt (S (i * 10 + 1)) ps.length (by omega)
        exact ⟨(pickZ (S (i * 10 + 1)) ps.length).toNat, by omega, by omega⟩
      obtain ⟨g, hg⟩ : ∃ g, ps[j]? = some g := ⟨_, List.getElem?_eq_getElem hjl⟩
      obtain ⟨hat, hwi⟩ := h.rows.at' j g hg
      have hnob := h.rows.nob j g hg
      obtain ⟨gb, hra⟩ : ∃ gb, ra = some ⟨gb, 0, none⟩ := by
        rcases h.rows.own.2 with ⟨_, h0⟩ | ⟨x, cap, cu, hv, _⟩
        · omega
        · simp only [Value.slice.injEq] at hv
          exact ⟨x, hv.1⟩
      subst hra
      have c0 := h.rows.own.cells (g := gb) rfl (j * 2) _ (ptrs_get0 ps j g hg)
      have c1 := h.rows.own.cells (g := gb) rfl (j * 2 + 1) _ (ptrs_get1 ps j g hg)
      rw [Addr.add_lit] at c0 c1
      simp only [Nat.zero_add] at c0 c1
      refine (step_fit_some w.heap.size gb ps.length rc j g.pc g.gc g.pr g.gr g.n g.cc g.cr g.Z _ _ _ _ _ _ _ _ _ w1 hcell (by omega) hj hjl ha.1 ha.2 hb'.2 c0 c1 hat hnob.1.1 hnob.1.2 (hnob.2 gb rfl).1 (hnob.2 gb rfl).2).mono ?_
      rintro e w2 ⟨Z', he, hp2, hc2⟩
      obtain ⟨ps', hlen, h', hgr⟩ := h.rows.turned j g hg Z' hp2 hc2
      refine finR e w2 he ⟨N, _, rc, ps', h', Nat.le_refl _, by omega, fun k hk => .inl (hgr k hk)⟩ (hc2.mono (fun x _ hxx => ?_))
      rcases hxx with rfl | rfl
      · exact .inr (.inr ⟨j, g, hg, .inr (.inl rfl)⟩)
      · exact .inr (.inr ⟨j, g, hg, .inr (.inr (.inr rfl))⟩)

/-- kinds that there are -/
def kindsOk (l : List Int) : Bool := l.all fun k => decide (1 ≤ k) && decide (k ≤ 20)
theorem kindsOk_mem {l : List Int} (h : kindsOk l = true) {x : Int} (hx : l.contains x = true) : 1 ≤ x ∧ x ≤ 20 := by
  unfold kindsOk at h
  rw [List.all_eq_true] at h
  have := h x (by simpa using hx)
  simpa using this

theorem playsA {YAt : World → Nat → (Nat → Prop) → MkG → Prop} (hY : YardSpec YAt) (hT : TickY YAt) (hP : PaidY YAt) (ks hs : List Int) (hks : kindsOk ks = true) (w w0 : World) (ca : Option Addr) (cl cc slen : Nat) (S : Nat → Int) (hw : ∀ t, t < slen * 10 → IsI64 (S t)) (hsl : slen < 1759218604391) (hb : Below w0.heap.size w0 w) (hc : IntRows w0 5 ca cl) (hcl : cl < 5000000000000) :
    Plays w.heap.size slen S ks hs w (InvA YAt w.heap.size ca cl cc) := by
  refine ⟨?_, ?_, ?_, ?_, ?_⟩
  · rintro i O w1 ⟨N, ra, rc, ps, ma, mc, os, nv, bv, ns, bs, FN, FB, h, _, hO⟩ k hk
    have := (hO k).1 hk
    have := h.rows.nw
    exact ⟨by omega, by omega⟩
  · rintro i O w1 w2 ⟨N, ra, rc, ps, ma, mc, os, nv, bv, ns, bs, FN, FB, h, hl, hO⟩ hc
    exact ⟨N, ra, rc, ps, ma, mc, os, nv, bv, ns, bs, FN, FB, h.frame hY (fun k h1 h2 => hc.block k (by have := h.rows.nw; omega) (fun hn => hn ((hO k).2 ⟨h1, h2⟩))) hc.size, hl, hO⟩
  · rintro i O w1 ⟨N, ra, rc, ps, ma, mc, os, nv, bv, ns, bs, FN, FB, h, hl, hO⟩
    exact ⟨N, ra, rc, ps, ma, mc, os, nv, bv, ns, bs, FN, FB, h, by omega, hO⟩
  · intro i hi hp O w1 hI hbel
    have hk := kindsOk_mem hks hp
    have key : Calls Tryz.prog 6 #[.pointer (some ⟨w.heap.size, 0, none⟩), opAt S i] w1 (StepOkA YAt w.heap.size ca cl cc i O w1) := by
      by_cases h5 : S (i * 10) ≤ 5
      · exact stepA0 hY w w0 ca cl cc slen S hw hsl hb hc hcl i hi (by omega) O w1 hI hbel
      · by_cases h15 : S (i * 10) ≤ 15
        · exact stepA1 hY hT w w0 ca cl cc slen S hw hsl hb hc hcl i hi (by omega) O w1 hI hbel
        · exact stepA2 hY hP w w0 ca cl cc slen S hw hsl hb hc hcl i hi (by omega) O w1 hI hbel
    refine key.mono ?_
    rintro e w2 ⟨O', he, hI', hc'⟩
    exact ⟨true, O', he, hI', hc', fun hx => by cases hx⟩
  · rintro i O w1 ⟨N, ra, rc, ps, ma, mc, os, nv, bv, ns, bs, FN, FB, h, hl, hO⟩
    exact looks_any w.heap.size _ _ _ nv bv ns bs FN FB w1 h.mn.ms.box h.mn.names h.mn.bills
/-- no step so far -/
theorem InvA.start (YAt : World → Nat → (Nat → Prop) → MkG → Prop) (W : World) (ca : Option Addr) (cl cc : Nat) : InvA YAt W.heap.size ca cl cc 0 (fun k => W.heap.size ≤ k ∧ k < W.heap.size + 1) (W.alloc (.cells #[.slice ca cl cc, .slice none 0 0, .slice none 0 0, .slice none 0 0, .slice none 0 0] 33)) := by
  refine ⟨W.heap.size + 1, none, 0, [], none, 0, [], .slice none 0 0, .slice none 0 0, [], [], fun _ => False, fun _ => False, ⟨⟨heap_alloc_new W _, World.ownsRow_nil _ _ _ _, fun k hk => by simp [Value.ownBlock] at hk, by omega, by simp, fun i g hg => by simp at hg, fun i j g h hg => by simp at hg⟩, ⟨⟨heap_alloc_new W _, World.ownsRow_nil _ _ _ _, fun k hk => by simp [Value.ownBlock] at hk, by omega, by simp, fun i g hg => by simp at hg, fun i j g h hg => by simp at hg⟩, OutC.nil _ _ _, OutC.nil _ _ _, rfl, rfl, fun _ h => h.elim, fun _ h => h.elim⟩, fun k hk => ?_⟩, by simp, fun _ => Iff.rfl⟩
  rcases hk with hk | ⟨i, g, hg, _⟩
  · simp [Value.ownBlock] at hk
  · simp at hg
end Go.Proofs.YtminceigjejipabGreat
