import Derived.Test.YtccfademkgjeiaaLawU
import Derived.Test.YtccfademkgjeiaaStepT
import Derived.Test.YtccfademkgjeiaaLawB
/-
  MARKETS AND LISTS TOGETHER: what holds between the steps of a script in which ticks go by.
-/
namespace Go.Proofs.Ytccfademkgjeiaa
open Go.RowKit

section
variable {YAt : World → Nat → (Nat → Prop) → MkG → Prop} {B N : Nat} {v0 v1 v3 v4 : Value} {ma : Option Addr} {mc : Nat} {os : List MkO} {w w' : World}
theorem MsAt.foot_lt (h : MsAt YAt B N v0 v1 v3 v4 ma mc os w) (k : Nat) (hk : msFoot ma mc os k) : B < k ∧ k < N := by
  rcases hk with hk | ⟨i, o, ho, hk⟩
  · exact h.ownB k hk
  · exact (h.at' i o ho).2.1 k hk

/-- market i has turned; the box may have turned in its last two cells; of the other blocks those of X alone -/
theorem MsAt.turnG (hY : YardSpec YAt) (h : MsAt YAt B N v0 v1 v3 v4 ma mc os w) {i : Nat} {o : MkO} (ho : os[i]? = some o) {v3' v4' : Value} {F' : Nat → Prop} {m' : MkG} {X : Nat → Prop} (hX : ∀ k, X k → ¬ msFoot ma mc os k)
    (hbox : BoxAt w' B v0 v1 (.slice ma os.length mc) v3' v4') (hp : PairM YAt w' o.y o.r F' m') (hc : ∀ k, k < w.heap.size → k ≠ B → ¬ o.F k → ¬ X k → w'.heap[k]? = w.heap[k]?) (hs : w.heap.size ≤ w'.heap.size) (hf : ∀ k, F' k → o.F k ∨ w.heap.size ≤ k) :
    MsAt YAt B w'.heap.size v0 v1 v3' v4' ma mc (os.set i { o with F := F', m := m' }) w' ∧ ∀ k, msFoot ma mc (os.set i { o with F := F', m := m' }) k → msFoot ma mc os k ∨ w.heap.size ≤ k := by
  have hi : i < os.length := (List.getElem?_eq_some_iff.1 ho).1
  obtain ⟨a1, a2, a3⟩ := h.at' i o ho
  have hnw := h.nw
  have hbn := h.bn
  have hlen : (os.set i { o with F := F', m := m' }).length = os.length := by simp
  have get : ∀ (x : Nat) u, (os.set i { o with F := F', m := m' })[x]? = some u → (x = i ∧ u = { o with F := F', m := m' }) ∨ (x ≠ i ∧ os[x]? = some u) := fun x u hx => by
    rw [List.getElem?_set] at hx
    by_cases e : i = x
    · subst e
      simp [hi] at hx
      exact .inl ⟨rfl, hx.symm⟩
    · rw [if_neg e] at hx
      exact .inr ⟨fun x => e x.symm, hx⟩
  have keep : ∀ k, msFoot ma mc os k → ¬ o.F k → w'.heap[k]? = w.heap[k]? := fun k h1 h2 => hc k (by have := h.foot_lt k h1; omega) (by have := h.foot_lt k h1; omega) h2 (fun hx => hX k hx h1)
  have newF : ∀ k, F' k → o.F k ∨ N ≤ k := fun k hk => by
    rcases hf k hk with h | h
    · exact .inl h
    · exact .inr (by omega)
  have hpl := PairM.lt hY hp
  refine ⟨⟨?_, ?_, ?_, by omega, Nat.le_refl _, ?_, ?_⟩, ?_⟩
  · rw [hlen]
    exact hbox
  · rw [hlen, mptrs_set os i o { o with F := F', m := m' } ho rfl rfl]
    exact ownsRow_keep h.own (fun k hk => keep k (.inl hk) (a3 k hk))
  · rw [hlen]
    intro k hk
    have := h.ownB k hk
    omega
  · intro x u hx
    rw [hlen]
    rcases get x u hx with ⟨rfl, rfl⟩ | ⟨hne, hx2⟩
    · refine ⟨hp, fun k hk => ⟨?_, hpl k hk⟩, fun k hk hF => ?_⟩
      · rcases newF k hk with h' | h'
        · exact (a2 k h').1
        · omega
      · rcases newF k hF with h' | h'
        · exact a3 k hk h'
        · have := h.ownB k hk; omega
    · obtain ⟨b1, b2, b3⟩ := h.at' x u hx2
      refine ⟨PairM.frame hY b1 (fun k hk => keep k (.inr ⟨x, u, hx2, hk⟩) (h.off x i u o hx2 ho hne k hk)), fun k hk => by have := b2 k hk; omega, b3⟩
  · intro x x' u u' hx hx' hne k hk hk'
    rcases get x u hx with ⟨rfl, rfl⟩ | ⟨hn1, hx2⟩
    · rcases get x' u' hx' with ⟨rfl, rfl⟩ | ⟨hn2, hx2'⟩
      · exact hne rfl
      · rcases newF k hk with h' | h'
        · exact h.off x x' o u' ho hx2' hne k h' hk'
        · have := (h.at' x' u' hx2').2.1 k hk'; omega
    · rcases get x' u' hx' with ⟨rfl, rfl⟩ | ⟨hn2, hx2'⟩
      · rcases newF k hk' with h' | h'
        · exact h.off x x' u o hx2 ho hne k hk h'
        · have := (h.at' x u hx2).2.1 k hk; omega
      · exact h.off x x' u u' hx2 hx2' hne k hk hk'
  · intro k hk
    rcases hk with hk | ⟨x, u, hx, hk⟩
    · rw [hlen] at hk
      exact .inl (.inl hk)
    · rcases get x u hx with ⟨rfl, rfl⟩ | ⟨hne, hx2⟩
      · rcases hf k hk with h' | h'
        · exact .inl (.inr ⟨x, o, ho, h'⟩)
        · exact .inr h'
      · exact .inl (.inr ⟨x, u, hx2, hk⟩)
end

/-- what holds between the steps: the markets, the lists that came out, all apart -/
structure MNAt (YAt : World → Nat → (Nat → Prop) → MkG → Prop) (B N : Nat) (v0 v1 : Value) (ma : Option Addr) (mc : Nat) (os : List MkO) (nv bv : Value) (ns bs : List Value) (FN FB : Nat → Prop) (w : World) : Prop where
  ms : MsAt YAt B N v0 v1 nv bv ma mc os w
  names : OutC 52 2 w nv ns FN
  bills : OutC 53 3 w bv bs FB
  evn : ns.length % 2 = 0
  evb : bs.length % 2 = 0
  fn : ∀ k, FN k → B < k ∧ k < N ∧ ¬ FB k ∧ ¬ msFoot ma mc os k
  fb : ∀ k, FB k → B < k ∧ k < N ∧ ¬ msFoot ma mc os k

section
variable {YAt : World → Nat → (Nat → Prop) → MkG → Prop} {B N : Nat} {v0 v1 nv bv : Value} {ma : Option Addr} {mc : Nat} {os : List MkO} {ns bs : List Value} {FN FB : Nat → Prop} {w w' : World}
theorem MNAt.frame (hY : YardSpec YAt) (h : MNAt YAt B N v0 v1 ma mc os nv bv ns bs FN FB w) (hc : ∀ k, B ≤ k → k < N → w'.heap[k]? = w.heap[k]?) (hs : w.heap.size ≤ w'.heap.size) : MNAt YAt B N v0 v1 ma mc os nv bv ns bs FN FB w' :=
  ⟨h.ms.frame hY hc hs, h.names.frame (fun k hk => by have := h.fn k hk; exact hc k (by omega) this.2.1), h.bills.frame (fun k hk => by have := h.fb k hk; exact hc k (by omega) this.2.1), h.evn, h.evb, h.fn, h.fb⟩

/-- a call on market i -/
theorem MNAt.turned (hY : YardSpec YAt) (h : MNAt YAt B N v0 v1 ma mc os nv bv ns bs FN FB w) {i : Nat} {o : MkO} (ho : os[i]? = some o) {W : World} (hW : Chg (fun _ => False) w W) {m' : MkG} (hto : PairTo YAt W o.y o.r o.F m' w') :
    ∃ os', os'.length = os.length ∧ MNAt YAt B w'.heap.size v0 v1 ma mc os' nv bv ns bs FN FB w' := by
  obtain ⟨F', hp, hc, hf⟩ := hto
  have hsW := hW.size
  have hs' := hc.size
  have hnw := h.ms.nw
  have a2 := (h.ms.at' i o ho).2.1
  have hk : ∀ k, k < w.heap.size → ¬ o.F k → w'.heap[k]? = w.heap[k]? := fun k h1 h2 => by rw [hc.block k (by omega) h2, hW.block k h1 (fun h => h)]
  have hbl := h.ms.box.lt
  have hnF : ∀ k, FN k → ¬ o.F k := fun k hk hF => (h.fn k hk).2.2.2 (.inr ⟨i, o, ho, hF⟩)
  have hbF : ∀ k, FB k → ¬ o.F k := fun k hk hF => (h.fb k hk).2.2 (.inr ⟨i, o, ho, hF⟩)
  obtain ⟨b1, b2⟩ := h.ms.turnG hY ho (X := fun _ => False) (fun _ h => h.elim) (show BoxAt w' B v0 v1 (.slice ma os.length mc) nv bv from (hk B hbl (fun hF => by have := a2 B hF; omega)).trans h.ms.box) hp (fun k h1 _ h3 _ => hk k h1 h3) (by omega) (fun k hk => by rcases hf k hk with h | h; exact .inl h; exact .inr (by omega))
  refine ⟨_, by simp, b1, h.names.frame (fun k hk' => hk k (h.names.lt k hk') (hnF k hk')), h.bills.frame (fun k hk' => hk k (h.bills.lt k hk') (hbF k hk')), h.evn, h.evb, fun k hk' => ?_, fun k hk' => ?_⟩
  · have := h.fn k hk'
    refine ⟨this.1, by omega, this.2.2.1, fun hm => ?_⟩
    rcases b2 k hm with e | e
    · exact this.2.2.2 e
    · omega
  · have := h.fb k hk'
    refine ⟨this.1, by omega, fun hm => ?_⟩
    rcases b2 k hm with e | e
    · exact this.2.2 e
    · omega

/-- a tick of market i -/
theorem MNAt.ticked (hY : YardSpec YAt) (h : MNAt YAt B N v0 v1 ma mc os nv bv ns bs FN FB w) {i : Nat} {o : MkO} (ho : os[i]? = some o) {W : World} (hW : Chg (fun _ => False) w W) (hto : Ticked YAt W B o.y o.r o.F FN v0 v1 (.slice ma os.length mc) bv ns.length w') :
    ∃ os' nv' ns' FN', os'.length = os.length ∧ ns'.length = ns.length + 2 ∧ MNAt YAt B w'.heap.size v0 v1 ma mc os' nv' bv ns' bs FN' FB w' := by
  obtain ⟨m', F', FN', nv', ns', hp, hbox, hN, hlen, hc, hf, hfn, hdis⟩ := hto
  have hsW := hW.size
  have hs' := hc.size
  have hnw := h.ms.nw
  have hbn := h.ms.bn
  have a2 := (h.ms.at' i o ho).2.1
  have hk : ∀ k, k < w.heap.size → k ≠ B → ¬ o.F k → ¬ FN k → w'.heap[k]? = w.heap[k]? := fun k h1 h2 h3 h4 => by
    rw [hc.block k (by omega) (by rintro (e | e | e); exact h2 e; exact h3 e; exact h4 e), hW.block k h1 (fun h => h)]
  have hbF : ∀ k, FB k → ¬ o.F k := fun k hk hF => (h.fb k hk).2.2 (.inr ⟨i, o, ho, hF⟩)
  obtain ⟨b1, b2⟩ := h.ms.turnG hY ho (X := FN) (fun k hx => (h.fn k hx).2.2.2) hbox hp hk (by omega) (fun k hk => by rcases hf k hk with h | h; exact .inl h; exact .inr (by omega))
  refine ⟨_, nv', ns', FN', by simp, hlen, b1, hN, h.bills.frame (fun k hk' => hk k (h.bills.lt k hk') (by have := h.fb k hk'; omega) (hbF k hk') (fun hx => (h.fn k hx).2.2.1 hk')), by have := h.evn; omega, h.evb, fun k hk' => ?_, fun k hk' => ?_⟩
  · have hkl := hN.lt k hk'
    rcases hfn k hk' with e | e
    · have := h.fn k e
      refine ⟨this.1, hkl, this.2.2.1, fun hm => ?_⟩
      rcases hm with hm | ⟨x, u, hx, hu⟩
      · simp only [List.length_set] at hm
        exact this.2.2.2 (.inl hm)
      · rw [List.getElem?_set] at hx
        by_cases ex : i = x
        · subst ex
          have hi : i < os.length := (List.getElem?_eq_some_iff.1 ho).1
          simp [hi] at hx
          subst hx
          exact hdis k hu hk'
        · rw [if_neg ex] at hx
          exact this.2.2.2 (.inr ⟨x, u, hx, hu⟩)
    · refine ⟨by omega, hkl, fun hb => by have := h.bills.lt k hb; omega, fun hm => ?_⟩
      rcases hm with hm | ⟨x, u, hx, hu⟩
      · simp only [List.length_set] at hm
        have := h.ms.ownB k hm
        omega
      · rw [List.getElem?_set] at hx
        by_cases ex : i = x
        · subst ex
          have hi : i < os.length := (List.getElem?_eq_some_iff.1 ho).1
          simp [hi] at hx
          subst hx
          exact hdis k hu hk'
        · rw [if_neg ex] at hx
          have := (h.ms.at' x u hx).2.1 k hu
          omega
  · have := h.fb k hk'
    refine ⟨this.1, by omega, fun hm => ?_⟩
    rcases b2 k hm with e | e
    · exact this.2.2 e
    · omega

/-- one market more -/
theorem MNAt.added (hY : YardSpec YAt) (h : MNAt YAt B N v0 v1 ma mc os nv bv ns bs FN FB w) {W : World} (hW : Chg (fun _ => False) w W) {c : CfgG} (hop : Opened YAt W B os.length c v0 v1 (.slice ma os.length mc) nv bv (mptrs os) w') :
    ∃ ma' mc' os', os'.length = os.length + 1 ∧ MNAt YAt B w'.heap.size v0 v1 ma' mc' os' nv bv ns bs FN FB w' := by
  obtain ⟨ma', mc', os', hlen, h', hft⟩ := h.ms.added2 hY hW hop
  obtain ⟨g, cap, y, r, F, _, _, _, _, _, hc, _⟩ := hop
  have hsW := hW.size
  have hs' := hc.size
  have hnw := h.ms.nw
  have keep : ∀ k, k < w.heap.size → k ≠ B → Value.ownBlock (.slice ma os.length mc) ≠ some k → w'.heap[k]? = w.heap[k]? := fun k h1 h2 h3 => by
    rw [hc.block k (by omega) (by rintro (e | e); exact h2 e; exact h3 e), hW.block k h1 (fun h => h)]
  refine ⟨ma', mc', os', hlen, h', h.names.frame (fun k hk => keep k (h.names.lt k hk) (by have := h.fn k hk; omega) (fun e => (h.fn k hk).2.2.2 (.inl e))), h.bills.frame (fun k hk => keep k (h.bills.lt k hk) (by have := h.fb k hk; omega) (fun e => (h.fb k hk).2.2 (.inl e))), h.evn, h.evb, fun k hk => ?_, fun k hk => ?_⟩
  · have := h.fn k hk
    refine ⟨this.1, by omega, this.2.2.1, fun hm => ?_⟩
    rcases hft k hm with e | e
    · exact this.2.2.2 e
    · omega
  · have := h.fb k hk
    refine ⟨this.1, by omega, fun hm => ?_⟩
    rcases hft k hm with e | e
    · exact this.2.2 e
    · omega
end
end Go.Proofs.Ytccfademkgjeiaa
