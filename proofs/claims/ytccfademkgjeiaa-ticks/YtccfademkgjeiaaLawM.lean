import Derived.Test.YtccfademkgjeiaaGood
namespace Go.Proofs.Ytccfademkgjeiaa
open Go.RowKit

section
variable (YAt : World → Nat → (Nat → Prop) → MkG → Prop)

/-- the program's market and the document's, which are the same -/
def PairM (w : World) (y r : Nat) (F : Nat → Prop) (m : MkG) : Prop :=
  ∃ FY V, YAt w y FY m ∧ MktAt w r V m ∧ GoodM m ∧ (∀ k, F k ↔ FY k ∨ V.foot r k) ∧ ∀ k, FY k → ¬ V.foot r k
def PairTo (w : World) (y r : Nat) (F : Nat → Prop) (m' : MkG) (w' : World) : Prop :=
  ∃ F', PairM YAt w' y r F' m' ∧ Chg F w w' ∧ ∀ k, F' k → F k ∨ w.heap.size ≤ k
end

theorem PairM.lt {YAt : World → Nat → (Nat → Prop) → MkG → Prop} (hY : YardSpec YAt) {w : World} {y r : Nat} {F : Nat → Prop} {m : MkG} (h : PairM YAt w y r F m) (k : Nat) (hk : F k) : k < w.heap.size := by
  obtain ⟨FY, V, h1, h2, _, h4, _⟩ := h
  rcases (h4 k).1 hk with h | h
  · exact hY.lt _ _ _ _ h1 k h
  · exact h2.foot_lt k h
theorem PairM.frame {YAt : World → Nat → (Nat → Prop) → MkG → Prop} (hY : YardSpec YAt) {w w' : World} {y r : Nat} {F : Nat → Prop} {m : MkG} (h : PairM YAt w y r F m) (hf : ∀ k, F k → w'.heap[k]? = w.heap[k]?) : PairM YAt w' y r F m := by
  obtain ⟨FY, V, h1, h2, h3, h4, h5⟩ := h
  exact ⟨FY, V, hY.frame _ _ _ _ _ h1 (fun k hk => hf k ((h4 k).2 (.inl hk))), h2.frame (fun k hk => hf k ((h4 k).2 (.inr hk))), h3, h4, h5⟩

/-- behind the program's call: the document's market lies as it did -/
theorem pair_mid {YAt : World → Nat → (Nat → Prop) → MkG → Prop} {w w1 : World} {y r : Nat} {V : MV} {FY : Nat → Prop} {m m' : MkG} (h2 : MktAt w r V m) (h5 : ∀ k, FY k → ¬ V.foot r k) (hy : YTo YAt w y FY m' w1) : MktAt w1 r V m := by
  obtain ⟨F', a1, a2, a3⟩ := hy
  exact h2.chg a2 (fun k hk hf => h5 k hf hk)

/-- .. and behind both -/
theorem pair_end {YAt : World → Nat → (Nat → Prop) → MkG → Prop} (hY : YardSpec YAt) {w0 w w1 w2 : World} {y r : Nat} {V : MV} {F FY : Nat → Prop} {m m' : MkG} (hc0 : Chg (fun _ => False) w0 w) (_ : MktAt w r V m) (hlt : ∀ k, V.foot r k → k < w0.heap.size) (h4 : ∀ k, F k ↔ FY k ∨ V.foot r k) (h5 : ∀ k, FY k → ¬ V.foot r k) (hy : YTo YAt w y FY m' w1) (hr : MktTo w1 r V m' w2) (hok : GoodM m') : PairTo YAt w0 y r F m' w2 := by
  obtain ⟨F', a1, a2, a3⟩ := hy
  obtain ⟨V', b1, b2, b3⟩ := hr
  have hs0 := hc0.size
  have hs1 := a2.size
  have hFl := hY.lt _ _ _ _ a1
  have dis : ∀ k, F' k → ¬ V.foot r k := fun k hk hf => by
    rcases a3 k hk with h | h
    · exact h5 k h hf
    · have := hlt k hf; omega
  refine ⟨fun k => F' k ∨ V'.foot r k, ⟨F', V', hY.frame _ _ _ _ _ a1 (fun k hk => b2.block k (hFl k hk) (dis k hk)), b1, hok, fun _ => Iff.rfl, fun k hk hf => ?_⟩, ?_, fun k hk => ?_⟩
  · rcases b3 k hf with h | h
    · exact dis k hk h
    · have := hFl k hk; omega
  · exact ((hc0.mono (O' := F) (fun _ _ h => h.elim)).trans a2 (fun x _ hx => (h4 x).2 (.inl hx))).trans b2 (fun x _ hx => (h4 x).2 (.inr hx))
  · rcases hk with hk | hk
    · rcases a3 k hk with h | h
      · exact .inl ((h4 k).2 (.inl h))
      · exact .inr (by omega)
    · rcases b3 k hk with h | h
      · exact .inl ((h4 k).2 (.inr h))
      · exact .inr (by omega)

/-- the two boxes of 'bid' and 'looked' -/
structure Bx (w : World) (q y r : Nat) (a b c d : Int) (j : JobG) : Prop where
  y : w.cell? ⟨q, 0, none⟩ = some (.pointer (some ⟨y, 0, none⟩))
  r : w.cell? ⟨q, 1, none⟩ = some (.pointer (some ⟨r, 0, none⟩))
  b : w.cell? ⟨q + 1, 2, none⟩ = some (.int .i64 b)
  c : w.cell? ⟨q + 1, 3, none⟩ = some (.int .i64 c)
  d : w.cell? ⟨q + 1, 4, none⟩ = some (.int .i64 d)
  j0 : w.cell? ⟨q + 1, 5, none⟩ = some (.int .i64 j.arr)
  j1 : w.cell? ⟨q + 1, 6, none⟩ = some (.int .i64 j.dl)
  j2 : w.cell? ⟨q + 1, 7, none⟩ = some (.int .i64 j.len)
  j3 : w.cell? ⟨q + 1, 8, none⟩ = some (.int .i64 j.units)
  j4 : w.cell? ⟨q + 1, 9, none⟩ = some (.int .i64 j.val)
  lt : q + 1 < w.heap.size

theorem Bx.mk0 (w : World) (y r : Nat) (k a b c d : Int) (j : JobG) (w2 : World) (hw2 : w2 = (w.alloc (.cells #[.pointer (some ⟨y, 0, none⟩), .pointer (some ⟨r, 0, none⟩)] 134)).alloc (.cells #[.int .i64 k, .int .i64 a, .int .i64 b, .int .i64 c, .int .i64 d, .int .i64 j.arr, .int .i64 j.dl, .int .i64 j.len, .int .i64 j.units, .int .i64 j.val] 83)) : Chg (fun _ => False) w w2 ∧ Bx w2 w.heap.size y r a b c d j := by
  subst hw2
  refine ⟨((Chg.refl _ _).alloc _).alloc _, ⟨?_, ?_, by simp, by simp, by simp, by simp, by simp, by simp, by simp, by simp, by simp⟩⟩
  · rw [World.cell?_alloc_lt _ _ _ (by simp)]; simp
  · rw [World.cell?_alloc_lt _ _ _ (by simp)]; simp
theorem Bx.chg {w w' : World} {O : Nat → Prop} {q y r : Nat} {a b c d : Int} {j : JobG} (h : Bx w q y r a b c d j) (hc : Chg O w w') (hO : ∀ k, O k → k < q) : Bx w' q y r a b c d j := by
  have hl := h.lt
  have e0 : ∀ f, w'.cell? ⟨q, f, none⟩ = w.cell? ⟨q, f, none⟩ := fun f => hc.cell (by show q < _; omega) (fun hx => by have := hO _ hx; simp at this)
  have e1 : ∀ f, w'.cell? ⟨q + 1, f, none⟩ = w.cell? ⟨q + 1, f, none⟩ := fun f => hc.cell (by show q + 1 < _; omega) (fun hx => by have := hO _ hx; simp at this; omega)
  exact ⟨(e0 0).trans h.y, (e0 1).trans h.r, (e1 2).trans h.b, (e1 3).trans h.c, (e1 4).trans h.d, (e1 5).trans h.j0, (e1 6).trans h.j1, (e1 7).trans h.j2, (e1 8).trans h.j3, (e1 9).trans h.j4, Nat.lt_of_lt_of_le h.lt hc.size⟩

set_option maxRecDepth 100000 in
set_option maxHeartbeats 2000000 in
theorem bid_submit {YAt : World → Nat → (Nat → Prop) → MkG → Prop} (hY : YardSpec YAt) (y r : Nat) (F : Nat → Prop) (m : MkG) (a b c d : Int) (j : JobG) (w : World) (hp : PairM YAt w y r F m) (hb : I64 b) (hc : I64 c) (hj : JobI64 j) :
    Calls Try.prog 65 #[.agg #[.pointer (some ⟨y, 0, none⟩), .pointer (some ⟨r, 0, none⟩)], .agg #[.int .i64 7, .int .i64 a, .int .i64 b, .int .i64 c, .int .i64 d, .int .i64 j.arr, .int .i64 j.dl, .int .i64 j.len, .int .i64 j.units, .int .i64 j.val]] w fun e w' => ∃ m', e = .returned (.bool true) ∧ PairTo YAt w y r F m' w' := by
  obtain ⟨FY, V, g1, g2, g3, g4, g5⟩ := hp
  have HY := hide hY
  have HYA := hide g1
  have HM := hide g2
  have HOK := hide g3.ok
  have HGD := hide g3
  have H4 := hide g4
  have H5 := hide g5
  have HFY := hide (fun k (hk : FY k) => hY.lt _ _ _ _ g1 k hk)
  have HFV := hide (fun k (hk : V.foot r k) => g2.foot_lt k hk)
  clear g1 g2 g3 g4 g5 hY
  go_enter Try.func65, Try.ntmps65
  go_wp2_with fail
  obtain ⟨w2, hw2⟩ : ∃ w2, w2 = (w.alloc (.cells #[.pointer (some ⟨y, 0, none⟩), .pointer (some ⟨r, 0, none⟩)] 134)).alloc (.cells #[.int .i64 7, .int .i64 a, .int .i64 b, .int .i64 c, .int .i64 d, .int .i64 j.arr, .int .i64 j.dl, .int .i64 j.len, .int .i64 j.units, .int .i64 j.val] 83) := ⟨_, rfl⟩
  rw [← hw2]
  obtain ⟨hc0, hbx⟩ := Bx.mk0 w y r 7 a b c d j w2 hw2
  have HC0 := hide hc0
  have HBX := hide hbx
  have HY2 := hide (HY.out.frame _ w2 _ _ _ HYA.out (fun k hk => hc0.block k (HFY.out k hk) (fun h => h)))
  have HM2 := hide (HM.out.chg0 hc0)
  clear hw2 hc0 hbx
  refine (HY.out.submit w2 y FY m b c j HY2.out HOK.out hb hc hj).mono ?_
  rintro e w3 ⟨z, m1, rfl, hres, hto⟩
  have HRES := hide hres
  have HTO := hide hto
  have HM3 := hide (pair_mid HM2.out H5.out hto)
  have HBX3 := hide (show Bx w3 w.heap.size y r a b c d j from by
    obtain ⟨F', a1, a2, a3⟩ := hto
    exact HBX.out.chg a2 (fun k hk => HFY.out k hk))
  have x0 := HBX3.out.r
  have x1 := HBX3.out.b
  have x2 := HBX3.out.c
  have x3 := HBX3.out.j0
  have x4 := HBX3.out.j1
  have x5 := HBX3.out.j2
  have x6 := HBX3.out.j3
  have x7 := HBX3.out.j4
  clear hres hto
  go_wp2_with fail
  refine (refSubmit_any r V m b c j w3 HM3.out HOK.out).mono ?_
  rintro e w4 ⟨z2, m2, rfl, hres2, hto2⟩
  obtain ⟨rfl, rfl⟩ := LogRes.unique HRES.out hres2
  have HF := hide (pair_end HY.out HC0.out HM2.out HFV.out H4.out H5.out HTO.out hto2 (HGD.out.submit HRES.out))
  clear hres2 hto2 x0 x1 x2 x3 x4 x5 x6 x7
  go_wp2
  go_ret
  exact ⟨m1, ret_bool (by simp), HF.out⟩

set_option maxRecDepth 100000 in
set_option maxHeartbeats 2000000 in
theorem bid_cancel {YAt : World → Nat → (Nat → Prop) → MkG → Prop} (hY : YardSpec YAt) (y r : Nat) (F : Nat → Prop) (m : MkG) (a b c d : Int) (j : JobG) (w : World) (hp : PairM YAt w y r F m) (hb : I64 b) (hc : I64 c) :
    Calls Try.prog 65 #[.agg #[.pointer (some ⟨y, 0, none⟩), .pointer (some ⟨r, 0, none⟩)], .agg #[.int .i64 8, .int .i64 a, .int .i64 b, .int .i64 c, .int .i64 d, .int .i64 j.arr, .int .i64 j.dl, .int .i64 j.len, .int .i64 j.units, .int .i64 j.val]] w fun e w' => ∃ m', e = .returned (.bool true) ∧ PairTo YAt w y r F m' w' := by
  obtain ⟨FY, V, g1, g2, g3, g4, g5⟩ := hp
  have HY := hide hY
  have HYA := hide g1
  have HM := hide g2
  have HOK := hide g3.ok
  have HGD := hide g3
  have H4 := hide g4
  have H5 := hide g5
  have HFY := hide (fun k (hk : FY k) => hY.lt _ _ _ _ g1 k hk)
  have HFV := hide (fun k (hk : V.foot r k) => g2.foot_lt k hk)
  clear g1 g2 g3 g4 g5 hY
  go_enter Try.func65, Try.ntmps65
  go_wp2_with fail
  obtain ⟨w2, hw2⟩ : ∃ w2, w2 = (w.alloc (.cells #[.pointer (some ⟨y, 0, none⟩), .pointer (some ⟨r, 0, none⟩)] 134)).alloc (.cells #[.int .i64 8, .int .i64 a, .int .i64 b, .int .i64 c, .int .i64 d, .int .i64 j.arr, .int .i64 j.dl, .int .i64 j.len, .int .i64 j.units, .int .i64 j.val] 83) := ⟨_, rfl⟩
  rw [← hw2]
  obtain ⟨hc0, hbx⟩ := Bx.mk0 w y r 8 a b c d j w2 hw2
  have HC0 := hide hc0
  have HBX := hide hbx
  have HY2 := hide (HY.out.frame _ w2 _ _ _ HYA.out (fun k hk => hc0.block k (HFY.out k hk) (fun h => h)))
  have HM2 := hide (HM.out.chg0 hc0)
  clear hw2 hc0 hbx
  refine (HY.out.cancel w2 y FY m b c HY2.out HOK.out hb hc).mono ?_
  rintro e w3 ⟨z, m1, rfl, hres, hto⟩
  have HRES := hide hres
  have HTO := hide hto
  have HM3 := hide (pair_mid HM2.out H5.out hto)
  have HBX3 := hide (show Bx w3 w.heap.size y r a b c d j from by
    obtain ⟨F', a1, a2, a3⟩ := hto
    exact HBX.out.chg a2 (fun k hk => HFY.out k hk))
  have x0 := HBX3.out.r
  have x1 := HBX3.out.b
  have x2 := HBX3.out.c
  clear hres hto
  go_wp2_with fail
  refine (refCancel_any r V m b c w3 HM3.out HOK.out).mono ?_
  rintro e w4 ⟨z2, m2, rfl, hres2, hto2⟩
  obtain ⟨rfl, rfl⟩ := LogRes.unique HRES.out hres2
  have HF := hide (pair_end HY.out HC0.out HM2.out HFV.out H4.out H5.out HTO.out hto2 (HGD.out.cancel HRES.out))
  clear hres2 hto2 x0 x1 x2
  go_wp2
  go_ret
  exact ⟨m1, ret_bool (by simp), HF.out⟩

set_option maxRecDepth 100000 in
set_option maxHeartbeats 2000000 in
theorem bid_suspend {YAt : World → Nat → (Nat → Prop) → MkG → Prop} (hY : YardSpec YAt) (y r : Nat) (F : Nat → Prop) (m : MkG) (a b c d : Int) (j : JobG) (w : World) (hp : PairM YAt w y r F m) (hb : I64 b) (_ : I64 c) :
    Calls Try.prog 65 #[.agg #[.pointer (some ⟨y, 0, none⟩), .pointer (some ⟨r, 0, none⟩)], .agg #[.int .i64 9, .int .i64 a, .int .i64 b, .int .i64 c, .int .i64 d, .int .i64 j.arr, .int .i64 j.dl, .int .i64 j.len, .int .i64 j.units, .int .i64 j.val]] w fun e w' => ∃ m', e = .returned (.bool true) ∧ PairTo YAt w y r F m' w' := by
  obtain ⟨FY, V, g1, g2, g3, g4, g5⟩ := hp
  have HY := hide hY
  have HYA := hide g1
  have HM := hide g2
  have HOK := hide g3.ok
  have HGD := hide g3
  have H4 := hide g4
  have H5 := hide g5
  have HFY := hide (fun k (hk : FY k) => hY.lt _ _ _ _ g1 k hk)
  have HFV := hide (fun k (hk : V.foot r k) => g2.foot_lt k hk)
  clear g1 g2 g3 g4 g5 hY
  go_enter Try.func65, Try.ntmps65
  go_wp2_with fail
  obtain ⟨w2, hw2⟩ : ∃ w2, w2 = (w.alloc (.cells #[.pointer (some ⟨y, 0, none⟩), .pointer (some ⟨r, 0, none⟩)] 134)).alloc (.cells #[.int .i64 9, .int .i64 a, .int .i64 b, .int .i64 c, .int .i64 d, .int .i64 j.arr, .int .i64 j.dl, .int .i64 j.len, .int .i64 j.units, .int .i64 j.val] 83) := ⟨_, rfl⟩
  rw [← hw2]
  obtain ⟨hc0, hbx⟩ := Bx.mk0 w y r 9 a b c d j w2 hw2
  have HC0 := hide hc0
  have HBX := hide hbx
  have HY2 := hide (HY.out.frame _ w2 _ _ _ HYA.out (fun k hk => hc0.block k (HFY.out k hk) (fun h => h)))
  have HM2 := hide (HM.out.chg0 hc0)
  clear hw2 hc0 hbx
  refine (HY.out.suspend w2 y FY m b _ HY2.out HOK.out hb).mono ?_
  rintro e w3 ⟨z, m1, rfl, hres, hto⟩
  have HRES := hide hres
  have HTO := hide hto
  have HM3 := hide (pair_mid HM2.out H5.out hto)
  have HBX3 := hide (show Bx w3 w.heap.size y r a b c d j from by
    obtain ⟨F', a1, a2, a3⟩ := hto
    exact HBX.out.chg a2 (fun k hk => HFY.out k hk))
  have x0 := HBX3.out.r
  have x1 := HBX3.out.b
  have x2 := HBX3.out.c
  clear hres hto
  go_wp2_with fail
  refine (refSuspend_any r V m b _ w3 HM3.out HOK.out).mono ?_
  rintro e w4 ⟨z2, m2, rfl, hres2, hto2⟩
  obtain ⟨rfl, rfl⟩ := LogRes.unique HRES.out hres2
  have HF := hide (pair_end HY.out HC0.out HM2.out HFV.out H4.out H5.out HTO.out hto2 (HGD.out.suspend HRES.out))
  clear hres2 hto2 x0 x1 x2
  go_wp2
  go_ret
  exact ⟨m1, ret_bool (by simp), HF.out⟩

set_option maxRecDepth 100000 in
set_option maxHeartbeats 2000000 in
theorem bid_capacity {YAt : World → Nat → (Nat → Prop) → MkG → Prop} (hY : YardSpec YAt) (y r : Nat) (F : Nat → Prop) (m : MkG) (a b c d : Int) (j : JobG) (w : World) (hp : PairM YAt w y r F m) (hb : I64 b) (hc : I64 c) (hd : I64 d) :
    Calls Try.prog 65 #[.agg #[.pointer (some ⟨y, 0, none⟩), .pointer (some ⟨r, 0, none⟩)], .agg #[.int .i64 10, .int .i64 a, .int .i64 b, .int .i64 c, .int .i64 d, .int .i64 j.arr, .int .i64 j.dl, .int .i64 j.len, .int .i64 j.units, .int .i64 j.val]] w fun e w' => ∃ m', e = .returned (.bool true) ∧ PairTo YAt w y r F m' w' := by
  obtain ⟨FY, V, g1, g2, g3, g4, g5⟩ := hp
  have HY := hide hY
  have HYA := hide g1
  have HM := hide g2
  have HOK := hide g3.ok
  have HGD := hide g3
  have H4 := hide g4
  have H5 := hide g5
  have HFY := hide (fun k (hk : FY k) => hY.lt _ _ _ _ g1 k hk)
  have HFV := hide (fun k (hk : V.foot r k) => g2.foot_lt k hk)
  clear g1 g2 g3 g4 g5 hY
  go_enter Try.func65, Try.ntmps65
  go_wp2_with fail
  obtain ⟨w2, hw2⟩ : ∃ w2, w2 = (w.alloc (.cells #[.pointer (some ⟨y, 0, none⟩), .pointer (some ⟨r, 0, none⟩)] 134)).alloc (.cells #[.int .i64 10, .int .i64 a, .int .i64 b, .int .i64 c, .int .i64 d, .int .i64 j.arr, .int .i64 j.dl, .int .i64 j.len, .int .i64 j.units, .int .i64 j.val] 83) := ⟨_, rfl⟩
  rw [← hw2]
  obtain ⟨hc0, hbx⟩ := Bx.mk0 w y r 10 a b c d j w2 hw2
  have HC0 := hide hc0
  have HBX := hide hbx
  have HY2 := hide (HY.out.frame _ w2 _ _ _ HYA.out (fun k hk => hc0.block k (HFY.out k hk) (fun h => h)))
  have HM2 := hide (HM.out.chg0 hc0)
  clear hw2 hc0 hbx
  refine (HY.out.capacity w2 y FY m b c d HY2.out HOK.out hb hc hd).mono ?_
  rintro e w3 ⟨z, m1, rfl, hres, hto⟩
  have HRES := hide hres
  have HTO := hide hto
  have HM3 := hide (pair_mid HM2.out H5.out hto)
  have HBX3 := hide (show Bx w3 w.heap.size y r a b c d j from by
    obtain ⟨F', a1, a2, a3⟩ := hto
    exact HBX.out.chg a2 (fun k hk => HFY.out k hk))
  have x0 := HBX3.out.r
  have x1 := HBX3.out.b
  have x2 := HBX3.out.c
  have x3 := HBX3.out.d
  clear hres hto
  go_wp2_with fail
  refine (refCapacity_any r V m b c d w3 HM3.out HOK.out).mono ?_
  rintro e w4 ⟨z2, m2, rfl, hres2, hto2⟩
  obtain ⟨rfl, rfl⟩ := CapacityRes.unique HRES.out hres2
  have HF := hide (pair_end HY.out HC0.out HM2.out HFV.out H4.out H5.out HTO.out hto2 (HGD.out.capacity HRES.out))
  clear hres2 hto2 x0 x1 x2 x3
  go_wp2
  go_ret
  exact ⟨m1, ret_bool (by simp), HF.out⟩
end Go.Proofs.Ytccfademkgjeiaa
