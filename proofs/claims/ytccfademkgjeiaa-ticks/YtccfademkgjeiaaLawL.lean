import Derived.Test.YtccfademkgjeiaaLawM
namespace Go.Proofs.Ytccfademkgjeiaa
open Go.RowKit

/-- a look: the document's market stays where it is -/
theorem look_end {YAt : World → Nat → (Nat → Prop) → MkG → Prop} (hY : YardSpec YAt) {w0 w w1 w2 : World} {y r : Nat} {V : MV} {F FY : Nat → Prop} {m : MkG} (hc0 : Chg (fun _ => False) w0 w) (h2 : MktAt w r V m) (hlt : ∀ k, V.foot r k → k < w0.heap.size) (h4 : ∀ k, F k ↔ FY k ∨ V.foot r k) (h5 : ∀ k, FY k → ¬ V.foot r k) (hy : YTo YAt w y FY m w1) (hr : Chg (fun _ => False) w1 w2) (hok : GoodM m) : PairTo YAt w0 y r F m w2 :=
  pair_end hY hc0 h2 hlt h4 h5 hy ((MktTo.refl (pair_mid h2 h5 hy)).chg0 hr) hok

set_option maxRecDepth 100000 in
set_option maxHeartbeats 2000000 in
theorem looked_now {YAt : World → Nat → (Nat → Prop) → MkG → Prop} (hY : YardSpec YAt) (y r : Nat) (F : Nat → Prop) (m : MkG) (a b c d : Int) (j : JobG) (w : World) (hp : PairM YAt w y r F m)  :
    Calls Try.prog 66 #[.agg #[.pointer (some ⟨y, 0, none⟩), .pointer (some ⟨r, 0, none⟩)], .agg #[.int .i64 11, .int .i64 a, .int .i64 b, .int .i64 c, .int .i64 d, .int .i64 j.arr, .int .i64 j.dl, .int .i64 j.len, .int .i64 j.units, .int .i64 j.val]] w fun e w' => e = .returned (.bool true) ∧ PairTo YAt w y r F m w' := by
  obtain ⟨FY, V, g1, g2, g3, g4, g5⟩ := hp
  have HY := hide hY
  have HYA := hide g1
  have HM := hide g2
  have HOK := hide g3.ok
  have HGD := hide g3
  have H4 := hide g4
  have H5 := hide g5
  have HFY := hide (fun k (hk : FY k) => hY.lt _ _ _ _ g1 k hk)
  have HFV := hide (fun k (hk : V.foot r k) => g2.foot_lt k hk)
  clear g1 g2 g3 g4 g5 hY
  go_enter Try.func66, Try.ntmps66
  go_wp2_with fail
  obtain ⟨w2, hw2⟩ : ∃ w2, w2 = (w.alloc (.cells #[.pointer (some ⟨y, 0, none⟩), .pointer (some ⟨r, 0, none⟩)] 134)).alloc (.cells #[.int .i64 11, .int .i64 a, .int .i64 b, .int .i64 c, .int .i64 d, .int .i64 j.arr, .int .i64 j.dl, .int .i64 j.len, .int .i64 j.units, .int .i64 j.val] 83) := ⟨_, rfl⟩
  rw [← hw2]
  obtain ⟨hc0, hbx⟩ := Bx.mk0 w y r 11 a b c d j w2 hw2
  have HC0 := hide hc0
  have HBX := hide hbx
  have HY2 := hide (HY.out.frame _ w2 _ _ _ HYA.out (fun k hk => hc0.block k (HFY.out k hk) (fun h => h)))
  have HM2 := hide (HM.out.chg0 hc0)
  clear hw2 hc0 hbx
  refine (HY.out.now w2 y FY m HY2.out HOK.out).mono ?_
  rintro e w3 ⟨rfl, hto⟩
  have HTO := hide hto
  have HM3 := hide (pair_mid HM2.out H5.out hto)
  have HBX3 := hide (show Bx w3 w.heap.size y r a b c d j from by
    obtain ⟨F', a1, a2, a3⟩ := hto
    exact HBX.out.chg a2 (fun k hk => HFY.out k hk))
  have x0 := HBX3.out.r
  have x1 : w3.cell? ⟨r, 5, none⟩ = some (.int .i64 m.time) := HM3.out.cell 5
  have HF := hide (look_end HY.out HC0.out HM2.out HFV.out H4.out H5.out HTO.out (Chg.refl _ _) HGD.out)
  clear hto
  go_wp2
  go_ret
  exact ⟨ret_bool (by simp), HF.out⟩

set_option maxRecDepth 100000 in
set_option maxHeartbeats 2000000 in
theorem looked_left {YAt : World → Nat → (Nat → Prop) → MkG → Prop} (hY : YardSpec YAt) (y r : Nat) (F : Nat → Prop) (m : MkG) (a b c d : Int) (j : JobG) (w : World) (hp : PairM YAt w y r F m)  :
    Calls Try.prog 66 #[.agg #[.pointer (some ⟨y, 0, none⟩), .pointer (some ⟨r, 0, none⟩)], .agg #[.int .i64 12, .int .i64 a, .int .i64 b, .int .i64 c, .int .i64 d, .int .i64 j.arr, .int .i64 j.dl, .int .i64 j.len, .int .i64 j.units, .int .i64 j.val]] w fun e w' => e = .returned (.bool true) ∧ PairTo YAt w y r F m w' := by
  obtain ⟨FY, V, g1, g2, g3, g4, g5⟩ := hp
  have HY := hide hY
  have HYA := hide g1
  have HM := hide g2
  have HOK := hide g3.ok
  have HGD := hide g3
  have H4 := hide g4
  have H5 := hide g5
  have HFY := hide (fun k (hk : FY k) => hY.lt _ _ _ _ g1 k hk)
  have HFV := hide (fun k (hk : V.foot r k) => g2.foot_lt k hk)
  clear g1 g2 g3 g4 g5 hY
  go_enter Try.func66, Try.ntmps66
  go_wp2_with fail
  obtain ⟨w2, hw2⟩ : ∃ w2, w2 = (w.alloc (.cells #[.pointer (some ⟨y, 0, none⟩), .pointer (some ⟨r, 0, none⟩)] 134)).alloc (.cells #[.int .i64 12, .int .i64 a, .int .i64 b, .int .i64 c, .int .i64 d, .int .i64 j.arr, .int .i64 j.dl, .int .i64 j.len, .int .i64 j.units, .int .i64 j.val] 83) := ⟨_, rfl⟩
  rw [← hw2]
  obtain ⟨hc0, hbx⟩ := Bx.mk0 w y r 12 a b c d j w2 hw2
  have HC0 := hide hc0
  have HBX := hide hbx
  have HY2 := hide (HY.out.frame _ w2 _ _ _ HYA.out (fun k hk => hc0.block k (HFY.out k hk) (fun h => h)))
  have HM2 := hide (HM.out.chg0 hc0)
  clear hw2 hc0 hbx
  refine (HY.out.left w2 y FY m HY2.out HOK.out).mono ?_
  rintro e w3 ⟨rfl, hto⟩
  have HTO := hide hto
  have HM3 := hide (pair_mid HM2.out H5.out hto)
  have HBX3 := hide (show Bx w3 w.heap.size y r a b c d j from by
    obtain ⟨F', a1, a2, a3⟩ := hto
    exact HBX.out.chg a2 (fun k hk => HFY.out k hk))
  have x0 := HBX3.out.r
  obtain ⟨la, lc, hlv⟩ := HM3.out.log_form
  have x1 : w3.cell? ⟨r, 9, none⟩ = some (.slice la m.log.length lc) := by rw [← hlv]; exact HM3.out.cell 9
  have hll := HOK.out.nl
  have HF := hide (look_end HY.out HC0.out HM2.out HFV.out H4.out H5.out HTO.out (Chg.refl _ _) HGD.out)
  clear hto hlv
  generalize m.log.length = n at *
  go_wp2
  go_ret
  exact ⟨ret_bool (by simp), HF.out⟩

set_option maxRecDepth 100000 in
set_option maxHeartbeats 2000000 in
theorem looked_free {YAt : World → Nat → (Nat → Prop) → MkG → Prop} (hY : YardSpec YAt) (y r : Nat) (F : Nat → Prop) (m : MkG) (a b c d : Int) (j : JobG) (w : World) (hp : PairM YAt w y r F m) (hb : I64 b) :
    Calls Try.prog 66 #[.agg #[.pointer (some ⟨y, 0, none⟩), .pointer (some ⟨r, 0, none⟩)], .agg #[.int .i64 14, .int .i64 a, .int .i64 b, .int .i64 c, .int .i64 d, .int .i64 j.arr, .int .i64 j.dl, .int .i64 j.len, .int .i64 j.units, .int .i64 j.val]] w fun e w' => e = .returned (.bool true) ∧ PairTo YAt w y r F m w' := by
  obtain ⟨FY, V, g1, g2, g3, g4, g5⟩ := hp
  have HY := hide hY
  have HYA := hide g1
  have HM := hide g2
  have HOK := hide g3.ok
  have HGD := hide g3
  have H4 := hide g4
  have H5 := hide g5
  have HFY := hide (fun k (hk : FY k) => hY.lt _ _ _ _ g1 k hk)
  have HFV := hide (fun k (hk : V.foot r k) => g2.foot_lt k hk)
  clear g1 g2 g3 g4 g5 hY
  go_enter Try.func66, Try.ntmps66
  go_wp2_with fail
  obtain ⟨w2, hw2⟩ : ∃ w2, w2 = (w.alloc (.cells #[.pointer (some ⟨y, 0, none⟩), .pointer (some ⟨r, 0, none⟩)] 134)).alloc (.cells #[.int .i64 14, .int .i64 a, .int .i64 b, .int .i64 c, .int .i64 d, .int .i64 j.arr, .int .i64 j.dl, .int .i64 j.len, .int .i64 j.units, .int .i64 j.val] 83) := ⟨_, rfl⟩
  rw [← hw2]
  obtain ⟨hc0, hbx⟩ := Bx.mk0 w y r 14 a b c d j w2 hw2
  have HC0 := hide hc0
  have HBX := hide hbx
  have HY2 := hide (HY.out.frame _ w2 _ _ _ HYA.out (fun k hk => hc0.block k (HFY.out k hk) (fun h => h)))
  have HM2 := hide (HM.out.chg0 hc0)
  clear hw2 hc0 hbx
  refine (HY.out.free w2 y FY m b HY2.out HOK.out hb).mono ?_
  rintro e w3 ⟨rfl, hto⟩
  have HTO := hide hto
  have HM3 := hide (pair_mid HM2.out H5.out hto)
  have HBX3 := hide (show Bx w3 w.heap.size y r a b c d j from by
    obtain ⟨F', a1, a2, a3⟩ := hto
    exact HBX.out.chg a2 (fun k hk => HFY.out k hk))
  have x0 := HBX3.out.r
  have x1 := HBX3.out.b
  clear hto
  go_wp2_with fail
  refine (free_any r V m b _ HM3.out HOK.out).mono ?_
  rintro e w4 ⟨rfl, hq⟩
  have HF := hide (look_end HY.out HC0.out HM2.out HFV.out H4.out H5.out HTO.out hq HGD.out)
  clear hq x0 x1
  go_wp2
  go_ret
  exact ⟨ret_bool (by simp), HF.out⟩

set_option maxRecDepth 100000 in
set_option maxHeartbeats 2000000 in
theorem looked_look {YAt : World → Nat → (Nat → Prop) → MkG → Prop} (hY : YardSpec YAt) (y r : Nat) (F : Nat → Prop) (m : MkG) (a b c d : Int) (j : JobG) (w : World) (hp : PairM YAt w y r F m) (hb : I64 b) (hc : I64 c) :
    Calls Try.prog 66 #[.agg #[.pointer (some ⟨y, 0, none⟩), .pointer (some ⟨r, 0, none⟩)], .agg #[.int .i64 13, .int .i64 a, .int .i64 b, .int .i64 c, .int .i64 d, .int .i64 j.arr, .int .i64 j.dl, .int .i64 j.len, .int .i64 j.units, .int .i64 j.val]] w fun e w' => e = .returned (.bool true) ∧ PairTo YAt w y r F m w' := by
  obtain ⟨FY, V, g1, g2, g3, g4, g5⟩ := hp
  have HY := hide hY
  have HYA := hide g1
  have HM := hide g2
  have HOK := hide g3.ok
  have HGD := hide g3
  have H4 := hide g4
  have H5 := hide g5
  have HFY := hide (fun k (hk : FY k) => hY.lt _ _ _ _ g1 k hk)
  have HFV := hide (fun k (hk : V.foot r k) => g2.foot_lt k hk)
  clear g1 g2 g3 g4 g5 hY
  go_enter Try.func66, Try.ntmps66
  go_wp2_with fail
  obtain ⟨w2, hw2⟩ : ∃ w2, w2 = (w.alloc (.cells #[.pointer (some ⟨y, 0, none⟩), .pointer (some ⟨r, 0, none⟩)] 134)).alloc (.cells #[.int .i64 13, .int .i64 a, .int .i64 b, .int .i64 c, .int .i64 d, .int .i64 j.arr, .int .i64 j.dl, .int .i64 j.len, .int .i64 j.units, .int .i64 j.val] 83) := ⟨_, rfl⟩
  rw [← hw2]
  obtain ⟨hc0, hbx⟩ := Bx.mk0 w y r 13 a b c d j w2 hw2
  have HC0 := hide hc0
  have HBX := hide hbx
  have HY2 := hide (HY.out.frame _ w2 _ _ _ HYA.out (fun k hk => hc0.block k (HFY.out k hk) (fun h => h)))
  have HM2 := hide (HM.out.chg0 hc0)
  clear hw2 hc0 hbx
  refine (HY.out.look w2 y FY m b c HY2.out HOK.out hb hc).mono ?_
  rintro e w3 ⟨rfl, hto⟩
  have HTO := hide hto
  have HM3 := hide (pair_mid HM2.out H5.out hto)
  have HBX3 := hide (show Bx w3 w.heap.size y r a b c d j from by
    obtain ⟨F', a1, a2, a3⟩ := hto
    exact HBX.out.chg a2 (fun k hk => HFY.out k hk))
  have HW4 := hide (show ∀ o, Bx (w3.alloc o) w.heap.size y r a b c d j ∧ MktAt (w3.alloc o) r V m from fun o => ⟨HBX3.out.chg ((Chg.refl (fun _ => False) _).alloc o) (fun _ h => h.elim), HM3.out.chg0 ((Chg.refl _ _).alloc o)⟩)
  have x0 := fun o => (HW4.out o).1.r
  have x1 := fun o => (HW4.out o).1.b
  have x2 := fun o => (HW4.out o).1.c
  clear hto
  go_wp2_with fail
  refine (look_any r V m b c _ (HW4.out _).2 HOK.out).mono ?_
  rintro e w4 ⟨rfl, hq⟩
  have HF := hide (fun (w5 : World) (h : Chg (fun _ => False) w4 w5) => look_end HY.out HC0.out HM2.out HFV.out H4.out H5.out HTO.out ((((Chg.refl _ _).alloc _).trans hq (fun _ _ h => h)).trans h (fun _ _ h => h)) HGD.out)
  have hw4 := hq.size
  have b0 : w4.cell? ⟨w3.heap.size, 0, none⟩ = some (.int .i64 (lookS m b c)) := by rw [hq.cell (by simp) (fun h => h)]; simp
  have b1 : w4.cell? ⟨w3.heap.size, 1, none⟩ = some (.int .i64 (lookT m b c)) := by rw [hq.cell (by simp) (fun h => h)]; simp
  have hlt4 : w3.heap.size < w4.heap.size := by simp at hw4; omega
  have b0' : ∀ o, (w4.alloc o).cell? ⟨w3.heap.size, 0, none⟩ = some (.int .i64 (lookS m b c)) := fun o => by rw [World.cell?_alloc_lt _ _ _ (by exact hlt4)]; exact b0
  have b1' : ∀ o, (w4.alloc o).cell? ⟨w3.heap.size, 1, none⟩ = some (.int .i64 (lookT m b c)) := fun o => by rw [World.cell?_alloc_lt _ _ _ (by exact hlt4)]; exact b1
  clear hq x0 x1 x2 hw4
  go_wp2
  go_ret
  exact ⟨ret_bool (by simp), HF.out _ ((Chg.refl _ _).alloc _)⟩
end Go.Proofs.Ytccfademkgjeiaa
