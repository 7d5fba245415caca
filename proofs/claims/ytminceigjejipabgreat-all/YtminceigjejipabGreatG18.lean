import Derived.Test.YtminceigjejipabGreatG13
import Derived.Test.YtminceigjejipabGreatG5
namespace Go.Proofs.YtminceigjejipabGreat
open Go.RowKit

/-- a look: the document's market stays where it is -/
theorem look_end {YAt : World → Nat → (Nat → Prop) → MkG → Prop} (hY : YardSpec YAt) {w0 w w1 w2 : World} {y r : Nat} {V : MV} {F FY : Nat → Prop} {m : MkG} (hc0 : Chg (fun _ => False) w0 w) (h2 : MktAt w r V m) (hlt : ∀ k, V.foot r k → k < w0.heap.size) (h4 : ∀ k, F k ↔ FY k ∨ V.foot r k) (h5 : ∀ k, FY k → ¬ V.foot r k) (hy : YTo YAt w y FY m w1) (hr : Chg (fun _ => False) w1 w2) (hok : GoodM m) : PairTo YAt w0 y r F m w2 :=
  pair_end hY hc0 h2 hlt h4 h5 hy ((MktTo.refl (pair_mid h2 h5 hy)).chg0 hr) hok

set_option maxRecDepth 100000 in
set_option maxHeartbeats 2000000 in
theorem looked_now {YAt : World → Nat → (Nat → Prop) → MkG → Prop} (hY : YardSpec YAt) (y r : Nat) (F : Nat → Prop) (m : MkG) (a b c d : Int) (j : JobG) (w : World) (hp : PairM YAt w y r F m)  :
    Calls Tryz.prog 15 #[.agg #[.pointer (some ⟨y, 0, none⟩), .pointer (some ⟨r, 0, none⟩)], .agg #[.int .i64 11, .int .i64 a, .int .i64 b, .int .i64 c, .int .i64 d, .int .i64 j.arr, .int .i64 j.dl, .int .i64 j.len, .int .i64 j.units, .int .i64 j.val]] w fun e w' => e = .returned (.bool true) ∧ PairTo YAt w y r F m w' := by
  obtain ⟨FY, V, g1, g2, g3, g4, g5⟩ := hp
  have HY := hide hY
  have HYA := hide g1
  have HM := hide g2
  have HOK := hide g3.ok
  have HGD := hide g3
  have H4 := hide g4
  have H5 := hide g5
  have HFY := hide (fun k (hk : FY k) => hY.lt _ _ _ _ g1 k hk)
  have HFV := hide (fun k (hk : V.foot r k) => g2.foot_lt k hk)
  clear g1 g2 g3 g4 g5 hY
  go_enter Tryz.func15, Tryz.ntmps15
  go_wp2_with fail
  obtain ⟨w2, hw2⟩ : ∃ w2, w2 = (w.alloc (.cells #[.pointer (some ⟨y, 0, none⟩), .pointer (some ⟨r, 0, none⟩)] 56)).alloc (.cells #[.int .i64 11, .int .i64 a, .int .i64 b, .int .i64 c, .int .i64 d, .int .i64 j.arr, .int .i64 j.dl, .int .i64 j.len, .int .i64 j.units, .int .i64 j.val] 37) := ⟨_, rfl⟩
  rw [← hw2]
  obtain ⟨hc0, hbx⟩ := Bx.mk0 w y r 11 a b c d j w2 hw2
  have HC0 := hide hc0
  have HBX := hide hbx
  have HY2 := hide (HY.out.frame _ w2 _ _ _ HYA.out (fun k hk => hc0.block k (HFY.out k hk) (fun h => h)))
  have HM2 := hide (HM.out.chg0 hc0)
  clear hw2 hc0 hbx
  refine (HY.out.now w2 y FY m HY2.out HOK.out).mono ?_
  rintro e w3 ⟨rfl, hto⟩
  have HTO := hide hto
  have HM3 := hide (pair_mid HM2.out H5.out hto)
  have HBX3 := hide (show Bx w3 w.heap.size y r a b c d j from by
    obtain ⟨F', a1, a2, a3⟩ := hto
    exact HBX.out.chg a2 (fun k hk => HFY.out k hk))
  have x0 := HBX3.out.r
  have x1 : w3.cell? ⟨r, 5, none⟩ = some (.int .i64 m.time) := HM3.out.cell 5
  have HF := hide (look_end HY.out HC0.out HM2.out HFV.out H4.out H5.out HTO.out (Chg.refl _ _) HGD.out)
  clear hto
  go_wp2
  go_ret
  exact ⟨ret_bool (by simp), HF.out⟩

set_option maxRecDepth 100000 in
set_option maxHeartbeats 2000000 in
theorem looked_left {YAt : World → Nat → (Nat → Prop) → MkG → Prop} (hY : YardSpec YAt) (y r : Nat) (F : Nat → Prop) (m : MkG) (a b c d : Int) (j : JobG) (w : World) (hp : PairM YAt w y r F m)  :
    Calls Tryz.prog 15 #[.agg #[.pointer (some ⟨y, 0, none⟩), .pointer (some ⟨r, 0, none⟩)], .agg #[.int .i64 12, .int .i64 a, .int .i64 b, .int .i64 c, .int .i64 d, .int .i64 j.arr, .int .i64 j.dl, .int .i64 j.len, .int .i64 j.units, .int .i64 j.val]] w fun e w' => e = .returned (.bool true) ∧ PairTo YAt w y r F m w' := by
  obtain ⟨FY, V, g1, g2, g3, g4, g5⟩ := hp
  have HY := hide hY
  have HYA := hide g1
  have HM := hide g2
  have HOK := hide g3.ok
  have HGD := hide g3
  have H4 := hide g4
  have H5 := hide g5
  have HFY := hide (fun k (hk : FY k) => hY.lt _ _ _ _ g1 k hk)
  have HFV := hide (fun k (hk : V.foot r k) => g2.foot_lt k hk)
  clear g1 g2 g3 g4 g5 hY
  go_enter Tryz.func15, Tryz.ntmps15
  go_wp2_with fail
  obtain ⟨w2, hw2⟩ : ∃ w2, w2 = (w.alloc (.cells #[.pointer (some ⟨y, 0, none⟩), .pointer (some ⟨r, 0, none⟩)] 56)).alloc (.cells #[.int .i64 12, .int .i64 a, .int .i64 b, .int .i64 c, .int .i64 d, .int .i64 j.arr, .int .i64 j.dl, .int .i64 j.len, .int .i64 j.units, .int .i64 j.val] 37) := ⟨_, rfl⟩
  rw [← hw2]
  obtain ⟨hc0, hbx⟩ := Bx.mk0 w y r 12 a b c d j w2 hw2
  have HC0 := hide hc0
  have HBX := hide hbx
  have HY2 := hide (HY.out.frame _ w2 _ _ _ HYA.out (fun k hk => hc0.block k (HFY.out k hk) (fun h => h)))
  have HM2 := hide (HM.out.chg0 hc0)
  clear hw2 hc0 hbx
  refine (HY.out.left w2 y FY m HY2.out HOK.out).mono ?_
  rintro e w3 ⟨rfl, hto⟩
  have HTO := hide hto
  have HM3 := hide (pair_mid HM2.out H5.out hto)
  have HBX3 := hide (show Bx w3 w.heap.size y r a b c d j from by
    obtain ⟨F', a1, a2, a3⟩ := hto
    exact HBX.out.chg a2 (fun k hk => HFY.out k hk))
  have x0 := HBX3.out.r
  obtain ⟨la, lc, hlv⟩ := HM3.out.log_form
  have x1 : w3.cell? ⟨r, 9, none⟩ = some (.slice la m.log.length lc) := by rw [← hlv]; exact HM3.out.cell 9
  have hll := HOK.out.nl
  have HF := hide (look_end HY.out HC0.out HM2.out HFV.out H4.out H5.out HTO.out (Chg.refl _ _) HGD.out)
  clear hto hlv
  generalize m.log.length = n at *
  go_wp2
  go_ret
  exact ⟨ret_bool (by simp), HF.out⟩

set_option maxRecDepth 100000 in
set_option maxHeartbeats 2000000 in
theorem looked_free {YAt : World → Nat → (Nat → Prop) → MkG → Prop} (hY : YardSpec YAt) (y r : Nat) (F : Nat → Prop) (m : MkG) (a b c d : Int) (j : JobG) (w : World) (hp : PairM YAt w y r F m) (hb : I64 b) :
    Calls Tryz.prog 15 #[.agg #[.pointer (some ⟨y, 0, none⟩), .pointer (some ⟨r, 0, none⟩)], .agg #[.int .i64 14, .int .i64 a, .int .i64 b, .int .i64 c, .int .i64 d, .int .i64 j.arr, .int .i64 j.dl, .int .i64 j.len, .int .i64 j.units, .int .i64 j.val]] w fun e w' => e = .returned (.bool true) ∧ PairTo YAt w y r F m w' := by
  obtain ⟨FY, V, g1, g2, g3, g4, g5⟩ := hp
  have HY := hide hY
  have HYA := hide g1
  have HM := hide g2
  have HOK := hide g3.ok
  have HGD := hide g3
  have H4 := hide g4
  have H5 := hide g5
  have HFY := hide (fun k (hk : FY k) => hY.lt _ _ _ _ g1 k hk)
  have HFV := hide (fun k (hk : V.foot r k) => g2.foot_lt k hk)
  clear g1 g2 g3 g4 g5 hY
  go_enter Tryz.func15, Tryz.ntmps15
  go_wp2_with fail
  obtain ⟨w2, hw2⟩ : ∃ w2, w2 = (w.alloc (.cells #[.pointer (some ⟨y, 0, none⟩), .pointer (some ⟨r, 0, none⟩)] 56)).alloc (.cells #[.int .i64 14, .int .i64 a, .int .i64 b, .int .i64 c, .int .i64 d, .int .i64 j.arr, .int .i64 j.dl, .int .i64 j.len, .int .i64 j.units, .int .i64 j.val] 37) := ⟨_, rfl⟩
  rw [← hw2]
  obtain ⟨hc0, hbx⟩ := Bx.mk0 w y r 14 a b c d j w2 hw2
  have HC0 := hide hc0
  have HBX := hide hbx
  have HY2 := hide (HY.out.frame _ w2 _ _ _ HYA.out (fun k hk => hc0.block k (HFY.out k hk) (fun h => h)))
  have HM2 := hide (HM.out.chg0 hc0)
  clear hw2 hc0 hbx
  refine (HY.out.free w2 y FY m b HY2.out HOK.out hb).mono ?_
  rintro e w3 ⟨rfl, hto⟩
  have HTO := hide hto
  have HM3 := hide (pair_mid HM2.out H5.out hto)
  have HBX3 := hide (show Bx w3 w.heap.size y r a b c d j from by
    obtain ⟨F', a1, a2, a3⟩ := hto
    exact HBX.out.chg a2 (fun k hk => HFY.out k hk))
  have x0 := HBX3.out.r
  have x1 := HBX3.out.b
  clear hto
  go_wp2_with fail
  refine (free_any r V m b _ HM3.out HOK.out).mono ?_
  rintro e w4 ⟨rfl, hq⟩
  have HF := hide (look_end HY.out HC0.out HM2.out HFV.out H4.out H5.out HTO.out hq HGD.out)
  clear hq x0 x1
  go_wp2
  go_ret
  exact ⟨ret_bool (by simp), HF.out⟩

set_option maxRecDepth 100000 in
set_option maxHeartbeats 2000000 in
theorem looked_look {YAt : World → Nat → (Nat → Prop) → MkG → Prop} (hY : YardSpec YAt) (y r : Nat) (F : Nat → Prop) (m : MkG) (a b c d : Int) (j : JobG) (w : World) (hp : PairM YAt w y r F m) (hb : I64 b) (hc : I64 c) :
    Calls Tryz.prog 15 #[.agg #[.pointer (some ⟨y, 0, none⟩), .pointer (some ⟨r, 0, none⟩)], .agg #[.int .i64 13, .int .i64 a, .int .i64 b, .int .i64 c, .int .i64 d, .int .i64 j.arr, .int .i64 j.dl, .int .i64 j.len, .int .i64 j.units, .int .i64 j.val]] w fun e w' => e = .returned (.bool true) ∧ PairTo YAt w y r F m w' := by
  obtain ⟨FY, V, g1, g2, g3, g4, g5⟩ := hp
  have HY := hide hY
  have HYA := hide g1
  have HM := hide g2
  have HOK := hide g3.ok
  have HGD := hide g3
  have H4 := hide g4
  have H5 := hide g5
  have HFY := hide (fun k (hk : FY k) => hY.lt _ _ _ _ g1 k hk)
  have HFV := hide (fun k (hk : V.foot r k) => g2.foot_lt k hk)
  clear g1 g2 g3 g4 g5 hY
  go_enter Tryz.func15, Tryz.ntmps15
  go_wp2_with fail
  obtain ⟨w2, hw2⟩ : ∃ w2, w2 = (w.alloc (.cells #[.pointer (some ⟨y, 0, none⟩), .pointer (some ⟨r, 0, none⟩)] 56)).alloc (.cells #[.int .i64 13, .int .i64 a, .int .i64 b, .int .i64 c, .int .i64 d, .int .i64 j.arr, .int .i64 j.dl, .int .i64 j.len, .int .i64 j.units, .int .i64 j.val] 37) := ⟨_, rfl⟩
  rw [← hw2]
  obtain ⟨hc0, hbx⟩ := Bx.mk0 w y r 13 a b c d j w2 hw2
  have HC0 := hide hc0
  have HBX := hide hbx
  have HY2 := hide (HY.out.frame _ w2 _ _ _ HYA.out (fun k hk => hc0.block k (HFY.out k hk) (fun h => h)))
  have HM2 := hide (HM.out.chg0 hc0)
  clear hw2 hc0 hbx
  refine (HY.out.look w2 y FY m b c HY2.out HOK.out hb hc).mono ?_
  rintro e w3 ⟨rfl, hto⟩
  have HTO := hide hto
  have HM3 := hide (pair_mid HM2.out H5.out hto)
  have HBX3 := hide (show Bx w3 w.heap.size y r a b c d j from by
    obtain ⟨F', a1, a2, a3⟩ := hto
    exact HBX.out.chg a2 (fun k hk => HFY.out k hk))
  have HW4 := hide (show ∀ o, Bx (w3.alloc o) w.heap.size y r a b c d j ∧ MktAt (w3.alloc o) r V m from fun o => ⟨HBX3.out.chg ((Chg.refl (fun _ => False) _).alloc o) (fun _ h => h.elim), HM3.out.chg0 ((Chg.refl _ _).alloc o)⟩)
  have x0 := fun o => (HW4.out o).1.r
  have x1 := fun o => (HW4.out o).1.b
  have x2 := fun o => (HW4.out o).1.c
  clear hto
  go_wp2_with fail
  refine (look_any r V m b c _ (HW4.out _).2 HOK.out).mono ?_
  rintro e w4 ⟨rfl, hq⟩
  have HF := hide (fun (w5 : World) (h : Chg (fun _ => False) w4 w5) => look_end HY.out HC0.out HM2.out HFV.out H4.out H5.out HTO.out ((((Chg.refl _ _).alloc _).trans hq (fun _ _ h => h)).trans h (fun _ _ h => h)) HGD.out)
  have hw4 := hq.size
  have b0 : w4.cell? ⟨w3.heap.size, 0, none⟩ = some (.int .i64 (lookS m b c)) := by rw [hq.cell (by simp) (fun h => h)]; simp
  have b1 : w4.cell? ⟨w3.heap.size, 1, none⟩ = some (.int .i64 (lookT m b c)) := by rw [hq.cell (by simp) (fun h => h)]; simp
  have hlt4 : w3.heap.size < w4.heap.size := by simp at hw4; omega
  have b0' : ∀ o, (w4.alloc o).cell? ⟨w3.heap.size, 0, none⟩ = some (.int .i64 (lookS m b c)) := fun o => by rw [World.cell?_alloc_lt _ _ _ (by exact hlt4)]; exact b0
  have b1' : ∀ o, (w4.alloc o).cell? ⟨w3.heap.size, 1, none⟩ = some (.int .i64 (lookT m b c)) := fun o => by rw [World.cell?_alloc_lt _ _ _ (by exact hlt4)]; exact b1
  clear hq x0 x1 x2 hw4
  go_wp2
  go_ret
  exact ⟨ret_bool (by simp), HF.out _ ((Chg.refl _ _).alloc _)⟩
end Go.Proofs.YtminceigjejipabGreat

namespace Go.Proofs.YtminceigjejipabGreat
open Go.RowKit

theorem infoMarket : (Tryz.prog.info? 56).map (fun i => (i.zero, i.size, i.bytes)) = some (some (.agg #[.pointer none, .pointer none]), 2, 16) := by kernel_rfl

theorem BoxAt.set2 {w : World} {B : Nat} {v0 v1 v2 v3 v4 : Value} (h : BoxAt w B v0 v1 v2 v3 v4) (u : Value) : BoxAt (w.setCell ⟨B, 2, none⟩ u) B v0 v1 u v3 v4 := by
  unfold BoxAt
  simp only [World.setCell, Array.getElem?_modify]
  rw [show w.heap[B]? = _ from h]
  simp

theorem ckZ_of {c : CfgG} {b : Bool} (h : cfgOk c = b) : ckZ c.ticks c.cap c.res c.ten c.quo = if b then 0 else 1 := by
  unfold cfgOk at h
  unfold ckZ
  rw [h]

set_option maxHeartbeats 2000000 in
theorem opened_bad {YAt : World → Nat → (Nat → Prop) → MkG → Prop} (hY : YardSpec YAt) (bw : Nat) (c : CfgG) (w : World) (h : cfgOk c = false) :
    Calls Tryz.prog 11 #[.pointer (some ⟨bw, 0, none⟩), cfgV c] w fun e w' => e = .returned (.bool true) ∧ Chg (fun _ => False) w w' := by
  have HY := hide hY
  have H := hide h
  have HZ := hide (ckZ_of h)
  clear hY h
  unfold cfgV
  go_enter Tryz.func11, Tryz.ntmps11
  go_wp2_with fail
  refine (HY.out.open_bad c _ H.out).mono ?_
  rintro e w1 ⟨rfl, hq⟩
  have hs := hq.size
  have b0 : w1.cell? ⟨w.heap.size, 0, none⟩ = some (.int .i64 c.ticks) := by rw [hq.cell (by simp) (fun h => h)]; simp
  have b1 : w1.cell? ⟨w.heap.size, 1, none⟩ = some (.int .i64 c.cap) := by rw [hq.cell (by simp) (fun h => h)]; simp
  have b2 : w1.cell? ⟨w.heap.size, 2, none⟩ = some (.int .i64 c.res) := by rw [hq.cell (by simp) (fun h => h)]; simp
  have b3 : w1.cell? ⟨w.heap.size, 3, none⟩ = some (.int .i64 c.ten) := by rw [hq.cell (by simp) (fun h => h)]; simp
  have b4 : w1.cell? ⟨w.heap.size, 4, none⟩ = some (.int .i64 c.quo) := by rw [hq.cell (by simp) (fun h => h)]; simp
  have HQ := hide (((Chg.refl (fun _ => False) w).alloc _).trans hq (fun _ _ h => h))
  clear hq hs
  go_wp2_with fail
  refine (refCheck_any _ _ _ _ _ _).mono ?_
  rintro e w2 ⟨rfl, hq2⟩
  have HQ2 := hide (HQ.out.trans hq2 (fun _ _ h => h))
  rw [HZ.out]
  clear hq2 b0 b1 b2 b3 b4
  simp only [Bool.false_eq_true, if_false]
  go_wp2
  go_ret
  exact ⟨rfl, HQ2.out⟩

/-- what 'opened' makes -/
def Opened (YAt : World → Nat → (Nat → Prop) → MkG → Prop) (w : World) (B n : Nat) (c : CfgG) (v0 v1 mv v3 v4 : Value) (xs : List Value) (w' : World) : Prop :=
  ∃ g cap y r F, BoxAt w' B v0 v1 (.slice (some ⟨g, 0, none⟩) (n + 1) cap) v3 v4 ∧ w'.ownsRow 0 56 2 (.slice (some ⟨g, 0, none⟩) (n + 1) cap) (n + 1) (xs ++ [.pointer (some ⟨y, 0, none⟩), .pointer (some ⟨r, 0, none⟩)]) ∧ PairM YAt w' y r F (openM c) ∧
    (∀ k, F k → w.heap.size ≤ k) ∧ ¬ F g ∧ Chg (fun k => k = B ∨ mv.ownBlock = some k) w w' ∧ (mv.ownBlock = some g ∨ w.heap.size ≤ g)

theorem opened_step {YAt : World → Nat → (Nat → Prop) → MkG → Prop} (hY : YardSpec YAt) {w w1 w2 w3 : World} {o : Obj} {B n y r g cap H : Nat} {c : CfgG} {v0 v1 v3 v4 : Value} {ma : Option Addr} {mc : Nat} {xs : List Value} {FY : Nat → Prop} {V : MV} (hok : cfgOk c = true)
    (hbox : BoxAt w B v0 v1 (.slice ma n mc) v3 v4) (hown : w.ownsRow 0 56 2 (.slice ma n mc) n xs)
    (hy : YAt w1 y FY (openM c)) (hc1 : Chg (fun _ => False) w w1) (hFY : ∀ k, FY k → w.heap.size ≤ k)
    (hm : MktAt w2 r V (openM c)) (hc2 : Chg (fun _ => False) w1 w2) (hV : ∀ k, V.foot r k → w1.heap.size ≤ k)
    (hown' : w3.ownsRow 0 56 2 (.slice (some ⟨g, 0, none⟩) (n + 1) cap) (n + 1) (xs ++ [.pointer (some ⟨y, 0, none⟩), .pointer (some ⟨r, 0, none⟩)])) (hg : (w2.alloc o).grownBy w3 (Value.ownBlock (.slice ma n mc))) (hat : Value.ownBlock (.slice ma n mc) = some g ∨ g = H) (hH : w2.heap.size ≤ H) :
    w3.cell? ⟨B, 2, none⟩ = some (.slice ma n mc) ∧ w3.frozen? ⟨B, 2, none⟩ = false ∧ Hid (Opened YAt w B n c v0 v1 (.slice ma n mc) v3 v4 xs (w3.setCell ⟨B, 2, none⟩ (.slice (some ⟨g, 0, none⟩) (n + 1) cap))) := by
  have hBl := hbox.lt
  have hs1 := hc1.size
  have hs2 := hc2.size
  have hmb : ∀ k, Value.ownBlock (.slice ma n mc) = some k → k < w.heap.size := fun k hk => (hown.lt k hk).2
  have nB : Value.ownBlock (.slice ma n mc) ≠ some B := ownsRow_box hown hbox (by decide)
  have hc3 : Chg (fun k => Value.ownBlock (.slice ma n mc) = some k) w w3 :=
    ((((hc1.trans hc2 (fun _ _ h => h)).alloc o).mono (O' := fun k => Value.ownBlock (.slice ma n mc) = some k) (fun _ _ h => h.elim))).grown hg (fun k hk => .inl hk)
  have hb3 : BoxAt w3 B v0 v1 (.slice ma n mc) v3 v4 := hbox.chg hc3 (fun h => nB h)
  have e1 := hb3.cell 2
  simp at e1
  refine ⟨e1, hb3.free 2, ?_⟩
  have hYl := hY.lt _ _ _ _ hy
  have hMl := hm.foot_lt
  have gB : g ≠ B := by
    rintro rfl
    obtain ⟨cu, hc⟩ := ownsRow_block hown' (k := g) rfl
    rw [show w3.heap[g]? = _ from hb3] at hc
    simp at hc
  have far : ∀ k, w.heap.size ≤ k → k < w2.heap.size → (w3.setCell ⟨B, 2, none⟩ (.slice (some ⟨g, 0, none⟩) (n + 1) cap)).heap[k]? = w2.heap[k]? := fun k h1 h2 => by
    rw [Below.heap_setCell _ _ _ _ (by show k ≠ B; omega), hg.block k (by simp; omega) (fun e => by have := hmb k e.symm; omega), Below.heap_alloc _ _ _ h2]
  refine ⟨g, cap, y, r, fun k => FY k ∨ V.foot r k, hb3.set2 _, ownsRow_keep hown' (fun k hk => Below.heap_setCell _ _ _ _ (by simp [Value.ownBlock] at hk; rw [← hk]; exact gB)), ⟨FY, V, ?_, ?_, GoodM.open hok, fun _ => Iff.rfl, fun k hk hf => ?_⟩, fun k hk => ?_, ?_, (hc3.mono (O' := fun k => k = B ∨ Value.ownBlock (.slice ma n mc) = some k) (fun _ _ h => .inr h)).setCell (.inl (.inl rfl)) _, ?_⟩
  · exact hY.frame _ _ _ _ _ hy (fun k hk => by rw [far k (hFY k hk) (by have := hYl k hk; omega), hc2.block k (hYl k hk) (fun h => h)])
  · exact hm.frame (fun k hk => far k (by have := hV k hk; omega) (hMl k hk))
  · have := hYl k hk
    have := hV k hf
    omega
  · rcases hk with hk | hk
    · exact hFY k hk
    · have := hV k hk; omega
  · rintro (h | h)
    · have a1 := hYl g h
      have a2 := hFY g h
      rcases hat with e | e
      · have := hmb g e; omega
      · omega
    · have a1 := hMl g h
      have a2 := hV g h
      rcases hat with e | e
      · have := hmb g e; omega
      · omega
  · rcases hat with e | e
    · exact .inl e
    · exact .inr (by omega)

set_option maxRecDepth 100000 in
set_option maxHeartbeats 4000000 in
theorem opened_ok {YAt : World → Nat → (Nat → Prop) → MkG → Prop} (hY : YardSpec YAt) (B n : Nat) (c : CfgG) (ma : Option Addr) (mc : Nat) (v0 v1 v3 v4 : Value) (xs : List Value) (w : World) (h : cfgOk c = true) (hn : n < 5000000000000)
    (hbox : BoxAt w B v0 v1 (.slice ma n mc) v3 v4) (hown : w.ownsRow 0 56 2 (.slice ma n mc) n xs) :
    Calls Tryz.prog 11 #[.pointer (some ⟨B, 0, none⟩), cfgV c] w fun e w' => e = .returned (.bool true) ∧ ∃ o, Opened YAt (w.alloc o) B n c v0 v1 (.slice ma n mc) v3 v4 xs w' := by
  obtain ⟨i0, hi, hz0, hz1, hz2⟩ := info_parts infoMarket
  have HY := hide hY
  have H := hide h
  have HZ := hide (ckZ_of h)
  have HBOX := hide hbox
  have HOWN := hide hown
  clear hY h hbox hown
  unfold cfgV
  go_enter Tryz.func11, Tryz.ntmps11
  go_wp2_with fail
  obtain ⟨w0, hw0⟩ : ∃ w0, w0 = w.alloc (.cells #[.int .i64 c.ticks, .int .i64 c.cap, .int .i64 c.res, .int .i64 c.ten, .int .i64 c.quo] 49) := ⟨_, rfl⟩
  rw [← hw0]
  have hbk : w0.heap[w.heap.size]? = some (.cells #[.int .i64 c.ticks, .int .i64 c.cap, .int .i64 c.res, .int .i64 c.ten, .int .i64 c.quo] 49 (0, 0)) := by rw [hw0]; exact heap_alloc_new w _
  have HBOX0 := hide (show BoxAt w0 B v0 v1 (.slice ma n mc) v3 v4 from by rw [hw0]; exact HBOX.out.chg ((Chg.refl (fun _ => False) _).alloc _) (fun h => h))
  have HOWN0 := hide (show w0.ownsRow 0 56 2 (.slice ma n mc) n xs from by rw [hw0]; exact HOWN.out.alloc _)
  have HW0 := hide hw0
  have hq0 : w.heap.size < w0.heap.size := (Array.getElem?_eq_some_iff.1 hbk).1
  have HBK := hide hbk
  clear hw0 hbk
  refine (HY.out.open_ok c _ H.out).mono ?_
  rintro e w1 ⟨y, FY, rfl, hy, hc1, hFY⟩
  have cellsOf : ∀ (wx : World), Chg (fun _ => False) w0 wx → wx.cell? ⟨w.heap.size, 0, none⟩ = some (.int .i64 c.ticks) ∧ wx.cell? ⟨w.heap.size, 1, none⟩ = some (.int .i64 c.cap) ∧ wx.cell? ⟨w.heap.size, 2, none⟩ = some (.int .i64 c.res) ∧ wx.cell? ⟨w.heap.size, 3, none⟩ = some (.int .i64 c.ten) ∧ wx.cell? ⟨w.heap.size, 4, none⟩ = some (.int .i64 c.quo) := fun wx hx => by
    have hb : wx.heap[w.heap.size]? = some (.cells #[.int .i64 c.ticks, .int .i64 c.cap, .int .i64 c.res, .int .i64 c.ten, .int .i64 c.quo] 49 (0, 0)) := by rw [hx.block _ hq0 (fun h => h)]; exact HBK.out
    refine ⟨?_, ?_, ?_, ?_, ?_⟩ <;> (unfold World.cell?; rw [hb]; rfl)
  have HCO := hide cellsOf
  obtain ⟨b0, b1, b2, b3, b4⟩ := cellsOf w1 hc1
  have HYA := hide hy
  have HC1 := hide hc1
  have HFY := hide hFY
  clear hy hc1 hFY cellsOf
  go_wp2_with fail
  refine (refCheck_any _ _ _ _ _ _).mono ?_
  rintro e w2 ⟨rfl, hq2⟩
  have HC2 := hide (HC1.out.trans hq2 (fun _ _ h => h))
  have HYA2 := hide (HY.out.frame _ w2 _ _ _ HYA.out (fun k hk => hq2.block k (HY.out.lt _ _ _ _ HYA.out k hk) (fun h => h)))
  rw [HZ.out]
  clear hq2 b0 b1 b2 b3 b4
  obtain ⟨b0, b1, b2, b3, b4⟩ := HCO.out w2 HC2.out
  simp only [if_true]
  go_wp2_with fail
  refine (open_any c _ H.out).mono ?_
  rintro e w3 ⟨r, V, rfl, hm, hc3, hV⟩
  have HM := hide hm
  have HC3 := hide hc3
  have HV := hide hV
  have hb3 : BoxAt w3 B v0 v1 (.slice ma n mc) v3 v4 := (HBOX0.out.chg HC2.out (fun h => h)).chg hc3 (fun h => h)
  have c2 : w3.cell? ⟨B, 2, none⟩ = some (.slice ma n mc) := by have := hb3.cell 2; simpa using this
  have hl3 := hb3.lt
  have HO3 := hide (show w3.ownsRow 0 56 2 (.slice ma n mc) n xs from ownsRow_keep HOWN0.out (fun k hk => by
    have hkl := (HOWN0.out.lt k hk).2
    rw [hc3.block k (Nat.lt_of_lt_of_le hkl HC2.out.size) (fun h => h), HC2.out.block k hkl (fun h => h)]))
  clear hm hc3 hV hb3 b0 b1 b2 b3 b4
  go_wp2_with (first | (at_builtin; refine wpList_append_lies _ rfl _ _ 29 rfl 0 56 i0 (.agg #[.pointer none, .pointer none]) 2 16 Tryz.underlying29 hi hz0 hz1 hz2 rfl (by decide) _ _ _ rfl (HO3.out.alloc _) ⟨w3.heap.size, 0, none⟩ 1 1 [.pointer (some ⟨y, 0, none⟩), .pointer (some ⟨r, 0, none⟩)] rfl rfl (World.news_of_block (heap_alloc_new w3 _)) (by simp [Value.oneCell']) (by decide) (by unfold maxLen; omega) (by omega) (Nat.zero_le _) _ rfl ?_))
  intro g cap w4 hown' hgrow hat hlt
  obtain ⟨s1, s2, s3⟩ := opened_step HY.out H.out HBOX0.out HOWN0.out HYA2.out HC2.out HFY.out HM.out HC3.out HV.out hown' hgrow hat (by simp)
  have S3 := hide s3.out
  clear s3 hown' hgrow hat hlt c2
  go_wp2
  go_ret
  exact ⟨rfl, _, by have := S3.out; rw [HW0.out] at this; exact this⟩
end Go.Proofs.YtminceigjejipabGreat
