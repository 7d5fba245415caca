import Derived.Test.YtminceigjejipaaGreatLawX
import Derived.Test.YtminceigjejipaaGreatG15
import Derived.Test.YtminceigjejipaaGreatG14
import Derived.Test.YtminceigjejipaaGreatLawU
import Derived.Test.YtminceigjejipaaGreatStepT
import Derived.Test.YtminceigjejipaaGreatG16
import Derived.Test.YtminceigjejipaaGreatStepP
import Derived.Test.YtminceigjejipaaGreatStepN
import Derived.Test.YtminceigjejipaaGreatStepC
/-
  'paid': Price, Bill, Pay, Balance, Invoices, held against one another.
-/
namespace Go.Proofs.YtminceigjejipaaGreat
open Go.RowKit

set_option maxRecDepth 100000 in
set_option maxHeartbeats 2000000 in
theorem paid_price {YAt : World → Nat → (Nat → Prop) → MkG → Prop} (hY : YardSpec YAt) (hP : PaidY YAt) (B y r : Nat) (F : Nat → Prop) (m : MkG) (a b c d : Int) (j : JobG) (w : World) (hp : PairM YAt w y r F m) (hb : I64 b) (hc : I64 c) :
    Calls Tryz.prog 22 #[.pointer (some ⟨B, 0, none⟩), .agg #[.pointer (some ⟨y, 0, none⟩), .pointer (some ⟨r, 0, none⟩)], .agg #[.int .i64 16, .int .i64 a, .int .i64 b, .int .i64 c, .int .i64 d, .int .i64 j.arr, .int .i64 j.dl, .int .i64 j.len, .int .i64 j.units, .int .i64 j.val]] w fun e w' => e = .returned (.bool true) ∧ PairTo YAt w y r F m w' := by
  obtain ⟨FY, V, g1, g2, g3, g4, g5⟩ := hp
  have HY := hide hY
  have HP := hide hP
  have HYA := hide g1
  have HM := hide g2
  have HOK := hide g3.ok
  have HGD := hide g3
  have H4 := hide g4
  have H5 := hide g5
  have HFY := hide (fun k (hk : FY k) => hY.lt _ _ _ _ g1 k hk)
  have HFV := hide (fun k (hk : V.foot r k) => g2.foot_lt k hk)
  clear g1 g2 g3 g4 g5 hY hP
  go_enter Tryz.func22, Tryz.ntmps22
  go_wp2_with fail
  obtain ⟨w2, hw2⟩ : ∃ w2, w2 = (w.alloc (.cells #[.pointer (some ⟨y, 0, none⟩), .pointer (some ⟨r, 0, none⟩)] 56)).alloc (.cells #[.int .i64 16, .int .i64 a, .int .i64 b, .int .i64 c, .int .i64 d, .int .i64 j.arr, .int .i64 j.dl, .int .i64 j.len, .int .i64 j.units, .int .i64 j.val] 37) := ⟨_, rfl⟩
  rw [← hw2]
  obtain ⟨hc0, hbx⟩ := Bx.mk0 w y r 16 a b c d j w2 hw2
  have HC0 := hide hc0
  have HBX := hide hbx
  have HY2 := hide (HY.out.frame _ w2 _ _ _ HYA.out (fun k hk => hc0.block k (HFY.out k hk) (fun h => h)))
  have HM2 := hide (HM.out.chg0 hc0)
  clear hw2 hc0 hbx
  refine (HP.out.price w2 y FY m b c HY2.out HGD.out hb hc).mono ?_
  rintro e w3 ⟨rfl, hto⟩
  have HTO := hide hto
  have HM3 := hide (pair_mid HM2.out H5.out hto)
  have HBX3 := hide (show Bx w3 w.heap.size y r a b c d j from by
    obtain ⟨F', a1, a2, a3⟩ := hto
    exact HBX.out.chg a2 (fun k hk => HFY.out k hk))
  have x0 := HBX3.out.r
  have x1 := HBX3.out.b
  have x2 := HBX3.out.c
  clear hto
  go_wp2_with fail
  refine (price_any r V m b c _ HM3.out HOK.out).mono ?_
  rintro e w4 ⟨rfl, hq⟩
  have HF := hide (look_end HY.out HC0.out HM2.out HFV.out H4.out H5.out HTO.out hq HGD.out)
  clear hq x0 x1 x2
  go_wp2
  go_ret
  exact ⟨ret_bool (by simp), HF.out⟩

set_option maxRecDepth 100000 in
set_option maxHeartbeats 2000000 in
theorem paid_pay {YAt : World → Nat → (Nat → Prop) → MkG → Prop} (hY : YardSpec YAt) (hP : PaidY YAt) (B y r : Nat) (F : Nat → Prop) (m : MkG) (a b c d : Int) (j : JobG) (w : World) (hp : PairM YAt w y r F m) (hb : I64 b) (hc : I64 c) :
    Calls Tryz.prog 22 #[.pointer (some ⟨B, 0, none⟩), .agg #[.pointer (some ⟨y, 0, none⟩), .pointer (some ⟨r, 0, none⟩)], .agg #[.int .i64 18, .int .i64 a, .int .i64 b, .int .i64 c, .int .i64 d, .int .i64 j.arr, .int .i64 j.dl, .int .i64 j.len, .int .i64 j.units, .int .i64 j.val]] w fun e w' => ∃ m', e = .returned (.bool true) ∧ PairTo YAt w y r F m' w' := by
  obtain ⟨FY, V, g1, g2, g3, g4, g5⟩ := hp
  have HY := hide hY
  have HP := hide hP
  have HYA := hide g1
  have HM := hide g2
  have HOK := hide g3.ok
  have HGD := hide g3
  have H4 := hide g4
  have H5 := hide g5
  have HFY := hide (fun k (hk : FY k) => hY.lt _ _ _ _ g1 k hk)
  have HFV := hide (fun k (hk : V.foot r k) => g2.foot_lt k hk)
  clear g1 g2 g3 g4 g5 hY hP
  go_enter Tryz.func22, Tryz.ntmps22
  go_wp2_with fail
  obtain ⟨w2, hw2⟩ : ∃ w2, w2 = (w.alloc (.cells #[.pointer (some ⟨y, 0, none⟩), .pointer (some ⟨r, 0, none⟩)] 56)).alloc (.cells #[.int .i64 18, .int .i64 a, .int .i64 b, .int .i64 c, .int .i64 d, .int .i64 j.arr, .int .i64 j.dl, .int .i64 j.len, .int .i64 j.units, .int .i64 j.val] 37) := ⟨_, rfl⟩
  rw [← hw2]
  obtain ⟨hc0, hbx⟩ := Bx.mk0 w y r 18 a b c d j w2 hw2
  have HC0 := hide hc0
  have HBX := hide hbx
  have HY2 := hide (HY.out.frame _ w2 _ _ _ HYA.out (fun k hk => hc0.block k (HFY.out k hk) (fun h => h)))
  have HM2 := hide (HM.out.chg0 hc0)
  clear hw2 hc0 hbx
  refine (HP.out.pay w2 y FY m b c HY2.out HGD.out hb hc).mono ?_
  rintro e w3 ⟨z, m1, rfl, hres, hto⟩
  have HRES := hide hres
  have HTO := hide hto
  have HM3 := hide (pair_mid HM2.out H5.out hto)
  have HBX3 := hide (show Bx w3 w.heap.size y r a b c d j from by
    obtain ⟨F', a1, a2, a3⟩ := hto
    exact HBX.out.chg a2 (fun k hk => HFY.out k hk))
  have x0 := HBX3.out.r
  have x1 := HBX3.out.b
  have x2 := HBX3.out.c
  clear hres hto
  go_wp2_with fail
  refine (refPay_any r V m b c w3 HM3.out HGD.out).mono ?_
  rintro e w4 ⟨z2, m2, rfl, hres2, hto2⟩
  obtain ⟨rfl, rfl⟩ := LogRes.unique HRES.out hres2
  have HF := hide (pair_end HY.out HC0.out HM2.out HFV.out H4.out H5.out HTO.out hto2 (HGD.out.pay HRES.out))
  clear hres2 hto2 x0 x1 x2
  go_wp2
  go_ret
  exact ⟨m1, ret_bool (by simp), HF.out⟩

set_option maxRecDepth 100000 in
set_option maxHeartbeats 2000000 in
theorem paid_balance {YAt : World → Nat → (Nat → Prop) → MkG → Prop} (hY : YardSpec YAt) (hP : PaidY YAt) (B y r : Nat) (F : Nat → Prop) (m : MkG) (a b c d : Int) (j : JobG) (w : World) (hp : PairM YAt w y r F m) (hb : I64 b) :
    Calls Tryz.prog 22 #[.pointer (some ⟨B, 0, none⟩), .agg #[.pointer (some ⟨y, 0, none⟩), .pointer (some ⟨r, 0, none⟩)], .agg #[.int .i64 19, .int .i64 a, .int .i64 b, .int .i64 c, .int .i64 d, .int .i64 j.arr, .int .i64 j.dl, .int .i64 j.len, .int .i64 j.units, .int .i64 j.val]] w fun e w' => e = .returned (.bool true) ∧ PairTo YAt w y r F m w' := by
  obtain ⟨FY, V, g1, g2, g3, g4, g5⟩ := hp
  have HY := hide hY
  have HP := hide hP
  have HYA := hide g1
  have HM := hide g2
  have HOK := hide g3.ok
  have HGD := hide g3
  have H4 := hide g4
  have H5 := hide g5
  have HFY := hide (fun k (hk : FY k) => hY.lt _ _ _ _ g1 k hk)
  have HFV := hide (fun k (hk : V.foot r k) => g2.foot_lt k hk)
  clear g1 g2 g3 g4 g5 hY hP
  go_enter Tryz.func22, Tryz.ntmps22
  go_wp2_with fail
  obtain ⟨w2, hw2⟩ : ∃ w2, w2 = (w.alloc (.cells #[.pointer (some ⟨y, 0, none⟩), .pointer (some ⟨r, 0, none⟩)] 56)).alloc (.cells #[.int .i64 19, .int .i64 a, .int .i64 b, .int .i64 c, .int .i64 d, .int .i64 j.arr, .int .i64 j.dl, .int .i64 j.len, .int .i64 j.units, .int .i64 j.val] 37) := ⟨_, rfl⟩
  rw [← hw2]
  obtain ⟨hc0, hbx⟩ := Bx.mk0 w y r 19 a b c d j w2 hw2
  have HC0 := hide hc0
  have HBX := hide hbx
  have HY2 := hide (HY.out.frame _ w2 _ _ _ HYA.out (fun k hk => hc0.block k (HFY.out k hk) (fun h => h)))
  have HM2 := hide (HM.out.chg0 hc0)
  clear hw2 hc0 hbx
  refine (HP.out.balance w2 y FY m b HY2.out HGD.out hb).mono ?_
  rintro e w3 ⟨rfl, hto⟩
  have HTO := hide hto
  have HM3 := hide (pair_mid HM2.out H5.out hto)
  have HBX3 := hide (show Bx w3 w.heap.size y r a b c d j from by
    obtain ⟨F', a1, a2, a3⟩ := hto
    exact HBX.out.chg a2 (fun k hk => HFY.out k hk))
  have x0 := HBX3.out.r
  have x1 := HBX3.out.b
  clear hto
  go_wp2_with fail
  refine (balance_any r V m b _ HM3.out HOK.out HGD.out.cash.paid HGD.out.cash.chg).mono ?_
  rintro e w4 ⟨rfl, hq⟩
  have HF := hide (look_end HY.out HC0.out HM2.out HFV.out H4.out H5.out HTO.out hq HGD.out)
  clear hq x0 x1
  go_wp2
  go_ret
  exact ⟨ret_bool (by simp), HF.out⟩

/-- behind both calls that tell a list of invoices -/
structure InvMid (YAt : World → Nat → (Nat → Prop) → MkG → Prop) (w : World) (y r : Nat) (F : Nat → Prop) (l : List InvG) (m' : MkG) (lv kv : Value) (F2 : Nat → Prop) (w2 : World) : Prop where
  pair : PairM YAt w2 y r F2 m'
  chg : Chg F w w2
  foot : ∀ k, F2 k → F k ∨ w.heap.size ≤ k
  lo : w2.ownsRow 0 65 3 lv l.length (l.flatMap invCells)
  ko : w2.ownsRow 0 65 3 kv l.length (l.flatMap invCells)
  lb : ∀ k, lv.ownBlock = some k → w.heap.size ≤ k ∧ ¬ F2 k

theorem inv_mid {YAt : World → Nat → (Nat → Prop) → MkG → Prop} (hY : YardSpec YAt) {w w0 w1 w2 : World} {y r : Nat} {F FY FY' : Nat → Prop} {V : MV} {m m' : MkG} {l : List InvG} {z : Int} {lv kv : Value} (hc0 : Chg (fun _ => False) w w0)
    (hmr : MktAt w r V m) (hF : ∀ k, F k ↔ FY k ∨ V.foot r k) (hdis : ∀ k, FY k → ¬ V.foot r k) (hio : InvOut YAt w0 y FY m' z l lv FY' w1) (hok : GoodM m') (hto : MktTo w1 r V m' w2) (hk : w2.ownsRow 0 65 3 kv l.length (l.flatMap invCells)) :
    ∃ F2, InvMid YAt w y r F l m' lv kv F2 w2 := by
  obtain ⟨hy1, hc1, hf1, hl, hlb, _⟩ := hio
  obtain ⟨V', b1, b2, b3⟩ := hto
  have hs0 := hc0.size
  have hs1 := hc1.size
  have hFl := hY.lt _ _ _ _ hy1
  have hVl := hmr.foot_lt
  have dis : ∀ k, FY' k → ¬ V.foot r k := fun k hk hf => by
    rcases hf1 k hk with h | h
    · exact hdis k h hf
    · have := hVl k hf; omega
  refine ⟨fun k => FY' k ∨ V'.foot r k, ⟨FY', V', hY.frame _ _ _ _ _ hy1 (fun k hk => b2.block k (hFl k hk) (dis k hk)), b1, hok, fun _ => Iff.rfl, fun k hk hf => ?_⟩, ?_, fun k hk => ?_, ?_, hk, fun k hk => ⟨?_, ?_⟩⟩
  · rcases b3 k hf with h | h
    · exact dis k hk h
    · have := hFl k hk; omega
  · exact ((hc0.mono (O' := F) (fun _ _ h => h.elim)).trans hc1 (fun x _ hx => (hF x).2 (.inl hx))).trans b2 (fun x _ hx => (hF x).2 (.inr hx))
  · rcases hk with hk | hk
    · rcases hf1 k hk with h | h
      · exact .inl ((hF k).2 (.inl h))
      · exact .inr (by omega)
    · rcases b3 k hk with h | h
      · exact .inl ((hF k).2 (.inr h))
      · exact .inr (by omega)
  · exact ownsRow_keep hl (fun k hk => b2.block k (hl.lt k hk).2 (fun hf => by have := hVl k hf; have := (hlb k hk).1; omega))
  · have := (hlb k hk).1
    omega
  · rintro (h | h)
    · exact (hlb k hk).2 h
    · have a1 := (hlb k hk).1
      have a2 := (hl.lt k hk).2
      rcases b3 k h with h | h
      · have := hVl k h; omega
      · omega

/-- what 'paid' leaves where a list came out -/
def PaidL (YAt : World → Nat → (Nat → Prop) → MkG → Prop) (w : World) (B y r : Nat) (F FB : Nat → Prop) (v0 v1 v2 v3 : Value) (nn : Nat) (w' : World) : Prop :=
  ∃ m' F' FB' bv' vs', PairM YAt w' y r F' m' ∧ BoxAt w' B v0 v1 v2 v3 bv' ∧ OutC 63 3 w' bv' vs' FB' ∧ vs'.length = nn + 2 ∧ Chg (fun k => k = B ∨ F k ∨ FB k) w w' ∧ (∀ k, F' k → F k ∨ w.heap.size ≤ k) ∧ (∀ k, FB' k → FB k ∨ w.heap.size ≤ k) ∧ (∀ k, F' k → ¬ FB' k)

theorem inv_end {YAt : World → Nat → (Nat → Prop) → MkG → Prop} (hY : YardSpec YAt) {w w2 w' : World} {B y r : Nat} {F FB F2 : Nat → Prop} {l : List InvG} {m' : MkG} {lv kv v0 v1 v2 v3 bv : Value} {vs : List Value} (hbox : BoxAt w B v0 v1 v2 v3 bv) (hN : OutC 63 3 w bv vs FB) (hFB : ∀ k, F k → ¬ FB k) (hBF : ¬ F B) (hBN : ¬ FB B)
    (hmid : InvMid YAt w y r F l m' lv kv F2 w2) (hb : Billed w2 B lv FB v0 v1 v2 v3 vs.length w') : PaidL YAt w B y r F FB v0 v1 v2 v3 vs.length w' := by
  obtain ⟨FB', bv', vs', b1, b2, b3, b4, b5⟩ := hb
  have hBl := hbox.lt
  have hs := hmid.chg.size
  have hF2l := fun k hk => PairM.lt hY hmid.pair k hk
  have key : ∀ k, F2 k → ¬ FB k ∧ k ≠ B ∧ lv.ownBlock ≠ some k := fun k hk => by
    refine ⟨fun hf => ?_, ?_, fun e => (hmid.lb k e).2 hk⟩
    · rcases hmid.foot k hk with h | h
      · exact hFB k h hf
      · have := hN.lt k hf; omega
    · rintro rfl
      rcases hmid.foot _ hk with h | h
      · exact hBF h
      · omega
  refine ⟨m', F2, FB', bv', vs', ?_, b1, b2, b3, ?_, hmid.foot, ?_, ?_⟩
  · refine PairM.frame hY hmid.pair (fun k hk => b4.block k (hF2l k hk) ?_)
    rintro (e | e | e)
    · exact (key k hk).2.1 e
    · exact (key k hk).2.2 e
    · exact (key k hk).1 e
  · refine (hmid.chg.mono (O' := fun k => k = B ∨ F k ∨ FB k) (fun _ _ h => .inr (.inl h))).trans b4 (fun x hx h => ?_)
    rcases h with h | h | h
    · exact .inl h
    · have := (hmid.lb x h).1; omega
    · exact .inr (.inr h)
  · intro k hk
    rcases b5 k hk with h | h | h
    · exact .inl h
    · exact .inr (hmid.lb k h).1
    · exact .inr (by omega)
  · intro k hk hf
    rcases b5 k hf with h | h | h
    · exact (key k hk).1 h
    · exact (key k hk).2.2 h
    · have := hF2l k hk; omega

set_option maxRecDepth 100000 in
set_option maxHeartbeats 2000000 in
theorem paid_bill {YAt : World → Nat → (Nat → Prop) → MkG → Prop} (hY : YardSpec YAt) (hP : PaidY YAt) (B y r : Nat) (F : Nat → Prop) (m : MkG) (a b c d : Int) (j : JobG) (w : World) (hp : PairM YAt w y r F m) (FB : Nat → Prop) (v0 v1 v2 v3 bv : Value) (vs : List Value) (hbox : BoxAt w B v0 v1 v2 v3 bv) (hN : OutC 63 3 w bv vs FB) (hev : vs.length % 2 = 0) (hlen : vs.length + 2 < 5000000000000) (hFB : ∀ k, F k → ¬ FB k) (hBF : ¬ F B) (hBN : ¬ FB B) :
    Calls Tryz.prog 22 #[.pointer (some ⟨B, 0, none⟩), .agg #[.pointer (some ⟨y, 0, none⟩), .pointer (some ⟨r, 0, none⟩)], .agg #[.int .i64 17, .int .i64 a, .int .i64 b, .int .i64 c, .int .i64 d, .int .i64 j.arr, .int .i64 j.dl, .int .i64 j.len, .int .i64 j.units, .int .i64 j.val]] w fun e w' => e = .returned (.bool true) ∧ PaidL YAt w B y r F FB v0 v1 v2 v3 vs.length w' := by
  have HBOX := hide hbox
  have HN := hide hN
  have HEV := hide hev
  have HLEN := hide hlen
  have HFB := hide hFB
  have HBF := hide (And.intro hBF hBN)
  clear hbox hN hev hlen hFB hBF hBN
  obtain ⟨FY, V, g1, g2, g3, g4, g5⟩ := hp
  have HY := hide hY
  have HP := hide hP
  have HYA := hide g1
  have HM := hide g2
  have HOK := hide g3.ok
  have HGD := hide g3
  have H4 := hide g4
  have H5 := hide g5
  have HFY := hide (fun k (hk : FY k) => hY.lt _ _ _ _ g1 k hk)
  have HFV := hide (fun k (hk : V.foot r k) => g2.foot_lt k hk)
  clear g1 g2 g3 g4 g5 hY hP
  go_enter Tryz.func22, Tryz.ntmps22
  go_wp2_with fail
  obtain ⟨w2, hw2⟩ : ∃ w2, w2 = (w.alloc (.cells #[.pointer (some ⟨y, 0, none⟩), .pointer (some ⟨r, 0, none⟩)] 56)).alloc (.cells #[.int .i64 17, .int .i64 a, .int .i64 b, .int .i64 c, .int .i64 d, .int .i64 j.arr, .int .i64 j.dl, .int .i64 j.len, .int .i64 j.units, .int .i64 j.val] 37) := ⟨_, rfl⟩
  rw [← hw2]
  obtain ⟨hc0, hbx⟩ := Bx.mk0 w y r 17 a b c d j w2 hw2
  have HC0 := hide hc0
  have HBX := hide hbx
  have HY2 := hide (HY.out.frame _ w2 _ _ _ HYA.out (fun k hk => hc0.block k (HFY.out k hk) (fun h => h)))
  have HM2 := hide (HM.out.chg0 hc0)
  clear hw2 hc0 hbx
  refine (HP.out.bill w2 y FY m HY2.out HGD.out).mono ?_
  rintro e w3 ⟨lv, l, z, m1, FY', rfl, hres, hio⟩
  have HRES := hide hres
  have HLL := hide (hres.len HOK.out)
  have HGD1 := hide (HGD.out.bill hres)
  have HIO := hide hio
  have HM3 := hide (HM2.out.chg hio.chg (fun k hk hf => H5.out k hf hk))
  have HBX3 := hide (show Bx w3 w.heap.size y r a b c d j from HBX.out.chg hio.chg (fun k hk => HFY.out k hk))
  have x0 := HBX3.out.r
  clear hio hres
  go_wp2_with fail
  refine (refBill_any r V m w3 HM3.out HGD.out).mono ?_
  rintro e w4 ⟨kv, l2, z2, m2, rfl, hres2, hto2, hkv⟩
  obtain ⟨rfl, rfl, rfl⟩ := HRES.out.unique hres2
  obtain ⟨F2, hmid⟩ := inv_mid HY.out HC0.out HM.out H4.out H5.out HIO.out HGD1.out hto2 hkv
  have HMID := hide hmid
  have HBX4 := hide (HBOX.out.chg hmid.chg HBF.out.1)
  have HN4 := hide (HN.out.frame (fun k hk => hmid.chg.block k (HN.out.lt k hk) (fun hf => HFB.out k hf hk)))
  have HLB := hide (show ∀ k, lv.ownBlock = some k → ¬ FB k ∧ k ≠ B from fun k hk => ⟨fun hf => by have := HN.out.lt k hf; have := (hmid.lb k hk).1; omega, by have := (hmid.lb k hk).1; have := HBOX.out.lt; omega⟩)
  clear hres2 hto2 hkv hmid x0
  go_wp2_with fail
  refine (billed_any B FB _ _ lv kv v0 v1 v2 v3 bv vs w4 HMID.out.lo HMID.out.ko HLL.out HIO.out.nil HBX4.out HN4.out HEV.out HLEN.out HBF.out.2 HLB.out).mono ?_
  rintro e w5 ⟨rfl, hbl⟩
  have HF := hide (inv_end HY.out HBOX.out HN.out HFB.out HBF.out.1 HBF.out.2 HMID.out hbl)
  clear hbl
  go_wp2
  go_ret
  exact ⟨rfl, HF.out⟩

set_option maxRecDepth 100000 in
set_option maxHeartbeats 2000000 in
theorem paid_invoices {YAt : World → Nat → (Nat → Prop) → MkG → Prop} (hY : YardSpec YAt) (hP : PaidY YAt) (B y r : Nat) (F : Nat → Prop) (m : MkG) (a b c d : Int) (j : JobG) (w : World) (hp : PairM YAt w y r F m) (FB : Nat → Prop) (v0 v1 v2 v3 bv : Value) (vs : List Value) (hbox : BoxAt w B v0 v1 v2 v3 bv) (hN : OutC 63 3 w bv vs FB) (hev : vs.length % 2 = 0) (hlen : vs.length + 2 < 5000000000000) (hFB : ∀ k, F k → ¬ FB k) (hBF : ¬ F B) (hBN : ¬ FB B) (hb : I64 b) :
    Calls Tryz.prog 22 #[.pointer (some ⟨B, 0, none⟩), .agg #[.pointer (some ⟨y, 0, none⟩), .pointer (some ⟨r, 0, none⟩)], .agg #[.int .i64 20, .int .i64 a, .int .i64 b, .int .i64 c, .int .i64 d, .int .i64 j.arr, .int .i64 j.dl, .int .i64 j.len, .int .i64 j.units, .int .i64 j.val]] w fun e w' => e = .returned (.bool true) ∧ PaidL YAt w B y r F FB v0 v1 v2 v3 vs.length w' := by
  have HBOX := hide hbox
  have HN := hide hN
  have HEV := hide hev
  have HLEN := hide hlen
  have HFB := hide hFB
  have HBF := hide (And.intro hBF hBN)
  have HLL := hide (show (invL m b).length ≤ 300 from by
    obtain ⟨_, _, _, _, g3, _⟩ := hp
    have := g3.cash.chg.len
    unfold invL
    split
    · simp
    · exact Nat.le_trans (List.length_filter_le _ _) this)
  clear hbox hN hev hlen hFB hBF hBN
  obtain ⟨FY, V, g1, g2, g3, g4, g5⟩ := hp
  have HY := hide hY
  have HP := hide hP
  have HYA := hide g1
  have HM := hide g2
  have HOK := hide g3.ok
  have HGD := hide g3
  have H4 := hide g4
  have H5 := hide g5
  have HFY := hide (fun k (hk : FY k) => hY.lt _ _ _ _ g1 k hk)
  have HFV := hide (fun k (hk : V.foot r k) => g2.foot_lt k hk)
  clear g1 g2 g3 g4 g5 hY hP
  go_enter Tryz.func22, Tryz.ntmps22
  go_wp2_with fail
  obtain ⟨w2, hw2⟩ : ∃ w2, w2 = (w.alloc (.cells #[.pointer (some ⟨y, 0, none⟩), .pointer (some ⟨r, 0, none⟩)] 56)).alloc (.cells #[.int .i64 20, .int .i64 a, .int .i64 b, .int .i64 c, .int .i64 d, .int .i64 j.arr, .int .i64 j.dl, .int .i64 j.len, .int .i64 j.units, .int .i64 j.val] 37) := ⟨_, rfl⟩
  rw [← hw2]
  obtain ⟨hc0, hbx⟩ := Bx.mk0 w y r 20 a b c d j w2 hw2
  have HC0 := hide hc0
  have HBX := hide hbx
  have HY2 := hide (HY.out.frame _ w2 _ _ _ HYA.out (fun k hk => hc0.block k (HFY.out k hk) (fun h => h)))
  have HM2 := hide (HM.out.chg0 hc0)
  clear hw2 hc0 hbx
  refine (HP.out.invoices w2 y FY m b HY2.out HGD.out hb).mono ?_
  rintro e w3 ⟨lv, FY', rfl, hio⟩
  have HIO := hide hio
  have HM3 := hide (HM2.out.chg hio.chg (fun k hk hf => H5.out k hf hk))
  have HBX3 := hide (show Bx w3 w.heap.size y r a b c d j from HBX.out.chg hio.chg (fun k hk => HFY.out k hk))
  have x0 := HBX3.out.r
  have x1 := HBX3.out.b
  clear hio
  go_wp2_with fail
  refine (invoices_any r V m b w3 HM3.out HGD.out.cash.chg.len).mono ?_
  rintro e w4 ⟨kv, rfl, hiv⟩
  obtain ⟨F2, hmid⟩ := inv_mid HY.out HC0.out HM.out H4.out H5.out HIO.out HGD.out ((MktTo.refl HM3.out).chg0 hiv.chg) hiv.own
  have HMID := hide hmid
  have HBX4 := hide (HBOX.out.chg hmid.chg HBF.out.1)
  have HN4 := hide (HN.out.frame (fun k hk => hmid.chg.block k (HN.out.lt k hk) (fun hf => HFB.out k hf hk)))
  have HLB := hide (show ∀ k, lv.ownBlock = some k → ¬ FB k ∧ k ≠ B from fun k hk => ⟨fun hf => by have := HN.out.lt k hf; have := (hmid.lb k hk).1; omega, by have := (hmid.lb k hk).1; have := HBOX.out.lt; omega⟩)
  clear hiv hmid x0 x1
  go_wp2_with fail
  refine (billed_any B FB _ _ lv kv v0 v1 v2 v3 bv vs w4 HMID.out.lo HMID.out.ko HLL.out HIO.out.nil HBX4.out HN4.out HEV.out HLEN.out HBF.out.2 HLB.out).mono ?_
  rintro e w5 ⟨rfl, hbl⟩
  have HF := hide (inv_end HY.out HBOX.out HN.out HFB.out HBF.out.1 HBF.out.2 HMID.out hbl)
  clear hbl
  go_wp2
  go_ret
  exact ⟨rfl, HF.out⟩

end Go.Proofs.YtminceigjejipaaGreat

/-
  MARKETS AND LISTS TOGETHER: what holds between the steps of a script in which ticks go by.
-/
namespace Go.Proofs.YtminceigjejipaaGreat
open Go.RowKit

section
variable {YAt : World → Nat → (Nat → Prop) → MkG → Prop} {B N : Nat} {v0 v1 v3 v4 : Value} {ma : Option Addr} {mc : Nat} {os : List MkO} {w w' : World}
theorem MsAt.foot_lt (h : MsAt YAt B N v0 v1 v3 v4 ma mc os w) (k : Nat) (hk : msFoot ma mc os k) : B < k ∧ k < N := by
  rcases hk with hk | ⟨i, o, ho, hk⟩
  · exact h.ownB k hk
  · exact (h.at' i o ho).2.1 k hk

/-- market i has turned; the box may have turned in its last two cells; of the other blocks those of X alone -/
theorem MsAt.turnG (hY : YardSpec YAt) (h : MsAt YAt B N v0 v1 v3 v4 ma mc os w) {i : Nat} {o : MkO} (ho : os[i]? = some o) {v3' v4' : Value} {F' : Nat → Prop} {m' : MkG} {X : Nat → Prop} (hX : ∀ k, X k → ¬ msFoot ma mc os k)
    (hbox : BoxAt w' B v0 v1 (.slice ma os.length mc) v3' v4') (hp : PairM YAt w' o.y o.r F' m') (hc : ∀ k, k < w.heap.size → k ≠ B → ¬ o.F k → ¬ X k → w'.heap[k]? = w.heap[k]?) (hs : w.heap.size ≤ w'.heap.size) (hf : ∀ k, F' k → o.F k ∨ w.heap.size ≤ k) :
    MsAt YAt B w'.heap.size v0 v1 v3' v4' ma mc (os.set i { o with F := F', m := m' }) w' ∧ ∀ k, msFoot ma mc (os.set i { o with F := F', m := m' }) k → msFoot ma mc os k ∨ w.heap.size ≤ k := by
  have hi : i < os.length := (List.getElem?_eq_some_iff.1 ho).1
  obtain ⟨a1, a2, a3⟩ := h.at' i o ho
  have hnw := h.nw
  have hbn := h.bn
  have hlen : (os.set i { o with F := F', m := m' }).length = os.length := by simp
  have get : ∀ (x : Nat) u, (os.set i { o with F := F', m := m' })[x]? = some u → (x = i ∧ u = { o with F := F', m := m' }) ∨ (x ≠ i ∧ os[x]? = some u) := fun x u hx => by
    rw [List.getElem?_set] at hx
    by_cases e : i = x
    · subst e
      simp [hi] at hx
      exact .inl ⟨rfl, hx.symm⟩
    · rw [if_neg e] at hx
      exact .inr ⟨fun x => e x.symm, hx⟩
  have keep : ∀ k, msFoot ma mc os k → ¬ o.F k → w'.heap[k]? = w.heap[k]? := fun k h1 h2 => hc k (by have := h.foot_lt k h1; omega) (by have := h.foot_lt k h1; omega) h2 (fun hx => hX k hx h1)
  have newF : ∀ k, F' k → o.F k ∨ N ≤ k := fun k hk => by
    rcases hf k hk with h | h
    · exact .inl h
    · exact .inr (by omega)
  have hpl := PairM.lt hY hp
  refine ⟨⟨?_, ?_, ?_, by omega, Nat.le_refl _, ?_, ?_⟩, ?_⟩
  · rw [hlen]
    exact hbox
  · rw [hlen, mptrs_set os i o { o with F := F', m := m' } ho rfl rfl]
    exact ownsRow_keep h.own (fun k hk => keep k (.inl hk) (a3 k hk))
  · rw [hlen]
    intro k hk
    have := h.ownB k hk
    omega
  · intro x u hx
    rw [hlen]
    rcases get x u hx with ⟨rfl, rfl⟩ | ⟨hne, hx2⟩
    · refine ⟨hp, fun k hk => ⟨?_, hpl k hk⟩, fun k hk hF => ?_⟩
      · rcases newF k hk with h' | h'
        · exact (a2 k h').1
        · omega
      · rcases newF k hF with h' | h'
        · exact a3 k hk h'
        · have := h.ownB k hk; omega
    · obtain ⟨b1, b2, b3⟩ := h.at' x u hx2
      refine ⟨PairM.frame hY b1 (fun k hk => keep k (.inr ⟨x, u, hx2, hk⟩) (h.off x i u o hx2 ho hne k hk)), fun k hk => by have := b2 k hk; omega, b3⟩
  · intro x x' u u' hx hx' hne k hk hk'
    rcases get x u hx with ⟨rfl, rfl⟩ | ⟨hn1, hx2⟩
    · rcases get x' u' hx' with ⟨rfl, rfl⟩ | ⟨hn2, hx2'⟩
      · exact hne rfl
      · rcases newF k hk with h' | h'
        · exact h.off x x' o u' ho hx2' hne k h' hk'
        · have := (h.at' x' u' hx2').2.1 k hk'; omega
    · rcases get x' u' hx' with ⟨rfl, rfl⟩ | ⟨hn2, hx2'⟩
      · rcases newF k hk' with h' | h'
        · exact h.off x x' u o hx2 ho hne k hk h'
        · have := (h.at' x u hx2).2.1 k hk; omega
      · exact h.off x x' u u' hx2 hx2' hne k hk hk'
  · intro k hk
    rcases hk with hk | ⟨x, u, hx, hk⟩
    · rw [hlen] at hk
      exact .inl (.inl hk)
    · rcases get x u hx with ⟨rfl, rfl⟩ | ⟨hne, hx2⟩
      · rcases hf k hk with h' | h'
        · exact .inl (.inr ⟨x, o, ho, h'⟩)
        · exact .inr h'
      · exact .inl (.inr ⟨x, u, hx2, hk⟩)
end

/-- what holds between the steps: the markets, the lists that came out, all apart -/
structure MNAt (YAt : World → Nat → (Nat → Prop) → MkG → Prop) (B N : Nat) (v0 v1 : Value) (ma : Option Addr) (mc : Nat) (os : List MkO) (nv bv : Value) (ns bs : List Value) (FN FB : Nat → Prop) (w : World) : Prop where
  ms : MsAt YAt B N v0 v1 nv bv ma mc os w
  names : OutC 59 2 w nv ns FN
  bills : OutC 63 3 w bv bs FB
  evn : ns.length % 2 = 0
  evb : bs.length % 2 = 0
  fn : ∀ k, FN k → B < k ∧ k < N ∧ ¬ FB k ∧ ¬ msFoot ma mc os k
  fb : ∀ k, FB k → B < k ∧ k < N ∧ ¬ msFoot ma mc os k

/-- all blocks of markets and lists -/
def mnFoot (ma : Option Addr) (mc : Nat) (os : List MkO) (FN FB : Nat → Prop) (k : Nat) : Prop := msFoot ma mc os k ∨ FN k ∨ FB k

section
variable {YAt : World → Nat → (Nat → Prop) → MkG → Prop} {B N : Nat} {v0 v1 nv bv : Value} {ma : Option Addr} {mc : Nat} {os : List MkO} {ns bs : List Value} {FN FB : Nat → Prop} {w w' : World}
theorem MNAt.frame (hY : YardSpec YAt) (h : MNAt YAt B N v0 v1 ma mc os nv bv ns bs FN FB w) (hc : ∀ k, B ≤ k → k < N → w'.heap[k]? = w.heap[k]?) (hs : w.heap.size ≤ w'.heap.size) : MNAt YAt B N v0 v1 ma mc os nv bv ns bs FN FB w' :=
  ⟨h.ms.frame hY hc hs, h.names.frame (fun k hk => by have := h.fn k hk; exact hc k (by omega) this.2.1), h.bills.frame (fun k hk => by have := h.fb k hk; exact hc k (by omega) this.2.1), h.evn, h.evb, h.fn, h.fb⟩

/-- a call on market i -/
theorem MNAt.turned (hY : YardSpec YAt) (h : MNAt YAt B N v0 v1 ma mc os nv bv ns bs FN FB w) {i : Nat} {o : MkO} (ho : os[i]? = some o) {W : World} (hW : Chg (fun _ => False) w W) {m' : MkG} (hto : PairTo YAt W o.y o.r o.F m' w') :
    ∃ os', os'.length = os.length ∧ MNAt YAt B w'.heap.size v0 v1 ma mc os' nv bv ns bs FN FB w' ∧ ∀ k, mnFoot ma mc os' FN FB k → mnFoot ma mc os FN FB k ∨ w.heap.size ≤ k := by
  obtain ⟨F', hp, hc, hf⟩ := hto
  have hsW := hW.size
  have hs' := hc.size
  have hnw := h.ms.nw
  have a2 := (h.ms.at' i o ho).2.1
  have hk : ∀ k, k < w.heap.size → ¬ o.F k → w'.heap[k]? = w.heap[k]? := fun k h1 h2 => by rw [hc.block k (by omega) h2, hW.block k h1 (fun h => h)]
  have hbl := h.ms.box.lt
  have hnF : ∀ k, FN k → ¬ o.F k := fun k hk hF => (h.fn k hk).2.2.2 (.inr ⟨i, o, ho, hF⟩)
  have hbF : ∀ k, FB k → ¬ o.F k := fun k hk hF => (h.fb k hk).2.2 (.inr ⟨i, o, ho, hF⟩)
  obtain ⟨b1, b2⟩ := h.ms.turnG hY ho (X := fun _ => False) (fun _ h => h.elim) (show BoxAt w' B v0 v1 (.slice ma os.length mc) nv bv from (hk B hbl (fun hF => by have := a2 B hF; omega)).trans h.ms.box) hp (fun k h1 _ h3 _ => hk k h1 h3) (by omega) (fun k hk => by rcases hf k hk with h | h; exact .inl h; exact .inr (by omega))
  refine ⟨_, by simp, ⟨b1, h.names.frame (fun k hk' => hk k (h.names.lt k hk') (hnF k hk')), h.bills.frame (fun k hk' => hk k (h.bills.lt k hk') (hbF k hk')), h.evn, h.evb, fun k hk' => ?_, fun k hk' => ?_⟩, fun k hk' => ?_⟩
  · have := h.fn k hk'
    refine ⟨this.1, by omega, this.2.2.1, fun hm => ?_⟩
    rcases b2 k hm with e | e
    · exact this.2.2.2 e
    · omega
  · have := h.fb k hk'
    refine ⟨this.1, by omega, fun hm => ?_⟩
    rcases b2 k hm with e | e
    · exact this.2.2 e
    · omega
  · rcases hk' with e | e | e
    · rcases b2 k e with e | e
      · exact .inl (.inl e)
      · exact .inr e
    · exact .inl (.inr (.inl e))
    · exact .inl (.inr (.inr e))

/-- a tick of market i -/
theorem MNAt.ticked (hY : YardSpec YAt) (h : MNAt YAt B N v0 v1 ma mc os nv bv ns bs FN FB w) {i : Nat} {o : MkO} (ho : os[i]? = some o) {W : World} (hW : Chg (fun _ => False) w W) (hto : Ticked YAt W B o.y o.r o.F FN v0 v1 (.slice ma os.length mc) bv ns.length w') :
    ∃ os' nv' ns' FN', os'.length = os.length ∧ ns'.length = ns.length + 2 ∧ MNAt YAt B w'.heap.size v0 v1 ma mc os' nv' bv ns' bs FN' FB w' ∧ ∀ k, mnFoot ma mc os' FN' FB k → mnFoot ma mc os FN FB k ∨ w.heap.size ≤ k := by
  obtain ⟨m', F', FN', nv', ns', hp, hbox, hN, hlen, hc, hf, hfn, hdis⟩ := hto
  have hsW := hW.size
  have hs' := hc.size
  have hnw := h.ms.nw
  have hbn := h.ms.bn
  have a2 := (h.ms.at' i o ho).2.1
  have hk : ∀ k, k < w.heap.size → k ≠ B → ¬ o.F k → ¬ FN k → w'.heap[k]? = w.heap[k]? := fun k h1 h2 h3 h4 => by
    rw [hc.block k (by omega) (by rintro (e | e | e); exact h2 e; exact h3 e; exact h4 e), hW.block k h1 (fun h => h)]
  have hbF : ∀ k, FB k → ¬ o.F k := fun k hk hF => (h.fb k hk).2.2 (.inr ⟨i, o, ho, hF⟩)
  obtain ⟨b1, b2⟩ := h.ms.turnG hY ho (X := FN) (fun k hx => (h.fn k hx).2.2.2) hbox hp hk (by omega) (fun k hk => by rcases hf k hk with h | h; exact .inl h; exact .inr (by omega))
  refine ⟨_, nv', ns', FN', by simp, hlen, ⟨b1, hN, h.bills.frame (fun k hk' => hk k (h.bills.lt k hk') (by have := h.fb k hk'; omega) (hbF k hk') (fun hx => (h.fn k hx).2.2.1 hk')), by have := h.evn; omega, h.evb, fun k hk' => ?_, fun k hk' => ?_⟩, fun k hk' => ?_⟩
  · have hkl := hN.lt k hk'
    rcases hfn k hk' with e | e
    · have := h.fn k e
      refine ⟨this.1, hkl, this.2.2.1, fun hm => ?_⟩
      rcases hm with hm | ⟨x, u, hx, hu⟩
      · simp only [List.length_set] at hm
        exact this.2.2.2 (.inl hm)
      · rw [List.getElem?_set] at hx
        by_cases ex : i = x
        · subst ex
          have hi : i < os.length := (List.getElem?_eq_some_iff.1 ho).1
          simp [hi] at hx
          subst hx
          exact hdis k hu hk'
        · rw [if_neg ex] at hx
          exact this.2.2.2 (.inr ⟨x, u, hx, hu⟩)
    · refine ⟨by omega, hkl, fun hb => by have := h.bills.lt k hb; omega, fun hm => ?_⟩
      rcases hm with hm | ⟨x, u, hx, hu⟩
      · simp only [List.length_set] at hm
        have := h.ms.ownB k hm
        omega
      · rw [List.getElem?_set] at hx
        by_cases ex : i = x
        · subst ex
          have hi : i < os.length := (List.getElem?_eq_some_iff.1 ho).1
          simp [hi] at hx
          subst hx
          exact hdis k hu hk'
        · rw [if_neg ex] at hx
          have := (h.ms.at' x u hx).2.1 k hu
          omega
  · have := h.fb k hk'
    refine ⟨this.1, by omega, fun hm => ?_⟩
    rcases b2 k hm with e | e
    · exact this.2.2 e
    · omega
  · rcases hk' with e | e | e
    · rcases b2 k e with e | e
      · exact .inl (.inl e)
      · exact .inr e
    · rcases hfn k e with e | e
      · exact .inl (.inr (.inl e))
      · exact .inr (by omega)
    · exact .inl (.inr (.inr e))

/-- a list of invoices of market i -/
theorem MNAt.billed (hY : YardSpec YAt) (h : MNAt YAt B N v0 v1 ma mc os nv bv ns bs FN FB w) {i : Nat} {o : MkO} (ho : os[i]? = some o) {W : World} (hW : Chg (fun _ => False) w W) (hto : PaidL YAt W B o.y o.r o.F FB v0 v1 (.slice ma os.length mc) nv bs.length w') :
    ∃ os' bv' bs' FB', os'.length = os.length ∧ bs'.length = bs.length + 2 ∧ MNAt YAt B w'.heap.size v0 v1 ma mc os' nv bv' ns bs' FN FB' w' ∧ ∀ k, mnFoot ma mc os' FN FB' k → mnFoot ma mc os FN FB k ∨ w.heap.size ≤ k := by
  obtain ⟨m', F', FB', bv', bs', hp, hbox, hN, hlen, hc, hf, hfn, hdis⟩ := hto
  have hsW := hW.size
  have hs' := hc.size
  have hnw := h.ms.nw
  have hbn := h.ms.bn
  have a2 := (h.ms.at' i o ho).2.1
  have hk : ∀ k, k < w.heap.size → k ≠ B → ¬ o.F k → ¬ FB k → w'.heap[k]? = w.heap[k]? := fun k h1 h2 h3 h4 => by
    rw [hc.block k (by omega) (by rintro (e | e | e); exact h2 e; exact h3 e; exact h4 e), hW.block k h1 (fun h => h)]
  have hnF : ∀ k, FN k → ¬ o.F k := fun k hk hF => (h.fn k hk).2.2.2 (.inr ⟨i, o, ho, hF⟩)
  obtain ⟨b1, b2⟩ := h.ms.turnG hY ho (X := FB) (fun k hx => (h.fb k hx).2.2) hbox hp hk (by omega) (fun k hk => by rcases hf k hk with h | h; exact .inl h; exact .inr (by omega))
  have newB : ∀ k, FB' k → ¬ msFoot ma mc (os.set i { o with F := F', m := m' }) k := fun k hk' hm => by
    rcases hm with hm | ⟨x, u, hx, hu⟩
    · simp only [List.length_set] at hm
      rcases hfn k hk' with e | e
      · exact (h.fb k e).2.2 (.inl hm)
      · have := h.ms.ownB k hm
        omega
    · rw [List.getElem?_set] at hx
      by_cases ex : i = x
      · subst ex
        have hi : i < os.length := (List.getElem?_eq_some_iff.1 ho).1
        simp [hi] at hx
        subst hx
        exact hdis k hu hk'
      · rw [if_neg ex] at hx
        rcases hfn k hk' with e | e
        · exact (h.fb k e).2.2 (.inr ⟨x, u, hx, hu⟩)
        · have := (h.ms.at' x u hx).2.1 k hu
          omega
  refine ⟨_, bv', bs', FB', by simp, hlen, ⟨b1, h.names.frame (fun k hk' => hk k (h.names.lt k hk') (by have := h.fn k hk'; omega) (hnF k hk') (h.fn k hk').2.2.1), hN, h.evn, by have := h.evb; omega, fun k hk' => ?_, fun k hk' => ?_⟩, fun k hk' => ?_⟩
  · have := h.fn k hk'
    refine ⟨this.1, by omega, fun hb => ?_, fun hm => ?_⟩
    · rcases hfn k hb with e | e
      · exact this.2.2.1 e
      · have := h.names.lt k hk'; omega
    · rcases b2 k hm with e | e
      · exact this.2.2.2 e
      · omega
  · have hkl := hN.lt k hk'
    refine ⟨?_, hkl, newB k hk'⟩
    rcases hfn k hk' with e | e
    · exact (h.fb k e).1
    · omega
  · rcases hk' with e | e | e
    · rcases b2 k e with e | e
      · exact .inl (.inl e)
      · exact .inr e
    · exact .inl (.inr (.inl e))
    · rcases hfn k e with e | e
      · exact .inl (.inr (.inr e))
      · exact .inr (by omega)
/-- one market more -/
theorem MNAt.added (hY : YardSpec YAt) (h : MNAt YAt B N v0 v1 ma mc os nv bv ns bs FN FB w) {W : World} (hW : Chg (fun _ => False) w W) {c : CfgG} (hop : Opened YAt W B os.length c v0 v1 (.slice ma os.length mc) nv bv (mptrs os) w') :
    ∃ ma' mc' os', os'.length = os.length + 1 ∧ MNAt YAt B w'.heap.size v0 v1 ma' mc' os' nv bv ns bs FN FB w' ∧ ∀ k, mnFoot ma' mc' os' FN FB k → mnFoot ma mc os FN FB k ∨ w.heap.size ≤ k := by
  obtain ⟨ma', mc', os', hlen, h', hft⟩ := h.ms.added2 hY hW hop
  obtain ⟨g, cap, y, r, F, _, _, _, _, _, hc, _⟩ := hop
  have hsW := hW.size
  have hs' := hc.size
  have hnw := h.ms.nw
  have keep : ∀ k, k < w.heap.size → k ≠ B → Value.ownBlock (.slice ma os.length mc) ≠ some k → w'.heap[k]? = w.heap[k]? := fun k h1 h2 h3 => by
    rw [hc.block k (by omega) (by rintro (e | e); exact h2 e; exact h3 e), hW.block k h1 (fun h => h)]
  refine ⟨ma', mc', os', hlen, ⟨h', h.names.frame (fun k hk => keep k (h.names.lt k hk) (by have := h.fn k hk; omega) (fun e => (h.fn k hk).2.2.2 (.inl e))), h.bills.frame (fun k hk => keep k (h.bills.lt k hk) (by have := h.fb k hk; omega) (fun e => (h.fb k hk).2.2 (.inl e))), h.evn, h.evb, fun k hk => ?_, fun k hk => ?_⟩, fun k hk => ?_⟩
  · have := h.fn k hk
    refine ⟨this.1, by omega, this.2.2.1, fun hm => ?_⟩
    rcases hft k hm with e | e
    · exact this.2.2.2 e
    · omega
  · have := h.fb k hk
    refine ⟨this.1, by omega, fun hm => ?_⟩
    rcases hft k hm with e | e
    · exact this.2.2 e
    · omega
  · rcases hk with e | e | e
    · rcases hft k e with e | e
      · exact .inl (.inl e)
      · exact .inr (by omega)
    · exact .inl (.inr (.inl e))
    · exact .inl (.inr (.inr e))
/-- a row has turned, or is new: the box's second cell, and blocks of others -/
theorem MNAt.frame1 (hY : YardSpec YAt) (h : MNAt YAt B N v0 v1 ma mc os nv bv ns bs FN FB w) {v1' : Value} {N' : Nat} (hbox : BoxAt w' B v0 v1' (.slice ma os.length mc) nv bv) (hc : ∀ k, mnFoot ma mc os FN FB k → w'.heap[k]? = w.heap[k]?) (h1 : N ≤ N') (h2 : N' ≤ w'.heap.size) : MNAt YAt B N' v0 v1' ma mc os nv bv ns bs FN FB w' := by
  have hm := h.ms
  refine ⟨⟨hbox, ownsRow_keep hm.own (fun k hk => hc k (.inl (.inl hk))), fun k hk => by have := hm.ownB k hk; omega, by have := hm.bn; omega, h2, fun i o ho => ?_, hm.off⟩, h.names.frame (fun k hk => hc k (.inr (.inl hk))), h.bills.frame (fun k hk => hc k (.inr (.inr hk))), h.evn, h.evb, fun k hk => by have := h.fn k hk; exact ⟨this.1, by omega, this.2.2⟩, fun k hk => by have := h.fb k hk; exact ⟨this.1, by omega, this.2.2⟩⟩
  obtain ⟨b1, b2, b3⟩ := hm.at' i o ho
  exact ⟨PairM.frame hY b1 (fun k hk => hc k (.inl (.inr ⟨i, o, ho, hk⟩))), fun k hk => by have := b2 k hk; omega, b3⟩
theorem MNAt.foot_in (h : MNAt YAt B N v0 v1 ma mc os nv bv ns bs FN FB w) (k : Nat) (hk : mnFoot ma mc os FN FB k) : B < k ∧ k < N := by
  rcases hk with e | e | e
  · exact h.ms.foot_lt k e
  · have := h.fn k e; exact ⟨this.1, this.2.1⟩
  · have := h.fb k e; exact ⟨this.1, this.2.1⟩
end
end Go.Proofs.YtminceigjejipaaGreat

/-
  The steps of Ticks, all kinds (6 to 15), over MNAt.
-/
namespace Go.Proofs.YtminceigjejipaaGreat
open Go.RowKit

/-- what holds between the steps of Ticks -/
def InvT (YAt : World → Nat → (Nat → Prop) → MkG → Prop) (B : Nat) (ca : Option Addr) (cl cc : Nat) (i : Nat) (O : Nat → Prop) (w : World) : Prop :=
  ∃ N ma mc os nv bv ns bs FN FB, MNAt YAt B N (.slice ca cl cc) (.slice none 0 0) ma mc os nv bv ns bs FN FB w ∧ (os.length ≤ i ∧ ns.length ≤ 2 * i ∧ bs.length ≤ 2 * i) ∧ ∀ k, O k ↔ B ≤ k ∧ k < N

theorem i64_ofT {z : Int} (h : IsI64 z) : I64 z := h

/-- an answer that holds, and what holds behind it -/
def StepOk (YAt : World → Nat → (Nat → Prop) → MkG → Prop) (B : Nat) (ca : Option Addr) (cl cc i : Nat) (O : Nat → Prop) (w1 : World) (e : Ending) (w2 : World) : Prop :=
  ∃ O', e = .returned (.bool true) ∧ InvT YAt B ca cl cc (i + 1) O' w2 ∧ Chg O w1 w2

/-- a step of a kind from 6 to 15 -/
theorem stepT {YAt : World → Nat → (Nat → Prop) → MkG → Prop} (hY : YardSpec YAt) (hT : TickY YAt) (w w0 : World) (ca : Option Addr) (cl cc slen : Nat) (S : Nat → Int) (hw : ∀ t, t < slen * 10 → IsI64 (S t)) (hsl : slen < 1759218604391) (hb : Below w0.heap.size w0 w) (hc : IntRows w0 5 ca cl) (hcl : cl < 5000000000000)
    (i : Nat) (hi : i < slen) (hp : S (i * 10) = 6 ∨ S (i * 10) = 7 ∨ S (i * 10) = 8 ∨ S (i * 10) = 9 ∨ S (i * 10) = 10 ∨ S (i * 10) = 11 ∨ S (i * 10) = 12 ∨ S (i * 10) = 13 ∨ S (i * 10) = 14 ∨ S (i * 10) = 15) (O : Nat → Prop) (w1 : World) (hI : InvT YAt w.heap.size ca cl cc i O w1) (hbel : Below w.heap.size w w1) :
    Calls Tryz.prog 11 #[.pointer (some ⟨w.heap.size, 0, none⟩), opAt S i] w1 (StepOk YAt w.heap.size ca cl cc i O w1) := by
  obtain ⟨N, ma, mc, os, nv, bv, ns, bs, FN, FB, h, hl, hO⟩ := hI
  have I := fun f (hf : f < 10) => i64_ofT (hw (i * 10 + f) (by omega))
  have fin : ∀ (e : Ending) w2, e = .returned (.bool true) → (∃ N' ma' mc' os' nv' bv' ns' bs' FN' FB', MNAt YAt w.heap.size N' (.slice ca cl cc) (.slice none 0 0) ma' mc' os' nv' bv' ns' bs' FN' FB' w2 ∧ (os'.length ≤ i + 1 ∧ ns'.length ≤ 2 * (i + 1) ∧ bs'.length ≤ 2 * (i + 1))) → Chg O w1 w2 → StepOk YAt w.heap.size ca cl cc i O w1 e w2 := by
    rintro e w2 rfl ⟨N', ma', mc', os', nv', bv', ns', bs', FN', FB', h', hl'⟩ hc
    exact ⟨fun k => w.heap.size ≤ k ∧ k < N', rfl, ⟨N', ma', mc', os', nv', bv', ns', bs', FN', FB', h', hl', fun _ => Iff.rfl⟩, hc⟩
  have quiet : ∀ (e : Ending) w2, (e = .returned (.bool true) ∧ Chg (fun _ => False) w1 w2) → StepOk YAt w.heap.size ca cl cc i O w1 e w2 := by
    rintro e w2 ⟨he, hq⟩
    exact fin e w2 he ⟨N, ma, mc, os, nv, bv, ns, bs, FN, FB, h.frame hY (fun k _ h2 => hq.block k (by have := h.ms.nw; omega) (fun hn => hn)) hq.size, by omega⟩ (hq.mono (fun _ _ hx => hx.elim))
  -- a call on a market
  have onM : ∀ (n : Nat) (o : MkO), os[n]? = some o → ∀ (e : Ending) w2, (e = .returned (.bool true) ∧ ∃ W, Chg (fun _ => False) w1 W ∧ ∃ m', PairTo YAt W o.y o.r o.F m' w2) → StepOk YAt w.heap.size ca cl cc i O w1 e w2 := by
    rintro n o ho e w2 ⟨he, W, hW, m', hto⟩
    obtain ⟨os', hlen, h', _⟩ := h.turned hY ho hW hto
    obtain ⟨F', _, hcF, _⟩ := hto
    have a2 := (h.ms.at' n o ho).2.1
    refine fin e w2 he ⟨_, ma, mc, os', nv, bv, ns, bs, FN, FB, h', by omega⟩ ((hW.mono (O' := O) (fun _ _ hx => hx.elim)).trans hcF (fun x hx hxx => (hO x).2 ?_))
    have := a2 x hxx
    omega
  -- a tick
  have onT : ∀ (n : Nat) (o : MkO), os[n]? = some o → ∀ (e : Ending) w2, (e = .returned (.bool true) ∧ ∃ W, Chg (fun _ => False) w1 W ∧ Ticked YAt W w.heap.size o.y o.r o.F FN (.slice ca cl cc) (.slice none 0 0) (.slice ma os.length mc) bv ns.length w2) → StepOk YAt w.heap.size ca cl cc i O w1 e w2 := by
    rintro n o ho e w2 ⟨he, W, hW, hto⟩
    obtain ⟨os', nv', ns', FN', hlen, hlen2, h', _⟩ := h.ticked hY ho hW hto
    obtain ⟨m', F', FN2, nv2, ns2, _, _, _, _, hcF, _⟩ := hto
    have a2 := (h.ms.at' n o ho).2.1
    refine fin e w2 he ⟨_, ma, mc, os', nv', bv, ns', bs, FN', FB, h', by omega⟩ ((hW.mono (O' := O) (fun _ _ hx => hx.elim)).trans hcF (fun x hx hxx => (hO x).2 ?_))
    have hbn := h.ms.bn
    rcases hxx with e | e | e
    · omega
    · have := a2 x e; omega
    · have := h.fn x e; omega
  have cell2 := h.ms.box.cell 2
  simp at cell2
  have pickM : os.length ≠ 0 → ∃ (n : Nat) (o : MkO) (gb : Nat), pickZ (S (i * 10 + 1)) os.length = (n : Int) ∧ n < os.length ∧ os[n]? = some o ∧ ma = some ⟨gb, 0, none⟩ ∧ w1.cell? ⟨gb, n * 2, none⟩ = some (.pointer (some ⟨o.y, 0, none⟩)) ∧ w1.cell? ⟨gb, n * 2 + 1, none⟩ = some (.pointer (some ⟨o.r, 0, none⟩)) := by
    intro hm
    obtain ⟨n, hn, hnl⟩ : ∃ n : Nat, pickZ (S (i * 10 + 1)) os.length = (n : Int) ∧ n < os.length := by
      have := pickZ_lt (S (i * 10 + 1)) os.length (by omega)
      exact ⟨(pickZ (S (i * 10 + 1)) os.length).toNat, by omega, by omega⟩
    obtain ⟨o, ho⟩ : ∃ o, os[n]? = some o := ⟨_, List.getElem?_eq_getElem hnl⟩
    obtain ⟨gb, hma⟩ : ∃ gb, ma = some ⟨gb, 0, none⟩ := by
      rcases h.ms.own.2 with ⟨_, h0⟩ | ⟨x, cap, cu, hv, _⟩
      · omega
      · simp only [Value.slice.injEq] at hv
        exact ⟨x, hv.1⟩
    subst hma
    have c0 := h.ms.own.cells (g := gb) rfl (n * 2) _ (mptrs_get0 os n o ho)
    have c1 := h.ms.own.cells (g := gb) rfl (n * 2 + 1) _ (mptrs_get1 os n o ho)
    rw [Addr.add_lit] at c0 c1
    simp only [Nat.zero_add] at c0 c1
    exact ⟨n, o, gb, hn, hnl, ho, rfl, c0, c1⟩
  have pairW : ∀ (n : Nat) (o : MkO), os[n]? = some o → ∀ W, Chg (fun _ => False) w1 W → PairM YAt W o.y o.r o.F o.m := fun n o ho W hW =>
    PairM.frame hY (h.ms.at' n o ho).1 (fun k hk => hW.block k (PairM.lt hY (h.ms.at' n o ho).1 k hk) (fun h => h))
  rcases hp with hk | hk | hk | hk | hk | hk | hk | hk | hk | hk
  · have e : opAt S i = .agg #[.int .i64 6, .int .i64 (S (i * 10 + 1)), .int .i64 (S (i * 10 + 2)), .int .i64 (S (i * 10 + 3)), .int .i64 (S (i * 10 + 4)), .int .i64 (S (i * 10 + 5)), .int .i64 (S (i * 10 + 6)), .int .i64 (S (i * 10 + 7)), .int .i64 (S (i * 10 + 8)), .int .i64 (S (i * 10 + 9))] := by
      unfold opAt; rw [hk]
    rw [e]
    have hcell := h.ms.box.cell 0
    simp at hcell
    rcases hc with rfl | ⟨b0, off, Z, hcl0, rfl, hbl, hZ, _⟩
    · exact (step_open_none w.heap.size cc ca _ _ _ _ ⟨S (i * 10 + 5), S (i * 10 + 6), S (i * 10 + 7), S (i * 10 + 8), S (i * 10 + 9)⟩ w1 hcell).mono quiet
    · have hz : ∀ t, t < cl * 5 → w1.cell? ⟨b0, off + t, none⟩ = some (.int .i64 (Z t)) := fun t ht => by
        rw [hbel.cell (by have := hb.size; show b0 < _; omega), hb.cell (by exact hbl)]
        exact hZ t ht
      obtain ⟨n, hn, hnl⟩ : ∃ n : Nat, pickZ (S (i * 10 + 1)) cl = (n : Int) ∧ n < cl := by
        have := pickZ_lt (S (i * 10 + 1)) cl (by omega)
        exact ⟨(pickZ (S (i * 10 + 1)) cl).toNat, by omega, by omega⟩
      have boxW : ∀ W, Chg (fun _ => False) w1 W → BoxAt W w.heap.size (.slice (some ⟨b0, off, none⟩) cl cc) (.slice none 0 0) (.slice ma os.length mc) nv bv ∧ W.ownsRow 0 56 2 (.slice ma os.length mc) os.length (mptrs os) := fun W hW =>
        ⟨h.ms.box.chg hW (fun h => h), ownsRow_keep h.ms.own (fun k hk => hW.block k ((h.ms.own.lt k hk).2) (fun h => h))⟩
      cases hck : cfgOk ⟨Z (n * 5), Z (n * 5 + 1), Z (n * 5 + 2), Z (n * 5 + 3), Z (n * 5 + 4)⟩
      · refine (step_open_some w.heap.size b0 off cl cc n Z _ _ _ _ ⟨S (i * 10 + 5), S (i * 10 + 6), S (i * 10 + 7), S (i * 10 + 8), S (i * 10 + 9)⟩ w1 (fun W w' => Chg (fun _ => False) W w') hcell hcl0 (by omega) (I 1 (by omega)).1 (I 1 (by omega)).2 hn hnl hz (fun W hW => opened_bad hY w.heap.size _ W hck)).mono ?_
        rintro e w2 ⟨he, W, hW, hq⟩
        exact quiet e w2 ⟨he, hW.trans hq (fun _ _ h => h)⟩
      · refine (step_open_some w.heap.size b0 off cl cc n Z _ _ _ _ ⟨S (i * 10 + 5), S (i * 10 + 6), S (i * 10 + 7), S (i * 10 + 8), S (i * 10 + 9)⟩ w1 (fun W w' => ∃ o, Opened YAt (W.alloc o) w.heap.size os.length ⟨Z (n * 5), Z (n * 5 + 1), Z (n * 5 + 2), Z (n * 5 + 3), Z (n * 5 + 4)⟩ (.slice (some ⟨b0, off, none⟩) cl cc) (.slice none 0 0) (.slice ma os.length mc) nv bv (mptrs os) w') hcell hcl0 (by omega) (I 1 (by omega)).1 (I 1 (by omega)).2 hn hnl hz
          (fun W hW => opened_ok hY w.heap.size os.length _ ma mc _ _ _ _ (mptrs os) W hck (by omega) (boxW W hW).1 (boxW W hW).2)).mono ?_
        rintro e w2 ⟨he, W, hW, o, hop⟩
        obtain ⟨ma', mc', os', hlen, h', _⟩ := h.added hY (hW.alloc o) hop
        obtain ⟨g, cap, y, r, F, _, _, _, _, _, hcF, _⟩ := hop
        refine fin e w2 he ⟨_, ma', mc', os', nv, bv, ns, bs, FN, FB, h', by omega⟩ (((hW.alloc o).mono (O' := O) (fun _ _ hx => hx.elim)).trans hcF (fun x hx hxx => (hO x).2 ?_))
        rcases hxx with rfl | hxx
        · exact ⟨Nat.le_refl _, h.ms.bn⟩
        · have := h.ms.ownB x hxx; omega
  · have e : opAt S i = .agg #[.int .i64 7, .int .i64 (S (i * 10 + 1)), .int .i64 (S (i * 10 + 2)), .int .i64 (S (i * 10 + 3)), .int .i64 (S (i * 10 + 4)), .int .i64 (S (i * 10 + 5)), .int .i64 (S (i * 10 + 6)), .int .i64 (S (i * 10 + 7)), .int .i64 (S (i * 10 + 8)), .int .i64 (S (i * 10 + 9))] := by
      unfold opAt; rw [hk]
    rw [e]
    by_cases hm : os.length = 0
    · rw [hm] at cell2
      exact (step_m7_none w.heap.size mc ma _ _ _ _ ⟨S (i * 10 + 5), S (i * 10 + 6), S (i * 10 + 7), S (i * 10 + 8), S (i * 10 + 9)⟩ w1 cell2).mono quiet
    · obtain ⟨n, o, gb, hn, hnl, ho, hma, c0, c1⟩ := pickM hm
      rw [hma] at cell2
      exact (step_m7_some w.heap.size gb os.length mc n o.y o.r _ _ _ _ ⟨S (i * 10 + 5), S (i * 10 + 6), S (i * 10 + 7), S (i * 10 + 8), S (i * 10 + 9)⟩ w1 (fun W w' => ∃ m', PairTo YAt W o.y o.r o.F m' w') cell2 (by omega) hn hnl (I 1 (by omega)).1 (I 1 (by omega)).2 c0 c1 (fun W hW => (bid_submit hY o.y o.r o.F o.m _ _ _ _ ⟨S (i * 10 + 5), S (i * 10 + 6), S (i * 10 + 7), S (i * 10 + 8), S (i * 10 + 9)⟩ W (pairW n o ho W hW) (I 2 (by omega)) (I 3 (by omega)) ⟨I 5 (by omega), I 6 (by omega), I 7 (by omega), I 8 (by omega), I 9 (by omega)⟩).mono (fun e w' ⟨m', he, ht⟩ => ⟨he, m', ht⟩))).mono (onM n o ho)
  · have e : opAt S i = .agg #[.int .i64 8, .int .i64 (S (i * 10 + 1)), .int .i64 (S (i * 10 + 2)), .int .i64 (S (i * 10 + 3)), .int .i64 (S (i * 10 + 4)), .int .i64 (S (i * 10 + 5)), .int .i64 (S (i * 10 + 6)), .int .i64 (S (i * 10 + 7)), .int .i64 (S (i * 10 + 8)), .int .i64 (S (i * 10 + 9))] := by
      unfold opAt; rw [hk]
    rw [e]
    by_cases hm : os.length = 0
    · rw [hm] at cell2
      exact (step_m8_none w.heap.size mc ma _ _ _ _ ⟨S (i * 10 + 5), S (i * 10 + 6), S (i * 10 + 7), S (i * 10 + 8), S (i * 10 + 9)⟩ w1 cell2).mono quiet
    · obtain ⟨n, o, gb, hn, hnl, ho, hma, c0, c1⟩ := pickM hm
      rw [hma] at cell2
      exact (step_m8_some w.heap.size gb os.length mc n o.y o.r _ _ _ _ ⟨S (i * 10 + 5), S (i * 10 + 6), S (i * 10 + 7), S (i * 10 + 8), S (i * 10 + 9)⟩ w1 (fun W w' => ∃ m', PairTo YAt W o.y o.r o.F m' w') cell2 (by omega) hn hnl (I 1 (by omega)).1 (I 1 (by omega)).2 c0 c1 (fun W hW => (bid_cancel hY o.y o.r o.F o.m _ _ _ _ ⟨S (i * 10 + 5), S (i * 10 + 6), S (i * 10 + 7), S (i * 10 + 8), S (i * 10 + 9)⟩ W (pairW n o ho W hW) (I 2 (by omega)) (I 3 (by omega))).mono (fun e w' ⟨m', he, ht⟩ => ⟨he, m', ht⟩))).mono (onM n o ho)
  · have e : opAt S i = .agg #[.int .i64 9, .int .i64 (S (i * 10 + 1)), .int .i64 (S (i * 10 + 2)), .int .i64 (S (i * 10 + 3)), .int .i64 (S (i * 10 + 4)), .int .i64 (S (i * 10 + 5)), .int .i64 (S (i * 10 + 6)), .int .i64 (S (i * 10 + 7)), .int .i64 (S (i * 10 + 8)), .int .i64 (S (i * 10 + 9))] := by
      unfold opAt; rw [hk]
    rw [e]
    by_cases hm : os.length = 0
    · rw [hm] at cell2
      exact (step_m9_none w.heap.size mc ma _ _ _ _ ⟨S (i * 10 + 5), S (i * 10 + 6), S (i * 10 + 7), S (i * 10 + 8), S (i * 10 + 9)⟩ w1 cell2).mono quiet
    · obtain ⟨n, o, gb, hn, hnl, ho, hma, c0, c1⟩ := pickM hm
      rw [hma] at cell2
      exact (step_m9_some w.heap.size gb os.length mc n o.y o.r _ _ _ _ ⟨S (i * 10 + 5), S (i * 10 + 6), S (i * 10 + 7), S (i * 10 + 8), S (i * 10 + 9)⟩ w1 (fun W w' => ∃ m', PairTo YAt W o.y o.r o.F m' w') cell2 (by omega) hn hnl (I 1 (by omega)).1 (I 1 (by omega)).2 c0 c1 (fun W hW => (bid_suspend hY o.y o.r o.F o.m _ _ _ _ ⟨S (i * 10 + 5), S (i * 10 + 6), S (i * 10 + 7), S (i * 10 + 8), S (i * 10 + 9)⟩ W (pairW n o ho W hW) (I 2 (by omega)) (I 3 (by omega))).mono (fun e w' ⟨m', he, ht⟩ => ⟨he, m', ht⟩))).mono (onM n o ho)
  · have e : opAt S i = .agg #[.int .i64 10, .int .i64 (S (i * 10 + 1)), .int .i64 (S (i * 10 + 2)), .int .i64 (S (i * 10 + 3)), .int .i64 (S (i * 10 + 4)), .int .i64 (S (i * 10 + 5)), .int .i64 (S (i * 10 + 6)), .int .i64 (S (i * 10 + 7)), .int .i64 (S (i * 10 + 8)), .int .i64 (S (i * 10 + 9))] := by
      unfold opAt; rw [hk]
    rw [e]
    by_cases hm : os.length = 0
    · rw [hm] at cell2
      exact (step_m10_none w.heap.size mc ma _ _ _ _ ⟨S (i * 10 + 5), S (i * 10 + 6), S (i * 10 + 7), S (i * 10 + 8), S (i * 10 + 9)⟩ w1 cell2).mono quiet
    · obtain ⟨n, o, gb, hn, hnl, ho, hma, c0, c1⟩ := pickM hm
      rw [hma] at cell2
      exact (step_m10_some w.heap.size gb os.length mc n o.y o.r _ _ _ _ ⟨S (i * 10 + 5), S (i * 10 + 6), S (i * 10 + 7), S (i * 10 + 8), S (i * 10 + 9)⟩ w1 (fun W w' => ∃ m', PairTo YAt W o.y o.r o.F m' w') cell2 (by omega) hn hnl (I 1 (by omega)).1 (I 1 (by omega)).2 c0 c1 (fun W hW => (bid_capacity hY o.y o.r o.F o.m _ _ _ _ ⟨S (i * 10 + 5), S (i * 10 + 6), S (i * 10 + 7), S (i * 10 + 8), S (i * 10 + 9)⟩ W (pairW n o ho W hW) (I 2 (by omega)) (I 3 (by omega)) (I 4 (by omega))).mono (fun e w' ⟨m', he, ht⟩ => ⟨he, m', ht⟩))).mono (onM n o ho)
  · have e : opAt S i = .agg #[.int .i64 11, .int .i64 (S (i * 10 + 1)), .int .i64 (S (i * 10 + 2)), .int .i64 (S (i * 10 + 3)), .int .i64 (S (i * 10 + 4)), .int .i64 (S (i * 10 + 5)), .int .i64 (S (i * 10 + 6)), .int .i64 (S (i * 10 + 7)), .int .i64 (S (i * 10 + 8)), .int .i64 (S (i * 10 + 9))] := by
      unfold opAt; rw [hk]
    rw [e]
    by_cases hm : os.length = 0
    · rw [hm] at cell2
      exact (step_m11_none w.heap.size mc ma _ _ _ _ ⟨S (i * 10 + 5), S (i * 10 + 6), S (i * 10 + 7), S (i * 10 + 8), S (i * 10 + 9)⟩ w1 cell2).mono quiet
    · obtain ⟨n, o, gb, hn, hnl, ho, hma, c0, c1⟩ := pickM hm
      rw [hma] at cell2
      exact (step_m11_some w.heap.size gb os.length mc n o.y o.r _ _ _ _ ⟨S (i * 10 + 5), S (i * 10 + 6), S (i * 10 + 7), S (i * 10 + 8), S (i * 10 + 9)⟩ w1 (fun W w' => ∃ m', PairTo YAt W o.y o.r o.F m' w') cell2 (by omega) hn hnl (I 1 (by omega)).1 (I 1 (by omega)).2 c0 c1 (fun W hW => (looked_now hY o.y o.r o.F o.m _ _ _ _ ⟨S (i * 10 + 5), S (i * 10 + 6), S (i * 10 + 7), S (i * 10 + 8), S (i * 10 + 9)⟩ W (pairW n o ho W hW)).mono (fun e w' ⟨he, ht⟩ => ⟨he, _, ht⟩))).mono (onM n o ho)
  · have e : opAt S i = .agg #[.int .i64 12, .int .i64 (S (i * 10 + 1)), .int .i64 (S (i * 10 + 2)), .int .i64 (S (i * 10 + 3)), .int .i64 (S (i * 10 + 4)), .int .i64 (S (i * 10 + 5)), .int .i64 (S (i * 10 + 6)), .int .i64 (S (i * 10 + 7)), .int .i64 (S (i * 10 + 8)), .int .i64 (S (i * 10 + 9))] := by
      unfold opAt; rw [hk]
    rw [e]
    by_cases hm : os.length = 0
    · rw [hm] at cell2
      exact (step_m12_none w.heap.size mc ma _ _ _ _ ⟨S (i * 10 + 5), S (i * 10 + 6), S (i * 10 + 7), S (i * 10 + 8), S (i * 10 + 9)⟩ w1 cell2).mono quiet
    · obtain ⟨n, o, gb, hn, hnl, ho, hma, c0, c1⟩ := pickM hm
      rw [hma] at cell2
      exact (step_m12_some w.heap.size gb os.length mc n o.y o.r _ _ _ _ ⟨S (i * 10 + 5), S (i * 10 + 6), S (i * 10 + 7), S (i * 10 + 8), S (i * 10 + 9)⟩ w1 (fun W w' => ∃ m', PairTo YAt W o.y o.r o.F m' w') cell2 (by omega) hn hnl (I 1 (by omega)).1 (I 1 (by omega)).2 c0 c1 (fun W hW => (looked_left hY o.y o.r o.F o.m _ _ _ _ ⟨S (i * 10 + 5), S (i * 10 + 6), S (i * 10 + 7), S (i * 10 + 8), S (i * 10 + 9)⟩ W (pairW n o ho W hW)).mono (fun e w' ⟨he, ht⟩ => ⟨he, _, ht⟩))).mono (onM n o ho)
  · have e : opAt S i = .agg #[.int .i64 13, .int .i64 (S (i * 10 + 1)), .int .i64 (S (i * 10 + 2)), .int .i64 (S (i * 10 + 3)), .int .i64 (S (i * 10 + 4)), .int .i64 (S (i * 10 + 5)), .int .i64 (S (i * 10 + 6)), .int .i64 (S (i * 10 + 7)), .int .i64 (S (i * 10 + 8)), .int .i64 (S (i * 10 + 9))] := by
      unfold opAt; rw [hk]
    rw [e]
    by_cases hm : os.length = 0
    · rw [hm] at cell2
      exact (step_m13_none w.heap.size mc ma _ _ _ _ ⟨S (i * 10 + 5), S (i * 10 + 6), S (i * 10 + 7), S (i * 10 + 8), S (i * 10 + 9)⟩ w1 cell2).mono quiet
    · obtain ⟨n, o, gb, hn, hnl, ho, hma, c0, c1⟩ := pickM hm
      rw [hma] at cell2
      exact (step_m13_some w.heap.size gb os.length mc n o.y o.r _ _ _ _ ⟨S (i * 10 + 5), S (i * 10 + 6), S (i * 10 + 7), S (i * 10 + 8), S (i * 10 + 9)⟩ w1 (fun W w' => ∃ m', PairTo YAt W o.y o.r o.F m' w') cell2 (by omega) hn hnl (I 1 (by omega)).1 (I 1 (by omega)).2 c0 c1 (fun W hW => (looked_look hY o.y o.r o.F o.m _ _ _ _ ⟨S (i * 10 + 5), S (i * 10 + 6), S (i * 10 + 7), S (i * 10 + 8), S (i * 10 + 9)⟩ W (pairW n o ho W hW) (I 2 (by omega)) (I 3 (by omega))).mono (fun e w' ⟨he, ht⟩ => ⟨he, _, ht⟩))).mono (onM n o ho)
  · have e : opAt S i = .agg #[.int .i64 14, .int .i64 (S (i * 10 + 1)), .int .i64 (S (i * 10 + 2)), .int .i64 (S (i * 10 + 3)), .int .i64 (S (i * 10 + 4)), .int .i64 (S (i * 10 + 5)), .int .i64 (S (i * 10 + 6)), .int .i64 (S (i * 10 + 7)), .int .i64 (S (i * 10 + 8)), .int .i64 (S (i * 10 + 9))] := by
      unfold opAt; rw [hk]
    rw [e]
    by_cases hm : os.length = 0
    · rw [hm] at cell2
      exact (step_m14_none w.heap.size mc ma _ _ _ _ ⟨S (i * 10 + 5), S (i * 10 + 6), S (i * 10 + 7), S (i * 10 + 8), S (i * 10 + 9)⟩ w1 cell2).mono quiet
    · obtain ⟨n, o, gb, hn, hnl, ho, hma, c0, c1⟩ := pickM hm
      rw [hma] at cell2
      exact (step_m14_some w.heap.size gb os.length mc n o.y o.r _ _ _ _ ⟨S (i * 10 + 5), S (i * 10 + 6), S (i * 10 + 7), S (i * 10 + 8), S (i * 10 + 9)⟩ w1 (fun W w' => ∃ m', PairTo YAt W o.y o.r o.F m' w') cell2 (by omega) hn hnl (I 1 (by omega)).1 (I 1 (by omega)).2 c0 c1 (fun W hW => (looked_free hY o.y o.r o.F o.m _ _ _ _ ⟨S (i * 10 + 5), S (i * 10 + 6), S (i * 10 + 7), S (i * 10 + 8), S (i * 10 + 9)⟩ W (pairW n o ho W hW) (I 2 (by omega))).mono (fun e w' ⟨he, ht⟩ => ⟨he, _, ht⟩))).mono (onM n o ho)
  · have e : opAt S i = .agg #[.int .i64 15, .int .i64 (S (i * 10 + 1)), .int .i64 (S (i * 10 + 2)), .int .i64 (S (i * 10 + 3)), .int .i64 (S (i * 10 + 4)), .int .i64 (S (i * 10 + 5)), .int .i64 (S (i * 10 + 6)), .int .i64 (S (i * 10 + 7)), .int .i64 (S (i * 10 + 8)), .int .i64 (S (i * 10 + 9))] := by
      unfold opAt; rw [hk]
    rw [e]
    by_cases hm : os.length = 0
    · rw [hm] at cell2
      exact (step_m15_none w.heap.size mc ma _ _ _ _ ⟨S (i * 10 + 5), S (i * 10 + 6), S (i * 10 + 7), S (i * 10 + 8), S (i * 10 + 9)⟩ w1 cell2).mono quiet
    · obtain ⟨n, o, gb, hn, hnl, ho, hma, c0, c1⟩ := pickM hm
      rw [hma] at cell2
      have a2 := (h.ms.at' n o ho).2.1
      exact (step_m15_some w.heap.size gb os.length mc n o.y o.r _ _ _ _ ⟨S (i * 10 + 5), S (i * 10 + 6), S (i * 10 + 7), S (i * 10 + 8), S (i * 10 + 9)⟩ w1 (fun W w' => Ticked YAt W w.heap.size o.y o.r o.F FN (.slice ca cl cc) (.slice none 0 0) (.slice ma os.length mc) bv ns.length w') cell2 (by omega) hn hnl (I 1 (by omega)).1 (I 1 (by omega)).2 c0 c1 (fun W hW => ticked_any hY hT w.heap.size o.y o.r o.F FN o.m _ _ _ nv bv ns W (pairW n o ho W hW) (h.ms.box.chg hW (fun h => h)) (h.names.chg0 hW) h.evn (by omega) (fun k hk hf => (h.fn k hf).2.2.2 (.inr ⟨n, o, ho, hk⟩)) (fun hf => by have := a2 _ hf; omega) (fun hf => by have := h.fn _ hf; omega))).mono (onT n o ho)

def kT : List Int := [6, 7, 8, 9, 10, 11, 12, 13, 14, 15]
theorem contains10 {x : Int} (h : kT.contains x = true) : x = 6 ∨ x = 7 ∨ x = 8 ∨ x = 9 ∨ x = 10 ∨ x = 11 ∨ x = 12 ∨ x = 13 ∨ x = 14 ∨ x = 15 := by simpa [kT] using h

theorem playsT {YAt : World → Nat → (Nat → Prop) → MkG → Prop} (hY : YardSpec YAt) (hT : TickY YAt) (w w0 : World) (ca : Option Addr) (cl cc slen : Nat) (S : Nat → Int) (hw : ∀ t, t < slen * 10 → IsI64 (S t)) (hsl : slen < 1759218604391) (hb : Below w0.heap.size w0 w) (hc : IntRows w0 5 ca cl) (hcl : cl < 5000000000000) :
    Plays w.heap.size slen S kT kT w (InvT YAt w.heap.size ca cl cc) := by
  refine ⟨?_, ?_, ?_, ?_, ?_⟩
  · rintro i O w1 ⟨N, ma, mc, os, nv, bv, ns, bs, FN, FB, h, _, hO⟩ k hk
    have := (hO k).1 hk
    have := h.ms.nw
    exact ⟨by omega, by omega⟩
  · rintro i O w1 w2 ⟨N, ma, mc, os, nv, bv, ns, bs, FN, FB, h, hl, hO⟩ hc
    exact ⟨N, ma, mc, os, nv, bv, ns, bs, FN, FB, h.frame hY (fun k h1 h2 => hc.block k (by have := h.ms.nw; omega) (fun hn => hn ((hO k).2 ⟨h1, h2⟩))) hc.size, hl, hO⟩
  · rintro i O w1 ⟨N, ma, mc, os, nv, bv, ns, bs, FN, FB, h, hl, hO⟩
    exact ⟨N, ma, mc, os, nv, bv, ns, bs, FN, FB, h, by omega, hO⟩
  · intro i hi hp O w1 hI hbel
    refine (stepT hY hT w w0 ca cl cc slen S hw hsl hb hc hcl i hi (contains10 hp) O w1 hI hbel).mono ?_
    rintro e w2 ⟨O', he, hI', hc'⟩
    exact ⟨true, O', he, hI', hc', fun hx => by cases hx⟩
  · rintro i O w1 ⟨N, ma, mc, os, nv, bv, ns, bs, FN, FB, h, hl, hO⟩
    exact looks_any w.heap.size _ _ _ nv bv ns bs FN FB w1 h.ms.box h.names h.bills
end Go.Proofs.YtminceigjejipaaGreat

/-
  ALL KINDS OF STEPS, over rows, markets and lists together.
-/
namespace Go.Proofs.YtminceigjejipaaGreat
open Go.RowKit

/-- what holds between the steps: rows, markets, the lists that came out, all apart -/
structure AllAt (YAt : World → Nat → (Nat → Prop) → MkG → Prop) (B N : Nat) (ca : Option Addr) (cl cc : Nat) (ra : Option Addr) (rc : Nat) (ps : List PairG) (ma : Option Addr) (mc : Nat) (os : List MkO) (nv bv : Value) (ns bs : List Value) (FN FB : Nat → Prop) (w : World) : Prop where
  rows : RowsAt B N ca cl cc (.slice ma os.length mc) nv bv ra rc ps w
  mn : MNAt YAt B N (.slice ca cl cc) (.slice ra ps.length rc) ma mc os nv bv ns bs FN FB w
  dis : ∀ k, rwFoot ra rc ps k → ¬ mnFoot ma mc os FN FB k

section
variable {YAt : World → Nat → (Nat → Prop) → MkG → Prop} {B N : Nat} {ca : Option Addr} {cl cc : Nat} {ra : Option Addr} {rc : Nat} {ps : List PairG} {ma : Option Addr} {mc : Nat} {os : List MkO} {nv bv : Value} {ns bs : List Value} {FN FB : Nat → Prop} {w w' : World}
theorem AllAt.frame (hY : YardSpec YAt) (h : AllAt YAt B N ca cl cc ra rc ps ma mc os nv bv ns bs FN FB w) (hc : ∀ k, B ≤ k → k < N → w'.heap[k]? = w.heap[k]?) (hs : w.heap.size ≤ w'.heap.size) : AllAt YAt B N ca cl cc ra rc ps ma mc os nv bv ns bs FN FB w' :=
  ⟨h.rows.frame hc hs, h.mn.frame hY hc hs, h.dis⟩
/-- a step on markets -/
theorem AllAt.onMn (h : AllAt YAt B N ca cl cc ra rc ps ma mc os nv bv ns bs FN FB w) {ma' : Option Addr} {mc' : Nat} {os' : List MkO} {nv' bv' : Value} {ns' bs' : List Value} {FN' FB' : Nat → Prop} (h' : MNAt YAt B w'.heap.size (.slice ca cl cc) (.slice ra ps.length rc) ma' mc' os' nv' bv' ns' bs' FN' FB' w')
    (hg : ∀ k, mnFoot ma' mc' os' FN' FB' k → mnFoot ma mc os FN FB k ∨ w.heap.size ≤ k) (hc : Chg (fun k => k = B ∨ mnFoot ma mc os FN FB k) w w') : AllAt YAt B w'.heap.size ca cl cc ra rc ps ma' mc' os' nv' bv' ns' bs' FN' FB' w' := by
  have hnw := h.rows.nw
  have hs := hc.size
  refine ⟨h.rows.frameF h'.ms.box (fun k hk => ?_) (by omega) (Nat.le_refl _), h', fun k hk hm => ?_⟩
  · have := h.rows.foot_in k hk
    refine hc.block k (by omega) ?_
    rintro (e | e)
    · omega
    · exact h.dis k hk e
  · have := h.rows.foot_in k hk
    rcases hg k hm with e | e
    · exact h.dis k hk e
    · omega
/-- a step on rows -/
theorem AllAt.onRow (hY : YardSpec YAt) (h : AllAt YAt B N ca cl cc ra rc ps ma mc os nv bv ns bs FN FB w) {N' : Nat} {ra' : Option Addr} {rc' : Nat} {ps' : List PairG} (h' : RowsAt B N' ca cl cc (.slice ma os.length mc) nv bv ra' rc' ps' w') (hN : N ≤ N')
    (hg : ∀ k, rwFoot ra' rc' ps' k → rwFoot ra rc ps k ∨ w.heap.size ≤ k) (hc : Chg (fun k => k = B ∨ rwFoot ra rc ps k) w w') : AllAt YAt B N' ca cl cc ra' rc' ps' ma mc os nv bv ns bs FN FB w' := by
  have hnw := h.rows.nw
  refine ⟨h', h.mn.frame1 hY h'.box (fun k hk => ?_) hN h'.nw, fun k hk hm => ?_⟩
  · have := h.mn.foot_in k hk
    refine hc.block k (by omega) ?_
    rintro (e | e)
    · omega
    · exact h.dis k e hk
  · have := h.mn.foot_in k hm
    rcases hg k hk with e | e
    · exact h.dis k e hm
    · omega
end

def InvA (YAt : World → Nat → (Nat → Prop) → MkG → Prop) (B : Nat) (ca : Option Addr) (cl cc : Nat) (i : Nat) (O : Nat → Prop) (w : World) : Prop :=
  ∃ N ra rc ps ma mc os nv bv ns bs FN FB, AllAt YAt B N ca cl cc ra rc ps ma mc os nv bv ns bs FN FB w ∧ (ps.length ≤ i ∧ os.length ≤ i ∧ ns.length ≤ 2 * i ∧ bs.length ≤ 2 * i) ∧ ∀ k, O k ↔ B ≤ k ∧ k < N

theorem i64_ofA {z : Int} (h : IsI64 z) : I64 z := h

/-- an answer that holds, and what holds behind it -/
def StepOkA (YAt : World → Nat → (Nat → Prop) → MkG → Prop) (B : Nat) (ca : Option Addr) (cl cc i : Nat) (O : Nat → Prop) (w1 : World) (e : Ending) (w2 : World) : Prop :=
  ∃ O', e = .returned (.bool true) ∧ InvA YAt B ca cl cc (i + 1) O' w2 ∧ Chg O w1 w2

/-- a step of a kind from 6 to 15 -/
theorem stepA1 {YAt : World → Nat → (Nat → Prop) → MkG → Prop} (hY : YardSpec YAt) (hT : TickY YAt) (w w0 : World) (ca : Option Addr) (cl cc slen : Nat) (S : Nat → Int) (hw : ∀ t, t < slen * 10 → IsI64 (S t)) (hsl : slen < 1759218604391) (hb : Below w0.heap.size w0 w) (hc : IntRows w0 5 ca cl) (hcl : cl < 5000000000000)
    (i : Nat) (hi : i < slen) (hp : S (i * 10) = 6 ∨ S (i * 10) = 7 ∨ S (i * 10) = 8 ∨ S (i * 10) = 9 ∨ S (i * 10) = 10 ∨ S (i * 10) = 11 ∨ S (i * 10) = 12 ∨ S (i * 10) = 13 ∨ S (i * 10) = 14 ∨ S (i * 10) = 15) (O : Nat → Prop) (w1 : World) (hI : InvA YAt w.heap.size ca cl cc i O w1) (hbel : Below w.heap.size w w1) :
    Calls Tryz.prog 11 #[.pointer (some ⟨w.heap.size, 0, none⟩), opAt S i] w1 (StepOkA YAt w.heap.size ca cl cc i O w1) := by
  obtain ⟨N, ra, rc, ps, ma, mc, os, nv, bv, ns, bs, FN, FB, h, hl, hO⟩ := hI
  have I := fun f (hf : f < 10) => i64_ofA (hw (i * 10 + f) (by omega))
  have finA : ∀ (e : Ending) w2, e = .returned (.bool true) → (∃ N' ra' rc' ps' ma' mc' os' nv' bv' ns' bs' FN' FB', AllAt YAt w.heap.size N' ca cl cc ra' rc' ps' ma' mc' os' nv' bv' ns' bs' FN' FB' w2 ∧ (ps'.length ≤ i + 1 ∧ os'.length ≤ i + 1 ∧ ns'.length ≤ 2 * (i + 1) ∧ bs'.length ≤ 2 * (i + 1))) → Chg O w1 w2 → StepOkA YAt w.heap.size ca cl cc i O w1 e w2 := by
    rintro e w2 rfl ⟨N', ra', rc', ps', ma', mc', os', nv', bv', ns', bs', FN', FB', h', hl'⟩ hc
    exact ⟨fun k => w.heap.size ≤ k ∧ k < N', rfl, ⟨N', ra', rc', ps', ma', mc', os', nv', bv', ns', bs', FN', FB', h', hl', fun _ => Iff.rfl⟩, hc⟩
  have quiet : ∀ (e : Ending) w2, (e = .returned (.bool true) ∧ Chg (fun _ => False) w1 w2) → StepOkA YAt w.heap.size ca cl cc i O w1 e w2 := by
    rintro e w2 ⟨he, hq⟩
    exact finA e w2 he ⟨N, ra, rc, ps, ma, mc, os, nv, bv, ns, bs, FN, FB, h.frame hY (fun k _ h2 => hq.block k (by have := h.rows.nw; omega) (fun hn => hn)) hq.size, by omega⟩ (hq.mono (fun _ _ hx => hx.elim))
  have finM : ∀ (e : Ending) w2, e = .returned (.bool true) → (∃ ma' mc' os' nv' bv' ns' bs' FN' FB', MNAt YAt w.heap.size w2.heap.size (.slice ca cl cc) (.slice ra ps.length rc) ma' mc' os' nv' bv' ns' bs' FN' FB' w2 ∧ (os'.length ≤ i + 1 ∧ ns'.length ≤ 2 * (i + 1) ∧ bs'.length ≤ 2 * (i + 1)) ∧ ∀ k, mnFoot ma' mc' os' FN' FB' k → mnFoot ma mc os FN FB k ∨ w1.heap.size ≤ k) → Chg (fun k => k = w.heap.size ∨ mnFoot ma mc os FN FB k) w1 w2 → StepOkA YAt w.heap.size ca cl cc i O w1 e w2 := by
    rintro e w2 he ⟨ma', mc', os', nv', bv', ns', bs', FN', FB', h', hl', hg⟩ hc
    refine finA e w2 he ⟨_, ra, rc, ps, ma', mc', os', nv', bv', ns', bs', FN', FB', h.onMn h' hg hc, by omega⟩ (hc.mono (fun x _ hx => (hO x).2 ?_))
    rcases hx with e | e
    · have := h.rows.bn; omega
    · have := h.mn.foot_in x e; omega
  -- a call on a market
  have onM : ∀ (n : Nat) (o : MkO), os[n]? = some o → ∀ (e : Ending) w2, (e = .returned (.bool true) ∧ ∃ W, Chg (fun _ => False) w1 W ∧ ∃ m', PairTo YAt W o.y o.r o.F m' w2) → StepOkA YAt w.heap.size ca cl cc i O w1 e w2 := by
    rintro n o ho e w2 ⟨he, W, hW, m', hto⟩
    obtain ⟨os', hlen, h', hg⟩ := h.mn.turned hY ho hW hto
    obtain ⟨F', _, hcF, _⟩ := hto
    exact finM e w2 he ⟨ma, mc, os', nv, bv, ns, bs, FN, FB, h', by omega, hg⟩ ((hW.mono (fun _ _ hx => hx.elim)).trans hcF (fun x hx hxx => .inr (.inl (.inr ⟨n, o, ho, hxx⟩))))
  -- a tick
  have onT : ∀ (n : Nat) (o : MkO), os[n]? = some o → ∀ (e : Ending) w2, (e = .returned (.bool true) ∧ ∃ W, Chg (fun _ => False) w1 W ∧ Ticked YAt W w.heap.size o.y o.r o.F FN (.slice ca cl cc) (.slice ra ps.length rc) (.slice ma os.length mc) bv ns.length w2) → StepOkA YAt w.heap.size ca cl cc i O w1 e w2 := by
    rintro n o ho e w2 ⟨he, W, hW, hto⟩
    obtain ⟨os', nv', ns', FN', hlen, hlen2, h', hg⟩ := h.mn.ticked hY ho hW hto
    obtain ⟨m', F', FN2, nv2, ns2, _, _, _, _, hcF, _⟩ := hto
    refine finM e w2 he ⟨ma, mc, os', nv', bv, ns', bs, FN', FB, h', by omega, hg⟩ ((hW.mono (fun _ _ hx => hx.elim)).trans hcF (fun x hx hxx => ?_))
    rcases hxx with e | e | e
    · exact .inl e
    · exact .inr (.inl (.inr ⟨n, o, ho, e⟩))
    · exact .inr (.inr (.inl e))
  have cell2 := h.mn.ms.box.cell 2
  simp at cell2
  have pickM : os.length ≠ 0 → ∃ (n : Nat) (o : MkO) (gb : Nat), pickZ (S (i * 10 + 1)) os.length = (n : Int) ∧ n < os.length ∧ os[n]? = some o ∧ ma = some ⟨gb, 0, none⟩ ∧ w1.cell? ⟨gb, n * 2, none⟩ = some (.pointer (some ⟨o.y, 0, none⟩)) ∧ w1.cell? ⟨gb, n * 2 + 1, none⟩ = some (.pointer (some ⟨o.r, 0, none⟩)) := by
    intro hm
    obtain ⟨n, hn, hnl⟩ : ∃ n : Nat, pickZ (S (i * 10 + 1)) os.length = (n : Int) ∧ n < os.length := by
      have := pickZ_lt (S (i * 10 + 1)) os.length (by omega)
      exact ⟨(pickZ (S (i * 10 + 1)) os.length).toNat, by omega, by omega⟩
    obtain ⟨o, ho⟩ : ∃ o, os[n]? = some o := ⟨_, List.getElem?_eq_getElem hnl⟩
    obtain ⟨gb, hma⟩ : ∃ gb, ma = some ⟨gb, 0, none⟩ := by
      rcases h.mn.ms.own.2 with ⟨_, h0⟩ | ⟨x, cap, cu, hv, _⟩
      · omega
      · simp only [Value.slice.injEq] at hv
        exact ⟨x, hv.1⟩
    subst hma
    have c0 := h.mn.ms.own.cells (g := gb) rfl (n * 2) _ (mptrs_get0 os n o ho)
    have c1 := h.mn.ms.own.cells (g := gb) rfl (n * 2 + 1) _ (mptrs_get1 os n o ho)
    rw [Addr.add_lit] at c0 c1
    simp only [Nat.zero_add] at c0 c1
    exact ⟨n, o, gb, hn, hnl, ho, rfl, c0, c1⟩
  have pairW : ∀ (n : Nat) (o : MkO), os[n]? = some o → ∀ W, Chg (fun _ => False) w1 W → PairM YAt W o.y o.r o.F o.m := fun n o ho W hW =>
    PairM.frame hY (h.mn.ms.at' n o ho).1 (fun k hk => hW.block k (PairM.lt hY (h.mn.ms.at' n o ho).1 k hk) (fun h => h))
  rcases hp with hk | hk | hk | hk | hk | hk | hk | hk | hk | hk
  · have e : opAt S i = .agg #[.int .i64 6, .int .i64 (S (i * 10 + 1)), .int .i64 (S (i * 10 + 2)), .int .i64 (S (i * 10 + 3)), .int .i64 (S (i * 10 + 4)), .int .i64 (S (i * 10 + 5)), .int .i64 (S (i * 10 + 6)), .int .i64 (S (i * 10 + 7)), .int .i64 (S (i * 10 + 8)), .int .i64 (S (i * 10 + 9))] := by
      unfold opAt; rw [hk]
    rw [e]
    have hcell := h.mn.ms.box.cell 0
    simp at hcell
    rcases hc with rfl | ⟨b0, off, Z, hcl0, rfl, hbl, hZ, _⟩
    · exact (step_open_none w.heap.size cc ca _ _ _ _ ⟨S (i * 10 + 5), S (i * 10 + 6), S (i * 10 + 7), S (i * 10 + 8), S (i * 10 + 9)⟩ w1 hcell).mono quiet
    · have hz : ∀ t, t < cl * 5 → w1.cell? ⟨b0, off + t, none⟩ = some (.int .i64 (Z t)) := fun t ht => by
        rw [hbel.cell (by have := hb.size; show b0 < _; omega), hb.cell (by exact hbl)]
        exact hZ t ht
      obtain ⟨n, hn, hnl⟩ : ∃ n : Nat, pickZ (S (i * 10 + 1)) cl = (n : Int) ∧ n < cl := by
        have := pickZ_lt (S (i * 10 + 1)) cl (by omega)
        exact ⟨(pickZ (S (i * 10 + 1)) cl).toNat, by omega, by omega⟩
      have boxW : ∀ W, Chg (fun _ => False) w1 W → BoxAt W w.heap.size (.slice (some ⟨b0, off, none⟩) cl cc) (.slice ra ps.length rc) (.slice ma os.length mc) nv bv ∧ W.ownsRow 0 56 2 (.slice ma os.length mc) os.length (mptrs os) := fun W hW =>
        ⟨h.mn.ms.box.chg hW (fun h => h), ownsRow_keep h.mn.ms.own (fun k hk => hW.block k ((h.mn.ms.own.lt k hk).2) (fun h => h))⟩
      cases hck : cfgOk ⟨Z (n * 5), Z (n * 5 + 1), Z (n * 5 + 2), Z (n * 5 + 3), Z (n * 5 + 4)⟩
      · refine (step_open_some w.heap.size b0 off cl cc n Z _ _ _ _ ⟨S (i * 10 + 5), S (i * 10 + 6), S (i * 10 + 7), S (i * 10 + 8), S (i * 10 + 9)⟩ w1 (fun W w' => Chg (fun _ => False) W w') hcell hcl0 (by omega) (I 1 (by omega)).1 (I 1 (by omega)).2 hn hnl hz (fun W hW => opened_bad hY w.heap.size _ W hck)).mono ?_
        rintro e w2 ⟨he, W, hW, hq⟩
        exact quiet e w2 ⟨he, hW.trans hq (fun _ _ h => h)⟩
      · refine (step_open_some w.heap.size b0 off cl cc n Z _ _ _ _ ⟨S (i * 10 + 5), S (i * 10 + 6), S (i * 10 + 7), S (i * 10 + 8), S (i * 10 + 9)⟩ w1 (fun W w' => ∃ o, Opened YAt (W.alloc o) w.heap.size os.length ⟨Z (n * 5), Z (n * 5 + 1), Z (n * 5 + 2), Z (n * 5 + 3), Z (n * 5 + 4)⟩ (.slice (some ⟨b0, off, none⟩) cl cc) (.slice ra ps.length rc) (.slice ma os.length mc) nv bv (mptrs os) w') hcell hcl0 (by omega) (I 1 (by omega)).1 (I 1 (by omega)).2 hn hnl hz
          (fun W hW => opened_ok hY w.heap.size os.length _ ma mc _ _ _ _ (mptrs os) W hck (by omega) (boxW W hW).1 (boxW W hW).2)).mono ?_
        rintro e w2 ⟨he, W, hW, o, hop⟩
        obtain ⟨ma', mc', os', hlen, h', hg⟩ := h.mn.added hY (hW.alloc o) hop
        obtain ⟨g, cap, y, r, F, _, _, _, _, _, hcF, _⟩ := hop
        refine finM e w2 he ⟨ma', mc', os', nv, bv, ns, bs, FN, FB, h', by omega, hg⟩ (((hW.alloc o).mono (fun _ _ hx => hx.elim)).trans hcF (fun x hx hxx => ?_))
        rcases hxx with e | e
        · exact .inl e
        · exact .inr (.inl (.inl e))
  · have e : opAt S i = .agg #[.int .i64 7, .int .i64 (S (i * 10 + 1)), .int .i64 (S (i * 10 + 2)), .int .i64 (S (i * 10 + 3)), .int .i64 (S (i * 10 + 4)), .int .i64 (S (i * 10 + 5)), .int .i64 (S (i * 10 + 6)), .int .i64 (S (i * 10 + 7)), .int .i64 (S (i * 10 + 8)), .int .i64 (S (i * 10 + 9))] := by
      unfold opAt; rw [hk]
    rw [e]
    by_cases hm : os.length = 0
    · rw [hm] at cell2
      exact (step_m7_none w.heap.size mc ma _ _ _ _ ⟨S (i * 10 + 5), S (i * 10 + 6), S (i * 10 + 7), S (i * 10 + 8), S (i * 10 + 9)⟩ w1 cell2).mono quiet
    · obtain ⟨n, o, gb, hn, hnl, ho, hma, c0, c1⟩ := pickM hm
      rw [hma] at cell2
      exact (step_m7_some w.heap.size gb os.length mc n o.y o.r _ _ _ _ ⟨S (i * 10 + 5), S (i * 10 + 6), S (i * 10 + 7), S (i * 10 + 8), S (i * 10 + 9)⟩ w1 (fun W w' => ∃ m', PairTo YAt W o.y o.r o.F m' w') cell2 (by omega) hn hnl (I 1 (by omega)).1 (I 1 (by omega)).2 c0 c1 (fun W hW => (bid_submit hY o.y o.r o.F o.m _ _ _ _ ⟨S (i * 10 + 5), S (i * 10 + 6), S (i * 10 + 7), S (i * 10 + 8), S (i * 10 + 9)⟩ W (pairW n o ho W hW) (I 2 (by omega)) (I 3 (by omega)) ⟨I 5 (by omega), I 6 (by omega), I 7 (by omega), I 8 (by omega), I 9 (by omega)⟩).mono (fun e w' ⟨m', he, ht⟩ => ⟨he, m', ht⟩))).mono (onM n o ho)
  · have e : opAt S i = .agg #[.int .i64 8, .int .i64 (S (i * 10 + 1)), .int .i64 (S (i * 10 + 2)), .int .i64 (S (i * 10 + 3)), .int .i64 (S (i * 10 + 4)), .int .i64 (S (i * 10 + 5)), .int .i64 (S (i * 10 + 6)), .int .i64 (S (i * 10 + 7)), .int .i64 (S (i * 10 + 8)), .int .i64 (S (i * 10 + 9))] := by
      unfold opAt; rw [hk]
    rw [e]
    by_cases hm : os.length = 0
    · rw [hm] at cell2
      exact (step_m8_none w.heap.size mc ma _ _ _ _ ⟨S (i * 10 + 5), S (i * 10 + 6), S (i * 10 + 7), S (i * 10 + 8), S (i * 10 + 9)⟩ w1 cell2).mono quiet
    · obtain ⟨n, o, gb, hn, hnl, ho, hma, c0, c1⟩ := pickM hm
      rw [hma] at cell2
      exact (step_m8_some w.heap.size gb os.length mc n o.y o.r _ _ _ _ ⟨S (i * 10 + 5), S (i * 10 + 6), S (i * 10 + 7), S (i * 10 + 8), S (i * 10 + 9)⟩ w1 (fun W w' => ∃ m', PairTo YAt W o.y o.r o.F m' w') cell2 (by omega) hn hnl (I 1 (by omega)).1 (I 1 (by omega)).2 c0 c1 (fun W hW => (bid_cancel hY o.y o.r o.F o.m _ _ _ _ ⟨S (i * 10 + 5), S (i * 10 + 6), S (i * 10 + 7), S (i * 10 + 8), S (i * 10 + 9)⟩ W (pairW n o ho W hW) (I 2 (by omega)) (I 3 (by omega))).mono (fun e w' ⟨m', he, ht⟩ => ⟨he, m', ht⟩))).mono (onM n o ho)
  · have e : opAt S i = .agg #[.int .i64 9, .int .i64 (S (i * 10 + 1)), .int .i64 (S (i * 10 + 2)), .int .i64 (S (i * 10 + 3)), .int .i64 (S (i * 10 + 4)), .int .i64 (S (i * 10 + 5)), .int .i64 (S (i * 10 + 6)), .int .i64 (S (i * 10 + 7)), .int .i64 (S (i * 10 + 8)), .int .i64 (S (i * 10 + 9))] := by
      unfold opAt; rw [hk]
    rw [e]
    by_cases hm : os.length = 0
    · rw [hm] at cell2
      exact (step_m9_none w.heap.size mc ma _ _ _ _ ⟨S (i * 10 + 5), S (i * 10 + 6), S (i * 10 + 7), S (i * 10 + 8), S (i * 10 + 9)⟩ w1 cell2).mono quiet
    · obtain ⟨n, o, gb, hn, hnl, ho, hma, c0, c1⟩ := pickM hm
      rw [hma] at cell2
      exact (step_m9_some w.heap.size gb os.length mc n o.y o.r _ _ _ _ ⟨S (i * 10 + 5), S (i * 10 + 6), S (i * 10 + 7), S (i * 10 + 8), S (i * 10 + 9)⟩ w1 (fun W w' => ∃ m', PairTo YAt W o.y o.r o.F m' w') cell2 (by omega) hn hnl (I 1 (by omega)).1 (I 1 (by omega)).2 c0 c1 (fun W hW => (bid_suspend hY o.y o.r o.F o.m _ _ _ _ ⟨S (i * 10 + 5), S (i * 10 + 6), S (i * 10 + 7), S (i * 10 + 8), S (i * 10 + 9)⟩ W (pairW n o ho W hW) (I 2 (by omega)) (I 3 (by omega))).mono (fun e w' ⟨m', he, ht⟩ => ⟨he, m', ht⟩))).mono (onM n o ho)
  · have e : opAt S i = .agg #[.int .i64 10, .int .i64 (S (i * 10 + 1)), .int .i64 (S (i * 10 + 2)), .int .i64 (S (i * 10 + 3)), .int .i64 (S (i * 10 + 4)), .int .i64 (S (i * 10 + 5)), .int .i64 (S (i * 10 + 6)), .int .i64 (S (i * 10 + 7)), .int .i64 (S (i * 10 + 8)), .int .i64 (S (i * 10 + 9))] := by
      unfold opAt; rw [hk]
    rw [e]
    by_cases hm : os.length = 0
    · rw [hm] at cell2
      exact (step_m10_none w.heap.size mc ma _ _ _ _ ⟨S (i * 10 + 5), S (i * 10 + 6), S (i * 10 + 7), S (i * 10 + 8), S (i * 10 + 9)⟩ w1 cell2).mono quiet
    · obtain ⟨n, o, gb, hn, hnl, ho, hma, c0, c1⟩ := pickM hm
      rw [hma] at cell2
      exact (step_m10_some w.heap.size gb os.length mc n o.y o.r _ _ _ _ ⟨S (i * 10 + 5), S (i * 10 + 6), S (i * 10 + 7), S (i * 10 + 8), S (i * 10 + 9)⟩ w1 (fun W w' => ∃ m', PairTo YAt W o.y o.r o.F m' w') cell2 (by omega) hn hnl (I 1 (by omega)).1 (I 1 (by omega)).2 c0 c1 (fun W hW => (bid_capacity hY o.y o.r o.F o.m _ _ _ _ ⟨S (i * 10 + 5), S (i * 10 + 6), S (i * 10 + 7), S (i * 10 + 8), S (i * 10 + 9)⟩ W (pairW n o ho W hW) (I 2 (by omega)) (I 3 (by omega)) (I 4 (by omega))).mono (fun e w' ⟨m', he, ht⟩ => ⟨he, m', ht⟩))).mono (onM n o ho)
  · have e : opAt S i = .agg #[.int .i64 11, .int .i64 (S (i * 10 + 1)), .int .i64 (S (i * 10 + 2)), .int .i64 (S (i * 10 + 3)), .int .i64 (S (i * 10 + 4)), .int .i64 (S (i * 10 + 5)), .int .i64 (S (i * 10 + 6)), .int .i64 (S (i * 10 + 7)), .int .i64 (S (i * 10 + 8)), .int .i64 (S (i * 10 + 9))] := by
      unfold opAt; rw [hk]
    rw [e]
    by_cases hm : os.length = 0
    · rw [hm] at cell2
      exact (step_m11_none w.heap.size mc ma _ _ _ _ ⟨S (i * 10 + 5), S (i * 10 + 6), S (i * 10 + 7), S (i * 10 + 8), S (i * 10 + 9)⟩ w1 cell2).mono quiet
    · obtain ⟨n, o, gb, hn, hnl, ho, hma, c0, c1⟩ := pickM hm
      rw [hma] at cell2
      exact (step_m11_some w.heap.size gb os.length mc n o.y o.r _ _ _ _ ⟨S (i * 10 + 5), S (i * 10 + 6), S (i * 10 + 7), S (i * 10 + 8), S (i * 10 + 9)⟩ w1 (fun W w' => ∃ m', PairTo YAt W o.y o.r o.F m' w') cell2 (by omega) hn hnl (I 1 (by omega)).1 (I 1 (by omega)).2 c0 c1 (fun W hW => (looked_now hY o.y o.r o.F o.m _ _ _ _ ⟨S (i * 10 + 5), S (i * 10 + 6), S (i * 10 + 7), S (i * 10 + 8), S (i * 10 + 9)⟩ W (pairW n o ho W hW)).mono (fun e w' ⟨he, ht⟩ => ⟨he, _, ht⟩))).mono (onM n o ho)
  · have e : opAt S i = .agg #[.int .i64 12, .int .i64 (S (i * 10 + 1)), .int .i64 (S (i * 10 + 2)), .int .i64 (S (i * 10 + 3)), .int .i64 (S (i * 10 + 4)), .int .i64 (S (i * 10 + 5)), .int .i64 (S (i * 10 + 6)), .int .i64 (S (i * 10 + 7)), .int .i64 (S (i * 10 + 8)), .int .i64 (S (i * 10 + 9))] := by
      unfold opAt; rw [hk]
    rw [e]
    by_cases hm : os.length = 0
    · rw [hm] at cell2
      exact (step_m12_none w.heap.size mc ma _ _ _ _ ⟨S (i * 10 + 5), S (i * 10 + 6), S (i * 10 + 7), S (i * 10 + 8), S (i * 10 + 9)⟩ w1 cell2).mono quiet
    · obtain ⟨n, o, gb, hn, hnl, ho, hma, c0, c1⟩ := pickM hm
      rw [hma] at cell2
      exact (step_m12_some w.heap.size gb os.length mc n o.y o.r _ _ _ _ ⟨S (i * 10 + 5), S (i * 10 + 6), S (i * 10 + 7), S (i * 10 + 8), S (i * 10 + 9)⟩ w1 (fun W w' => ∃ m', PairTo YAt W o.y o.r o.F m' w') cell2 (by omega) hn hnl (I 1 (by omega)).1 (I 1 (by omega)).2 c0 c1 (fun W hW => (looked_left hY o.y o.r o.F o.m _ _ _ _ ⟨S (i * 10 + 5), S (i * 10 + 6), S (i * 10 + 7), S (i * 10 + 8), S (i * 10 + 9)⟩ W (pairW n o ho W hW)).mono (fun e w' ⟨he, ht⟩ => ⟨he, _, ht⟩))).mono (onM n o ho)
  · have e : opAt S i = .agg #[.int .i64 13, .int .i64 (S (i * 10 + 1)), .int .i64 (S (i * 10 + 2)), .int .i64 (S (i * 10 + 3)), .int .i64 (S (i * 10 + 4)), .int .i64 (S (i * 10 + 5)), .int .i64 (S (i * 10 + 6)), .int .i64 (S (i * 10 + 7)), .int .i64 (S (i * 10 + 8)), .int .i64 (S (i * 10 + 9))] := by
      unfold opAt; rw [hk]
    rw [e]
    by_cases hm : os.length = 0
    · rw [hm] at cell2
      exact (step_m13_none w.heap.size mc ma _ _ _ _ ⟨S (i * 10 + 5), S (i * 10 + 6), S (i * 10 + 7), S (i * 10 + 8), S (i * 10 + 9)⟩ w1 cell2).mono quiet
    · obtain ⟨n, o, gb, hn, hnl, ho, hma, c0, c1⟩ := pickM hm
      rw [hma] at cell2
      exact (step_m13_some w.heap.size gb os.length mc n o.y o.r _ _ _ _ ⟨S (i * 10 + 5), S (i * 10 + 6), S (i * 10 + 7), S (i * 10 + 8), S (i * 10 + 9)⟩ w1 (fun W w' => ∃ m', PairTo YAt W o.y o.r o.F m' w') cell2 (by omega) hn hnl (I 1 (by omega)).1 (I 1 (by omega)).2 c0 c1 (fun W hW => (looked_look hY o.y o.r o.F o.m _ _ _ _ ⟨S (i * 10 + 5), S (i * 10 + 6), S (i * 10 + 7), S (i * 10 + 8), S (i * 10 + 9)⟩ W (pairW n o ho W hW) (I 2 (by omega)) (I 3 (by omega))).mono (fun e w' ⟨he, ht⟩ => ⟨he, _, ht⟩))).mono (onM n o ho)
  · have e : opAt S i = .agg #[.int .i64 14, .int .i64 (S (i * 10 + 1)), .int .i64 (S (i * 10 + 2)), .int .i64 (S (i * 10 + 3)), .int .i64 (S (i * 10 + 4)), .int .i64 (S (i * 10 + 5)), .int .i64 (S (i * 10 + 6)), .int .i64 (S (i * 10 + 7)), .int .i64 (S (i * 10 + 8)), .int .i64 (S (i * 10 + 9))] := by
      unfold opAt; rw [hk]
    rw [e]
    by_cases hm : os.length = 0
    · rw [hm] at cell2
      exact (step_m14_none w.heap.size mc ma _ _ _ _ ⟨S (i * 10 + 5), S (i * 10 + 6), S (i * 10 + 7), S (i * 10 + 8), S (i * 10 + 9)⟩ w1 cell2).mono quiet
    · obtain ⟨n, o, gb, hn, hnl, ho, hma, c0, c1⟩ := pickM hm
      rw [hma] at cell2
      exact (step_m14_some w.heap.size gb os.length mc n o.y o.r _ _ _ _ ⟨S (i * 10 + 5), S (i * 10 + 6), S (i * 10 + 7), S (i * 10 + 8), S (i * 10 + 9)⟩ w1 (fun W w' => ∃ m', PairTo YAt W o.y o.r o.F m' w') cell2 (by omega) hn hnl (I 1 (by omega)).1 (I 1 (by omega)).2 c0 c1 (fun W hW => (looked_free hY o.y o.r o.F o.m _ _ _ _ ⟨S (i * 10 + 5), S (i * 10 + 6), S (i * 10 + 7), S (i * 10 + 8), S (i * 10 + 9)⟩ W (pairW n o ho W hW) (I 2 (by omega))).mono (fun e w' ⟨he, ht⟩ => ⟨he, _, ht⟩))).mono (onM n o ho)
  · have e : opAt S i = .agg #[.int .i64 15, .int .i64 (S (i * 10 + 1)), .int .i64 (S (i * 10 + 2)), .int .i64 (S (i * 10 + 3)), .int .i64 (S (i * 10 + 4)), .int .i64 (S (i * 10 + 5)), .int .i64 (S (i * 10 + 6)), .int .i64 (S (i * 10 + 7)), .int .i64 (S (i * 10 + 8)), .int .i64 (S (i * 10 + 9))] := by
      unfold opAt; rw [hk]
    rw [e]
    by_cases hm : os.length = 0
    · rw [hm] at cell2
      exact (step_m15_none w.heap.size mc ma _ _ _ _ ⟨S (i * 10 + 5), S (i * 10 + 6), S (i * 10 + 7), S (i * 10 + 8), S (i * 10 + 9)⟩ w1 cell2).mono quiet
    · obtain ⟨n, o, gb, hn, hnl, ho, hma, c0, c1⟩ := pickM hm
      rw [hma] at cell2
      have a2 := (h.mn.ms.at' n o ho).2.1
      exact (step_m15_some w.heap.size gb os.length mc n o.y o.r _ _ _ _ ⟨S (i * 10 + 5), S (i * 10 + 6), S (i * 10 + 7), S (i * 10 + 8), S (i * 10 + 9)⟩ w1 (fun W w' => Ticked YAt W w.heap.size o.y o.r o.F FN (.slice ca cl cc) (.slice ra ps.length rc) (.slice ma os.length mc) bv ns.length w') cell2 (by omega) hn hnl (I 1 (by omega)).1 (I 1 (by omega)).2 c0 c1 (fun W hW => ticked_any hY hT w.heap.size o.y o.r o.F FN o.m _ _ _ nv bv ns W (pairW n o ho W hW) (h.mn.ms.box.chg hW (fun h => h)) (h.mn.names.chg0 hW) h.mn.evn (by omega) (fun k hk hf => (h.mn.fn k hf).2.2.2 (.inr ⟨n, o, ho, hk⟩)) (fun hf => by have := a2 _ hf; omega) (fun hf => by have := h.mn.fn _ hf; omega))).mono (onT n o ho)

/-- a step of a kind from 16 to 20 -/
theorem stepA2 {YAt : World → Nat → (Nat → Prop) → MkG → Prop} (hY : YardSpec YAt) (hP : PaidY YAt) (w w0 : World) (ca : Option Addr) (cl cc slen : Nat) (S : Nat → Int) (hw : ∀ t, t < slen * 10 → IsI64 (S t)) (hsl : slen < 1759218604391) (_ : Below w0.heap.size w0 w) (_ : IntRows w0 5 ca cl) (_ : cl < 5000000000000)
    (i : Nat) (hi : i < slen) (hp : S (i * 10) = 16 ∨ S (i * 10) = 17 ∨ S (i * 10) = 18 ∨ S (i * 10) = 19 ∨ S (i * 10) = 20) (O : Nat → Prop) (w1 : World) (hI : InvA YAt w.heap.size ca cl cc i O w1) (_ : Below w.heap.size w w1) :
    Calls Tryz.prog 11 #[.pointer (some ⟨w.heap.size, 0, none⟩), opAt S i] w1 (StepOkA YAt w.heap.size ca cl cc i O w1) := by
  obtain ⟨N, ra, rc, ps, ma, mc, os, nv, bv, ns, bs, FN, FB, h, hl, hO⟩ := hI
  have I := fun f (hf : f < 10) => i64_ofA (hw (i * 10 + f) (by omega))
  have finA : ∀ (e : Ending) w2, e = .returned (.bool true) → (∃ N' ra' rc' ps' ma' mc' os' nv' bv' ns' bs' FN' FB', AllAt YAt w.heap.size N' ca cl cc ra' rc' ps' ma' mc' os' nv' bv' ns' bs' FN' FB' w2 ∧ (ps'.length ≤ i + 1 ∧ os'.length ≤ i + 1 ∧ ns'.length ≤ 2 * (i + 1) ∧ bs'.length ≤ 2 * (i + 1))) → Chg O w1 w2 → StepOkA YAt w.heap.size ca cl cc i O w1 e w2 := by
    rintro e w2 rfl ⟨N', ra', rc', ps', ma', mc', os', nv', bv', ns', bs', FN', FB', h', hl'⟩ hc
    exact ⟨fun k => w.heap.size ≤ k ∧ k < N', rfl, ⟨N', ra', rc', ps', ma', mc', os', nv', bv', ns', bs', FN', FB', h', hl', fun _ => Iff.rfl⟩, hc⟩
  have quiet : ∀ (e : Ending) w2, (e = .returned (.bool true) ∧ Chg (fun _ => False) w1 w2) → StepOkA YAt w.heap.size ca cl cc i O w1 e w2 := by
    rintro e w2 ⟨he, hq⟩
    exact finA e w2 he ⟨N, ra, rc, ps, ma, mc, os, nv, bv, ns, bs, FN, FB, h.frame hY (fun k _ h2 => hq.block k (by have := h.rows.nw; omega) (fun hn => hn)) hq.size, by omega⟩ (hq.mono (fun _ _ hx => hx.elim))
  have finM : ∀ (e : Ending) w2, e = .returned (.bool true) → (∃ ma' mc' os' nv' bv' ns' bs' FN' FB', MNAt YAt w.heap.size w2.heap.size (.slice ca cl cc) (.slice ra ps.length rc) ma' mc' os' nv' bv' ns' bs' FN' FB' w2 ∧ (os'.length ≤ i + 1 ∧ ns'.length ≤ 2 * (i + 1) ∧ bs'.length ≤ 2 * (i + 1)) ∧ ∀ k, mnFoot ma' mc' os' FN' FB' k → mnFoot ma mc os FN FB k ∨ w1.heap.size ≤ k) → Chg (fun k => k = w.heap.size ∨ mnFoot ma mc os FN FB k) w1 w2 → StepOkA YAt w.heap.size ca cl cc i O w1 e w2 := by
    rintro e w2 he ⟨ma', mc', os', nv', bv', ns', bs', FN', FB', h', hl', hg⟩ hc
    refine finA e w2 he ⟨_, ra, rc, ps, ma', mc', os', nv', bv', ns', bs', FN', FB', h.onMn h' hg hc, by omega⟩ (hc.mono (fun x _ hx => (hO x).2 ?_))
    rcases hx with e | e
    · have := h.rows.bn; omega
    · have := h.mn.foot_in x e; omega
  -- a call on a market
  have onM : ∀ (n : Nat) (o : MkO), os[n]? = some o → ∀ (e : Ending) w2, (e = .returned (.bool true) ∧ ∃ W, Chg (fun _ => False) w1 W ∧ ∃ m', PairTo YAt W o.y o.r o.F m' w2) → StepOkA YAt w.heap.size ca cl cc i O w1 e w2 := by
    rintro n o ho e w2 ⟨he, W, hW, m', hto⟩
    obtain ⟨os', hlen, h', hg⟩ := h.mn.turned hY ho hW hto
    obtain ⟨F', _, hcF, _⟩ := hto
    exact finM e w2 he ⟨ma, mc, os', nv, bv, ns, bs, FN, FB, h', by omega, hg⟩ ((hW.mono (fun _ _ hx => hx.elim)).trans hcF (fun x hx hxx => .inr (.inl (.inr ⟨n, o, ho, hxx⟩))))
  -- a list of invoices
  have onB : ∀ (n : Nat) (o : MkO), os[n]? = some o → ∀ (e : Ending) w2, (e = .returned (.bool true) ∧ ∃ W, Chg (fun _ => False) w1 W ∧ PaidL YAt W w.heap.size o.y o.r o.F FB (.slice ca cl cc) (.slice ra ps.length rc) (.slice ma os.length mc) nv bs.length w2) → StepOkA YAt w.heap.size ca cl cc i O w1 e w2 := by
    rintro n o ho e w2 ⟨he, W, hW, hto⟩
    obtain ⟨os', bv', bs', FB', hlen, hlen2, h', hg⟩ := h.mn.billed hY ho hW hto
    obtain ⟨m', F', FB2, bv2, bs2, _, _, _, _, hcF, _⟩ := hto
    refine finM e w2 he ⟨ma, mc, os', nv, bv', ns, bs', FN, FB', h', by omega, hg⟩ ((hW.mono (fun _ _ hx => hx.elim)).trans hcF (fun x hx hxx => ?_))
    rcases hxx with e | e | e
    · exact .inl e
    · exact .inr (.inl (.inr ⟨n, o, ho, e⟩))
    · exact .inr (.inr (.inr e))
  have cell2 := h.mn.ms.box.cell 2
  simp at cell2
  have pickM : os.length ≠ 0 → ∃ (n : Nat) (o : MkO) (gb : Nat), pickZ (S (i * 10 + 1)) os.length = (n : Int) ∧ n < os.length ∧ os[n]? = some o ∧ ma = some ⟨gb, 0, none⟩ ∧ w1.cell? ⟨gb, n * 2, none⟩ = some (.pointer (some ⟨o.y, 0, none⟩)) ∧ w1.cell? ⟨gb, n * 2 + 1, none⟩ = some (.pointer (some ⟨o.r, 0, none⟩)) := by
    intro hm
    obtain ⟨n, hn, hnl⟩ : ∃ n : Nat, pickZ (S (i * 10 + 1)) os.length = (n : Int) ∧ n < os.length := by
      have := pickZ_lt (S (i * 10 + 1)) os.length (by omega)
      exact ⟨(pickZ (S (i * 10 + 1)) os.length).toNat, by omega, by omega⟩
    obtain ⟨o, ho⟩ : ∃ o, os[n]? = some o := ⟨_, List.getElem?_eq_getElem hnl⟩
    obtain ⟨gb, hma⟩ : ∃ gb, ma = some ⟨gb, 0, none⟩ := by
      rcases h.mn.ms.own.2 with ⟨_, h0⟩ | ⟨x, cap, cu, hv, _⟩
      · omega
      · simp only [Value.slice.injEq] at hv
        exact ⟨x, hv.1⟩
    subst hma
    have c0 := h.mn.ms.own.cells (g := gb) rfl (n * 2) _ (mptrs_get0 os n o ho)
    have c1 := h.mn.ms.own.cells (g := gb) rfl (n * 2 + 1) _ (mptrs_get1 os n o ho)
    rw [Addr.add_lit] at c0 c1
    simp only [Nat.zero_add] at c0 c1
    exact ⟨n, o, gb, hn, hnl, ho, rfl, c0, c1⟩
  have pairW : ∀ (n : Nat) (o : MkO), os[n]? = some o → ∀ W, Chg (fun _ => False) w1 W → PairM YAt W o.y o.r o.F o.m := fun n o ho W hW =>
    PairM.frame hY (h.mn.ms.at' n o ho).1 (fun k hk => hW.block k (PairM.lt hY (h.mn.ms.at' n o ho).1 k hk) (fun h => h))
  rcases hp with hk | hk | hk | hk | hk
  · have e : opAt S i = .agg #[.int .i64 16, .int .i64 (S (i * 10 + 1)), .int .i64 (S (i * 10 + 2)), .int .i64 (S (i * 10 + 3)), .int .i64 (S (i * 10 + 4)), .int .i64 (S (i * 10 + 5)), .int .i64 (S (i * 10 + 6)), .int .i64 (S (i * 10 + 7)), .int .i64 (S (i * 10 + 8)), .int .i64 (S (i * 10 + 9))] := by
      unfold opAt; rw [hk]
    rw [e]
    by_cases hm : os.length = 0
    · rw [hm] at cell2
      exact (step_m16_none w.heap.size mc ma _ _ _ _ ⟨S (i * 10 + 5), S (i * 10 + 6), S (i * 10 + 7), S (i * 10 + 8), S (i * 10 + 9)⟩ w1 cell2).mono quiet
    · obtain ⟨n, o, gb, hn, hnl, ho, hma, c0, c1⟩ := pickM hm
      rw [hma] at cell2
      exact (step_m16_some w.heap.size gb os.length mc n o.y o.r _ _ _ _ ⟨S (i * 10 + 5), S (i * 10 + 6), S (i * 10 + 7), S (i * 10 + 8), S (i * 10 + 9)⟩ w1 (fun W w' => ∃ m', PairTo YAt W o.y o.r o.F m' w') cell2 (by omega) hn hnl (I 1 (by omega)).1 (I 1 (by omega)).2 c0 c1 (fun W hW => (paid_price hY hP w.heap.size o.y o.r o.F o.m _ _ _ _ ⟨S (i * 10 + 5), S (i * 10 + 6), S (i * 10 + 7), S (i * 10 + 8), S (i * 10 + 9)⟩ W (pairW n o ho W hW) (I 2 (by omega)) (I 3 (by omega))).mono (fun e w' ⟨he, ht⟩ => ⟨he, _, ht⟩))).mono (onM n o ho)
  · have e : opAt S i = .agg #[.int .i64 17, .int .i64 (S (i * 10 + 1)), .int .i64 (S (i * 10 + 2)), .int .i64 (S (i * 10 + 3)), .int .i64 (S (i * 10 + 4)), .int .i64 (S (i * 10 + 5)), .int .i64 (S (i * 10 + 6)), .int .i64 (S (i * 10 + 7)), .int .i64 (S (i * 10 + 8)), .int .i64 (S (i * 10 + 9))] := by
      unfold opAt; rw [hk]
    rw [e]
    by_cases hm : os.length = 0
    · rw [hm] at cell2
      exact (step_m17_none w.heap.size mc ma _ _ _ _ ⟨S (i * 10 + 5), S (i * 10 + 6), S (i * 10 + 7), S (i * 10 + 8), S (i * 10 + 9)⟩ w1 cell2).mono quiet
    · obtain ⟨n, o, gb, hn, hnl, ho, hma, c0, c1⟩ := pickM hm
      rw [hma] at cell2
      have a2 := (h.mn.ms.at' n o ho).2.1
      exact (step_m17_some w.heap.size gb os.length mc n o.y o.r _ _ _ _ ⟨S (i * 10 + 5), S (i * 10 + 6), S (i * 10 + 7), S (i * 10 + 8), S (i * 10 + 9)⟩ w1 (fun W w' => PaidL YAt W w.heap.size o.y o.r o.F FB (.slice ca cl cc) (.slice ra ps.length rc) (.slice ma os.length mc) nv bs.length w') cell2 (by omega) hn hnl (I 1 (by omega)).1 (I 1 (by omega)).2 c0 c1 (fun W hW => paid_bill hY hP w.heap.size o.y o.r o.F o.m _ _ _ _ ⟨S (i * 10 + 5), S (i * 10 + 6), S (i * 10 + 7), S (i * 10 + 8), S (i * 10 + 9)⟩ W (pairW n o ho W hW) FB _ _ _ nv bv bs (h.mn.ms.box.chg hW (fun h => h)) (h.mn.bills.chg0 hW) h.mn.evb (by omega) (fun k hk hf => (h.mn.fb k hf).2.2 (.inr ⟨n, o, ho, hk⟩)) (fun hf => by have := a2 _ hf; omega) (fun hf => by have := h.mn.fb _ hf; omega))).mono (onB n o ho)
  · have e : opAt S i = .agg #[.int .i64 18, .int .i64 (S (i * 10 + 1)), .int .i64 (S (i * 10 + 2)), .int .i64 (S (i * 10 + 3)), .int .i64 (S (i * 10 + 4)), .int .i64 (S (i * 10 + 5)), .int .i64 (S (i * 10 + 6)), .int .i64 (S (i * 10 + 7)), .int .i64 (S (i * 10 + 8)), .int .i64 (S (i * 10 + 9))] := by
      unfold opAt; rw [hk]
    rw [e]
    by_cases hm : os.length = 0
    · rw [hm] at cell2
      exact (step_m18_none w.heap.size mc ma _ _ _ _ ⟨S (i * 10 + 5), S (i * 10 + 6), S (i * 10 + 7), S (i * 10 + 8), S (i * 10 + 9)⟩ w1 cell2).mono quiet
    · obtain ⟨n, o, gb, hn, hnl, ho, hma, c0, c1⟩ := pickM hm
      rw [hma] at cell2
      exact (step_m18_some w.heap.size gb os.length mc n o.y o.r _ _ _ _ ⟨S (i * 10 + 5), S (i * 10 + 6), S (i * 10 + 7), S (i * 10 + 8), S (i * 10 + 9)⟩ w1 (fun W w' => ∃ m', PairTo YAt W o.y o.r o.F m' w') cell2 (by omega) hn hnl (I 1 (by omega)).1 (I 1 (by omega)).2 c0 c1 (fun W hW => (paid_pay hY hP w.heap.size o.y o.r o.F o.m _ _ _ _ ⟨S (i * 10 + 5), S (i * 10 + 6), S (i * 10 + 7), S (i * 10 + 8), S (i * 10 + 9)⟩ W (pairW n o ho W hW) (I 2 (by omega)) (I 3 (by omega))).mono (fun e w' ⟨m', he, ht⟩ => ⟨he, m', ht⟩))).mono (onM n o ho)
  · have e : opAt S i = .agg #[.int .i64 19, .int .i64 (S (i * 10 + 1)), .int .i64 (S (i * 10 + 2)), .int .i64 (S (i * 10 + 3)), .int .i64 (S (i * 10 + 4)), .int .i64 (S (i * 10 + 5)), .int .i64 (S (i * 10 + 6)), .int .i64 (S (i * 10 + 7)), .int .i64 (S (i * 10 + 8)), .int .i64 (S (i * 10 + 9))] := by
      unfold opAt; rw [hk]
    rw [e]
    by_cases hm : os.length = 0
    · rw [hm] at cell2
      exact (step_m19_none w.heap.size mc ma _ _ _ _ ⟨S (i * 10 + 5), S (i * 10 + 6), S (i * 10 + 7), S (i * 10 + 8), S (i * 10 + 9)⟩ w1 cell2).mono quiet
    · obtain ⟨n, o, gb, hn, hnl, ho, hma, c0, c1⟩ := pickM hm
      rw [hma] at cell2
      exact (step_m19_some w.heap.size gb os.length mc n o.y o.r _ _ _ _ ⟨S (i * 10 + 5), S (i * 10 + 6), S (i * 10 + 7), S (i * 10 + 8), S (i * 10 + 9)⟩ w1 (fun W w' => ∃ m', PairTo YAt W o.y o.r o.F m' w') cell2 (by omega) hn hnl (I 1 (by omega)).1 (I 1 (by omega)).2 c0 c1 (fun W hW => (paid_balance hY hP w.heap.size o.y o.r o.F o.m _ _ _ _ ⟨S (i * 10 + 5), S (i * 10 + 6), S (i * 10 + 7), S (i * 10 + 8), S (i * 10 + 9)⟩ W (pairW n o ho W hW) (I 2 (by omega))).mono (fun e w' ⟨he, ht⟩ => ⟨he, _, ht⟩))).mono (onM n o ho)
  · have e : opAt S i = .agg #[.int .i64 20, .int .i64 (S (i * 10 + 1)), .int .i64 (S (i * 10 + 2)), .int .i64 (S (i * 10 + 3)), .int .i64 (S (i * 10 + 4)), .int .i64 (S (i * 10 + 5)), .int .i64 (S (i * 10 + 6)), .int .i64 (S (i * 10 + 7)), .int .i64 (S (i * 10 + 8)), .int .i64 (S (i * 10 + 9))] := by
      unfold opAt; rw [hk]
    rw [e]
    by_cases hm : os.length = 0
    · rw [hm] at cell2
      exact (step_m20_none w.heap.size mc ma _ _ _ _ ⟨S (i * 10 + 5), S (i * 10 + 6), S (i * 10 + 7), S (i * 10 + 8), S (i * 10 + 9)⟩ w1 cell2).mono quiet
    · obtain ⟨n, o, gb, hn, hnl, ho, hma, c0, c1⟩ := pickM hm
      rw [hma] at cell2
      have a2 := (h.mn.ms.at' n o ho).2.1
      exact (step_m20_some w.heap.size gb os.length mc n o.y o.r _ _ _ _ ⟨S (i * 10 + 5), S (i * 10 + 6), S (i * 10 + 7), S (i * 10 + 8), S (i * 10 + 9)⟩ w1 (fun W w' => PaidL YAt W w.heap.size o.y o.r o.F FB (.slice ca cl cc) (.slice ra ps.length rc) (.slice ma os.length mc) nv bs.length w') cell2 (by omega) hn hnl (I 1 (by omega)).1 (I 1 (by omega)).2 c0 c1 (fun W hW => paid_invoices hY hP w.heap.size o.y o.r o.F o.m _ _ _ _ ⟨S (i * 10 + 5), S (i * 10 + 6), S (i * 10 + 7), S (i * 10 + 8), S (i * 10 + 9)⟩ W (pairW n o ho W hW) FB _ _ _ nv bv bs (h.mn.ms.box.chg hW (fun h => h)) (h.mn.bills.chg0 hW) h.mn.evb (by omega) (fun k hk hf => (h.mn.fb k hf).2.2 (.inr ⟨n, o, ho, hk⟩)) (fun hf => by have := a2 _ hf; omega) (fun hf => by have := h.mn.fb _ hf; omega) (I 2 (by omega)))).mono (onB n o ho)

/-- a step of a kind from 1 to 5 -/
theorem stepA0 {YAt : World → Nat → (Nat → Prop) → MkG → Prop} (hY : YardSpec YAt) (w w0 : World) (ca : Option Addr) (cl cc slen : Nat) (S : Nat → Int) (hw : ∀ t, t < slen * 10 → IsI64 (S t)) (hsl : slen < 1759218604391) (hb : Below w0.heap.size w0 w) (hc : IntRows w0 5 ca cl) (hcl : cl < 5000000000000)
    (i : Nat) (hi : i < slen) (hp : S (i * 10) = 1 ∨ S (i * 10) = 2 ∨ S (i * 10) = 3 ∨ S (i * 10) = 4 ∨ S (i * 10) = 5) (O : Nat → Prop) (w1 : World) (hI : InvA YAt w.heap.size ca cl cc i O w1) (hbel : Below w.heap.size w w1) :
    Calls Tryz.prog 11 #[.pointer (some ⟨w.heap.size, 0, none⟩), opAt S i] w1 (StepOkA YAt w.heap.size ca cl cc i O w1) := by
  obtain ⟨N, ra, rc, ps, ma, mc, os, nv, bv, ns, bs, FN, FB, h, hl, hO⟩ := hI
  have I := fun f (hf : f < 10) => i64_ofA (hw (i * 10 + f) (by omega))
  have finA : ∀ (e : Ending) w2, e = .returned (.bool true) → (∃ N' ra' rc' ps' ma' mc' os' nv' bv' ns' bs' FN' FB', AllAt YAt w.heap.size N' ca cl cc ra' rc' ps' ma' mc' os' nv' bv' ns' bs' FN' FB' w2 ∧ (ps'.length ≤ i + 1 ∧ os'.length ≤ i + 1 ∧ ns'.length ≤ 2 * (i + 1) ∧ bs'.length ≤ 2 * (i + 1))) → Chg O w1 w2 → StepOkA YAt w.heap.size ca cl cc i O w1 e w2 := by
    rintro e w2 rfl ⟨N', ra', rc', ps', ma', mc', os', nv', bv', ns', bs', FN', FB', h', hl'⟩ hc
    exact ⟨fun k => w.heap.size ≤ k ∧ k < N', rfl, ⟨N', ra', rc', ps', ma', mc', os', nv', bv', ns', bs', FN', FB', h', hl', fun _ => Iff.rfl⟩, hc⟩
  have quiet : ∀ (e : Ending) w2, (e = .returned (.bool true) ∧ Chg (fun _ => False) w1 w2) → StepOkA YAt w.heap.size ca cl cc i O w1 e w2 := by
    rintro e w2 ⟨he, hq⟩
    exact finA e w2 he ⟨N, ra, rc, ps, ma, mc, os, nv, bv, ns, bs, FN, FB, h.frame hY (fun k _ h2 => hq.block k (by have := h.rows.nw; omega) (fun hn => hn)) hq.size, by omega⟩ (hq.mono (fun _ _ hx => hx.elim))
  have finR : ∀ (e : Ending) w2, e = .returned (.bool true) → (∃ N' ra' rc' ps', RowsAt w.heap.size N' ca cl cc (.slice ma os.length mc) nv bv ra' rc' ps' w2 ∧ N ≤ N' ∧ ps'.length ≤ i + 1 ∧ ∀ k, rwFoot ra' rc' ps' k → rwFoot ra rc ps k ∨ w1.heap.size ≤ k) → Chg (fun k => k = w.heap.size ∨ rwFoot ra rc ps k) w1 w2 → StepOkA YAt w.heap.size ca cl cc i O w1 e w2 := by
    rintro e w2 he ⟨N', ra', rc', ps', h', hN, hl', hg⟩ hc
    refine finA e w2 he ⟨N', ra', rc', ps', ma, mc, os, nv, bv, ns, bs, FN, FB, h.onRow hY h' hN hg hc, by omega⟩ (hc.mono (fun x _ hx => (hO x).2 ?_))
    rcases hx with e | e
    · have := h.rows.bn; omega
    · have := h.rows.foot_in x e; omega
  have ha := hw (i * 10 + 1) (by omega)
  have hb' := hw (i * 10 + 2) (by omega)
  rcases hp with hk | hk | hk | hk | hk
  · have e : opAt S i = .agg #[.int .i64 1, .int .i64 (S (i * 10 + 1)), .int .i64 (S (i * 10 + 2)), .int .i64 (S (i * 10 + 3)), .int .i64 (S (i * 10 + 4)), .int .i64 (S (i * 10 + 5)), .int .i64 (S (i * 10 + 6)), .int .i64 (S (i * 10 + 7)), .int .i64 (S (i * 10 + 8)), .int .i64 (S (i * 10 + 9))] := by
      unfold opAt; rw [hk]
    rw [e]
    have hcell := h.rows.box.cell 0
    simp at hcell
    rcases hc with rfl | ⟨b, off, Z, hcl0, rfl, hbl, hZ, _⟩
    · exact (step_check_none w.heap.size cc ca _ _ _ _ _ _ _ _ _ w1 hcell).mono quiet
    · have hz : ∀ t, t < cl * 5 → w1.cell? ⟨b, off + t, none⟩ = some (.int .i64 (Z t)) := fun t ht => by
        rw [hbel.cell (by have := hb.size; show b < _; omega), hb.cell (by exact hbl)]
        exact hZ t ht
      exact (step_check_some w.heap.size b off cl cc Z _ _ _ _ _ _ _ _ _ w1 hcell hcl0 (by omega) ha.1 ha.2 hz).mono quiet
  · have e : opAt S i = .agg #[.int .i64 2, .int .i64 (S (i * 10 + 1)), .int .i64 (S (i * 10 + 2)), .int .i64 (S (i * 10 + 3)), .int .i64 (S (i * 10 + 4)), .int .i64 (S (i * 10 + 5)), .int .i64 (S (i * 10 + 6)), .int .i64 (S (i * 10 + 7)), .int .i64 (S (i * 10 + 8)), .int .i64 (S (i * 10 + 9))] := by
      unfold opAt; rw [hk]
    rw [e]
    generalize S (i * 10 + 1) = n0 at *
    generalize S (i * 10 + 2) = v0 at *
    have hr := h.rows
    cases hnew : newB n0 v0
    · obtain ⟨n1, n2, n3⟩ := newB_false hnew
      obtain ⟨n, rfl⟩ := Int.eq_ofNat_of_zero_le (show 0 ≤ n0 by omega)
      have hf : ∀ o, RowsAt w.heap.size N ca cl cc (.slice ma os.length mc) nv bv ra rc ps (w1.alloc o) := fun o => hr.frame (fun k _ h2 => Below.heap_alloc _ _ _ (by have := hr.nw; omega)) (by simp)
      refine (step_row w.heap.size n v0 _ _ _ _ _ _ _ w1 (fun wa w' => Rowed wa w.heap.size n ps.length v0 (.slice ca cl cc) (.slice ra ps.length rc) (.slice ma os.length mc) nv bv (ptrs ps) w') (fun o => rowed_ok w.heap.size n ps.length v0 ra rc _ _ _ _ (ptrs ps) (w1.alloc o) (by omega) (by omega) n3 (by omega) (hf o).box (hf o).own)).mono ?_
      rintro e w2 ⟨o, he, hro⟩
      obtain ⟨ra', rc', ps', hlen, h', hg⟩ := (hf o).added hro
      obtain ⟨_, _, _, _, _, _, _, _, _, _, _, _, _, hc, _⟩ := hro
      have hs := hc.size
      refine finR e w2 he ⟨_, ra', rc', ps', h', by have := hr.nw; simp at hs; omega, by omega, fun k hk => ?_⟩ (((Chg.refl _ w1).alloc o).trans hc (fun x hx hxx => ?_))
      · rcases hg k hk with e | e
        · exact .inl e
        · exact .inr (by simp at e; omega)
      · rcases hxx with e | e
        · exact .inl e
        · exact .inr (.inl e)
    · refine (step_row w.heap.size n0 v0 _ _ _ _ _ _ _ w1 (fun wa w' => w' = wa) (fun o => rowed_bad w.heap.size n0 v0 _ hnew)).mono ?_
      rintro e w2 ⟨o, he, rfl⟩
      exact quiet e _ ⟨he, (Chg.refl _ _).alloc _⟩
  · have e : opAt S i = .agg #[.int .i64 3, .int .i64 (S (i * 10 + 1)), .int .i64 (S (i * 10 + 2)), .int .i64 (S (i * 10 + 3)), .int .i64 (S (i * 10 + 4)), .int .i64 (S (i * 10 + 5)), .int .i64 (S (i * 10 + 6)), .int .i64 (S (i * 10 + 7)), .int .i64 (S (i * 10 + 8)), .int .i64 (S (i * 10 + 9))] := by
      unfold opAt; rw [hk]
    rw [e]
    have hcell := h.rows.box.cell 1
    simp at hcell
    by_cases hm : ps.length = 0
    · rw [hm] at hcell
      exact (step_add_none w.heap.size rc ra _ _ _ _ _ _ _ _ _ w1 hcell).mono quiet
    · obtain ⟨j, hj, hjl⟩ : ∃ j : Nat, pickZ (S (i * 10 + 1)) ps.length = (j : Int) ∧ j < ps.length := by
        have := pickZ_lt (S (i * 10 + 1)) ps.length (by omega)
        exact ⟨(pickZ (S (i * 10 + 1)) ps.length).toNat, by omega, by omega⟩
      obtain ⟨g, hg⟩ : ∃ g, ps[j]? = some g := ⟨_, List.getElem?_eq_getElem hjl⟩
      obtain ⟨hat, hwi⟩ := h.rows.at' j g hg
      have hnob := h.rows.nob j g hg
      obtain ⟨gb, hra⟩ : ∃ gb, ra = some ⟨gb, 0, none⟩ := by
        rcases h.rows.own.2 with ⟨_, h0⟩ | ⟨x, cap, cu, hv, _⟩
        · omega
        · simp only [Value.slice.injEq] at hv
          exact ⟨x, hv.1⟩
      subst hra
      have c0 := h.rows.own.cells (g := gb) rfl (j * 2) _ (ptrs_get0 ps j g hg)
      have c1 := h.rows.own.cells (g := gb) rfl (j * 2 + 1) _ (ptrs_get1 ps j g hg)
      rw [Addr.add_lit] at c0 c1
      simp only [Nat.zero_add] at c0 c1
      refine (step_add_some w.heap.size gb ps.length rc j g.pc g.gc g.pr g.gr g.n g.cc g.cr g.Z _ _ _ _ _ _ _ _ _ w1 hcell (by omega) hj hjl ha.1 ha.2 hb'.2 c0 c1 hat hnob.1.1 hnob.1.2 (hnob.2 gb rfl).1 (hnob.2 gb rfl).2).mono ?_
      rintro e w2 ⟨Z', he, hp2, hc2⟩
      obtain ⟨ps', hlen, h', hgr⟩ := h.rows.turned j g hg Z' hp2 hc2
      refine finR e w2 he ⟨N, _, rc, ps', h', Nat.le_refl _, by omega, fun k hk => .inl (hgr k hk)⟩ (hc2.mono (fun x _ hxx => ?_))
      rcases hxx with rfl | rfl
      · exact .inr (.inr ⟨j, g, hg, .inr (.inl rfl)⟩)
      · exact .inr (.inr ⟨j, g, hg, .inr (.inr (.inr rfl))⟩)
  · have e : opAt S i = .agg #[.int .i64 4, .int .i64 (S (i * 10 + 1)), .int .i64 (S (i * 10 + 2)), .int .i64 (S (i * 10 + 3)), .int .i64 (S (i * 10 + 4)), .int .i64 (S (i * 10 + 5)), .int .i64 (S (i * 10 + 6)), .int .i64 (S (i * 10 + 7)), .int .i64 (S (i * 10 + 8)), .int .i64 (S (i * 10 + 9))] := by
      unfold opAt; rw [hk]
    rw [e]
    have hcell := h.rows.box.cell 1
    simp at hcell
    by_cases hm : ps.length = 0
    · rw [hm] at hcell
      exact (step_min_none w.heap.size rc ra _ _ _ _ _ _ _ _ _ w1 hcell).mono quiet
    · obtain ⟨j, hj, hjl⟩ : ∃ j : Nat, pickZ (S (i * 10 + 1)) ps.length = (j : Int) ∧ j < ps.length := by
        have := pickZ_lt (S (i * 10 + 1)) ps.length (by omega)
        exact ⟨(pickZ (S (i * 10 + 1)) ps.length).toNat, by omega, by omega⟩
      obtain ⟨g, hg⟩ : ∃ g, ps[j]? = some g := ⟨_, List.getElem?_eq_getElem hjl⟩
      obtain ⟨hat, hwi⟩ := h.rows.at' j g hg
      have hnob := h.rows.nob j g hg
      obtain ⟨gb, hra⟩ : ∃ gb, ra = some ⟨gb, 0, none⟩ := by
        rcases h.rows.own.2 with ⟨_, h0⟩ | ⟨x, cap, cu, hv, _⟩
        · omega
        · simp only [Value.slice.injEq] at hv
          exact ⟨x, hv.1⟩
      subst hra
      have c0 := h.rows.own.cells (g := gb) rfl (j * 2) _ (ptrs_get0 ps j g hg)
      have c1 := h.rows.own.cells (g := gb) rfl (j * 2 + 1) _ (ptrs_get1 ps j g hg)
      rw [Addr.add_lit] at c0 c1
      simp only [Nat.zero_add] at c0 c1
      refine (step_min_some w.heap.size gb ps.length rc j g.pc g.gc g.pr g.gr g.n g.cc g.cr g.Z _ _ _ _ _ _ _ _ _ w1 hcell (by omega) hj hjl ha.1 ha.2 hb'.2 c0 c1 hat hnob.1.1 hnob.1.2 (hnob.2 gb rfl).1 (hnob.2 gb rfl).2).mono ?_
      rintro e w2 ⟨Z', he, hp2, hc2⟩
      obtain ⟨ps', hlen, h', hgr⟩ := h.rows.turned j g hg Z' hp2 hc2
      refine finR e w2 he ⟨N, _, rc, ps', h', Nat.le_refl _, by omega, fun k hk => .inl (hgr k hk)⟩ (hc2.mono (fun x _ hxx => ?_))
      rcases hxx with rfl | rfl
      · exact .inr (.inr ⟨j, g, hg, .inr (.inl rfl)⟩)
      · exact .inr (.inr ⟨j, g, hg, .inr (.inr (.inr rfl))⟩)
  · have e : opAt S i = .agg #[.int .i64 5, .int .i64 (S (i * 10 + 1)), .int .i64 (S (i * 10 + 2)), .int .i64 (S (i * 10 + 3)), .int .i64 (S (i * 10 + 4)), .int .i64 (S (i * 10 + 5)), .int .i64 (S (i * 10 + 6)), .int .i64 (S (i * 10 + 7)), .int .i64 (S (i * 10 + 8)), .int .i64 (S (i * 10 + 9))] := by
      unfold opAt; rw [hk]
    rw [e]
    have hcell := h.rows.box.cell 1
    simp at hcell
    by_cases hm : ps.length = 0
    · rw [hm] at hcell
      exact (step_fit_none w.heap.size rc ra _ _ _ _ _ _ _ _ _ w1 hcell).mono quiet
    · obtain ⟨j, hj, hjl⟩ : ∃ j : Nat, pickZ (S (i * 10 + 1)) ps.length = (j : Int) ∧ j < ps.length := by
        have := pickZ_lt (S (i * 10 + 1)) ps.length (by omega)
        exact ⟨(pickZ (S (i * 10 + 1)) ps.length).toNat, by omega, by omega⟩
      obtain ⟨g, hg⟩ : ∃ g, ps[j]? = some g := ⟨_, List.getElem?_eq_getElem hjl⟩
      obtain ⟨hat, hwi⟩ := h.rows.at' j g hg
      have hnob := h.rows.nob j g hg
      obtain ⟨gb, hra⟩ : ∃ gb, ra = some ⟨gb, 0, none⟩ := by
        rcases h.rows.own.2 with ⟨_, h0⟩ | ⟨x, cap, cu, hv, _⟩
        · omega
        · simp only [Value.slice.injEq] at hv
          exact ⟨x, hv.1⟩
      subst hra
      have c0 := h.rows.own.cells (g := gb) rfl (j * 2) _ (ptrs_get0 ps j g hg)
      have c1 := h.rows.own.cells (g := gb) rfl (j * 2 + 1) _ (ptrs_get1 ps j g hg)
      rw [Addr.add_lit] at c0 c1
      simp only [Nat.zero_add] at c0 c1
      refine (step_fit_some w.heap.size gb ps.length rc j g.pc g.gc g.pr g.gr g.n g.cc g.cr g.Z _ _ _ _ _ _ _ _ _ w1 hcell (by omega) hj hjl ha.1 ha.2 hb'.2 c0 c1 hat hnob.1.1 hnob.1.2 (hnob.2 gb rfl).1 (hnob.2 gb rfl).2).mono ?_
      rintro e w2 ⟨Z', he, hp2, hc2⟩
      obtain ⟨ps', hlen, h', hgr⟩ := h.rows.turned j g hg Z' hp2 hc2
      refine finR e w2 he ⟨N, _, rc, ps', h', Nat.le_refl _, by omega, fun k hk => .inl (hgr k hk)⟩ (hc2.mono (fun x _ hxx => ?_))
      rcases hxx with rfl | rfl
      · exact .inr (.inr ⟨j, g, hg, .inr (.inl rfl)⟩)
      · exact .inr (.inr ⟨j, g, hg, .inr (.inr (.inr rfl))⟩)

/-- kinds that there are -/
def kindsOk (l : List Int) : Bool := l.all fun k => decide (1 ≤ k) && decide (k ≤ 20)
theorem kindsOk_mem {l : List Int} (h : kindsOk l = true) {x : Int} (hx : l.contains x = true) : 1 ≤ x ∧ x ≤ 20 := by
  unfold kindsOk at h
  rw [List.all_eq_true] at h
  have := h x (by simpa using hx)
  simpa using this

theorem playsA {YAt : World → Nat → (Nat → Prop) → MkG → Prop} (hY : YardSpec YAt) (hT : TickY YAt) (hP : PaidY YAt) (ks hs : List Int) (hks : kindsOk ks = true) (w w0 : World) (ca : Option Addr) (cl cc slen : Nat) (S : Nat → Int) (hw : ∀ t, t < slen * 10 → IsI64 (S t)) (hsl : slen < 1759218604391) (hb : Below w0.heap.size w0 w) (hc : IntRows w0 5 ca cl) (hcl : cl < 5000000000000) :
    Plays w.heap.size slen S ks hs w (InvA YAt w.heap.size ca cl cc) := by
  refine ⟨?_, ?_, ?_, ?_, ?_⟩
  · rintro i O w1 ⟨N, ra, rc, ps, ma, mc, os, nv, bv, ns, bs, FN, FB, h, _, hO⟩ k hk
    have := (hO k).1 hk
    have := h.rows.nw
    exact ⟨by omega, by omega⟩
  · rintro i O w1 w2 ⟨N, ra, rc, ps, ma, mc, os, nv, bv, ns, bs, FN, FB, h, hl, hO⟩ hc
    exact ⟨N, ra, rc, ps, ma, mc, os, nv, bv, ns, bs, FN, FB, h.frame hY (fun k h1 h2 => hc.block k (by have := h.rows.nw; omega) (fun hn => hn ((hO k).2 ⟨h1, h2⟩))) hc.size, hl, hO⟩
  · rintro i O w1 ⟨N, ra, rc, ps, ma, mc, os, nv, bv, ns, bs, FN, FB, h, hl, hO⟩
    exact ⟨N, ra, rc, ps, ma, mc, os, nv, bv, ns, bs, FN, FB, h, by omega, hO⟩
  · intro i hi hp O w1 hI hbel
    have hk := kindsOk_mem hks hp
    have key : Calls Tryz.prog 11 #[.pointer (some ⟨w.heap.size, 0, none⟩), opAt S i] w1 (StepOkA YAt w.heap.size ca cl cc i O w1) := by
      by_cases h5 : S (i * 10) ≤ 5
      · exact stepA0 hY w w0 ca cl cc slen S hw hsl hb hc hcl i hi (by omega) O w1 hI hbel
      · by_cases h15 : S (i * 10) ≤ 15
        · exact stepA1 hY hT w w0 ca cl cc slen S hw hsl hb hc hcl i hi (by omega) O w1 hI hbel
        · exact stepA2 hY hP w w0 ca cl cc slen S hw hsl hb hc hcl i hi (by omega) O w1 hI hbel
    refine key.mono ?_
    rintro e w2 ⟨O', he, hI', hc'⟩
    exact ⟨true, O', he, hI', hc', fun hx => by cases hx⟩
  · rintro i O w1 ⟨N, ra, rc, ps, ma, mc, os, nv, bv, ns, bs, FN, FB, h, hl, hO⟩
    exact looks_any w.heap.size _ _ _ nv bv ns bs FN FB w1 h.mn.ms.box h.mn.names h.mn.bills
/-- no step so far -/
theorem InvA.start (YAt : World → Nat → (Nat → Prop) → MkG → Prop) (W : World) (ca : Option Addr) (cl cc : Nat) : InvA YAt W.heap.size ca cl cc 0 (fun k => W.heap.size ≤ k ∧ k < W.heap.size + 1) (W.alloc (.cells #[.slice ca cl cc, .slice none 0 0, .slice none 0 0, .slice none 0 0, .slice none 0 0] 33)) := by
  refine ⟨W.heap.size + 1, none, 0, [], none, 0, [], .slice none 0 0, .slice none 0 0, [], [], fun _ => False, fun _ => False, ⟨⟨heap_alloc_new W _, World.ownsRow_nil _ _ _ _, fun k hk => by simp [Value.ownBlock] at hk, by omega, by simp, fun i g hg => by simp at hg, fun i j g h hg => by simp at hg⟩, ⟨⟨heap_alloc_new W _, World.ownsRow_nil _ _ _ _, fun k hk => by simp [Value.ownBlock] at hk, by omega, by simp, fun i g hg => by simp at hg, fun i j g h hg => by simp at hg⟩, OutC.nil _ _ _, OutC.nil _ _ _, rfl, rfl, fun _ h => h.elim, fun _ h => h.elim⟩, fun k hk => ?_⟩, by simp, fun _ => Iff.rfl⟩
  rcases hk with hk | ⟨i, g, hg, _⟩
  · simp [Value.ownBlock] at hk
  · simp at hg
end Go.Proofs.YtminceigjejipaaGreat
