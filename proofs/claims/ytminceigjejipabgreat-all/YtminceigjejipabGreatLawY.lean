import Derived.Test.YtminceigjejipabGreatLawX
import Derived.Test.YtminceigjejipabGreatG18
import Derived.Test.YtminceigjejipabGreatG13
/-
  'paid': Price, Bill, Pay, Balance, Invoices, held against one another.
-/
namespace Go.Proofs.YtminceigjejipabGreat
open Go.RowKit

set_option maxRecDepth 100000 in
set_option maxHeartbeats 2000000 in
theorem paid_price {YAt : World → Nat → (Nat → Prop) → MkG → Prop} (hY : YardSpec YAt) (hP : PaidY YAt) (B y r : Nat) (F : Nat → Prop) (m : MkG) (a b c d : Int) (j : JobG) (w : World) (hp : PairM YAt w y r F m) (hb : I64 b) (hc : I64 c) :
    Calls Tryz.prog 17 #[.pointer (some ⟨B, 0, none⟩), .agg #[.pointer (some ⟨y, 0, none⟩), .pointer (some ⟨r, 0, none⟩)], .agg #[.int .i64 16, .int .i64 a, .int .i64 b, .int .i64 c, .int .i64 d, .int .i64 j.arr, .int .i64 j.dl, .int .i64 j.len, .int .i64 j.units, .int .i64 j.val]] w fun e w' => e = .returned (.bool true) ∧ PairTo YAt w y r F m w' := by
  obtain ⟨FY, V, g1, g2, g3, g4, g5⟩ := hp
  have HY := hide hY
  have HP := hide hP
  have HYA := hide g1
  have HM := hide g2
  have HOK := hide g3.ok
  have HGD := hide g3
  have H4 := hide g4
  have H5 := hide g5
  have HFY := hide (fun k (hk : FY k) => hY.lt _ _ _ _ g1 k hk)
  have HFV := hide (fun k (hk : V.foot r k) => g2.foot_lt k hk)
  clear g1 g2 g3 g4 g5 hY hP
  go_enter Tryz.func17, Tryz.ntmps17
  go_wp2_with fail
  obtain ⟨w2, hw2⟩ : ∃ w2, w2 = (w.alloc (.cells #[.pointer (some ⟨y, 0, none⟩), .pointer (some ⟨r, 0, none⟩)] 56)).alloc (.cells #[.int .i64 16, .int .i64 a, .int .i64 b, .int .i64 c, .int .i64 d, .int .i64 j.arr, .int .i64 j.dl, .int .i64 j.len, .int .i64 j.units, .int .i64 j.val] 37) := ⟨_, rfl⟩
  rw [← hw2]
  obtain ⟨hc0, hbx⟩ := Bx.mk0 w y r 16 a b c d j w2 hw2
  have HC0 := hide hc0
  have HBX := hide hbx
  have HY2 := hide (HY.out.frame _ w2 _ _ _ HYA.out (fun k hk => hc0.block k (HFY.out k hk) (fun h => h)))
  have HM2 := hide (HM.out.chg0 hc0)
  clear hw2 hc0 hbx
  refine (HP.out.price w2 y FY m b c HY2.out HGD.out hb hc).mono ?_
  rintro e w3 ⟨rfl, hto⟩
  have HTO := hide hto
  have HM3 := hide (pair_mid HM2.out H5.out hto)
  have HBX3 := hide (show Bx w3 w.heap.size y r a b c d j from by
    obtain ⟨F', a1, a2, a3⟩ := hto
    exact HBX.out.chg a2 (fun k hk => HFY.out k hk))
  have x0 := HBX3.out.r
  have x1 := HBX3.out.b
  have x2 := HBX3.out.c
  clear hto
  go_wp2_with fail
  refine (price_any r V m b c _ HM3.out HOK.out).mono ?_
  rintro e w4 ⟨rfl, hq⟩
  have HF := hide (look_end HY.out HC0.out HM2.out HFV.out H4.out H5.out HTO.out hq HGD.out)
  clear hq x0 x1 x2
  go_wp2
  go_ret
  exact ⟨ret_bool (by simp), HF.out⟩

set_option maxRecDepth 100000 in
set_option maxHeartbeats 2000000 in
theorem paid_pay {YAt : World → Nat → (Nat → Prop) → MkG → Prop} (hY : YardSpec YAt) (hP : PaidY YAt) (B y r : Nat) (F : Nat → Prop) (m : MkG) (a b c d : Int) (j : JobG) (w : World) (hp : PairM YAt w y r F m) (hb : I64 b) (hc : I64 c) :
    Calls Tryz.prog 17 #[.pointer (some ⟨B, 0, none⟩), .agg #[.pointer (some ⟨y, 0, none⟩), .pointer (some ⟨r, 0, none⟩)], .agg #[.int .i64 18, .int .i64 a, .int .i64 b, .int .i64 c, .int .i64 d, .int .i64 j.arr, .int .i64 j.dl, .int .i64 j.len, .int .i64 j.units, .int .i64 j.val]] w fun e w' => ∃ m', e = .returned (.bool true) ∧ PairTo YAt w y r F m' w' := by
  obtain ⟨FY, V, g1, g2, g3, g4, g5⟩ := hp
  have HY := hide hY
  have HP := hide hP
  have HYA := hide g1
  have HM := hide g2
  have HOK := hide g3.ok
  have HGD := hide g3
  have H4 := hide g4
  have H5 := hide g5
  have HFY := hide (fun k (hk : FY k) => hY.lt _ _ _ _ g1 k hk)
  have HFV := hide (fun k (hk : V.foot r k) => g2.foot_lt k hk)
  clear g1 g2 g3 g4 g5 hY hP
  go_enter Tryz.func17, Tryz.ntmps17
  go_wp2_with fail
  obtain ⟨w2, hw2⟩ : ∃ w2, w2 = (w.alloc (.cells #[.pointer (some ⟨y, 0, none⟩), .pointer (some ⟨r, 0, none⟩)] 56)).alloc (.cells #[.int .i64 18, .int .i64 a, .int .i64 b, .int .i64 c, .int .i64 d, .int .i64 j.arr, .int .i64 j.dl, .int .i64 j.len, .int .i64 j.units, .int .i64 j.val] 37) := ⟨_, rfl⟩
  rw [← hw2]
  obtain ⟨hc0, hbx⟩ := Bx.mk0 w y r 18 a b c d j w2 hw2
  have HC0 := hide hc0
  have HBX := hide hbx
  have HY2 := hide (HY.out.frame _ w2 _ _ _ HYA.out (fun k hk => hc0.block k (HFY.out k hk) (fun h => h)))
  have HM2 := hide (HM.out.chg0 hc0)
  clear hw2 hc0 hbx
  refine (HP.out.pay w2 y FY m b c HY2.out HGD.out hb hc).mono ?_
  rintro e w3 ⟨z, m1, rfl, hres, hto⟩
  have HRES := hide hres
  have HTO := hide hto
  have HM3 := hide (pair_mid HM2.out H5.out hto)
  have HBX3 := hide (show Bx w3 w.heap.size y r a b c d j from by
    obtain ⟨F', a1, a2, a3⟩ := hto
    exact HBX.out.chg a2 (fun k hk => HFY.out k hk))
  have x0 := HBX3.out.r
  have x1 := HBX3.out.b
  have x2 := HBX3.out.c
  clear hres hto
  go_wp2_with fail
  refine (refPay_any r V m b c w3 HM3.out HGD.out).mono ?_
  rintro e w4 ⟨z2, m2, rfl, hres2, hto2⟩
  obtain ⟨rfl, rfl⟩ := LogRes.unique HRES.out hres2
  have HF := hide (pair_end HY.out HC0.out HM2.out HFV.out H4.out H5.out HTO.out hto2 (HGD.out.pay HRES.out))
  clear hres2 hto2 x0 x1 x2
  go_wp2
  go_ret
  exact ⟨m1, ret_bool (by simp), HF.out⟩

set_option maxRecDepth 100000 in
set_option maxHeartbeats 2000000 in
theorem paid_balance {YAt : World → Nat → (Nat → Prop) → MkG → Prop} (hY : YardSpec YAt) (hP : PaidY YAt) (B y r : Nat) (F : Nat → Prop) (m : MkG) (a b c d : Int) (j : JobG) (w : World) (hp : PairM YAt w y r F m) (hb : I64 b) :
    Calls Tryz.prog 17 #[.pointer (some ⟨B, 0, none⟩), .agg #[.pointer (some ⟨y, 0, none⟩), .pointer (some ⟨r, 0, none⟩)], .agg #[.int .i64 19, .int .i64 a, .int .i64 b, .int .i64 c, .int .i64 d, .int .i64 j.arr, .int .i64 j.dl, .int .i64 j.len, .int .i64 j.units, .int .i64 j.val]] w fun e w' => e = .returned (.bool true) ∧ PairTo YAt w y r F m w' := by
  obtain ⟨FY, V, g1, g2, g3, g4, g5⟩ := hp
  have HY := hide hY
  have HP := hide hP
  have HYA := hide g1
  have HM := hide g2
  have HOK := hide g3.ok
  have HGD := hide g3
  have H4 := hide g4
  have H5 := hide g5
  have HFY := hide (fun k (hk : FY k) => hY.lt _ _ _ _ g1 k hk)
  have HFV := hide (fun k (hk : V.foot r k) => g2.foot_lt k hk)
  clear g1 g2 g3 g4 g5 hY hP
  go_enter Tryz.func17, Tryz.ntmps17
  go_wp2_with fail
  obtain ⟨w2, hw2⟩ : ∃ w2, w2 = (w.alloc (.cells #[.pointer (some ⟨y, 0, none⟩), .pointer (some ⟨r, 0, none⟩)] 56)).alloc (.cells #[.int .i64 19, .int .i64 a, .int .i64 b, .int .i64 c, .int .i64 d, .int .i64 j.arr, .int .i64 j.dl, .int .i64 j.len, .int .i64 j.units, .int .i64 j.val] 37) := ⟨_, rfl⟩
  rw [← hw2]
  obtain ⟨hc0, hbx⟩ := Bx.mk0 w y r 19 a b c d j w2 hw2
  have HC0 := hide hc0
  have HBX := hide hbx
  have HY2 := hide (HY.out.frame _ w2 _ _ _ HYA.out (fun k hk => hc0.block k (HFY.out k hk) (fun h => h)))
  have HM2 := hide (HM.out.chg0 hc0)
  clear hw2 hc0 hbx
  refine (HP.out.balance w2 y FY m b HY2.out HGD.out hb).mono ?_
  rintro e w3 ⟨rfl, hto⟩
  have HTO := hide hto
  have HM3 := hide (pair_mid HM2.out H5.out hto)
  have HBX3 := hide (show Bx w3 w.heap.size y r a b c d j from by
    obtain ⟨F', a1, a2, a3⟩ := hto
    exact HBX.out.chg a2 (fun k hk => HFY.out k hk))
  have x0 := HBX3.out.r
  have x1 := HBX3.out.b
  clear hto
  go_wp2_with fail
  refine (balance_any r V m b _ HM3.out HOK.out HGD.out.cash.paid HGD.out.cash.chg).mono ?_
  rintro e w4 ⟨rfl, hq⟩
  have HF := hide (look_end HY.out HC0.out HM2.out HFV.out H4.out H5.out HTO.out hq HGD.out)
  clear hq x0 x1
  go_wp2
  go_ret
  exact ⟨ret_bool (by simp), HF.out⟩

/-- behind both calls that tell a list of invoices -/
structure InvMid (YAt : World → Nat → (Nat → Prop) → MkG → Prop) (w : World) (y r : Nat) (F : Nat → Prop) (l : List InvG) (m' : MkG) (lv kv : Value) (F2 : Nat → Prop) (w2 : World) : Prop where
  pair : PairM YAt w2 y r F2 m'
  chg : Chg F w w2
  foot : ∀ k, F2 k → F k ∨ w.heap.size ≤ k
  lo : w2.ownsRow 0 65 3 lv l.length (l.flatMap invCells)
  ko : w2.ownsRow 0 65 3 kv l.length (l.flatMap invCells)
  lb : ∀ k, lv.ownBlock = some k → w.heap.size ≤ k ∧ ¬ F2 k

theorem inv_mid {YAt : World → Nat → (Nat → Prop) → MkG → Prop} (hY : YardSpec YAt) {w w0 w1 w2 : World} {y r : Nat} {F FY FY' : Nat → Prop} {V : MV} {m m' : MkG} {l : List InvG} {z : Int} {lv kv : Value} (hc0 : Chg (fun _ => False) w w0)
    (hmr : MktAt w r V m) (hF : ∀ k, F k ↔ FY k ∨ V.foot r k) (hdis : ∀ k, FY k → ¬ V.foot r k) (hio : InvOut YAt w0 y FY m' z l lv FY' w1) (hok : GoodM m') (hto : MktTo w1 r V m' w2) (hk : w2.ownsRow 0 65 3 kv l.length (l.flatMap invCells)) :
    ∃ F2, InvMid YAt w y r F l m' lv kv F2 w2 := by
  obtain ⟨hy1, hc1, hf1, hl, hlb, _⟩ := hio
  obtain ⟨V', b1, b2, b3⟩ := hto
  have hs0 := hc0.size
  have hs1 := hc1.size
  have hFl := hY.lt _ _ _ _ hy1
  have hVl := hmr.foot_lt
  have dis : ∀ k, FY' k → ¬ V.foot r k := fun k hk hf => by
    rcases hf1 k hk with h | h
    · exact hdis k h hf
    · have := hVl k hf; omega
  refine ⟨fun k => FY' k ∨ V'.foot r k, ⟨FY', V', hY.frame _ _ _ _ _ hy1 (fun k hk => b2.block k (hFl k hk) (dis k hk)), b1, hok, fun _ => Iff.rfl, fun k hk hf => ?_⟩, ?_, fun k hk => ?_, ?_, hk, fun k hk => ⟨?_, ?_⟩⟩
  · rcases b3 k hf with h | h
    · exact dis k hk h
    · have := hFl k hk; omega
  · exact ((hc0.mono (O' := F) (fun _ _ h => h.elim)).trans hc1 (fun x _ hx => (hF x).2 (.inl hx))).trans b2 (fun x _ hx => (hF x).2 (.inr hx))
  · rcases hk with hk | hk
    · rcases hf1 k hk with h | h
      · exact .inl ((hF k).2 (.inl h))
      · exact .inr (by omega)
    · rcases b3 k hk with h | h
      · exact .inl ((hF k).2 (.inr h))
      · exact .inr (by omega)
  · exact ownsRow_keep hl (fun k hk => b2.block k (hl.lt k hk).2 (fun hf => by have := hVl k hf; have := (hlb k hk).1; omega))
  · have := (hlb k hk).1
    omega
  · rintro (h | h)
    · exact (hlb k hk).2 h
    · have a1 := (hlb k hk).1
      have a2 := (hl.lt k hk).2
      rcases b3 k h with h | h
      · have := hVl k h; omega
      · omega

/-- what 'paid' leaves where a list came out -/
def PaidL (YAt : World → Nat → (Nat → Prop) → MkG → Prop) (w : World) (B y r : Nat) (F FB : Nat → Prop) (v0 v1 v2 v3 : Value) (nn : Nat) (w' : World) : Prop :=
  ∃ m' F' FB' bv' vs', PairM YAt w' y r F' m' ∧ BoxAt w' B v0 v1 v2 v3 bv' ∧ OutC 63 3 w' bv' vs' FB' ∧ vs'.length = nn + 2 ∧ Chg (fun k => k = B ∨ F k ∨ FB k) w w' ∧ (∀ k, F' k → F k ∨ w.heap.size ≤ k) ∧ (∀ k, FB' k → FB k ∨ w.heap.size ≤ k) ∧ (∀ k, F' k → ¬ FB' k)

theorem inv_end {YAt : World → Nat → (Nat → Prop) → MkG → Prop} (hY : YardSpec YAt) {w w2 w' : World} {B y r : Nat} {F FB F2 : Nat → Prop} {l : List InvG} {m' : MkG} {lv kv v0 v1 v2 v3 bv : Value} {vs : List Value} (hbox : BoxAt w B v0 v1 v2 v3 bv) (hN : OutC 63 3 w bv vs FB) (hFB : ∀ k, F k → ¬ FB k) (hBF : ¬ F B) (hBN : ¬ FB B)
    (hmid : InvMid YAt w y r F l m' lv kv F2 w2) (hb : Billed w2 B lv FB v0 v1 v2 v3 vs.length w') : PaidL YAt w B y r F FB v0 v1 v2 v3 vs.length w' := by
  obtain ⟨FB', bv', vs', b1, b2, b3, b4, b5⟩ := hb
  have hBl := hbox.lt
  have hs := hmid.chg.size
  have hF2l := fun k hk => PairM.lt hY hmid.pair k hk
  have key : ∀ k, F2 k → ¬ FB k ∧ k ≠ B ∧ lv.ownBlock ≠ some k := fun k hk => by
    refine ⟨fun hf => ?_, ?_, fun e => (hmid.lb k e).2 hk⟩
    · rcases hmid.foot k hk with h | h
      · exact hFB k h hf
      · have := hN.lt k hf; omega
    · rintro rfl
      rcases hmid.foot _ hk with h | h
      · exact hBF h
      · omega
  refine ⟨m', F2, FB', bv', vs', ?_, b1, b2, b3, ?_, hmid.foot, ?_, ?_⟩
  · refine PairM.frame hY hmid.pair (fun k hk => b4.block k (hF2l k hk) ?_)
    rintro (e | e | e)
    · exact (key k hk).2.1 e
    · exact (key k hk).2.2 e
    · exact (key k hk).1 e
  · refine (hmid.chg.mono (O' := fun k => k = B ∨ F k ∨ FB k) (fun _ _ h => .inr (.inl h))).trans b4 (fun x hx h => ?_)
    rcases h with h | h | h
    · exact .inl h
    · have := (hmid.lb x h).1; omega
    · exact .inr (.inr h)
  · intro k hk
    rcases b5 k hk with h | h | h
    · exact .inl h
    · exact .inr (hmid.lb k h).1
    · exact .inr (by omega)
  · intro k hk hf
    rcases b5 k hf with h | h | h
    · exact (key k hk).1 h
    · exact (key k hk).2.2 h
    · have := hF2l k hk; omega

set_option maxRecDepth 100000 in
set_option maxHeartbeats 2000000 in
theorem paid_bill {YAt : World → Nat → (Nat → Prop) → MkG → Prop} (hY : YardSpec YAt) (hP : PaidY YAt) (B y r : Nat) (F : Nat → Prop) (m : MkG) (a b c d : Int) (j : JobG) (w : World) (hp : PairM YAt w y r F m) (FB : Nat → Prop) (v0 v1 v2 v3 bv : Value) (vs : List Value) (hbox : BoxAt w B v0 v1 v2 v3 bv) (hN : OutC 63 3 w bv vs FB) (hev : vs.length % 2 = 0) (hlen : vs.length + 2 < 5000000000000) (hFB : ∀ k, F k → ¬ FB k) (hBF : ¬ F B) (hBN : ¬ FB B) :
    Calls Tryz.prog 17 #[.pointer (some ⟨B, 0, none⟩), .agg #[.pointer (some ⟨y, 0, none⟩), .pointer (some ⟨r, 0, none⟩)], .agg #[.int .i64 17, .int .i64 a, .int .i64 b, .int .i64 c, .int .i64 d, .int .i64 j.arr, .int .i64 j.dl, .int .i64 j.len, .int .i64 j.units, .int .i64 j.val]] w fun e w' => e = .returned (.bool true) ∧ PaidL YAt w B y r F FB v0 v1 v2 v3 vs.length w' := by
  have HBOX := hide hbox
  have HN := hide hN
  have HEV := hide hev
  have HLEN := hide hlen
  have HFB := hide hFB
  have HBF := hide (And.intro hBF hBN)
  clear hbox hN hev hlen hFB hBF hBN
  obtain ⟨FY, V, g1, g2, g3, g4, g5⟩ := hp
  have HY := hide hY
  have HP := hide hP
  have HYA := hide g1
  have HM := hide g2
  have HOK := hide g3.ok
  have HGD := hide g3
  have H4 := hide g4
  have H5 := hide g5
  have HFY := hide (fun k (hk : FY k) => hY.lt _ _ _ _ g1 k hk)
  have HFV := hide (fun k (hk : V.foot r k) => g2.foot_lt k hk)
  clear g1 g2 g3 g4 g5 hY hP
  go_enter Tryz.func17, Tryz.ntmps17
  go_wp2_with fail
  obtain ⟨w2, hw2⟩ : ∃ w2, w2 = (w.alloc (.cells #[.pointer (some ⟨y, 0, none⟩), .pointer (some ⟨r, 0, none⟩)] 56)).alloc (.cells #[.int .i64 17, .int .i64 a, .int .i64 b, .int .i64 c, .int .i64 d, .int .i64 j.arr, .int .i64 j.dl, .int .i64 j.len, .int .i64 j.units, .int .i64 j.val] 37) := ⟨_, rfl⟩
  rw [← hw2]
  obtain ⟨hc0, hbx⟩ := Bx.mk0 w y r 17 a b c d j w2 hw2
  have HC0 := hide hc0
  have HBX := hide hbx
  have HY2 := hide (HY.out.frame _ w2 _ _ _ HYA.out (fun k hk => hc0.block k (HFY.out k hk) (fun h => h)))
  have HM2 := hide (HM.out.chg0 hc0)
  clear hw2 hc0 hbx
  refine (HP.out.bill w2 y FY m HY2.out HGD.out).mono ?_
  rintro e w3 ⟨lv, l, z, m1, FY', rfl, hres, hio⟩
  have HRES := hide hres
  have HLL := hide (hres.len HOK.out)
  have HGD1 := hide (HGD.out.bill hres)
  have HIO := hide hio
  have HM3 := hide (HM2.out.chg hio.chg (fun k hk hf => H5.out k hf hk))
  have HBX3 := hide (show Bx w3 w.heap.size y r a b c d j from HBX.out.chg hio.chg (fun k hk => HFY.out k hk))
  have x0 := HBX3.out.r
  clear hio hres
  go_wp2_with fail
  refine (refBill_any r V m w3 HM3.out HGD.out).mono ?_
  rintro e w4 ⟨kv, l2, z2, m2, rfl, hres2, hto2, hkv⟩
  obtain ⟨rfl, rfl, rfl⟩ := HRES.out.unique hres2
  obtain ⟨F2, hmid⟩ := inv_mid HY.out HC0.out HM.out H4.out H5.out HIO.out HGD1.out hto2 hkv
  have HMID := hide hmid
  have HBX4 := hide (HBOX.out.chg hmid.chg HBF.out.1)
  have HN4 := hide (HN.out.frame (fun k hk => hmid.chg.block k (HN.out.lt k hk) (fun hf => HFB.out k hf hk)))
  have HLB := hide (show ∀ k, lv.ownBlock = some k → ¬ FB k ∧ k ≠ B from fun k hk => ⟨fun hf => by have := HN.out.lt k hf; have := (hmid.lb k hk).1; omega, by have := (hmid.lb k hk).1; have := HBOX.out.lt; omega⟩)
  clear hres2 hto2 hkv hmid x0
  go_wp2_with fail
  refine (billed_any B FB _ _ lv kv v0 v1 v2 v3 bv vs w4 HMID.out.lo HMID.out.ko HLL.out HIO.out.nil HBX4.out HN4.out HEV.out HLEN.out HBF.out.2 HLB.out).mono ?_
  rintro e w5 ⟨rfl, hbl⟩
  have HF := hide (inv_end HY.out HBOX.out HN.out HFB.out HBF.out.1 HBF.out.2 HMID.out hbl)
  clear hbl
  go_wp2
  go_ret
  exact ⟨rfl, HF.out⟩

set_option maxRecDepth 100000 in
set_option maxHeartbeats 2000000 in
theorem paid_invoices {YAt : World → Nat → (Nat → Prop) → MkG → Prop} (hY : YardSpec YAt) (hP : PaidY YAt) (B y r : Nat) (F : Nat → Prop) (m : MkG) (a b c d : Int) (j : JobG) (w : World) (hp : PairM YAt w y r F m) (FB : Nat → Prop) (v0 v1 v2 v3 bv : Value) (vs : List Value) (hbox : BoxAt w B v0 v1 v2 v3 bv) (hN : OutC 63 3 w bv vs FB) (hev : vs.length % 2 = 0) (hlen : vs.length + 2 < 5000000000000) (hFB : ∀ k, F k → ¬ FB k) (hBF : ¬ F B) (hBN : ¬ FB B) (hb : I64 b) :
    Calls Tryz.prog 17 #[.pointer (some ⟨B, 0, none⟩), .agg #[.pointer (some ⟨y, 0, none⟩), .pointer (some ⟨r, 0, none⟩)], .agg #[.int .i64 20, .int .i64 a, .int .i64 b, .int .i64 c, .int .i64 d, .int .i64 j.arr, .int .i64 j.dl, .int .i64 j.len, .int .i64 j.units, .int .i64 j.val]] w fun e w' => e = .returned (.bool true) ∧ PaidL YAt w B y r F FB v0 v1 v2 v3 vs.length w' := by
  have HBOX := hide hbox
  have HN := hide hN
  have HEV := hide hev
  have HLEN := hide hlen
  have HFB := hide hFB
  have HBF := hide (And.intro hBF hBN)
  have HLL := hide (show (invL m b).length ≤ 300 from by
    obtain ⟨_, _, _, _, g3, _⟩ := hp
    have := g3.cash.chg.len
    unfold invL
    split
    · simp
    · exact Nat.le_trans (List.length_filter_le _ _) this)
  clear hbox hN hev hlen hFB hBF hBN
  obtain ⟨FY, V, g1, g2, g3, g4, g5⟩ := hp
  have HY := hide hY
  have HP := hide hP
  have HYA := hide g1
  have HM := hide g2
  have HOK := hide g3.ok
  have HGD := hide g3
  have H4 := hide g4
  have H5 := hide g5
  have HFY := hide (fun k (hk : FY k) => hY.lt _ _ _ _ g1 k hk)
  have HFV := hide (fun k (hk : V.foot r k) => g2.foot_lt k hk)
  clear g1 g2 g3 g4 g5 hY hP
  go_enter Tryz.func17, Tryz.ntmps17
  go_wp2_with fail
  obtain ⟨w2, hw2⟩ : ∃ w2, w2 = (w.alloc (.cells #[.pointer (some ⟨y, 0, none⟩), .pointer (some ⟨r, 0, none⟩)] 56)).alloc (.cells #[.int .i64 20, .int .i64 a, .int .i64 b, .int .i64 c, .int .i64 d, .int .i64 j.arr, .int .i64 j.dl, .int .i64 j.len, .int .i64 j.units, .int .i64 j.val] 37) := ⟨_, rfl⟩
  rw [← hw2]
  obtain ⟨hc0, hbx⟩ := Bx.mk0 w y r 20 a b c d j w2 hw2
  have HC0 := hide hc0
  have HBX := hide hbx
  have HY2 := hide (HY.out.frame _ w2 _ _ _ HYA.out (fun k hk => hc0.block k (HFY.out k hk) (fun h => h)))
  have HM2 := hide (HM.out.chg0 hc0)
  clear hw2 hc0 hbx
  refine (HP.out.invoices w2 y FY m b HY2.out HGD.out hb).mono ?_
  rintro e w3 ⟨lv, FY', rfl, hio⟩
  have HIO := hide hio
  have HM3 := hide (HM2.out.chg hio.chg (fun k hk hf => H5.out k hf hk))
  have HBX3 := hide (show Bx w3 w.heap.size y r a b c d j from HBX.out.chg hio.chg (fun k hk => HFY.out k hk))
  have x0 := HBX3.out.r
  have x1 := HBX3.out.b
  clear hio
  go_wp2_with fail
  refine (invoices_any r V m b w3 HM3.out HGD.out.cash.chg.len).mono ?_
  rintro e w4 ⟨kv, rfl, hiv⟩
  obtain ⟨F2, hmid⟩ := inv_mid HY.out HC0.out HM.out H4.out H5.out HIO.out HGD.out ((MktTo.refl HM3.out).chg0 hiv.chg) hiv.own
  have HMID := hide hmid
  have HBX4 := hide (HBOX.out.chg hmid.chg HBF.out.1)
  have HN4 := hide (HN.out.frame (fun k hk => hmid.chg.block k (HN.out.lt k hk) (fun hf => HFB.out k hf hk)))
  have HLB := hide (show ∀ k, lv.ownBlock = some k → ¬ FB k ∧ k ≠ B from fun k hk => ⟨fun hf => by have := HN.out.lt k hf; have := (hmid.lb k hk).1; omega, by have := (hmid.lb k hk).1; have := HBOX.out.lt; omega⟩)
  clear hiv hmid x0 x1
  go_wp2_with fail
  refine (billed_any B FB _ _ lv kv v0 v1 v2 v3 bv vs w4 HMID.out.lo HMID.out.ko HLL.out HIO.out.nil HBX4.out HN4.out HEV.out HLEN.out HBF.out.2 HLB.out).mono ?_
  rintro e w5 ⟨rfl, hbl⟩
  have HF := hide (inv_end HY.out HBOX.out HN.out HFB.out HBF.out.1 HBF.out.2 HMID.out hbl)
  clear hbl
  go_wp2
  go_ret
  exact ⟨rfl, HF.out⟩

end Go.Proofs.YtminceigjejipabGreat
