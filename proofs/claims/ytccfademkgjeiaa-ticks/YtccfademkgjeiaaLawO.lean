import Derived.Test.YtccfademkgjeiaaLawL
import Derived.Test.YtccfademkgjeiaaR3
namespace Go.Proofs.Ytccfademkgjeiaa
open Go.RowKit

theorem infoMarket : (Try.prog.info? 134).map (fun i => (i.zero, i.size, i.bytes)) = some (some (.agg #[.pointer none, .pointer none]), 2, 16) := by kernel_rfl

theorem BoxAt.set2 {w : World} {B : Nat} {v0 v1 v2 v3 v4 : Value} (h : BoxAt w B v0 v1 v2 v3 v4) (u : Value) : BoxAt (w.setCell ⟨B, 2, none⟩ u) B v0 v1 u v3 v4 := by
  unfold BoxAt
  simp only [World.setCell, Array.getElem?_modify]
  rw [show w.heap[B]? = _ from h]
  simp

theorem ckZ_of {c : CfgG} {b : Bool} (h : cfgOk c = b) : ckZ c.ticks c.cap c.res c.ten c.quo = if b then 0 else 1 := by
  unfold cfgOk at h
  unfold ckZ
  rw [h]

set_option maxHeartbeats 2000000 in
theorem opened_bad {YAt : World → Nat → (Nat → Prop) → MkG → Prop} (hY : YardSpec YAt) (bw : Nat) (c : CfgG) (w : World) (h : cfgOk c = false) :
    Calls Try.prog 62 #[.pointer (some ⟨bw, 0, none⟩), cfgV c] w fun e w' => e = .returned (.bool true) ∧ Chg (fun _ => False) w w' := by
  have HY := hide hY
  have H := hide h
  have HZ := hide (ckZ_of h)
  clear hY h
  unfold cfgV
  go_enter Try.func62, Try.ntmps62
  go_wp2_with fail
  refine (HY.out.open_bad c _ H.out).mono ?_
  rintro e w1 ⟨rfl, hq⟩
  have hs := hq.size
  have b0 : w1.cell? ⟨w.heap.size, 0, none⟩ = some (.int .i64 c.ticks) := by rw [hq.cell (by simp) (fun h => h)]; simp
  have b1 : w1.cell? ⟨w.heap.size, 1, none⟩ = some (.int .i64 c.cap) := by rw [hq.cell (by simp) (fun h => h)]; simp
  have b2 : w1.cell? ⟨w.heap.size, 2, none⟩ = some (.int .i64 c.res) := by rw [hq.cell (by simp) (fun h => h)]; simp
  have b3 : w1.cell? ⟨w.heap.size, 3, none⟩ = some (.int .i64 c.ten) := by rw [hq.cell (by simp) (fun h => h)]; simp
  have b4 : w1.cell? ⟨w.heap.size, 4, none⟩ = some (.int .i64 c.quo) := by rw [hq.cell (by simp) (fun h => h)]; simp
  have HQ := hide (((Chg.refl (fun _ => False) w).alloc _).trans hq (fun _ _ h => h))
  clear hq hs
  go_wp2_with fail
  refine (refCheck_any _ _ _ _ _ _).mono ?_
  rintro e w2 ⟨rfl, hq2⟩
  have HQ2 := hide (HQ.out.trans hq2 (fun _ _ h => h))
  rw [HZ.out]
  clear hq2 b0 b1 b2 b3 b4
  simp only [Bool.false_eq_true, if_false]
  go_wp2
  go_ret
  exact ⟨rfl, HQ2.out⟩

/-- what 'opened' makes -/
def Opened (YAt : World → Nat → (Nat → Prop) → MkG → Prop) (w : World) (B n : Nat) (c : CfgG) (v0 v1 mv v3 v4 : Value) (xs : List Value) (w' : World) : Prop :=
  ∃ g cap y r F, BoxAt w' B v0 v1 (.slice (some ⟨g, 0, none⟩) (n + 1) cap) v3 v4 ∧ w'.ownsRow 0 134 2 (.slice (some ⟨g, 0, none⟩) (n + 1) cap) (n + 1) (xs ++ [.pointer (some ⟨y, 0, none⟩), .pointer (some ⟨r, 0, none⟩)]) ∧ PairM YAt w' y r F (openM c) ∧
    (∀ k, F k → w.heap.size ≤ k) ∧ ¬ F g ∧ Chg (fun k => k = B ∨ mv.ownBlock = some k) w w' ∧ (mv.ownBlock = some g ∨ w.heap.size ≤ g)

theorem opened_step {YAt : World → Nat → (Nat → Prop) → MkG → Prop} (hY : YardSpec YAt) {w w1 w2 w3 : World} {o : Obj} {B n y r g cap H : Nat} {c : CfgG} {v0 v1 v3 v4 : Value} {ma : Option Addr} {mc : Nat} {xs : List Value} {FY : Nat → Prop} {V : MV} (hok : cfgOk c = true)
    (hbox : BoxAt w B v0 v1 (.slice ma n mc) v3 v4) (hown : w.ownsRow 0 134 2 (.slice ma n mc) n xs)
    (hy : YAt w1 y FY (openM c)) (hc1 : Chg (fun _ => False) w w1) (hFY : ∀ k, FY k → w.heap.size ≤ k)
    (hm : MktAt w2 r V (openM c)) (hc2 : Chg (fun _ => False) w1 w2) (hV : ∀ k, V.foot r k → w1.heap.size ≤ k)
    (hown' : w3.ownsRow 0 134 2 (.slice (some ⟨g, 0, none⟩) (n + 1) cap) (n + 1) (xs ++ [.pointer (some ⟨y, 0, none⟩), .pointer (some ⟨r, 0, none⟩)])) (hg : (w2.alloc o).grownBy w3 (Value.ownBlock (.slice ma n mc))) (hat : Value.ownBlock (.slice ma n mc) = some g ∨ g = H) (hH : w2.heap.size ≤ H) :
    w3.cell? ⟨B, 2, none⟩ = some (.slice ma n mc) ∧ w3.frozen? ⟨B, 2, none⟩ = false ∧ Hid (Opened YAt w B n c v0 v1 (.slice ma n mc) v3 v4 xs (w3.setCell ⟨B, 2, none⟩ (.slice (some ⟨g, 0, none⟩) (n + 1) cap))) := by
  have hBl := hbox.lt
  have hs1 := hc1.size
  have hs2 := hc2.size
  have hmb : ∀ k, Value.ownBlock (.slice ma n mc) = some k → k < w.heap.size := fun k hk => (hown.lt k hk).2
  have nB : Value.ownBlock (.slice ma n mc) ≠ some B := ownsRow_box hown hbox (by decide)
  have hc3 : Chg (fun k => Value.ownBlock (.slice ma n mc) = some k) w w3 :=
    ((((hc1.trans hc2 (fun _ _ h => h)).alloc o).mono (O' := fun k => Value.ownBlock (.slice ma n mc) = some k) (fun _ _ h => h.elim))).grown hg (fun k hk => .inl hk)
  have hb3 : BoxAt w3 B v0 v1 (.slice ma n mc) v3 v4 := hbox.chg hc3 (fun h => nB h)
  have e1 := hb3.cell 2
  simp at e1
  refine ⟨e1, hb3.free 2, ?_⟩
  have hYl := hY.lt _ _ _ _ hy
  have hMl := hm.foot_lt
  have gB : g ≠ B := by
    rintro rfl
    obtain ⟨cu, hc⟩ := ownsRow_block hown' (k := g) rfl
    rw [show w3.heap[g]? = _ from hb3] at hc
    simp at hc
  have far : ∀ k, w.heap.size ≤ k → k < w2.heap.size → (w3.setCell ⟨B, 2, none⟩ (.slice (some ⟨g, 0, none⟩) (n + 1) cap)).heap[k]? = w2.heap[k]? := fun k h1 h2 => by
    rw [Below.heap_setCell _ _ _ _ (by show k ≠ B; omega), hg.block k (by simp; omega) (fun e => by have := hmb k e.symm; omega), Below.heap_alloc _ _ _ h2]
  refine ⟨g, cap, y, r, fun k => FY k ∨ V.foot r k, hb3.set2 _, ownsRow_keep hown' (fun k hk => Below.heap_setCell _ _ _ _ (by simp [Value.ownBlock] at hk; rw [← hk]; exact gB)), ⟨FY, V, ?_, ?_, GoodM.open hok, fun _ => Iff.rfl, fun k hk hf => ?_⟩, fun k hk => ?_, ?_, (hc3.mono (O' := fun k => k = B ∨ Value.ownBlock (.slice ma n mc) = some k) (fun _ _ h => .inr h)).setCell (.inl (.inl rfl)) _, ?_⟩
  · exact hY.frame _ _ _ _ _ hy (fun k hk => by rw [far k (hFY k hk) (by have := hYl k hk; omega), hc2.block k (hYl k hk) (fun h => h)])
  · exact hm.frame (fun k hk => far k (by have := hV k hk; omega) (hMl k hk))
  · have := hYl k hk
    have := hV k hf
    omega
  · rcases hk with hk | hk
    · exact hFY k hk
    · have := hV k hk; omega
  · rintro (h | h)
    · have a1 := hYl g h
      have a2 := hFY g h
      rcases hat with e | e
      · have := hmb g e; omega
      · omega
    · have a1 := hMl g h
      have a2 := hV g h
      rcases hat with e | e
      · have := hmb g e; omega
      · omega
  · rcases hat with e | e
    · exact .inl e
    · exact .inr (by omega)

set_option maxRecDepth 100000 in
set_option maxHeartbeats 4000000 in
theorem opened_ok {YAt : World → Nat → (Nat → Prop) → MkG → Prop} (hY : YardSpec YAt) (B n : Nat) (c : CfgG) (ma : Option Addr) (mc : Nat) (v0 v1 v3 v4 : Value) (xs : List Value) (w : World) (h : cfgOk c = true) (hn : n < 5000000000000)
    (hbox : BoxAt w B v0 v1 (.slice ma n mc) v3 v4) (hown : w.ownsRow 0 134 2 (.slice ma n mc) n xs) :
    Calls Try.prog 62 #[.pointer (some ⟨B, 0, none⟩), cfgV c] w fun e w' => e = .returned (.bool true) ∧ ∃ o, Opened YAt (w.alloc o) B n c v0 v1 (.slice ma n mc) v3 v4 xs w' := by
  obtain ⟨i0, hi, hz0, hz1, hz2⟩ := info_parts infoMarket
  have HY := hide hY
  have H := hide h
  have HZ := hide (ckZ_of h)
  have HBOX := hide hbox
  have HOWN := hide hown
  clear hY h hbox hown
  unfold cfgV
  go_enter Try.func62, Try.ntmps62
  go_wp2_with fail
  obtain ⟨w0, hw0⟩ : ∃ w0, w0 = w.alloc (.cells #[.int .i64 c.ticks, .int .i64 c.cap, .int .i64 c.res, .int .i64 c.ten, .int .i64 c.quo] 42) := ⟨_, rfl⟩
  rw [← hw0]
  have hbk : w0.heap[w.heap.size]? = some (.cells #[.int .i64 c.ticks, .int .i64 c.cap, .int .i64 c.res, .int .i64 c.ten, .int .i64 c.quo] 42 (0, 0)) := by rw [hw0]; exact heap_alloc_new w _
  have HBOX0 := hide (show BoxAt w0 B v0 v1 (.slice ma n mc) v3 v4 from by rw [hw0]; exact HBOX.out.chg ((Chg.refl (fun _ => False) _).alloc _) (fun h => h))
  have HOWN0 := hide (show w0.ownsRow 0 134 2 (.slice ma n mc) n xs from by rw [hw0]; exact HOWN.out.alloc _)
  have HW0 := hide hw0
  have hq0 : w.heap.size < w0.heap.size := (Array.getElem?_eq_some_iff.1 hbk).1
  have HBK := hide hbk
  clear hw0 hbk
  refine (HY.out.open_ok c _ H.out).mono ?_
  rintro e w1 ⟨y, FY, rfl, hy, hc1, hFY⟩
  have cellsOf : ∀ (wx : World), Chg (fun _ => False) w0 wx → wx.cell? ⟨w.heap.size, 0, none⟩ = some (.int .i64 c.ticks) ∧ wx.cell? ⟨w.heap.size, 1, none⟩ = some (.int .i64 c.cap) ∧ wx.cell? ⟨w.heap.size, 2, none⟩ = some (.int .i64 c.res) ∧ wx.cell? ⟨w.heap.size, 3, none⟩ = some (.int .i64 c.ten) ∧ wx.cell? ⟨w.heap.size, 4, none⟩ = some (.int .i64 c.quo) := fun wx hx => by
    have hb : wx.heap[w.heap.size]? = some (.cells #[.int .i64 c.ticks, .int .i64 c.cap, .int .i64 c.res, .int .i64 c.ten, .int .i64 c.quo] 42 (0, 0)) := by rw [hx.block _ hq0 (fun h => h)]; exact HBK.out
    refine ⟨?_, ?_, ?_, ?_, ?_⟩ <;> (unfold World.cell?; rw [hb]; rfl)
  have HCO := hide cellsOf
  obtain ⟨b0, b1, b2, b3, b4⟩ := cellsOf w1 hc1
  have HYA := hide hy
  have HC1 := hide hc1
  have HFY := hide hFY
  clear hy hc1 hFY cellsOf
  go_wp2_with fail
  refine (refCheck_any _ _ _ _ _ _).mono ?_
  rintro e w2 ⟨rfl, hq2⟩
  have HC2 := hide (HC1.out.trans hq2 (fun _ _ h => h))
  have HYA2 := hide (HY.out.frame _ w2 _ _ _ HYA.out (fun k hk => hq2.block k (HY.out.lt _ _ _ _ HYA.out k hk) (fun h => h)))
  rw [HZ.out]
  clear hq2 b0 b1 b2 b3 b4
  obtain ⟨b0, b1, b2, b3, b4⟩ := HCO.out w2 HC2.out
  simp only [if_true]
  go_wp2_with fail
  refine (open_any c _ H.out).mono ?_
  rintro e w3 ⟨r, V, rfl, hm, hc3, hV⟩
  have HM := hide hm
  have HC3 := hide hc3
  have HV := hide hV
  have hb3 : BoxAt w3 B v0 v1 (.slice ma n mc) v3 v4 := (HBOX0.out.chg HC2.out (fun h => h)).chg hc3 (fun h => h)
  have c2 : w3.cell? ⟨B, 2, none⟩ = some (.slice ma n mc) := by have := hb3.cell 2; simpa using this
  have hl3 := hb3.lt
  have HO3 := hide (show w3.ownsRow 0 134 2 (.slice ma n mc) n xs from ownsRow_keep HOWN0.out (fun k hk => by
    have hkl := (HOWN0.out.lt k hk).2
    rw [hc3.block k (Nat.lt_of_lt_of_le hkl HC2.out.size) (fun h => h), HC2.out.block k hkl (fun h => h)]))
  clear hm hc3 hV hb3 b0 b1 b2 b3 b4
  go_wp2_with (first | (at_builtin; refine wpList_append_lies _ rfl _ _ 77 rfl 0 134 i0 (.agg #[.pointer none, .pointer none]) 2 16 Try.underlying77 hi hz0 hz1 hz2 rfl (by decide) _ _ _ rfl (HO3.out.alloc _) ⟨w3.heap.size, 0, none⟩ 1 1 [.pointer (some ⟨y, 0, none⟩), .pointer (some ⟨r, 0, none⟩)] rfl rfl (World.news_of_block (heap_alloc_new w3 _)) (by simp [Value.oneCell']) (by decide) (by unfold maxLen; omega) (by omega) (Nat.zero_le _) _ rfl ?_))
  intro g cap w4 hown' hgrow hat hlt
  obtain ⟨s1, s2, s3⟩ := opened_step HY.out H.out HBOX0.out HOWN0.out HYA2.out HC2.out HFY.out HM.out HC3.out HV.out hown' hgrow hat (by simp)
  have S3 := hide s3.out
  clear s3 hown' hgrow hat hlt c2
  go_wp2
  go_ret
  exact ⟨rfl, _, by have := S3.out; rw [HW0.out] at this; exact this⟩
end Go.Proofs.Ytccfademkgjeiaa
