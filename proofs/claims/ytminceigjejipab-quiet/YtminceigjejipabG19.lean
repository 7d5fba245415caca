import Derived.Test.YtminceigjejipabG17
import Derived.Test.YtminceigjejipabG18
import Derived.Test.YtminceigjejipabYt2
/-
  yardkeep, Quiet: sameTold, asks.
-/
namespace Go.Proofs.Ytminceigjejipab
open Go.RowKit

set_option maxRecDepth 100000 in
set_option maxHeartbeats 4000000 in
theorem ktold_any (z : Int) (names : List (Int × Int)) (bills : List InvG) (na nb ia ib : Value) (w : World) (hna : w.ownsRow 0 65 2 na names.length (names.flatMap nameCells)) (hnb : w.ownsRow 0 65 2 nb names.length (names.flatMap nameCells)) (hia : w.ownsRow 0 91 3 ia bills.length (bills.flatMap invCells)) (hib : w.ownsRow 0 91 3 ib bills.length (bills.flatMap invCells)) (hl : names.length ≤ 300) (hl2 : bills.length ≤ 300) :
    Calls Try.prog 7 #[.agg #[.int .i64 z, na, ia], .agg #[.int .i64 z, nb, ib]] w fun e w' => e = .returned (.bool true) ∧ Chg (fun _ => False) w w' := by
  obtain ⟨aa, ac, hav⟩ := ownsRow_form hna
  obtain ⟨ba, bc, hbv⟩ := ownsRow_form hnb
  obtain ⟨ja, jc, hjv⟩ := ownsRow_form hia
  obtain ⟨ka, kc, hkv⟩ := ownsRow_form hib
  subst hav hbv hjv hkv
  have HA := hide hna
  have HB := hide hnb
  have HSB := hide (fun (w' : World) (h : Chg (fun _ => False) w w') => ksame_any bills _ _ w' (ownsRow_keep hia (fun q hq => h.block q (hia.lt q hq).2 (fun h => h))) (ownsRow_keep hib (fun q hq => h.block q (hib.lt q hq).2 (fun h => h))) hl2)
  obtain ⟨n, hn⟩ : ∃ n, n = names.length := ⟨_, rfl⟩
  have HN := hide hn
  rw [← hn] at hl HA HB ⊢
  generalize bills.length = nb2 at *
  clear hna hnb hia hib hn
  go_enter Try.func7, Try.ntmps7
  go_wp2
  obtain ⟨w2, hw2⟩ : ∃ w2, w2 = (w.alloc (.cells #[.int .i64 z, .slice aa n ac, .slice ja nb2 jc] 39)).alloc (.cells #[.int .i64 z, .slice ba n bc, .slice ka nb2 kc] 39) := ⟨_, rfl⟩
  rw [← hw2]
  have HC2 : Hid (Chg (fun _ => False) w w2) := by rw [hw2]; exact ((Chg.refl _ _).alloc _).alloc _
  have hbA : w2.heap[w.heap.size]? = some (.cells #[.int .i64 z, .slice aa n ac, .slice ja nb2 jc] 39 (0, 0)) := by rw [hw2, Below.heap_alloc _ _ _ (by simp)]; exact heap_alloc_new w _
  have hbB : w2.heap[w.heap.size + 1]? = some (.cells #[.int .i64 z, .slice ba n bc, .slice ka nb2 kc] 39 (0, 0)) := by rw [hw2]; exact heap_at_new (by simp)
  have HBA := hide hbA
  have HBB := hide hbB
  have HS2 := hide (show w.heap.size < w2.heap.size ∧ w.heap.size + 1 < w2.heap.size from ⟨(Array.getElem?_eq_some_iff.1 hbA).1, (Array.getElem?_eq_some_iff.1 hbB).1⟩)
  clear hw2 hbA hbB
  go_loopw [5] (fun i wr => ∃ k : Nat, k ≤ n ∧ i = .int .i64 k ∧ Chg (fun _ => False) w2 wr) (fun i _ => n - (intOf i).toNat)
  case atStart => exact ⟨0, by omega, rfl, Chg.refl _ _⟩
  case round =>
    obtain ⟨k, hk, rfl, hcr⟩ := hrel
    have HCR := hide hcr
    have HCW := hide (HC2.out.trans hcr (fun _ _ h => h))
    have hbA := (hcr.block _ HS2.out.1 (fun h => h)).trans HBA.out
    have hbB := (hcr.block _ HS2.out.2 (fun h => h)).trans HBB.out
    have t1 : wr.cell? ⟨w.heap.size, 1, none⟩ = some (.slice aa n ac) := by unfold World.cell?; rw [hbA]; rfl
    have t2 : wr.cell? ⟨w.heap.size, 2, none⟩ = some (.slice ja nb2 jc) := by unfold World.cell?; rw [hbA]; rfl
    have u1 : wr.cell? ⟨w.heap.size + 1, 1, none⟩ = some (.slice ba n bc) := by unfold World.cell?; rw [hbB]; rfl
    have u2 : wr.cell? ⟨w.heap.size + 1, 2, none⟩ = some (.slice ka nb2 kc) := by unfold World.cell?; rw [hbB]; rfl
    clear hcr hbA hbB
    by_cases hlt : k < n
    · obtain ⟨c, hc⟩ : ∃ c, names[k]? = some c := ⟨_, List.getElem?_eq_getElem (by rw [← HN.out]; exact hlt)⟩
      have hra : wr.ownsRow 0 65 2 (.slice aa n ac) names.length (names.flatMap nameCells) := by
        have h1 := HA.out
        rw [HN.out] at h1 ⊢
        exact ownsRow_keep h1 (fun q hq => HCW.out.block q (h1.lt q hq).2 (fun h => h))
      have hrb : wr.ownsRow 0 65 2 (.slice ba n bc) names.length (names.flatMap nameCells) := by
        have h1 := HB.out
        rw [HN.out] at h1 ⊢
        exact ownsRow_keep h1 (fun q hq => HCW.out.block q (h1.lt q hq).2 (fun h => h))
      obtain ⟨ga, ca, hva, a0, a1⟩ := nameRow_cell hra hc
      obtain ⟨gb, cb, hvb, b0, b1⟩ := nameRow_cell hrb hc
      have haa : aa = some ⟨ga, 0, none⟩ := by simp at hva; exact hva.1
      have hbb : ba = some ⟨gb, 0, none⟩ := by simp at hvb; exact hvb.1
      subst haa hbb
      have k0 : (0 : Int) ≤ (k : Int) := by omega
      have k1 : (k : Int) < (n : Int) := by omega
      have hd : decide ((k : Int) < (n : Int)) = true := by simpa using k1
      clear hra hrb hva hvb hc
      go_wp2
      go_quiet (fail)
      go_wp2
      go_roundw
      case rel => exact ⟨k + 1, by omega, by go_num, HCR.out.drewN _⟩
      case measure => simp [intOf]; omega
    · have hd : decide ((k : Int) < (n : Int)) = false := by simp; omega
      have HSB2 := hide (HSB.out wr HCW.out)
      go_wp2_with fail
      refine HSB2.out.mono ?_
      rintro e w5 ⟨rfl, hq⟩
      have HQ := hide (HCW.out.trans hq (fun _ _ h => h))
      clear hq HSB2 t1 t2 u1 u2
      go_wp2
      go_ret
      exact ⟨rfl, HQ.out⟩

set_option maxHeartbeats 400000 in
theorem kpick2_any (c n : Int) (w : World) (h1 : -9223372036854775808 ≤ c) (h2 : c ≤ 9223372036854775807) (hn : 0 < n) :
    Calls Try.prog 12 #[.int .i64 c, .int .i64 n] w fun e w' => e = .returned (.int .i64 (pickZ c n)) ∧ w' = w := by
  by_cases h : c < 0
  · go_enter Try.func12, Try.ntmps12
    go_wp2
    go_ret
    exact ⟨ret_int (by rw [pickZ, if_pos h, ← Int.neg_tmod, Int.tmod_eq_emod_of_nonneg (by omega)]), rfl⟩
  · go_enter Try.func12, Try.ntmps12
    go_wp2
    go_ret
    exact ⟨ret_int (by rw [pickZ, if_neg (by omega)]), rfl⟩

set_option maxRecDepth 100000 in
set_option maxHeartbeats 8000000 in
theorem asks_any {YAt : World → Nat → (Nat → Prop) → MkG → Prop} (hY : YardSpec YAt) (hP : PaidY YAt) (y : Nat) (F : Nat → Prop) (m : MkG) (sa : Option Addr) (sl sc : Nat) (i : Nat) (w : World) (hy : YAt w y F m) (hg : GoodM m) (hi : i < 5000000000000) :
    Calls Try.prog 5 #[.agg #[.int .i64 m.c.ticks, .int .i64 m.c.cap, .int .i64 m.c.res, .int .i64 m.c.ten, .int .i64 m.c.quo, .slice sa sl sc], .pointer (some ⟨y, 0, none⟩), .int .i64 i] w fun e w' => e = .returned (.tuple #[]) ∧ YTo YAt w y F m w' := by
  have hcf := cfgOk_true hg.ok.ck
  obtain ⟨w1, hw1⟩ : ∃ w1, w1 = w.alloc (.cells #[.int .i64 m.c.ticks, .int .i64 m.c.cap, .int .i64 m.c.res, .int .i64 m.c.ten, .int .i64 m.c.quo, .slice sa sl sc] 26) := ⟨_, rfl⟩
  have hc1 : Chg (fun _ => False) w w1 := by rw [hw1]; exact (Chg.refl _ _).alloc _
  have hb1 : w1.heap[w.heap.size]? = some (.cells #[.int .i64 m.c.ticks, .int .i64 m.c.cap, .int .i64 m.c.res, .int .i64 m.c.ten, .int .i64 m.c.quo, .slice sa sl sc] 26 (0, 0)) := by rw [hw1]; exact heap_alloc_new w _
  have hs1 : w.heap.size < w1.heap.size := (Array.getElem?_eq_some_iff.1 hb1).1
  have HY := hide hY
  have HP := hide hP
  have HG := hide hg
  have HFL := hide (fun k (hk : F k) => show k < w.heap.size from hY.lt _ _ _ _ hy k hk)
  -- a yard that looks have gone to, and the case's box
  obtain ⟨St, hSt⟩ : ∃ St : (Nat → Prop) → World → Prop, St = fun F' wr => YAt wr y F' m ∧ Chg F w1 wr ∧ (∀ k, F' k → F k ∨ w1.heap.size ≤ k) ∧ wr.heap[w.heap.size]? = some (.cells #[.int .i64 m.c.ticks, .int .i64 m.c.cap, .int .i64 m.c.res, .int .i64 m.c.ten, .int .i64 m.c.quo, .slice sa sl sc] 26 (0, 0)) := ⟨_, rfl⟩
  have HST1 := hide (show St F w1 from by rw [hSt]; exact ⟨hY.frame _ _ _ _ _ hy (fun k hk => hc1.block k (HFL.out k hk) (fun h => h)), Chg.refl _ _, fun _ h => .inl h, hb1⟩)
  have HSTEP := hide (fun (F' : Nat → Prop) (wr w' : World) (h : St F' wr) (ht : YTo YAt wr y F' m w') => show ∃ F2, St F2 w' from by
    rw [hSt] at h ⊢
    obtain ⟨a1, a2, a3, a4⟩ := h
    obtain ⟨F2, b1, b2, b3⟩ := ht
    have hl : w.heap.size < wr.heap.size := (Array.getElem?_eq_some_iff.1 a4).1
    refine ⟨F2, b1, a2.trans b2 (fun k hk hf => ?_), fun k hk => ?_, (b2.block _ hl (fun hf => ?_)).trans a4⟩
    · rcases a3 k hf with e | e
      · exact e
      · omega
    · rcases b3 k hk with e | e
      · exact a3 k e
      · exact .inr (Nat.le_trans a2.size e)
    · rcases a3 _ hf with e | e
      · have := HFL.out _ e; omega
      · omega)
  have HYD := hide (fun (F' : Nat → Prop) (wr : World) (h : St F' wr) => show YAt wr y F' m from by rw [hSt] at h; exact h.1)
  have HCEL := hide (fun (F' : Nat → Prop) (wr : World) (h : St F' wr) => show wr.cell? ⟨w.heap.size, 0, none⟩ = some (.int .i64 m.c.ticks) ∧ wr.cell? ⟨w.heap.size, 3, none⟩ = some (.int .i64 m.c.ten) from by
    rw [hSt] at h
    constructor
    · unfold World.cell?; rw [h.2.2.2]; rfl
    · unfold World.cell?; rw [h.2.2.2]; rfl)
  have HEND := hide (fun (F' : Nat → Prop) (wr : World) (h : St F' wr) => show YTo YAt w y F m wr from by
    rw [hSt] at h
    exact ⟨F', h.1, (hc1.mono (fun _ _ h => h.elim)).trans h.2.1 (fun _ _ h => h), fun k hk => by
      rcases h.2.2.1 k hk with e | e
      · exact .inl e
      · exact .inr (Nat.le_trans hc1.size e)⟩)
  have hp1 := pickZ_lt (i : Int) m.c.ten (by omega)
  have hp2 := pickZ_lt (i : Int) m.c.ticks (by omega)
  have HPK1 := hide (fun (w' : World) => kpick2_any (i : Int) m.c.ten w' (by omega) (by omega) (by omega))
  have HPK2 := hide (fun (w' : World) => kpick2_any (i : Int) m.c.ticks w' (by omega) (by omega) (by omega))
  obtain ⟨a, hadef⟩ : ∃ a, a = pickZ (i : Int) m.c.ten := ⟨_, rfl⟩
  obtain ⟨t, htdef⟩ : ∃ t, t = pickZ (i : Int) m.c.ticks := ⟨_, rfl⟩
  rw [← hadef] at hp1 HPK1
  rw [← htdef] at hp2 HPK2
  have htd : Int.tdiv (i : Int) 8 = (i : Int) / 8 := by rw [Int.tdiv_eq_ediv_of_nonneg (by omega)]
  have hw8 : IntKind.i64.wrap ((i : Int) / 8) = (i : Int) / 8 := by rw [IntKind.wrap_i64]; omega
  have hwr8 : IntKind.i64.wrap (1 + (i : Int) / 8) = 1 + (i : Int) / 8 := by rw [IntKind.wrap_i64]; omega
  have HW1 := hide hw1
  have HI := hide (show I64 a ∧ I64 t ∧ I64 (1 + (i : Int) / 8) ∧ I64 (-1) ∧ I64 m.c.ten ∧ I64 1 from ⟨by constructor <;> omega, by constructor <;> omega, by constructor <;> omega, by constructor <;> omega, by constructor <;> omega, by constructor <;> omega⟩)
  clear hy hg hY hP hcf hw1 hc1 hb1 hSt hadef htdef hp1 hp2 hs1
  obtain ⟨c0, c3⟩ := (HCEL.out F w1 HST1.out)
  go_enter Try.func5, Try.ntmps5
  go_wp2_with fail
  rw [← HW1.out]
  refine (HPK1.out _).mono ?_
  rintro e w2 ⟨rfl, hw2⟩
  subst w2
  clear c0 c3
  go_wp2_with fail
  refine (HY.out.now w1 y F m (HYD.out _ _ HST1.out) HG.out.ok).mono ?_
  rintro e w3 ⟨rfl, hto⟩
  obtain ⟨F3, h3⟩ := HSTEP.out F w1 w3 HST1.out hto
  have HST3 := hide h3
  clear hto h3
  go_wp2_with fail
  refine (HY.out.left w3 y F3 m (HYD.out _ _ HST3.out) HG.out.ok).mono ?_
  rintro e w4 ⟨rfl, hto⟩
  obtain ⟨F4, h4⟩ := HSTEP.out F3 w3 w4 HST3.out hto
  have HST4 := hide h4
  clear hto h4
  go_wp2_with fail
  refine (HY.out.look w4 y F4 m a (1 + (i : Int) / 8) (HYD.out _ _ HST4.out) HG.out.ok HI.out.1 HI.out.2.2.1).mono ?_
  rintro e w5 ⟨rfl, hto⟩
  obtain ⟨F5, h5⟩ := HSTEP.out F4 w4 w5 HST4.out hto
  have HST5 := hide h5
  obtain ⟨c0, c3⟩ := HCEL.out F5 w5 h5
  clear hto h5 c3
  go_wp2_with fail
  refine (HPK2.out _).mono ?_
  rintro e w6 ⟨rfl, hw6⟩
  subst w6
  clear c0
  go_wp2_with fail
  refine (HY.out.free w5 y F5 m t (HYD.out _ _ HST5.out) HG.out.ok HI.out.2.1).mono ?_
  rintro e w7 ⟨rfl, hto⟩
  obtain ⟨F7, h7⟩ := HSTEP.out F5 w5 w7 HST5.out hto
  have HST7 := hide h7
  clear hto h7
  go_wp2_with fail
  refine (HP.out.price w7 y F7 m a (1 + (i : Int) / 8) (HYD.out _ _ HST7.out) HG.out HI.out.1 HI.out.2.2.1).mono ?_
  rintro e w8 ⟨rfl, hto⟩
  obtain ⟨F8, h8⟩ := HSTEP.out F7 w7 w8 HST7.out hto
  have HST8 := hide h8
  clear hto h8
  go_wp2_with fail
  refine (HP.out.balance w8 y F8 m a (HYD.out _ _ HST8.out) HG.out HI.out.1).mono ?_
  rintro e w9 ⟨rfl, hto⟩
  obtain ⟨F9, h9⟩ := HSTEP.out F8 w8 w9 HST8.out hto
  have HST9 := hide h9
  clear hto h9
  go_wp2_with fail
  refine (HP.out.invoices w9 y F9 m a (HYD.out _ _ HST9.out) HG.out HI.out.1).mono ?_
  rintro e w10 ⟨lv, FF, rfl, hio⟩
  obtain ⟨F10, h10⟩ := HSTEP.out F9 w9 w10 HST9.out ⟨FF, hio.yard, hio.chg, hio.foot⟩
  have HST10 := hide h10
  clear hio h10
  go_wp2_with fail
  refine (HY.out.free w10 y F10 m (-1) (HYD.out _ _ HST10.out) HG.out.ok HI.out.2.2.2.1).mono ?_
  rintro e w11 ⟨rfl, hto⟩
  obtain ⟨F11, h11⟩ := HSTEP.out F10 w10 w11 HST10.out hto
  have HST11 := hide h11
  obtain ⟨c0, c3⟩ := HCEL.out F11 w11 h11
  clear hto h11 c0
  go_wp2_with fail
  refine (HY.out.look w11 y F11 m m.c.ten 1 (HYD.out _ _ HST11.out) HG.out.ok HI.out.2.2.2.2.1 HI.out.2.2.2.2.2).mono ?_
  rintro e w12 ⟨rfl, hto⟩
  obtain ⟨F12, h12⟩ := HSTEP.out F11 w11 w12 HST11.out hto
  have HST12 := hide h12
  clear hto h12 c3
  go_wp2
  go_end0
  exact ⟨rfl, HEND.out _ _ HST12.out⟩
end Go.Proofs.Ytminceigjejipab

/-
  Quiet: its walk.
-/
namespace Go.Proofs.Ytminceigjejipab
open Go.ChangeShapes Go.WideShapes Go.ChangeAt Go.RowKit Go.Deep

/-- two yards, apart -/
structure Two (YAt : World → Nat → (Nat → Prop) → MkG → Prop) (w0 : World) (y1 y2 : Nat) (wr : World) (m1 m2 : MkG) (F1 F2 : Nat → Prop) : Prop where
  a : YAt wr y1 F1 m1
  b : YAt wr y2 F2 m2
  ap : ∀ k, F1 k → ¬ F2 k
  n1 : ∀ k, F1 k → w0.heap.size ≤ k
  n2 : ∀ k, F2 k → w0.heap.size ≤ k
  chg : Chg (fun _ => False) w0 wr
section
variable {YAt : World → Nat → (Nat → Prop) → MkG → Prop} {w0 wr w2 : World} {y1 y2 : Nat} {m1 m2 m' : MkG} {F1 F2 F' : Nat → Prop}
theorem Two.stepA (hY : YardSpec YAt) (h : Two YAt w0 y1 y2 wr m1 m2 F1 F2) (h1 : YAt w2 y1 F' m') (h2 : Chg F1 wr w2) (h3 : ∀ k, F' k → F1 k ∨ wr.heap.size ≤ k) : Two YAt w0 y1 y2 w2 m' m2 F' F2 := by
  have hs := h.chg.size
  refine ⟨h1, hY.frame _ _ _ _ _ h.b (fun k hk => h2.block k (hY.lt _ _ _ _ h.b k hk) (fun e => h.ap k e hk)), fun k hk e => ?_, fun k hk => ?_, h.n2, h.chg.trans h2 (fun x hx e => by have := h.n1 x e; omega)⟩
  · rcases h3 k hk with e' | e'
    · exact h.ap k e' e
    · have := hY.lt _ _ _ _ h.b k e; omega
  · rcases h3 k hk with e | e
    · exact h.n1 k e
    · omega
theorem Two.stepB (hY : YardSpec YAt) (h : Two YAt w0 y1 y2 wr m1 m2 F1 F2) (h1 : YAt w2 y2 F' m') (h2 : Chg F2 wr w2) (h3 : ∀ k, F' k → F2 k ∨ wr.heap.size ≤ k) : Two YAt w0 y1 y2 w2 m1 m' F1 F' := by
  have hs := h.chg.size
  refine ⟨hY.frame _ _ _ _ _ h.a (fun k hk => h2.block k (hY.lt _ _ _ _ h.a k hk) (fun e => h.ap k hk e)), h1, fun k hk e => ?_, h.n1, fun k hk => ?_, h.chg.trans h2 (fun x hx e => by have := h.n2 x e; omega)⟩
  · rcases h3 k e with e' | e'
    · exact h.ap k hk e'
    · have := hY.lt _ _ _ _ h.a k hk; omega
  · rcases h3 k hk with e | e
    · exact h.n2 k e
    · omega
theorem Two.chg0 (hY : YardSpec YAt) (h : Two YAt w0 y1 y2 wr m1 m2 F1 F2) (hc : Chg (fun _ => False) wr w2) : Two YAt w0 y1 y2 w2 m1 m2 F1 F2 :=
  ⟨hY.frame _ _ _ _ _ h.a (fun k hk => hc.block k (hY.lt _ _ _ _ h.a k hk) (fun e => e)), hY.frame _ _ _ _ _ h.b (fun k hk => hc.block k (hY.lt _ _ _ _ h.b k hk) (fun e => e)), h.ap, h.n1, h.n2, h.chg.trans hc (fun _ _ e => e)⟩
end

set_option maxRecDepth 100000 in
set_option maxHeartbeats 4000000 in
theorem quiet_bad {YAt : World → Nat → (Nat → Prop) → MkG → Prop} (hY : YardSpec YAt) (c : CfgG) (sa : Option Addr) (sl sc : Nat) (w : World) (hc : cfgOk c = false) :
    Calls Try.prog 3 #[caseV c (.slice sa sl sc)] w fun e w' => e = .returned (.bool true) ∧ Below w.heap.size w w' := by
  have HY := hide hY
  have HC := hide hc
  clear hY hc
  unfold caseV caseC
  go_enter Try.func3, Try.ntmps3
  go_wp2_with fail
  refine (open_bad' HY.out c (.slice sa sl sc) _ HC.out ⟨_, _, _, rfl⟩).mono ?_
  rintro e w1 ⟨rfl, hc1⟩
  have HC1 := hide hc1
  clear hc1
  go_wp2
  go_ret
  exact ⟨rfl, (((Chg.refl (fun _ => False) w).alloc _).trans HC1.out (fun _ _ h => h)).below (Nat.le_refl _) (fun _ h => h.elim)⟩

set_option maxRecDepth 100000 in
set_option maxHeartbeats 16000000 in
theorem quiet_ok {YAt : World → Nat → (Nat → Prop) → MkG → Prop} (hY : YardSpec YAt) (hT : TickY YAt) (hP : PaidY YAt) (c : CfgG) (sa : Option Addr) (sl sc : Nat) (w : World) (hc : cfgOk c = true) (hs : IntRows w 9 sa sl) (hsl : sl < 5000000000000) :
    Calls Try.prog 3 #[caseV c (.slice sa sl sc)] w fun e w' => e = .returned (.bool true) ∧ Below w.heap.size w w' := by
  have HY := hide hY
  have HT := hide hT
  have HP := hide hP
  have HC := hide hc
  obtain ⟨Z, hcase⟩ := caseAt_new (c := c) (sc := sc) hs
  obtain ⟨w0, hw0⟩ : ∃ w0, w0 = w.alloc (.cells (caseC c (.slice sa sl sc)) 26) := ⟨_, rfl⟩
  rw [← hw0] at hcase
  have HC0 : Hid (Chg (fun _ => False) w w0) := by rw [hw0]; exact (Chg.refl _ _).alloc _
  have HCA := hide hcase
  have HW0 := hide hw0
  clear hY hT hP hc hs hcase hw0
  unfold caseV caseC
  unfold caseC at HW0
  go_enter Try.func3, Try.ntmps3
  go_wp2_with fail
  rw [← HW0.out]
  refine (open_ok' HY.out HT.out c (.slice sa sl sc) _ HC.out ⟨_, _, _, rfl⟩).mono ?_
  rintro e w1 ⟨y1, F1, rfl, hown1⟩
  have HO1 := hide hown1
  have HCA1 := hide (HCA.out.chg hown1.chg)
  have k0 : w1.cell? ⟨w.heap.size, 0, none⟩ = some (.int .i64 c.ticks) := HCA1.out.cell 0
  have k1 : w1.cell? ⟨w.heap.size, 1, none⟩ = some (.int .i64 c.cap) := HCA1.out.cell 1
  have k2 : w1.cell? ⟨w.heap.size, 2, none⟩ = some (.int .i64 c.res) := HCA1.out.cell 2
  have k3 : w1.cell? ⟨w.heap.size, 3, none⟩ = some (.int .i64 c.ten) := HCA1.out.cell 3
  have k4 : w1.cell? ⟨w.heap.size, 4, none⟩ = some (.int .i64 c.quo) := HCA1.out.cell 4
  have k5 : w1.cell? ⟨w.heap.size, 5, none⟩ = some (.slice sa sl sc) := HCA1.out.cell 5
  clear hown1
  go_wp2_with fail
  refine (open_ok' HY.out HT.out c (.slice sa sl sc) _ HC.out ⟨_, _, _, rfl⟩).mono ?_
  rintro e w2 ⟨y2, F2, rfl, hown2⟩
  have HTW := hide (show Two YAt w0 y1 y2 w2 (openM c) (openM c) F1 F2 from by
    have hs := HO1.out.chg.size
    refine ⟨HY.out.frame _ _ _ _ _ HO1.out.yard (fun k hk => hown2.chg.block k (HY.out.lt _ _ _ _ HO1.out.yard k hk) (fun e => e)), hown2.yard, fun k hk e => ?_, HO1.out.new, fun k hk => ?_, HO1.out.chg.trans hown2.chg (fun _ _ e => e)⟩
    · have h1 := HY.out.lt _ _ _ _ HO1.out.yard k hk
      have h2 := hown2.new k e
      omega
    · have h2 := hown2.new k hk
      omega)
  clear hown2 k0 k1 k2 k3 k4 k5
  go_wp2
  go_loopw [6, 7] (fun n i wr => ∃ (k : Nat) (m : MkG) (F1 F2 : Nat → Prop), k ≤ sl ∧ i = .int .i64 k ∧ n = .int .i64 m.log.length ∧ Two YAt w0 y1 y2 wr m m F1 F2 ∧ GoodM m ∧ m.c = c) (fun _ i _ => sl - (intOf i).toNat)
  case atStart => exact ⟨0, openM c, F1, F2, Nat.zero_le _, rfl, rfl, HTW.out, GoodM.open HC.out, rfl⟩
  case round =>
    obtain ⟨k, m, G1, G2, hk, rfl, rfl, htw, hg, hmc⟩ := hrel
    have HT2 := hide htw
    have HG := hide hg
    have HMC := hide hmc
    have hcr := HCA.out.chg htw.chg
    have c5 : wr.cell? ⟨w.heap.size, 5, none⟩ = some (.slice sa sl sc) := hcr.cell 5
    have hll : m.log.length ≤ 300 := hg.ok.nl
    clear htw hg hmc hcr HTW HO1 HCA1
    by_cases hlt : k < sl
    · obtain ⟨sb, off, hsa, hst⟩ := HCA.out.step hlt
      subst hsa
      have hi := stepZ_i64 HCA.out.i64 hlt
      obtain ⟨s, hst', hi'⟩ : ∃ s, StepAt w0 sb (off + k * 9) s ∧ StepI64 s := ⟨_, hst, hi⟩
      clear hst hi
      obtain ⟨kd, A, B, C, ⟨ja, jd, jl, ju, jv⟩⟩ := s
      have HI := hide hi'
      obtain ⟨_, q0, q1, q2, q3, q4, q5, q6, q7, q8⟩ := hst'.chg HT2.out.chg (fun e => e)
      simp only at q0 q1 q2 q3 q4 q5 q6 q7 q8
      have n0 : (0 : Int) ≤ (k : Int) := by omega
      have n1 : (k : Int) < (sl : Int) := by omega
      obtain ⟨w3, hw3⟩ : ∃ w3, w3 = wr.alloc (.cells #[.int .i64 kd, .int .i64 A, .int .i64 B, .int .i64 C, .int .i64 ja, .int .i64 jd, .int .i64 jl, .int .i64 ju, .int .i64 jv] 33) := ⟨_, rfl⟩
      have hq3 : Chg (fun _ => False) wr w3 := by rw [hw3]; exact (Chg.refl _ _).alloc _
      have hb3 : w3.heap[wr.heap.size]? = some (.cells #[.int .i64 kd, .int .i64 A, .int .i64 B, .int .i64 C, .int .i64 ja, .int .i64 jd, .int .i64 jl, .int .i64 ju, .int .i64 jv] 33 (0, 0)) := by rw [hw3]; exact heap_alloc_new wr _
      have ht3 := HT2.out.chg0 HY.out hq3
      have HT3 := hide ht3
      have hs3 : wr.heap.size < w3.heap.size := (Array.getElem?_eq_some_iff.1 hb3).1
      have HB3 := hide hb3
      have HW3 := hide hw3
      have HNF := hide (show ¬ G1 wr.heap.size ∧ ¬ G2 wr.heap.size from ⟨fun h => by have := HY.out.lt _ _ _ _ HT2.out.a _ h; omega, fun h => by have := HY.out.lt _ _ _ _ HT2.out.b _ h; omega⟩)
      have hcr3 := HCA.out.chg ht3.chg
      have k0 : w3.cell? ⟨w.heap.size, 0, none⟩ = some (.int .i64 c.ticks) := hcr3.cell 0
      have k1 : w3.cell? ⟨w.heap.size, 1, none⟩ = some (.int .i64 c.cap) := hcr3.cell 1
      have k2 : w3.cell? ⟨w.heap.size, 2, none⟩ = some (.int .i64 c.res) := hcr3.cell 2
      have k3 : w3.cell? ⟨w.heap.size, 3, none⟩ = some (.int .i64 c.ten) := hcr3.cell 3
      have k4 : w3.cell? ⟨w.heap.size, 4, none⟩ = some (.int .i64 c.quo) := hcr3.cell 4
      have k5 : w3.cell? ⟨w.heap.size, 5, none⟩ = some (.slice (some ⟨sb, off, none⟩) sl sc) := hcr3.cell 5
      have hcrr := HCA.out.chg HT2.out.chg
      have o0 : wr.cell? ⟨w.heap.size, 0, none⟩ = some (.int .i64 c.ticks) := hcrr.cell 0
      have o1 : wr.cell? ⟨w.heap.size, 1, none⟩ = some (.int .i64 c.cap) := hcrr.cell 1
      have o2 : wr.cell? ⟨w.heap.size, 2, none⟩ = some (.int .i64 c.res) := hcrr.cell 2
      have o3 : wr.cell? ⟨w.heap.size, 3, none⟩ = some (.int .i64 c.ten) := hcrr.cell 3
      have o4 : wr.cell? ⟨w.heap.size, 4, none⟩ = some (.int .i64 c.quo) := hcrr.cell 4
      have o5 : wr.cell? ⟨w.heap.size, 5, none⟩ = some (.slice (some ⟨sb, off, none⟩) sl sc) := hcrr.cell 5
      have hwq : w.heap.size < wr.heap.size := hcrr.lt
      have HASK := hide (asks_any HY.out HP.out y2 G2 m (some ⟨sb, off, none⟩) sl sc k w3 ht3.b HG.out (by omega))
      rw [HMC.out] at HASK
      clear hst' hi' hq3 hb3 hw3 ht3 hcr3 hcrr
      go_wp2_with fail
      rw [← HW3.out]
      refine HASK.out.mono ?_
      rintro e w4 ⟨rfl, F4, hy4, hc4, hf4⟩
      have ht4 := HT3.out.stepB HY.out hy4 hc4 hf4
      have HT4 := hide ht4
      have hb4 := (hc4.block _ hs3 HNF.out.2).trans HB3.out
      have hs4 : wr.heap.size < w4.heap.size := (Array.getElem?_eq_some_iff.1 hb4).1
      have HNF4 := hide (show ¬ F4 wr.heap.size from fun h => by
        rcases hf4 _ h with e | e
        · exact HNF.out.2 e
        · omega)
      have HB4 := hide hb4
      have s0 : w4.cell? ⟨wr.heap.size, 0, none⟩ = some (.int .i64 kd) := by unfold World.cell?; rw [hb4]; rfl
      have s1 : w4.cell? ⟨wr.heap.size, 1, none⟩ = some (.int .i64 A) := by unfold World.cell?; rw [hb4]; rfl
      have s2 : w4.cell? ⟨wr.heap.size, 2, none⟩ = some (.int .i64 B) := by unfold World.cell?; rw [hb4]; rfl
      have s3 : w4.cell? ⟨wr.heap.size, 3, none⟩ = some (.int .i64 C) := by unfold World.cell?; rw [hb4]; rfl
      have s4 : w4.cell? ⟨wr.heap.size, 4, none⟩ = some (.int .i64 ja) := by unfold World.cell?; rw [hb4]; rfl
      have s5 : w4.cell? ⟨wr.heap.size, 5, none⟩ = some (.int .i64 jd) := by unfold World.cell?; rw [hb4]; rfl
      have s6 : w4.cell? ⟨wr.heap.size, 6, none⟩ = some (.int .i64 jl) := by unfold World.cell?; rw [hb4]; rfl
      have s7 : w4.cell? ⟨wr.heap.size, 7, none⟩ = some (.int .i64 ju) := by unfold World.cell?; rw [hb4]; rfl
      have s8 : w4.cell? ⟨wr.heap.size, 8, none⟩ = some (.int .i64 jv) := by unfold World.cell?; rw [hb4]; rfl
      have HD1 := hide (does_any HY.out HT.out HP.out y1 G1 m ⟨kd, A, B, C, ⟨ja, jd, jl, ju, jv⟩⟩ w4 ht4.a HG.out HI.out)
      unfold stepV at HD1
      clear hy4 hc4 hf4 ht4 hb4 HASK k0 k1 k2 k3 k4 k5 o0 o1 o2 o3 o4 o5 q0 q1 q2 q3 q4 q5 q6 q7 q8 c5
      go_wp2_with fail
      refine HD1.out.mono ?_
      rintro e w5 ⟨z, names, bills, m', F5, nv, bv, rfl, hres, htold⟩
      have HRES := hide hres
      obtain ⟨na, nc, hnv⟩ := ownsRow_form htold.ns
      obtain ⟨ba, bc, hbv⟩ := ownsRow_form htold.bs
      subst hnv hbv
      have ht5 := HT4.out.stepA HY.out htold.yard htold.chg htold.foot
      have hb5 := (htold.chg.block _ hs4 HNF.out.1).trans HB4.out
      have hs5 : wr.heap.size < w5.heap.size := (Array.getElem?_eq_some_iff.1 hb5).1
      have HNS := hide htold.ns
      have HBS := hide htold.bs
      have HNF4B := hide (show (∀ q, Value.ownBlock (.slice na names.length nc) = some q → ¬ F4 q) ∧ (∀ q, Value.ownBlock (.slice ba bills.length bc) = some q → ¬ F4 q) from ⟨fun q hq h => by have h1 := (htold.nn q hq).1; have h2 := HY.out.lt _ _ _ _ HT4.out.b q h; omega, fun q hq h => by have h1 := (htold.bn q hq).1; have h2 := HY.out.lt _ _ _ _ HT4.out.b q h; omega⟩)
      obtain ⟨w6, hw6⟩ : ∃ w6, w6 = w5.alloc (.cells #[.int .i64 z, .slice na names.length nc, .slice ba bills.length bc] 39) := ⟨_, rfl⟩
      have hq6 : Chg (fun _ => False) w5 w6 := by rw [hw6]; exact (Chg.refl _ _).alloc _
      have ht6 := ht5.chg0 HY.out hq6
      have HT6 := hide ht6
      have hbt6 : w6.heap[w5.heap.size]? = some (.cells #[.int .i64 z, .slice na names.length nc, .slice ba bills.length bc] 39 (0, 0)) := by rw [hw6]; exact heap_alloc_new w5 _
      have hb6 := (hq6.block _ hs5 (fun h => h)).trans hb5
      have HB6 := hide hb6
      have HBT6 := hide hbt6
      have HS6 := hide (show wr.heap.size < w6.heap.size ∧ w5.heap.size < w6.heap.size from ⟨(Array.getElem?_eq_some_iff.1 hb6).1, (Array.getElem?_eq_some_iff.1 hbt6).1⟩)
      have HQ6 := hide hq6
      have HNT := hide (show ¬ F4 w5.heap.size from fun h => by have h2 := HY.out.lt _ _ _ _ ht5.b _ h; omega)
      have HW6 := hide hw6
      have r0 : w6.cell? ⟨wr.heap.size, 0, none⟩ = some (.int .i64 kd) := by unfold World.cell?; rw [hb6]; rfl
      have p0 : w5.cell? ⟨wr.heap.size, 0, none⟩ = some (.int .i64 kd) := by unfold World.cell?; rw [hb5]; rfl
      have r1 : w6.cell? ⟨wr.heap.size, 1, none⟩ = some (.int .i64 A) := by unfold World.cell?; rw [hb6]; rfl
      have p1 : w5.cell? ⟨wr.heap.size, 1, none⟩ = some (.int .i64 A) := by unfold World.cell?; rw [hb5]; rfl
      have r2 : w6.cell? ⟨wr.heap.size, 2, none⟩ = some (.int .i64 B) := by unfold World.cell?; rw [hb6]; rfl
      have p2 : w5.cell? ⟨wr.heap.size, 2, none⟩ = some (.int .i64 B) := by unfold World.cell?; rw [hb5]; rfl
      have r3 : w6.cell? ⟨wr.heap.size, 3, none⟩ = some (.int .i64 C) := by unfold World.cell?; rw [hb6]; rfl
      have p3 : w5.cell? ⟨wr.heap.size, 3, none⟩ = some (.int .i64 C) := by unfold World.cell?; rw [hb5]; rfl
      have r4 : w6.cell? ⟨wr.heap.size, 4, none⟩ = some (.int .i64 ja) := by unfold World.cell?; rw [hb6]; rfl
      have p4 : w5.cell? ⟨wr.heap.size, 4, none⟩ = some (.int .i64 ja) := by unfold World.cell?; rw [hb5]; rfl
      have r5 : w6.cell? ⟨wr.heap.size, 5, none⟩ = some (.int .i64 jd) := by unfold World.cell?; rw [hb6]; rfl
      have p5 : w5.cell? ⟨wr.heap.size, 5, none⟩ = some (.int .i64 jd) := by unfold World.cell?; rw [hb5]; rfl
      have r6 : w6.cell? ⟨wr.heap.size, 6, none⟩ = some (.int .i64 jl) := by unfold World.cell?; rw [hb6]; rfl
      have p6 : w5.cell? ⟨wr.heap.size, 6, none⟩ = some (.int .i64 jl) := by unfold World.cell?; rw [hb5]; rfl
      have r7 : w6.cell? ⟨wr.heap.size, 7, none⟩ = some (.int .i64 ju) := by unfold World.cell?; rw [hb6]; rfl
      have p7 : w5.cell? ⟨wr.heap.size, 7, none⟩ = some (.int .i64 ju) := by unfold World.cell?; rw [hb5]; rfl
      have r8 : w6.cell? ⟨wr.heap.size, 8, none⟩ = some (.int .i64 jv) := by unfold World.cell?; rw [hb6]; rfl
      have p8 : w5.cell? ⟨wr.heap.size, 8, none⟩ = some (.int .i64 jv) := by unfold World.cell?; rw [hb5]; rfl
      have HD2 := hide (does_any HY.out HT.out HP.out y2 F4 m ⟨kd, A, B, C, ⟨ja, jd, jl, ju, jv⟩⟩ w6 ht6.b HG.out HI.out)
      unfold stepV at HD2
      clear hres htold ht5 hb5 hq6 ht6 hbt6 hb6 hw6 HD1 s0 s1 s2 s3 s4 s5 s6 s7 s8
      go_wp2_with fail
      rw [← HW6.out]
      refine HD2.out.mono ?_
      rintro e w7 ⟨z2, names2, bills2, m2, F7, nv2, bv2, rfl, hres2, htold2⟩
      obtain ⟨e1, e2, e3, e4⟩ := HRES.out.unique hres2
      subst e1 e2 e3 e4
      obtain ⟨na2, nc2, hnv2⟩ := ownsRow_form htold2.ns
      obtain ⟨ba2, bc2, hbv2⟩ := ownsRow_form htold2.bs
      subst hnv2 hbv2
      have ht7 := HT6.out.stepB HY.out htold2.yard htold2.chg htold2.foot
      have hb7 := (htold2.chg.block _ HS6.out.1 HNF4.out).trans HB6.out
      have hbt7 := (htold2.chg.block _ HS6.out.2 HNT.out).trans HBT6.out
      have hs7 : wr.heap.size < w7.heap.size ∧ w5.heap.size < w7.heap.size := ⟨(Array.getElem?_eq_some_iff.1 hb7).1, (Array.getElem?_eq_some_iff.1 hbt7).1⟩
      have hns7 : w7.ownsRow 0 65 2 (.slice na names.length nc) names.length (names.flatMap nameCells) := ownsRow_keep HNS.out (fun q hq => (htold2.chg.block q (Nat.lt_of_lt_of_le (HNS.out.lt q hq).2 HQ6.out.size) (HNF4B.out.1 q hq)).trans (HQ6.out.block q (HNS.out.lt q hq).2 (fun h => h)))
      have hbs7 : w7.ownsRow 0 91 3 (.slice ba bills.length bc) bills.length (bills.flatMap invCells) := ownsRow_keep HBS.out (fun q hq => (htold2.chg.block q (Nat.lt_of_lt_of_le (HBS.out.lt q hq).2 HQ6.out.size) (HNF4B.out.2 q hq)).trans (HQ6.out.block q (HBS.out.lt q hq).2 (fun h => h)))
      obtain ⟨w8, hw8⟩ : ∃ w8, w8 = w7.alloc (.cells #[.int .i64 z, .slice na2 names.length nc2, .slice ba2 bills.length bc2] 39) := ⟨_, rfl⟩
      have hq8 : Chg (fun _ => False) w7 w8 := by rw [hw8]; exact (Chg.refl _ _).alloc _
      have HT8 := hide (ht7.chg0 HY.out hq8)
      have hbu8 : w8.heap[w7.heap.size]? = some (.cells #[.int .i64 z, .slice na2 names.length nc2, .slice ba2 bills.length bc2] 39 (0, 0)) := by rw [hw8]; exact heap_alloc_new w7 _
      have hb8 := (hq8.block _ hs7.1 (fun h => h)).trans hb7
      have hbt8 := (hq8.block _ hs7.2 (fun h => h)).trans hbt7
      have kp : ∀ {e : TypeId} {size n : Nat} {v : Value} {xs : List Value}, w7.ownsRow 0 e size v n xs → w8.ownsRow 0 e size v n xs := fun ho => ownsRow_keep ho (fun q hq => hq8.block q (ho.lt q hq).2 (fun h => h))
      obtain ⟨L1, L2⟩ := HRES.out.lists HG.out.ok
      have HTOLD := hide (ktold_any z names bills _ _ _ _ w8 (kp hns7) (kp htold2.ns) (kp hbs7) (kp htold2.bs) L1 L2)
      have t0 : w8.cell? ⟨w5.heap.size, 0, none⟩ = some (.int .i64 z) := by unfold World.cell?; rw [hbt8]; rfl
      have t1 : w8.cell? ⟨w5.heap.size, 1, none⟩ = some (.slice na names.length nc) := by unfold World.cell?; rw [hbt8]; rfl
      have t2 : w8.cell? ⟨w5.heap.size, 2, none⟩ = some (.slice ba bills.length bc) := by unfold World.cell?; rw [hbt8]; rfl
      have u0 : w8.cell? ⟨w7.heap.size, 0, none⟩ = some (.int .i64 z) := by unfold World.cell?; rw [hbu8]; rfl
      have u1 : w8.cell? ⟨w7.heap.size, 1, none⟩ = some (.slice na2 names.length nc2) := by unfold World.cell?; rw [hbu8]; rfl
      have u2 : w8.cell? ⟨w7.heap.size, 2, none⟩ = some (.slice ba2 bills.length bc2) := by unfold World.cell?; rw [hbu8]; rfl
      have x0 : w8.cell? ⟨wr.heap.size, 0, none⟩ = some (.int .i64 kd) := by unfold World.cell?; rw [hb8]; rfl
      have g1 : w7.cell? ⟨w5.heap.size, 0, none⟩ = some (.int .i64 z) := by unfold World.cell?; rw [hbt7]; rfl
      have g2 : w7.cell? ⟨w5.heap.size, 1, none⟩ = some (.slice na names.length nc) := by unfold World.cell?; rw [hbt7]; rfl
      have g3 : w7.cell? ⟨w5.heap.size, 2, none⟩ = some (.slice ba bills.length bc) := by unfold World.cell?; rw [hbt7]; rfl
      have HLOG := hide HRES.out.logd
      have HGM := hide (HRES.out.good HG.out)
      have HFULL := hide (fun h => HRES.out.full (s := ⟨kd, A, B, C, ⟨ja, jd, jl, ju, jv⟩⟩) h)
      have HW8 := hide hw8
      have HS7 := hide hs7
      have l57 : w5.heap.size < w7.heap.size := hs7.2
      have l77 : wr.heap.size < w7.heap.size := hs7.1
      have n75 : w7.heap.size ≠ w5.heap.size := by omega
      have n57 : w5.heap.size ≠ w7.heap.size := by omega
      clear hres2 htold2 ht7 hb7 hbt7 hs7 hns7 hbs7 hq8 hbu8 hb8 hbt8 kp hw8 HD2 r0 p0 r1 p1 r2 p2 r3 p3 r4 p4 r5 p5 r6 p6 r7 p7 r8 p8 L1 L2
      generalize names.length = nn at *
      generalize bills.length = nb at *
      go_wp2_with fail
      rw [← HW8.out]
      refine HTOLD.out.mono ?_
      rintro e w9 ⟨rfl, hq9⟩
      have HT9 := hide (HT8.out.chg0 HY.out hq9)
      have t0' := hq9.keep _ _ t0
      have x0' := hq9.keep _ _ x0
      have HLA := hide (fun (F : Nat → Prop) (w' : World) (h : YAt w' y1 F m') => HY.out.left w' y1 F m' h HGM.out.ok)
      have HLB := hide (fun (F : Nat → Prop) (w' : World) (h : YAt w' y2 F m') => HY.out.left w' y2 F m' h HGM.out.ok)
      clear hq9 t0 t1 t2 u0 u1 u2 x0 g1 g2 g3 HTOLD
      obtain ⟨nl, hnl⟩ : ∃ nl, nl = m.log.length := ⟨_, rfl⟩
      obtain ⟨nl', hnl'⟩ : ∃ nl', nl' = m'.log.length := ⟨_, rfl⟩
      have HNL' := hide hnl'
      have hll' : nl' ≤ 300 := by rw [hnl']; exact HGM.out.ok.nl
      have HMC' := hide (HLOG.out.2.trans HMC.out)
      have HNX := hide (show nl' = if nl < 300 ∧ 1 ≤ kd ∧ kd ≤ 7 then nl + 1 else nl from by
        rw [hnl', HLOG.out.1, hnl]
        unfold logStep
        simp only
        split <;> simp)
      rw [← hnl] at hll HFULL ⊢
      rw [← hnl'] at HLA HLB
      clear hnl hnl'
      by_cases h1 : kd < 1
      · have d1 : decide (1 ≤ kd) = false := by simp; omega
        have hn : nl' = nl := by rw [HNX.out, if_neg (by omega)]
        subst hn
        have hws : IntKind.i64.wrap (300 - (nl' : Int)) = 300 - (nl' : Int) := by rw [IntKind.wrap_i64]; omega
        go_wp2_with fail
        refine (HLA.out F5 w9 HT9.out.a).mono ?_
        rintro e w10 ⟨rfl, FA, hya, hca, hfa⟩
        have HT10 := hide (HT9.out.stepA HY.out hya hca hfa)
        clear hya hca hfa t0' x0'
        go_wp2_with fail
        refine (HLB.out F7 w10 HT10.out.b).mono ?_
        rintro e w11 ⟨rfl, FB, hyb, hcb, hfb⟩
        have HT11 := hide (HT10.out.stepB HY.out hyb hcb hfb)
        clear hyb hcb hfb
        go_wp2
        go_roundw
        case rel => exact ⟨k + 1, m', FA, FB, by omega, by go_num, by first | (rw [← HNL'.out]; done) | (rw [← HNL'.out]; simp; done), HT11.out, HGM.out, HMC'.out⟩
        case measure => simp [intOf]; omega
      have d1 : decide (1 ≤ kd) = true := by simp; omega
      by_cases h7 : 7 < kd
      · have d7 : decide (kd ≤ 7) = false := by simp; omega
        have hn : nl' = nl := by rw [HNX.out, if_neg (by omega)]
        subst hn
        have hws : IntKind.i64.wrap (300 - (nl' : Int)) = 300 - (nl' : Int) := by rw [IntKind.wrap_i64]; omega
        go_wp2_with fail
        refine (HLA.out F5 w9 HT9.out.a).mono ?_
        rintro e w10 ⟨rfl, FA, hya, hca, hfa⟩
        have HT10 := hide (HT9.out.stepA HY.out hya hca hfa)
        clear hya hca hfa t0' x0'
        go_wp2_with fail
        refine (HLB.out F7 w10 HT10.out.b).mono ?_
        rintro e w11 ⟨rfl, FB, hyb, hcb, hfb⟩
        have HT11 := hide (HT10.out.stepB HY.out hyb hcb hfb)
        clear hyb hcb hfb
        go_wp2
        go_roundw
        case rel => exact ⟨k + 1, m', FA, FB, by omega, by go_num, by first | (rw [← HNL'.out]; done) | (rw [← HNL'.out]; simp; done), HT11.out, HGM.out, HMC'.out⟩
        case measure => simp [intOf]; omega
      have d7 : decide (kd ≤ 7) = true := by simp; omega
      have hfu := HFULL.out ⟨by omega, by omega⟩
      by_cases hf : nl = 300
      · have hz : (z == 2) = true := by simpa using hfu.2 hf
        have hge : decide ((300 : Int) ≤ (nl : Int)) = true := by simp; omega
        have hlt3 : decide ((nl : Int) < 300) = false := by simp; omega
        have hn : nl' = nl := by rw [HNX.out, if_neg (by omega)]
        subst hn
        have hws : IntKind.i64.wrap (300 - (nl' : Int)) = 300 - (nl' : Int) := by rw [IntKind.wrap_i64]; omega
        clear hfu hf
        go_wp2_with fail
        refine (HLA.out F5 w9 HT9.out.a).mono ?_
        rintro e w10 ⟨rfl, FA, hya, hca, hfa⟩
        have HT10 := hide (HT9.out.stepA HY.out hya hca hfa)
        clear hya hca hfa t0' x0'
        go_wp2_with fail
        refine (HLB.out F7 w10 HT10.out.b).mono ?_
        rintro e w11 ⟨rfl, FB, hyb, hcb, hfb⟩
        have HT11 := hide (HT10.out.stepB HY.out hyb hcb hfb)
        clear hyb hcb hfb
        go_wp2
        go_roundw
        case rel => exact ⟨k + 1, m', FA, FB, by omega, by go_num, by first | (rw [← HNL'.out]; done) | (rw [← HNL'.out]; simp; done), HT11.out, HGM.out, HMC'.out⟩
        case measure => simp [intOf]; omega
      · have hz : (z == 2) = false := by
          cases hz : z == 2
          · rfl
          · exact absurd (hfu.1 (by simpa using hz)) hf
        have hge : decide ((300 : Int) ≤ (nl : Int)) = false := by simp; omega
        have hlt3 : decide ((nl : Int) < 300) = true := by simp; omega
        have hn : nl' = nl + 1 := by rw [HNX.out, if_pos ⟨by omega, by omega, by omega⟩]
        subst hn
        have hw1 : IntKind.i64.wrap ((nl : Int) + 1) = (nl : Int) + 1 := by rw [IntKind.wrap_i64]; omega
        have hws : IntKind.i64.wrap (300 - ((nl : Int) + 1)) = 300 - ((nl : Int) + 1) := by rw [IntKind.wrap_i64]; omega
        clear hfu
        go_wp2_with fail
        refine (HLA.out F5 w9 HT9.out.a).mono ?_
        rintro e w10 ⟨rfl, FA, hya, hca, hfa⟩
        have HT10 := hide (HT9.out.stepA HY.out hya hca hfa)
        clear hya hca hfa t0' x0'
        go_wp2_with fail
        refine (HLB.out F7 w10 HT10.out.b).mono ?_
        rintro e w11 ⟨rfl, FB, hyb, hcb, hfb⟩
        have HT11 := hide (HT10.out.stepB HY.out hyb hcb hfb)
        clear hyb hcb hfb
        go_wp2
        go_roundw
        case rel => exact ⟨k + 1, m', FA, FB, by omega, by go_num, by first | (rw [← HNL'.out]; done) | (rw [← HNL'.out]; simp; done), HT11.out, HGM.out, HMC'.out⟩
        case measure => simp [intOf]; omega
    · have hd : decide ((k : Int) < (sl : Int)) = false := by simp; omega
      go_wp2
      go_ret
      exact ⟨rfl, (HC0.out.trans HT2.out.chg (fun _ _ h => h)).below (Nat.le_refl _) (fun _ h => h.elim)⟩
end Go.Proofs.Ytminceigjejipab
