import Derived.Test.YtminceigjejipaaTrK
import Derived.Test.YtminceigjejipaaTrH
/-
  Truthful: its walk.
-/
namespace Go.Proofs.Ytminceigjejipaa
open Go.ChangeShapes Go.WideShapes Go.ChangeAt Go.RowKit Go.Deep

set_option maxRecDepth 100000 in
set_option maxHeartbeats 4000000 in
theorem truthful_bad {YAt : World → Nat → (Nat → Prop) → MkG → Prop} (hY : YardSpec YAt) (c : CfgG) (sa : Option Addr) (sl sc : Nat) (w : World) (hc : cfgOk c = false) (tn : Int) (t0 f0 : JobG) (at0 la0 : Int) :
    Calls Try.prog 7 #[caseV c (.slice sa sl sc), .int .i64 tn, jobV t0, jobV f0, .int .i64 at0, .int .i64 la0] w fun e w' => e = .returned (.bool true) ∧ Below w.heap.size w w' := by
  have HY := hide hY
  have HC := hide hc
  clear hY hc
  unfold caseV caseC jobV
  go_enter Try.func7, Try.ntmps7
  go_wp2_with fail
  refine (open_bad' HY.out c (.slice sa sl sc) _ HC.out ⟨_, _, _, rfl⟩).mono ?_
  rintro e w1 ⟨rfl, hc1⟩
  have HC1 := hide hc1
  clear hc1
  go_wp2
  go_ret
  exact ⟨rfl, (((((Chg.refl (fun _ => False) w).alloc _).alloc _).alloc _).trans HC1.out (fun _ _ h => h)).below (Nat.le_refl _) (fun _ h => h.elim)⟩

theorem StepsIn.at {w : World} {la : Option Addr} {L : List StepG} (h : StepsIn w la L) : ∀ k, k < L.length → ∃ b off, la = some ⟨b, off, none⟩ ∧ StepAt w b (off + k * 9) (stL L k) := h

set_option maxRecDepth 100000 in
set_option maxHeartbeats 8000000 in
theorem truthful_ok {YAt : World → Nat → (Nat → Prop) → MkG → Prop} (hY : YardSpec YAt) (hT : TickY YAt) (hP : PaidY YAt) (c : CfgG) (sa : Option Addr) (sl sc : Nat) (w : World) (hc : cfgOk c = true) (hs : IntRows w 9 sa sl) (hsl : sl * 72 ≤ 140737488351232) (tn : Int) (t0 f0 : JobG) (at0 la0 : Int) (htn : I64 tn) (ht0 : JobI64 t0) (hf0 : JobI64 f0) (hat0 : I64 at0) (hla0 : I64 la0) :
    Calls Try.prog 7 #[caseV c (.slice sa sl sc), .int .i64 tn, jobV t0, jobV f0, .int .i64 at0, .int .i64 la0] w fun e w' => e = .returned (.bool true) ∧ Below w.heap.size w w' := by
  have HY := hide hY
  have HT := hide hT
  have HP := hide hP
  have HC := hide hc
  have hcf := cfgOk_true hc
  have HF0 := hide hf0
  have HT0 := hide ht0
  have HAT0 := hide hat0
  have HLA0 := hide hla0
  obtain ⟨Z, hcase⟩ := caseAt_new (c := c) (sc := sc) hs
  obtain ⟨L, hL⟩ : ∃ L, L = (List.range sl).map (stepZ Z) := ⟨_, rfl⟩
  have hLl : L.length = sl := by rw [hL]; simp
  obtain ⟨hSI, hSI2⟩ := hcase.stepsIn
  rw [← hL] at hSI hSI2
  obtain ⟨w0, hw0⟩ : ∃ w0, w0 = ((w.alloc (.cells (caseC c (.slice sa sl sc)) 41)).alloc (.cells #[.int .i64 t0.arr, .int .i64 t0.dl, .int .i64 t0.len, .int .i64 t0.units, .int .i64 t0.val] 54)).alloc (.cells #[.int .i64 f0.arr, .int .i64 f0.dl, .int .i64 f0.len, .int .i64 f0.units, .int .i64 f0.val] 54) := ⟨_, rfl⟩
  have hcA : Chg (fun _ => False) (w.alloc (.cells (caseC c (.slice sa sl sc)) 41)) w0 := by rw [hw0]; exact ((Chg.refl _ _).alloc _).alloc _
  have HC0 : Hid (Chg (fun _ => False) w w0) := ((Chg.refl (fun _ => False) w).alloc _).trans hcA (fun _ _ h => h)
  have HSI := hide (hSI.chg hcA)
  have HSJ := hide hSI2
  have HCA := hide (hcase.chg hcA)
  have bB : w0.heap[w.heap.size + 1]? = some (.cells #[.int .i64 t0.arr, .int .i64 t0.dl, .int .i64 t0.len, .int .i64 t0.units, .int .i64 t0.val] 54 (0, 0)) := by rw [hw0, Below.heap_alloc _ _ _ (by simp)]; exact heap_at_new (by simp)
  have bC : w0.heap[w.heap.size + 1 + 1]? = some (.cells #[.int .i64 f0.arr, .int .i64 f0.dl, .int .i64 f0.len, .int .i64 f0.units, .int .i64 f0.val] 54 (0, 0)) := by rw [hw0]; exact heap_at_new (by simp)
  have HBB := hide (fun (w' : World) (h : Chg (fun _ => False) w0 w') => show w'.heap[w.heap.size + 1]? = some (.cells #[.int .i64 t0.arr, .int .i64 t0.dl, .int .i64 t0.len, .int .i64 t0.units, .int .i64 t0.val] 54 (0, 0)) from (h.block _ (Array.getElem?_eq_some_iff.1 bB).1 (fun e => e)).trans bB)
  have HBC := hide (fun (w' : World) (h : Chg (fun _ => False) w0 w') => show w'.heap[w.heap.size + 1 + 1]? = some (.cells #[.int .i64 f0.arr, .int .i64 f0.dl, .int .i64 f0.len, .int .i64 f0.units, .int .i64 f0.val] 54 (0, 0)) from (h.block _ (Array.getElem?_eq_some_iff.1 bC).1 (fun e => e)).trans bC)
  have HCF := hide (fun (w' : World) (h : Chg (fun _ => False) w0 w') => show w'.cell? ⟨w.heap.size, 0, none⟩ = some (.int .i64 c.ticks) ∧ w'.cell? ⟨w.heap.size, 1, none⟩ = some (.int .i64 c.cap) ∧ w'.cell? ⟨w.heap.size, 2, none⟩ = some (.int .i64 c.res) ∧ w'.cell? ⟨w.heap.size, 3, none⟩ = some (.int .i64 c.ten) ∧ w'.cell? ⟨w.heap.size, 4, none⟩ = some (.int .i64 c.quo) ∧ w'.cell? ⟨w.heap.size, 5, none⟩ = some (.slice sa sl sc) from ⟨(HCA.out.chg h).cell 0, (HCA.out.chg h).cell 1, (HCA.out.chg h).cell 2, (HCA.out.chg h).cell 3, (HCA.out.chg h).cell 4, (HCA.out.chg h).cell 5⟩)
  have hta := pickZ_lt tn c.ten (by omega)
  have HPT := hide (fun (w' : World) => kpick_any tn c.ten w' htn.1 htn.2 (by omega))
  obtain ⟨a, ha⟩ : ∃ a, a = pickZ tn c.ten := ⟨_, rfl⟩
  rw [← ha] at hta HPT
  have HA := hide hta
  have HWO := hide (fun (w' : World) (h : Chg (fun _ => False) w0 w') => show Calls Try.prog 27 #[.slice sa sl sc, .int .i64 a] w' fun e w2 => ∃ lv, e = .returned lv ∧ StepSt w' (withoutL a L) lv w2 from by
    have := kwithout_any L sa sc a w' (HSI.out.chg h) (by rw [hLl]; exact hsl)
    rw [hLl] at this
    exact this)
  obtain ⟨M, hM⟩ : ∃ M, M = withoutL a L := ⟨_, rfl⟩
  have hMl : M.length ≤ sl := by rw [hM, ← hLl]; exact withoutL_len L
  have HMN := hide (show NoStep a (stL M) M.length by rw [hM]; exact withoutL_no L)
  have HMI := hide (show StepsI M by rw [hM]; exact withoutL_i64 HSJ.out)
  rw [← hM] at HWO
  obtain ⟨N, hN⟩ : ∃ N, N = M.length := ⟨_, rfl⟩
  rw [← hN] at hMl HMN
  have hNl : N < 5000000000000 := by omega
  have HNE := hide hN
  have hgc := logU_cap (stL M) N
  obtain ⟨G, hG⟩ : ∃ G, G = (logU (stL M) N).length := ⟨_, rfl⟩
  rw [← hG] at hgc
  have HG := hide hG
  have HW0 := hide hw0
  clear hY hT hP hc hs hcase hw0 hcA bB bC hta ha hL hLl hSI hSI2 hM hN hG htn ht0 hf0 hat0 hla0 hcf hsl
  unfold caseV caseC jobV
  unfold caseC at HW0
  go_enter Try.func7, Try.ntmps7
  go_wp2_with fail
  rw [← HW0.out]
  refine (open_ok' HY.out HT.out c (.slice sa sl sc) _ HC.out ⟨_, _, _, rfl⟩).mono ?_
  rintro e w1 ⟨y, F1, rfl, hown1⟩
  have HC1 := hide hown1.chg
  obtain ⟨k0, k1, k2, k3, k4, k5⟩ := HCF.out w1 hown1.chg
  clear hown1
  go_wp2_with fail
  refine (HPT.out _).mono ?_
  rintro e w2 ⟨rfl, hw2⟩
  subst w2
  go_wp2_with fail
  refine (HWO.out w1 HC1.out).mono ?_
  rintro e w2 ⟨lv, rfl, hst⟩
  have HST := hide hst
  obtain ⟨la, lc, hlv⟩ := ownsRow_form hst.own
  rw [← HNE.out] at hlv
  subst hlv
  have HC2 := hide (HC1.out.trans hst.chg (fun _ _ h => h))
  have HMS := hide (show StepsIn w2 la M from hst.stepsIn)
  have HLO := hide (show Calls Try.prog 28 #[.slice la N lc] w2 fun e w' => e = .returned (.int .i64 (G : Nat)) ∧ w' = w2 from by
    have := klogged_any M la lc w2 HMS.out (by rw [← HNE.out]; exact hNl)
    rw [← HNE.out, ← HG.out] at this
    exact this)
  clear hst k0 k1 k2 k3 k4 k5
  go_wp2_with fail
  refine HLO.out.mono ?_
  rintro e w3 ⟨rfl, hw3⟩
  subst w3
  by_cases hbig : 300 ≤ G + 1
  · have d0 : decide ((300 : Int) ≤ (G : Int) + 1) = true := by simp; omega
    have HBIG := hide hbig
    clear hbig
    go_wp2
    go_ret
    exact ⟨rfl, (HC0.out.trans HC2.out (fun _ _ h => h)).below (Nat.le_refl _) (fun _ h => h.elim)⟩
  · have d0 : decide ((300 : Int) ≤ (G : Int) + 1) = false := by simp; omega
    have HBIG := hide hbig
    clear hbig
    obtain ⟨k0, k1, k2, k3, k4, k5⟩ := HCF.out w2 HC2.out
    have b2 := HBB.out w2 HC2.out
    have x0 : w2.cell? ⟨w.heap.size + 1, 0, none⟩ = some (.int .i64 t0.arr) := by unfold World.cell?; rw [b2]; rfl
    have x1 : w2.cell? ⟨w.heap.size + 1, 1, none⟩ = some (.int .i64 t0.dl) := by unfold World.cell?; rw [b2]; rfl
    have x2 : w2.cell? ⟨w.heap.size + 1, 2, none⟩ = some (.int .i64 t0.len) := by unfold World.cell?; rw [b2]; rfl
    have x3 : w2.cell? ⟨w.heap.size + 1, 3, none⟩ = some (.int .i64 t0.units) := by unfold World.cell?; rw [b2]; rfl
    have x4 : w2.cell? ⟨w.heap.size + 1, 4, none⟩ = some (.int .i64 t0.val) := by unfold World.cell?; rw [b2]; rfl
    clear b2
    have HTR := hide (ktruth_any c t0 w2 HC.out HT0.out)
    have htj := truthJ_ok HC.out t0
    obtain ⟨jT, hjT⟩ : ∃ jT, jT = truthJ c t0 := ⟨_, rfl⟩
    rw [← hjT] at HTR htj
    clear hjT
    unfold cfgV jobV at HTR
    go_wp2_with fail
    refine HTR.out.mono ?_
    rintro e w3 ⟨rfl, hc3⟩
    obtain ⟨Q, hQ⟩ : ∃ Q, Q = w3.heap.size := ⟨_, rfl⟩
    obtain ⟨w4, hw4⟩ : ∃ w4, w4 = w3.alloc (.cells #[.int .i64 jT.arr, .int .i64 jT.dl, .int .i64 jT.len, .int .i64 jT.units, .int .i64 jT.val] 54) := ⟨_, rfl⟩
    have hc4 : Chg (fun _ => False) w2 w4 := by rw [hw4]; exact hc3.alloc _
    have HC4 := hide (HC2.out.trans hc4 (fun _ _ h => h))
    have bQ : w4.heap[Q]? = some (.cells #[.int .i64 jT.arr, .int .i64 jT.dl, .int .i64 jT.len, .int .i64 jT.units, .int .i64 jT.val] 54 (0, 0)) := by rw [hw4, hQ]; exact heap_alloc_new w3 _
    have HBQ := hide (fun (w' : World) (h : Chg (fun _ => False) w4 w') => show w'.cell? ⟨Q, 0, none⟩ = some (.int .i64 jT.arr) ∧ w'.cell? ⟨Q, 1, none⟩ = some (.int .i64 jT.dl) ∧ w'.cell? ⟨Q, 2, none⟩ = some (.int .i64 jT.len) ∧ w'.cell? ⟨Q, 3, none⟩ = some (.int .i64 jT.units) ∧ w'.cell? ⟨Q, 4, none⟩ = some (.int .i64 jT.val) from by
      have g := (h.block _ (Array.getElem?_eq_some_iff.1 bQ).1 (fun e => e)).trans bQ
      refine ⟨?_, ?_, ?_, ?_, ?_⟩ <;> (unfold World.cell?; rw [g]; rfl))
    have HMS4 := hide (HMS.out.chg hc4)
    have HW4 := hide hw4
    have HQ := hide hQ
    clear hc3 hc4 hw4 hQ bQ k0 k1 k2 k3 k4 k5 x0 x1 x2 x3 x4 HTR
    go_upto_region 10 with fail
    rw [← HW4.out, ← HQ.out]
    obtain ⟨k0, k1, k2, k3, k4, k5⟩ := HCF.out w4 HC4.out
    obtain ⟨u0, u1, u2, u3, u4⟩ := HBQ.out w4 (Chg.refl _ _)
    have b4 := HBC.out w4 HC4.out
    have x0 : w4.cell? ⟨w.heap.size + 1 + 1, 0, none⟩ = some (.int .i64 f0.arr) := by unfold World.cell?; rw [b4]; rfl
    have x1 : w4.cell? ⟨w.heap.size + 1 + 1, 1, none⟩ = some (.int .i64 f0.dl) := by unfold World.cell?; rw [b4]; rfl
    have x2 : w4.cell? ⟨w.heap.size + 1 + 1, 2, none⟩ = some (.int .i64 f0.len) := by unfold World.cell?; rw [b4]; rfl
    have x3 : w4.cell? ⟨w.heap.size + 1 + 1, 3, none⟩ = some (.int .i64 f0.units) := by unfold World.cell?; rw [b4]; rfl
    have x4 : w4.cell? ⟨w.heap.size + 1 + 1, 4, none⟩ = some (.int .i64 f0.val) := by unfold World.cell?; rw [b4]; rfl
    clear b4
    have hct : c.ticks ≤ 64 := (cfgOk_true HC.out).1.2
    have HLI := hide (klie_any c jT f0 w4 (by omega) HF0.out)
    have hlj := lieJ_ok jT f0
    obtain ⟨jK, hjK⟩ : ∃ jK, jK = lieJ jT f0 := ⟨_, rfl⟩
    rw [← hjK] at HLI hlj
    have HTJ := hide htj
    have HLJ := hide hlj
    clear hjK htj hlj
    unfold cfgV jobV at HLI
    go_wp2_with fail
    refine HLI.out.mono ?_
    rintro e w5 ⟨rfl, hc5⟩
    obtain ⟨R, hR⟩ : ∃ R, R = w5.heap.size := ⟨_, rfl⟩
    obtain ⟨w6, hw6⟩ : ∃ w6, w6 = w5.alloc (.cells #[.int .i64 jK.arr, .int .i64 jK.dl, .int .i64 jK.len, .int .i64 jK.units, .int .i64 jK.val] 54) := ⟨_, rfl⟩
    have hc6 : Chg (fun _ => False) w4 w6 := by rw [hw6]; exact hc5.alloc _
    have HC46 := hide hc6
    have HC6 := hide (HC4.out.trans hc6 (fun _ _ h => h))
    have bR : w6.heap[R]? = some (.cells #[.int .i64 jK.arr, .int .i64 jK.dl, .int .i64 jK.len, .int .i64 jK.units, .int .i64 jK.val] 54 (0, 0)) := by rw [hw6, hR]; exact heap_alloc_new w5 _
    have HBR := hide (fun (w' : World) (h : Chg (fun _ => False) w6 w') => show w'.cell? ⟨R, 0, none⟩ = some (.int .i64 jK.arr) ∧ w'.cell? ⟨R, 1, none⟩ = some (.int .i64 jK.dl) ∧ w'.cell? ⟨R, 2, none⟩ = some (.int .i64 jK.len) ∧ w'.cell? ⟨R, 3, none⟩ = some (.int .i64 jK.units) ∧ w'.cell? ⟨R, 4, none⟩ = some (.int .i64 jK.val) from by
      have g := (h.block _ (Array.getElem?_eq_some_iff.1 bR).1 (fun e => e)).trans bR
      refine ⟨?_, ?_, ?_, ?_, ?_⟩ <;> (unfold World.cell?; rw [g]; rfl))
    have HMS6 := hide (HMS4.out.chg hc6)
    have HW6 := hide hw6
    have HRR := hide hR
    clear hc5 hc6 hw6 hR bR k0 k1 k2 k3 k4 k5 x0 x1 x2 x3 x4 u0 u1 u2 u3 u4 HLI
    go_upto_region 11 with fail
    rw [← HW6.out, ← HRR.out]
    have hpa := pickZ_lt at0 ((N : Int) + 1) (by omega)
    have HPA := hide (fun (w' : World) => kpick_any at0 ((N : Int) + 1) w' HAT0.out.1 HAT0.out.2 (by omega))
    obtain ⟨p, hp⟩ := Int.eq_ofNat_of_zero_le hpa.1
    rw [hp] at hpa HPA
    have hpN : p ≤ N := by omega
    have hpl := pickZ_lt la0 ((N : Int) + 1 - (p : Int)) (by omega)
    have HPL := hide (fun (w' : World) => kpick_any la0 ((N : Int) + 1 - (p : Int)) w' HLA0.out.1 HLA0.out.2 (by omega))
    obtain ⟨r, hr⟩ := Int.eq_ofNat_of_zero_le hpl.1
    rw [hr] at hpl HPL
    obtain ⟨q, hq⟩ : ∃ q, q = p + r := ⟨_, rfl⟩
    have hqN : p ≤ q ∧ q ≤ N := by omega
    have e1 : IntKind.i64.wrap ((N : Int) + 1) = (N : Int) + 1 := by rw [IntKind.wrap_i64]; omega
    have e2 : IntKind.i64.wrap ((N : Int) + 1 - (p : Int)) = (N : Int) + 1 - (p : Int) := by rw [IntKind.wrap_i64]; omega
    have e3 : IntKind.i64.wrap ((p : Int) + (r : Int)) = (q : Int) := by rw [IntKind.wrap_i64]; omega
    clear hp hr hpa hpl hq
    go_wp2_with fail
    refine (HPA.out _).mono ?_
    rintro e w7 ⟨rfl, hw7⟩
    subst w7
    go_wp2_with fail
    refine (HPL.out _).mono ?_
    rintro e w7 ⟨rfl, hw7⟩
    subst w7
    have HGA := hide (fun (w' : World) (h : Chg (fun _ => False) w6 w') (p' : Nat) (hp' : p' ≤ N) (j : JobG) (hj : 0 ≤ j.arr ∧ j.arr ≤ 1000 ∧ 1 ≤ j.len ∧ j.len ≤ 1000 ∧ -1000 ≤ j.dl ∧ j.dl ≤ c.ticks ∧ 1 ≤ j.units ∧ j.units ≤ 10000 ∧ 1 ≤ j.val ∧ j.val ≤ 1048576) => kgain_any HY.out HT.out HP.out c sa sl sc (stL M) N la lc p' a j jT.val w' HC.out (by rw [HNE.out]; exact (HMS6.out.chg h).at) (by rw [HNE.out]; exact HMI.out) hNl hp' HA.out.1 HA.out.2 HMN.out (by have h1 := HG.out; have h2 := HBIG.out; omega) hj ⟨HTJ.out.2.2.2.2.2.2.2.2.1, HTJ.out.2.2.2.2.2.2.2.2.2⟩)
    have HG1 := hide (HGA.out w6 (Chg.refl _ _) p hpN jT (by have h1 := HTJ.out; omega))
    obtain ⟨k0, k1, k2, k3, k4, k5⟩ := HCF.out w6 HC6.out
    obtain ⟨u0, u1, u2, u3, u4⟩ := HBQ.out w6 HC46.out
    clear HPA HPL e1 e2
    go_wp2_with fail
    refine HG1.out.mono ?_
    rintro e w7 ⟨mT, dT, hGT, hdT, rfl, hc7⟩
    have HC7 := hide hc7
    have HGT := hide (And.intro hGT hdT)
    obtain ⟨gT, hgT⟩ : ∃ gT, gT = gainZ jT.val dT mT a := ⟨_, rfl⟩
    rw [← hgT]
    have HGTE := hide hgT
    clear hc7 hGT hdT hgT k0 k1 k2 k3 k4 k5 u0 u1 u2 u3 u4 e3
    have HG2 := hide (HGA.out w7 HC7.out q hqN.2 jK (by have h1 := HTJ.out; have h2 := HLJ.out; omega))
    obtain ⟨k0, k1, k2, k3, k4, k5⟩ := HCF.out w7 (HC6.out.trans HC7.out (fun _ _ h => h))
    obtain ⟨u0, u1, u2, u3, u4⟩ := HBQ.out w7 (HC46.out.trans HC7.out (fun _ _ h => h))
    obtain ⟨v0, v1, v2, v3, v4⟩ := HBR.out w7 HC7.out
    go_wp2_with fail
    refine HG2.out.mono ?_
    rintro e w8 ⟨mK, dK, hGK, hdK, rfl, hc8⟩
    have HC8 := hide hc8
    obtain ⟨gK, hgK⟩ : ∃ gK, gK = gainZ jT.val dK mK a := ⟨_, rfl⟩
    rw [← hgK]
    have hfin : dT = false ∨ (0 ≤ gT ∧ gK ≤ gT) := by
      have h1 := HGT.out.1
      rw [restU_split (stL M) hqN.1 hqN.2] at h1
      rw [logU_rest (stL M) hqN.1] at hGK hdK
      have h2 := HLJ.out
      rw [HGTE.out, hgK]
      exact truthful_pure h1 hGK h2.1.1 h2.2.1.2 h2.2.2.1.1 h2.2.2.2.1.1 HGT.out.2 hdK
    have HFIN := hide hfin
    have HEND := hide (show Below w.heap.size w w8 from (((HC0.out.trans HC6.out (fun _ _ h => h)).trans HC7.out (fun _ _ h => h)).trans HC8.out (fun _ _ h => h)).below (Nat.le_refl _) (fun _ h => h.elim))
    clear hc8 hGK hdK hgK hfin k0 k1 k2 k3 k4 k5 u0 u1 u2 u3 u4 v0 v1 v2 v3 v4
    cases hdT : dT
    · go_wp2
      go_ret
      exact ⟨rfl, HEND.out⟩
    · have hx : 0 ≤ gT ∧ gK ≤ gT := by
        rcases HFIN.out with h | h
        · rw [hdT] at h
          cases h
        · exact h
      have y1 : decide (0 ≤ gT) = true := by simpa using hx.1
      have y2 : decide (gK ≤ gT) = true := by simpa using hx.2
      clear hx
      go_wp2
      go_ret
      exact ⟨rfl, HEND.out⟩
end Go.Proofs.Ytminceigjejipaa
