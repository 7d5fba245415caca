import Derived.Test.YtminceigjejipaaG14
import Derived.Test.YtminceigjejipaaG15
import Derived.Deep.CutRange
/-
  yardkeep: pick; a case made once more, with another value (wins).
-/
namespace Go.Proofs.Ytminceigjejipaa
open Go.RowKit

set_option maxHeartbeats 400000 in
theorem kpick_any (c n : Int) (w : World) (h1 : -9223372036854775808 ≤ c) (h2 : c ≤ 9223372036854775807) (hn : 0 < n) :
    Calls Try.prog 25 #[.int .i64 c, .int .i64 n] w fun e w' => e = .returned (.int .i64 (pickZ c n)) ∧ w' = w := by
  by_cases h : c < 0
  · go_enter Try.func25, Try.ntmps25
    go_wp2
    go_ret
    exact ⟨ret_int (by rw [pickZ, if_pos h, ← Int.neg_tmod, Int.tmod_eq_emod_of_nonneg (by omega)]), rfl⟩
  · go_enter Try.func25, Try.ntmps25
    go_wp2
    go_ret
    exact ⟨ret_int (by rw [pickZ, if_neg (by omega)]), rfl⟩

theorem CaseAt.again {w : World} {q : Nat} {c : CfgG} {sa : Option Addr} {sl sc : Nat} {Z : Nat → Int} (h : CaseAt w q c sa sl sc Z) : CaseAt (w.alloc (.cells (caseC c (.slice sa sl sc)) 41)) w.heap.size c sa sl sc Z := by
  have h1 := h.chg ((Chg.refl (fun _ => False) w).alloc (.cells (caseC c (.slice sa sl sc)) 41))
  exact ⟨heap_alloc_new w _, h1.rows, h1.i64⟩

theorem cell_lt {w : World} {b f : Nat} {v : Value} (h : w.cell? ⟨b, f, none⟩ = some v) : b < w.heap.size := by
  rcases Nat.lt_or_ge b w.heap.size with e | e
  · exact e
  · unfold World.cell? at h
    rw [Array.getElem?_eq_none e] at h
    simp at h

set_option maxRecDepth 100000 in
set_option maxHeartbeats 8000000 in
theorem kwins_any {YAt : World → Nat → (Nat → Prop) → MkG → Prop} (hY : YardSpec YAt) (hT : TickY YAt) (hP : PaidY YAt) (c : CfgG) (sa : Option Addr) (sl sc : Nat) (Z : Nat → Int) (q : Nat) (i : Nat) (v : Int) (w : World) (hc : cfgOk c = true) (hs : CaseAt w q c sa sl sc Z) (hsl : sl < 5000000000000) (hil : i < sl) (hv : I64 v) :
    Calls Try.prog 60 #[.agg #[.int .i64 c.ticks, .int .i64 c.cap, .int .i64 c.res, .int .i64 c.ten, .int .i64 c.quo, .slice sa sl sc], .int .i64 i, .int .i64 v] w fun e w' => ∃ m2, GoodM m2 ∧ m2.c = c ∧ m2.log = logN (stV (stepZ Z) i v) sl ∧ e = .returned (.bool (decide (lookE m2 (stepZ Z i).a (stepZ Z i).b = 0) && decide (lookS m2 (stepZ Z i).a (stepZ Z i).b = 2))) ∧ Chg (fun _ => False) w w' := by
  have HY := hide hY
  have HT := hide hT
  have HP := hide hP
  have HC := hide hc
  have HVI := hide hv
  obtain ⟨w0, hw0⟩ : ∃ w0, w0 = w.alloc (.cells (caseC c (.slice sa sl sc)) 41) := ⟨_, rfl⟩
  have hcase : CaseAt w0 w.heap.size c sa sl sc Z := by rw [hw0]; exact hs.again
  have HC0 : Hid (Chg (fun _ => False) w w0) := by rw [hw0]; exact (Chg.refl _ _).alloc _
  have HCA := hide hcase
  have HW0 := hide hw0
  have HOP := hide (fun (w' : World) => HY.out.open_ok c w' HC.out)
  have k0 : w0.cell? ⟨w.heap.size, 0, none⟩ = some (.int .i64 c.ticks) := hcase.cell 0
  clear hY hT hP hc hs hcase hw0 hv k0
  obtain ⟨st, hst⟩ : ∃ st, st = stepZ Z := ⟨_, rfl⟩
  have HSTZ := hide hst
  rw [← hst]
  have HSI := hide (fun (k : Nat) (hk : k < sl) => show StepI64 (st k) from by rw [hst]; exact stepZ_i64 HCA.out.i64 hk)
  have HSA := hide (fun (k : Nat) (hk : k < sl) => show ∃ b off, sa = some ⟨b, off, none⟩ ∧ StepAt w0 b (off + k * 9) (st k) from by rw [hst]; exact HCA.out.step hk)
  clear hst
  unfold caseC at HW0
  unfold cfgV at HOP
  go_enter Try.func60, Try.ntmps60
  go_wp2_with fail
  rw [← HW0.out]
  refine (HOP.out _).mono ?_
  rintro e w1 ⟨y, F1, rfl, hy1, hch1, hnew1⟩
  have HO1 := hide (show OwnY YAt w0 y F1 (openM c) w1 from ⟨hy1, GoodM.open HC.out, hch1, hnew1⟩)
  clear hy1 hch1 hnew1 HOP
  go_wp2
  go_loopw [9] (fun n wr => ∃ (k : Nat) (m : MkG) (F : Nat → Prop), k ≤ sl ∧ n = .int .i64 k ∧ OwnY YAt w0 y F m wr ∧ m.c = c ∧ m.log = logN (stV st i v) k) (fun n _ => sl - (intOf n).toNat)
  case atStart => exact ⟨0, openM c, F1, Nat.zero_le _, rfl, HO1.out, rfl, rfl⟩
  case round =>
    obtain ⟨k, m, F, hk, rfl, hown, hmc, hml⟩ := hrel
    have HO := hide hown
    have HMC := hide hmc
    have HML := hide hml
    have c5 : wr.cell? ⟨w.heap.size, 5, none⟩ = some (.slice sa sl sc) := (HCA.out.chg hown.chg).cell 5
    clear hown hmc hml
    by_cases hlt : k < sl
    · obtain ⟨sb, off, hsa, hst⟩ := HSA.out k hlt
      subst hsa
      obtain ⟨s, hs0⟩ : ∃ s, s = st k := ⟨_, rfl⟩
      rw [← hs0] at hst
      have hi := HSI.out k hlt
      rw [← hs0] at hi
      have HI := hide hi
      have HS0 := hide hs0
      obtain ⟨_, q0, q1, q2, q3, q4, q5, q6, q7, q8⟩ := hst.chg HO.out.chg (fun e => e)
      have n0 : (0 : Int) ≤ (k : Int) := by omega
      have n1 : (k : Int) < (sl : Int) := by omega
      clear hst hi hs0
      have HF := hide (fun x (hx : F x) => HY.out.lt _ _ _ _ HO.out.yard x hx)
      have HOA := hide (fun (o : Obj) => show OwnY YAt w0 y F m (wr.alloc o) from HO.out.chg0 HY.out ((Chg.refl (fun _ => False) wr).alloc o) (fun _ h => h.elim))
      by_cases hki : k = i
      · have hkd : ((k : Int) == (i : Int)) = true := by rw [hki]; simp
        have HD := hide (fun (o : Obj) => does_any HY.out HT.out HP.out y F m { s with job := { s.job with val := v } } (wr.alloc o) (HOA.out o).yard HO.out.good ⟨HI.out.a, HI.out.b, HI.out.c, ⟨HI.out.j.1, HI.out.j.2.1, HI.out.j.2.2.1, HI.out.j.2.2.2.1, HVI.out⟩⟩)
        have HSV := hide (show stV st i v k = { s with job := { s.job with val := v } } by unfold stV; rw [if_pos hki, ← HS0.out])
        clear hki
        unfold stepV at HD
        go_wp2_with fail
        refine (HD.out _).mono ?_
        rintro e w4 ⟨z, names, bills, m', F4, nv, bv, rfl, hres, htold⟩
        have HO4 := hide ((HOA.out _).told (hres.good HO.out.good) htold)
        have HL4 := hide (show m'.c = c ∧ m'.log = logN (stV st i v) (k + 1) from by
          obtain ⟨l1, l2⟩ := hres.logd
          refine ⟨l2.trans HMC.out, ?_⟩
          rw [l1, HML.out]
          show _ = logStep _ (stV st i v k)
          rw [HSV.out])
        clear hres htold HD c5 q0 q1 q2 q3 q4 q5 q6 q7 q8
        go_wp2
        go_roundw
        case rel => exact ⟨k + 1, m', F4, by omega, by go_num, HO4.out, HL4.out.1, HL4.out.2⟩
        case measure => simp [intOf]; omega
      · have hkd : ((k : Int) == (i : Int)) = false := by simp; omega
        have HD := hide (fun (o : Obj) => does_any HY.out HT.out HP.out y F m s (wr.alloc o) (HOA.out o).yard HO.out.good HI.out)
        have HSV := hide (show stV st i v k = s by unfold stV; rw [if_neg hki, ← HS0.out])
        clear hki
        unfold stepV at HD
        go_wp2_with fail
        refine (HD.out _).mono ?_
        rintro e w4 ⟨z, names, bills, m', F4, nv, bv, rfl, hres, htold⟩
        have HO4 := hide ((HOA.out _).told (hres.good HO.out.good) htold)
        have HL4 := hide (show m'.c = c ∧ m'.log = logN (stV st i v) (k + 1) from by
          obtain ⟨l1, l2⟩ := hres.logd
          refine ⟨l2.trans HMC.out, ?_⟩
          rw [l1, HML.out]
          show _ = logStep _ (stV st i v k)
          rw [HSV.out])
        clear hres htold HD c5 q0 q1 q2 q3 q4 q5 q6 q7 q8
        go_wp2
        go_roundw
        case rel => exact ⟨k + 1, m', F4, by omega, by go_num, HO4.out, HL4.out.1, HL4.out.2⟩
        case measure => simp [intOf]; omega
    · have hkn : k = sl := by omega
      subst hkn
      obtain ⟨sb, off, hsa, hst⟩ := HSA.out i hil
      subst hsa
      have hi := HSI.out i hil
      obtain ⟨_, _, q1, q2, _, _, _, _, _, _⟩ := hst.chg HO.out.chg (fun e => e)
      obtain ⟨A, hA⟩ : ∃ A, A = (st i).a := ⟨_, rfl⟩
      obtain ⟨B, hB⟩ : ∃ B, B = (st i).b := ⟨_, rfl⟩
      have hia := hi.a
      have hib := hi.b
      rw [← hA] at q1 hia
      rw [← hB] at q2 hib
      have i0 : (0 : Int) ≤ (i : Int) := by omega
      have i1 : (i : Int) < (k : Int) := by omega
      have HLK := hide (fun (w' : World) (hc : Chg (fun _ => False) wr w') => HY.out.look w' y F m A B (HY.out.frame _ w' _ _ _ HO.out.yard (fun x hx => hc.block x (HY.out.lt _ _ _ _ HO.out.yard x hx) (fun h => h))) HO.out.good.ok hia hib)
      have HFL := hide (fun x (hx : F x) => HY.out.lt _ _ _ _ HO.out.yard x hx)
      have HAB := hide (And.intro hA hB)
      have HWL := hide (show w.heap.size < wr.heap.size from Nat.lt_of_lt_of_le HCA.out.lt HO.out.chg.size)
      have HSBF := hide (show ¬ F sb from fun h => by have h1 := HO.out.new sb h; have h2 := hst.lt; omega)
      clear hst hi hia hib hA hB hlt
      obtain ⟨lS, hlS⟩ : ∃ x, x = lookS m A B := ⟨_, rfl⟩
      obtain ⟨lT, hlT⟩ : ∃ x, x = lookT m A B := ⟨_, rfl⟩
      obtain ⟨lE, hlE⟩ : ∃ x, x = lookE m A B := ⟨_, rfl⟩
      rw [← hlS, ← hlT, ← hlE] at HLK
      have HLS := hide (And.intro hlS hlE)
      clear hlS hlT hlE
      have nw : wr.heap.size ≠ w.heap.size := by have := HWL.out; omega
      have nw2 : w.heap.size ≠ wr.heap.size := by have := HWL.out; omega
      have nb : wr.heap.size ≠ sb := fun e => by have := cell_lt q1; omega
      have nb2 : sb ≠ wr.heap.size := fun e => nb e.symm
      have hk1 : ∀ x f, (wr.alloc x).cell? ⟨sb, f, none⟩ = wr.cell? ⟨sb, f, none⟩ := fun x f => World.cell?_alloc_lt _ _ _ (by exact cell_lt q1)
      go_upto_region 11 with fail
      go_cut [11, 12] from 13 to 69 (fun q e wx => ∃ Q : Nat, q = .pointer (some ⟨Q, 0, none⟩) ∧ e = .int .i64 lE ∧ wx.heap[Q]? = some (.cells #[.int .i64 lS, .int .i64 lT] 68 (0, 0)) ∧ Chg (fun _ => False) w0 wx)
      case first =>
        go_region_held3 (fun w' => w'.cell? ⟨w.heap.size, 5, none⟩ = some (.slice (some ⟨sb, off, none⟩) k sc) ∧ w'.cell? ⟨sb, off + i * 9 + 1, none⟩ = some (.int .i64 A) ∧ w'.cell? ⟨sb, off + i * 9 + 2, none⟩ = some (.int .i64 B)) (go_keep)
          (first
            | (go_at_call 23; refine (HLK.out (wr.alloc (.cells #[.int .i64 0, .int .i64 0] 68)).drew (((Chg.refl _ wr).alloc _).drew)).mono ?_; rintro e w2 ⟨rfl, F2, hy2, hc2, hf2⟩; have hbk := (hc2.block wr.heap.size (by simp) (fun h => Nat.lt_irrefl _ (HFL.out _ h))).trans (heap_alloc_new wr (.cells #[.int .i64 0, .int .i64 0] 68)); have x5 : w2.cell? ⟨w.heap.size, 5, none⟩ = some (.slice (some ⟨sb, off, none⟩) k sc) := (by have h1 := (HCA.out.chg ((HO.out.chg.alloc (.cells #[.int .i64 0, .int .i64 0] 68)).drew.trans hc2 (fun x hx h => (by have := HO.out.new x h; omega)))).cell 5; exact h1); have x1 : w2.cell? ⟨sb, off + i * 9 + 1, none⟩ = some (.int .i64 A) := (by rw [hc2.cell (by simp; exact Nat.lt_succ_of_lt (cell_lt q1)) (HSBF.out)]; exact (hk1 _ _).trans q1); have x2 : w2.cell? ⟨sb, off + i * 9 + 2, none⟩ = some (.int .i64 B) := (by rw [hc2.cell (by simp; exact Nat.lt_succ_of_lt (cell_lt q1)) (HSBF.out)]; exact (hk1 _ _).trans q2); have z0 : w2.cell? ⟨wr.heap.size, 0, none⟩ = some (.int .i64 0) := (by unfold World.cell?; rw [hbk]; rfl); have z1 : w2.cell? ⟨wr.heap.size, 1, none⟩ = some (.int .i64 0) := (by unfold World.cell?; rw [hbk]; rfl); have zf0 : w2.frozen? ⟨wr.heap.size, 0, none⟩ = false := (by unfold World.frozen?; rw [hbk]; simp); have zf1 : w2.frozen? ⟨wr.heap.size, 1, none⟩ = false := (by unfold World.frozen?; rw [hbk]; simp); have HBK := hide hbk; have HQ2 := hide ((HO.out.chg.alloc (.cells #[.int .i64 0, .int .i64 0] 68)).drew.trans hc2 (fun x hx h => (by have := HO.out.new x h; omega))); clear hy2 hc2 hf2 hbk)
            | (go_at_call 23; refine (HLK.out wr.drew ((Chg.refl _ _).drew)).mono ?_; rintro e w2 ⟨rfl, F2, hy2, hc2, hf2⟩; have x5 : w2.cell? ⟨w.heap.size, 5, none⟩ = some (.slice (some ⟨sb, off, none⟩) k sc) := (by have h1 := (HCA.out.chg (HO.out.chg.drew.trans hc2 (fun x hx h => (by have := HO.out.new x h; omega)))).cell 5; exact h1); have x1 : w2.cell? ⟨sb, off + i * 9 + 1, none⟩ = some (.int .i64 A) := (by rw [hc2.cell (by exact cell_lt q1) (HSBF.out)]; exact q1); have x2 : w2.cell? ⟨sb, off + i * 9 + 2, none⟩ = some (.int .i64 B) := (by rw [hc2.cell (by exact cell_lt q1) (HSBF.out)]; exact q2); have n3 : w2.heap.size ≠ w.heap.size := (by have h9 := hc2.size; have := HWL.out; simp at h9; omega); have n4 : w2.heap.size ≠ sb := (by have h9 := hc2.size; have := cell_lt q1; simp at h9; omega); have HQ2 := hide (HO.out.chg.drew.trans hc2 (fun x hx h => (by have := HO.out.new x h; omega))); clear hy2 hc2 hf2))
        · go_wp2_with fail
          go_meet
          case rel => exact ⟨w2.heap.size, rfl, rfl, heap_alloc_new w2 _, HQ2.out.alloc _⟩
        · go_wp2_with fail
          go_meet
          case rel => exact ⟨wr.heap.size, rfl, rfl, box_set (f := 1) (box_set (f := 0) HBK.out _) _, (HQ2.out.setCell (.inr HO.out.chg.size) _).setCell (.inr HO.out.chg.size) _⟩
      case rest =>
        obtain ⟨Q, rfl, rfl, hbq, hcx⟩ := hcut
        have f0 : wc.cell? ⟨Q, 0, none⟩ = some (.int .i64 lS) := by unfold World.cell?; rw [hbq]; rfl
        have HCX := hide hcx
        have HFIN := hide (fun (r : Bool) (hr : r = (decide (lE = 0) && decide (lS = 2))) (w' : World) (h : Chg (fun _ => False) w0 w') => show ∃ m2, GoodM m2 ∧ m2.c = c ∧ m2.log = logN (stV st i v) k ∧ Ending.returned (.bool r) = .returned (.bool (decide (lookE m2 (st i).a (st i).b = 0) && decide (lookS m2 (st i).a (st i).b = 2))) ∧ Chg (fun _ => False) w w' from ⟨m, HO.out.good, HMC.out, HML.out, by rw [hr, HLS.out.1, HLS.out.2, HAB.out.1, HAB.out.2], HC0.out.trans h (fun _ _ h => h)⟩)
        clear hbq hcx nb nb2 nw nw2 hk1 q1 q2
        cases hE : lE == 0
        · have hE' : ¬ lE = 0 := by simpa using hE
          go_wp2
          go_ret
          obtain ⟨m2, a1, a2, a3, a4, a5⟩ := HFIN.out false (by simp [hE']) _ HCX.out; exact ⟨m2, a1, a2, a3, a4, a5⟩
        · have hE' : lE = 0 := by simpa using hE
          cases hS : lS == 2
          · have hS' : ¬ lS = 2 := by simpa using hS
            go_wp2
            go_ret
            obtain ⟨m2, a1, a2, a3, a4, a5⟩ := HFIN.out false (by simp [hS']) _ HCX.out; exact ⟨m2, a1, a2, a3, a4, a5⟩
          · have hS' : lS = 2 := by simpa using hS
            go_wp2
            go_ret
            obtain ⟨m2, a1, a2, a3, a4, a5⟩ := HFIN.out true (by simp [hE', hS']) _ HCX.out; exact ⟨m2, a1, a2, a3, a4, a5⟩
end Go.Proofs.Ytminceigjejipaa
