import Derived.Test.YtminceigjejipaaYd2
import Derived.Test.YtminceigjejipaaG3
namespace Go.Proofs.Ytminceigjejipaa
open Go.RowKit

/-- find: where, or why not -/
def yfindE (m : MkG) (ten ref : Int) : Int := lookE m ten ref
def yfindI (m : MkG) (ten ref : Int) : Int := if lookE m ten ref = 0 then findZ m.bids ten ref else 0

set_option maxRecDepth 100000 in
set_option maxHeartbeats 2000000 in
theorem yfind_any (V : YV) (m : MkG) (ten ref : Int) (w : World) (hm : YmAt w V m) (hok : MkOk m) :
    Calls Try.prog 58 #[.pointer (some ⟨V.q, 0, none⟩), .agg #[.int .i64 ten, .int .i64 ref]] w fun e w' => e = .returned (.tuple #[.int .i64 (yfindI m ten ref), .int .i64 (lookE m ten ref)]) ∧ Chg (fun _ => False) w w' := by
  have HM := hide hm
  have HOK := hide hok
  clear hm hok
  go_enter Try.func58, Try.ntmps58
  go_wp2_with fail
  obtain ⟨w1, hw1⟩ : ∃ w1, w1 = w.alloc (.cells #[.int .i64 ten, .int .i64 ref] 90) := ⟨_, rfl⟩
  rw [← hw1]
  have hc1 : Chg (fun _ => False) w w1 := by rw [hw1]; exact (Chg.refl _ _).alloc _
  have b0 : w1.cell? ⟨w.heap.size, 0, none⟩ = some (.int .i64 ten) := by rw [hw1]; simp
  have b1 : w1.cell? ⟨w.heap.size, 1, none⟩ = some (.int .i64 ref) := by rw [hw1]; simp
  have H1 := hide (HM.out.chg0 hc1)
  have HC1 := hide hc1
  clear hw1 hc1
  refine (hasTenant_any V m ten _ H1.out HOK.out.ck).mono ?_
  rintro e w2 ⟨rfl, hw⟩
  subst w2
  cases hT : m.tenB ten
  · have E1 := hide (show lookE m ten ref = 3 by simp [lookE, hT])
    clear hT
    go_wp2
    go_ret2
    exact ⟨ret_two (by rw [yfindI, E1.out]; rfl) E1.out.symm, HC1.out⟩
  · go_wp2_with fail
    refine (indexOf_any V m ten ref _ H1.out HOK.out.bl).mono ?_
    rintro e w2 ⟨rfl, hw⟩
    have HQ := hide (HC1.out.trans hw (fun _ _ h => h))
    clear hw
    by_cases hf : findZ m.bids ten ref < 0
    · have E1 := hide (show lookE m ten ref = 5 by simp [lookE, hT, hf])
      clear hT
      generalize findZ m.bids ten ref = z at *
      go_wp2
      go_ret2
      exact ⟨ret_two (by rw [yfindI, E1.out]; rfl) E1.out.symm, HQ.out⟩
    · have E1 := hide (show lookE m ten ref = 0 by simp [lookE, hT, hf])
      have E2 := hide (show yfindI m ten ref = findZ m.bids ten ref by rw [yfindI, E1.out]; rfl)
      clear hT
      generalize findZ m.bids ten ref = z at *
      go_wp2
      go_ret2
      exact ⟨ret_two E2.out.symm E1.out.symm, HQ.out⟩

theorem lookE_cases (m : MkG) (ten ref : Int) : (lookE m ten ref = 3 ∧ m.tenB ten = false) ∨ (lookE m ten ref = 5 ∧ m.tenB ten = true ∧ findZ m.bids ten ref < 0) ∨ (lookE m ten ref = 0 ∧ m.tenB ten = true ∧ ¬ findZ m.bids ten ref < 0) := by
  unfold lookE
  cases m.tenB ten
  · simp
  · by_cases h : findZ m.bids ten ref < 0 <;> simp [h]

set_option maxRecDepth 100000 in
set_option maxHeartbeats 2000000 in
theorem ycancel_any (V : YV) (m : MkG) (ten ref : Int) (w : World) (hm : YmAt w V m) (hok : MkOk m) :
    Calls Try.prog 83 #[.pointer (some ⟨V.q, 0, none⟩), .agg #[.int .i64 ten, .int .i64 ref]] w fun e w' => e = .returned (.int .i64 (cancelE m ten ref)) ∧ YmTo w V (cancelM m ten ref) w' := by
  have HM := hide hm
  have HOK := hide hok
  clear hm hok
  go_enter Try.func83, Try.ntmps83
  go_wp2_with fail
  refine (yfind_any V m ten ref _ (HM.out.chg0 ((Chg.refl _ _).alloc _)) HOK.out).mono ?_
  rintro e w1 ⟨rfl, hq⟩
  have HQ := hide (((Chg.refl _ _).alloc _).trans hq (fun _ _ h => h))
  have H1 := hide (HM.out.chg0 HQ.out)
  clear hq
  rcases lookE_cases m ten ref with ⟨h1, hT⟩ | ⟨h1, hT, hf⟩ | ⟨h1, hT, hf⟩
  · have E1 := hide (show cancelE m ten ref = 3 by simp [cancelE, hT])
    rw [h1]
    clear h1 hT
    generalize yfindI m ten ref = z at *
    go_wp2
    go_ret
    exact ⟨ret_int E1.out.symm, by rw [show cancelM m ten ref = m.logs (callCancel ten ref) by simp [cancelM, E1.out]]; exact (YmTo.same HM.out HQ.out).logs _⟩
  · have E1 := hide (show cancelE m ten ref = 5 by simp [cancelE, hT, hf])
    rw [h1]
    clear h1 hT hf
    generalize yfindI m ten ref = z at *
    go_wp2
    go_ret
    exact ⟨ret_int E1.out.symm, by rw [show cancelM m ten ref = m.logs (callCancel ten ref) by simp [cancelM, E1.out]]; exact (YmTo.same HM.out HQ.out).logs _⟩
  · have E2 : yfindI m ten ref = findZ m.bids ten ref := by rw [yfindI, h1]; rfl
    rw [h1, E2]
    have hfl := findZ_lt m.bids ten ref
    have hbl := HOK.out.bl
    obtain ⟨i, hi⟩ := Int.eq_ofNat_of_zero_le (show 0 ≤ findZ m.bids ten ref by omega)
    obtain ⟨b, hb⟩ : ∃ b, m.bids[i]? = some b := ⟨_, List.getElem?_eq_getElem (by omega)⟩
    obtain ⟨ao, cap, hv, hel⟩ := H1.out.bid_form
    obtain ⟨g, hao, hown, hcl, hfr⟩ := hel i b hb
    subst hao
    have hil : (i : Int) < (m.bids.length : Int) := by omega
    have c6 : w1.cell? ⟨V.q, 6, none⟩ = some (.slice (some ⟨g, 0, none⟩) m.bids.length cap) := by rw [← hv]; exact H1.out.cell 6
    have c8 : w1.cell? ⟨g, i * 9 + 7, none⟩ = some (.int .i64 b.state) := hcl 7 _ rfl
    have f8 := hfr (i * 9 + 7)
    have HB := hide hb
    have HOW := hide hown
    have HI := hide hi
    have HT := hide hT
    rw [hi]
    clear hcl hfr hel hv hb hown hfl hf hi hT h1 E2
    cases hs : b.state == 1
    · have E1 := hide (show cancelE m ten ref = 8 by
        simp only [cancelE, HT.out, HI.out, stateAt, Int.toNat_natCast, HB.out]
        simp at hs
        simp [hs])
      generalize m.bids.length = n at *
      go_wp2
      go_ret
      exact ⟨ret_int E1.out.symm, by rw [show cancelM m ten ref = m.logs (callCancel ten ref) by simp [cancelM, E1.out]]; exact (YmTo.same HM.out HQ.out).logs _⟩
    · have hs1 : b.state = 1 := by simpa using hs
      have E1 := hide (show cancelE m ten ref = 0 by
        simp only [cancelE, HT.out, HI.out, stateAt, Int.toNat_natCast, HB.out]
        simp [hs1])
      have E2 := hide (show cancelM m ten ref = { m.logs (callCancel ten ref) with bids := m.bids.set i { b with state := 3 } } by
        simp only [cancelM, E1.out, if_true, HI.out, Int.toNat_natCast]
        have : (m.logs (callCancel ten ref)).bids = m.bids := rfl
        rw [this, setState, HB.out])
      have HFIN := hide (show YmTo w V (cancelM m ten ref) (w1.setCell ⟨g, i * 9 + 7, none⟩ (.int .i64 3)) by
        rw [E2.out]
        have := H1.out.setState (i := i) (b := b) (s := 3) HB.out (by omega) (by omega) HOW.out
        exact (YmTo.start HQ.out this).logs (callCancel ten ref))
      clear hs1
      generalize m.bids.length = n at *
      go_wp2
      go_ret
      exact ⟨ret_int E1.out.symm, HFIN.out⟩

set_option maxRecDepth 100000 in
set_option maxHeartbeats 2000000 in
theorem ysuspend_any (V : YV) (m : MkG) (ten : Int) (on : Bool) (w : World) (hm : YmAt w V m) (hok : MkOk m) :
    Calls Try.prog 85 #[.pointer (some ⟨V.q, 0, none⟩), .int .i64 ten, .bool on] w fun e w' => e = .returned (.int .i64 (suspendE m ten)) ∧ YmTo w V (suspendM m ten on) w' := by
  have HM := hide hm
  have HOK := hide hok
  clear hm hok
  go_enter Try.func85, Try.ntmps85
  go_wp2_with fail
  refine (hasTenant_any V m ten _ HM.out HOK.out.ck).mono ?_
  rintro e w2 ⟨rfl, hw⟩
  subst w2
  cases hT : m.tenB ten
  · have E1 := hide (show suspendE m ten = 3 by simp [suspendE, hT])
    clear hT
    go_wp2
    go_ret
    exact ⟨ret_int E1.out.symm, by rw [show suspendM m ten on = m.logs (callSuspend ten on) by simp [suspendM, E1.out]]; exact (YmTo.refl HM.out).logs _⟩
  · obtain ⟨t0, t1⟩ := tenB_true hT
    have hns := HOK.out.ns
    have hcf := cfgOk_true HOK.out.ck
    obtain ⟨i, rfl⟩ := Int.eq_ofNat_of_zero_le t0
    obtain ⟨ao, cap, hv, hel⟩ := HM.out.susp_form
    obtain ⟨g, hao, hown, hcl, hfr⟩ := hel i (by omega)
    subst hao
    have hil : (i : Int) < (m.susp.length : Int) := by omega
    have hsl : m.susp.length ≤ 8 := by omega
    have c7 : w.cell? ⟨V.q, 7, none⟩ = some (.slice (some ⟨g, 0, none⟩) m.susp.length cap) := by rw [← hv]; exact HM.out.cell 7
    have E1 := hide (show suspendE m i = 0 by simp [suspendE, hT])
    have HFIN := hide (show YmTo w V (suspendM m i on) (w.setCell ⟨g, i, none⟩ (.bool on)) by
      rw [show suspendM m i on = { m.logs (callSuspend i on) with susp := m.susp.set i on } by simp [suspendM, E1.out, MkG.logs]]
      exact (HM.out.setSusp (s := on) (by omega) hown).logs (callSuspend i on))
    clear hT hel hv hown hns hcf t0 t1
    generalize m.susp.length = n at *
    go_wp2
    go_ret
    exact ⟨ret_int E1.out.symm, HFIN.out⟩
end Go.Proofs.Ytminceigjejipaa

namespace Go.Proofs.Ytminceigjejipaa
open Go.RowKit

set_option maxRecDepth 100000 in
set_option maxHeartbeats 4000000 in
theorem ylook_any (V : YV) (m : MkG) (ten ref : Int) (w : World) (hm : YmAt w V m) (hok : MkOk m) :
    Calls Try.prog 57 #[.pointer (some ⟨V.q, 0, none⟩), .agg #[.int .i64 ten, .int .i64 ref]] w fun e w' => e = .returned (.tuple #[.agg #[.int .i64 (lookS m ten ref), .int .i64 (lookT m ten ref)], .int .i64 (lookE m ten ref)]) ∧ Chg (fun _ => False) w w' := by
  have HM := hide hm
  have HOK := hide hok
  clear hm hok
  go_enter Try.func57, Try.ntmps57
  go_wp2_with fail
  obtain ⟨w1, hw1⟩ : ∃ w1, w1 = (w.alloc (.cells #[.int .i64 ten, .int .i64 ref] 90)).alloc (.cells #[.int .i64 0, .int .i64 0] 68) := ⟨_, rfl⟩
  rw [← hw1]
  have hbk : w1.heap[w.heap.size + 1]? = some (.cells #[.int .i64 0, .int .i64 0] 68 (0, 0)) := by
    rw [hw1]
    have := heap_alloc_new (w.alloc (.cells #[.int .i64 ten, .int .i64 ref] 90)) (.cells #[.int .i64 0, .int .i64 0] 68)
    simpa using this
  have hc1 : Chg (fun _ => False) w w1 := by rw [hw1]; exact ((Chg.refl _ _).alloc _).alloc _
  have hs1 : w1.heap.size = w.heap.size + 1 + 1 := by rw [hw1]; simp
  clear hw1
  refine (yfind_any V m ten ref _ (HM.out.chg0 hc1) HOK.out).mono ?_
  rintro e w2 ⟨rfl, hq⟩
  have hbk2 : w2.heap[w.heap.size + 1]? = some (.cells #[.int .i64 0, .int .i64 0] 68 (0, 0)) := (hq.block _ (by omega) (fun h => h)).trans hbk
  have z0 : w2.cell? ⟨w.heap.size + 1, 0, none⟩ = some (.int .i64 0) := by unfold World.cell?; rw [hbk2]; rfl
  have z1 : w2.cell? ⟨w.heap.size + 1, 1, none⟩ = some (.int .i64 0) := by unfold World.cell?; rw [hbk2]; rfl
  have zf : ∀ r, w2.frozen? ⟨w.heap.size + 1, r, none⟩ = false := fun r => by unfold World.frozen?; rw [hbk2]; simp
  have HC2 := hide (hc1.trans hq (fun _ _ h => h))
  have HBK := hide hbk2
  have H2 := hide (HM.out.chg0 HC2.out)
  clear hc1 hs1 hbk hq hbk2
  rcases lookE_cases m ten ref with ⟨h1, hT⟩ | ⟨h1, hT, hf⟩ | ⟨h1, hT, hf⟩
  · have E1 := hide h1
    rw [h1]
    clear h1 hT
    generalize yfindI m ten ref = z at *
    go_wp2
    obtain ⟨r0, r1⟩ := two_set (a := .int .i64 0) (b := .int .i64 0) HBK.out
    refine bodyPost_ret (v := .tuple #[.agg #[.int .i64 0, .int .i64 0], .int .i64 3]) (by simp [results, Try.results57, go_sem, r0, r1]) rfl ⟨?_, ?_⟩
    · rw [lookS, lookT, E1.out]; rfl
    · exact (HC2.out.setCell (.inr (Nat.le_succ _)) _).setCell (.inr (Nat.le_succ _)) _
  · have E1 := hide h1
    rw [h1]
    clear h1 hT hf
    generalize yfindI m ten ref = z at *
    go_wp2
    obtain ⟨r0, r1⟩ := two_set (a := .int .i64 0) (b := .int .i64 0) HBK.out
    refine bodyPost_ret (v := .tuple #[.agg #[.int .i64 0, .int .i64 0], .int .i64 5]) (by simp [results, Try.results57, go_sem, r0, r1]) rfl ⟨?_, ?_⟩
    · rw [lookS, lookT, E1.out]; rfl
    · exact (HC2.out.setCell (.inr (Nat.le_succ _)) _).setCell (.inr (Nat.le_succ _)) _
  · have E2 : yfindI m ten ref = findZ m.bids ten ref := by rw [yfindI, h1]; rfl
    rw [h1, E2]
    have hfl := findZ_lt m.bids ten ref
    have hbl := HOK.out.bl
    obtain ⟨i, hi⟩ := Int.eq_ofNat_of_zero_le (show 0 ≤ findZ m.bids ten ref by omega)
    obtain ⟨b, hb⟩ : ∃ b, m.bids[i]? = some b := ⟨_, List.getElem?_eq_getElem (by omega)⟩
    obtain ⟨ao, cap, hv, hel⟩ := H2.out.bid_form
    obtain ⟨g, hao, hown, hcl, hfr⟩ := hel i b hb
    subst hao
    have hil : (i : Int) < (m.bids.length : Int) := by omega
    have c6 : w2.cell? ⟨V.q, 6, none⟩ = some (.slice (some ⟨g, 0, none⟩) m.bids.length cap) := by rw [← hv]; exact H2.out.cell 6
    have c7 : w2.cell? ⟨g, i * 9 + 7, none⟩ = some (.int .i64 b.state) := hcl 7 _ rfl
    have c8 : w2.cell? ⟨g, i * 9 + 8, none⟩ = some (.int .i64 b.start) := hcl 8 _ rfl
    have E1 := hide h1
    have E3 := hide (show lookS m ten ref = b.state ∧ lookT m ten ref = b.start by
      rw [lookS, lookT, h1, hi]
      simp [stateAt, startAt, hb])
    rw [hi]
    clear hcl hfr hel hv hb hown hfl hf hi hT h1 E2
    generalize m.bids.length = n at *
    go_wp2
    obtain ⟨r0, r1⟩ := two_set (a := .int .i64 b.state) (b := .int .i64 b.start) HBK.out
    refine bodyPost_ret (v := .tuple #[.agg #[.int .i64 b.state, .int .i64 b.start], .int .i64 0]) (by simp [results, Try.results57, go_sem, r0, r1]) rfl ⟨?_, ?_⟩
    · rw [E3.out.1, E3.out.2, E1.out]
    · exact (HC2.out.setCell (.inr (Nat.le_succ _)) _).setCell (.inr (Nat.le_succ _)) _
end Go.Proofs.Ytminceigjejipaa
