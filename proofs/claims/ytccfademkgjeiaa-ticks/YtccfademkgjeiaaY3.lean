import Derived.Test.YtccfademkgjeiaaY1
import Derived.Deep.RegionLaw
import Derived.Test.YtccfademkgjeiaaMkH
import Derived.Test.YtccfademkgjeiaaR3
import Derived.Test.YtccfademkgjeiaaMkJ
namespace Go.Proofs.Ytccfademkgjeiaa
open Go.RowKit

theorem infoYBid : (Try.prog.info? 158).map (fun i => (i.zero, i.size, i.bytes)) = some (some (.agg #[.int .i64 0, .int .i64 0, .int .i64 0, .int .i64 0, .int .i64 0, .int .i64 0, .int .i64 0, .int .i64 0, .int .i64 0]), 9, 72) := by kernel_rfl

set_option maxRecDepth 100000 in
set_option maxHeartbeats 8000000 in
theorem ysubmit_any (V : YV) (m : MkG) (ten ref : Int) (j : JobG) (w : World) (hm : YmAt w V m) (hok : MkOk m) :
    Calls Try.prog 73 #[.pointer (some ⟨V.q, 0, none⟩), .agg #[.int .i64 ten, .int .i64 ref], .agg #[.int .i64 j.arr, .int .i64 j.dl, .int .i64 j.len, .int .i64 j.units, .int .i64 j.val]] w fun e w' => e = .returned (.int .i64 (submitE m ten ref j)) ∧ YmTo w V (submitM m ten ref j) w' := by
  have HM := hide hm
  have HOK := hide hok
  clear hm hok
  have HBAD := hide (fun (w' : World) (hc : Chg (fun _ => False) w w') (h : submitE m ten ref j ≠ 0) => show YmTo w V (submitM m ten ref j) w' from by
    rw [show submitM m ten ref j = m.logs (callSubmit ten ref j) by simp [submitM, h]]
    exact (YmTo.same HM.out hc).logs _)
  go_enter Try.func73, Try.ntmps73
  go_wp2_with fail
  obtain ⟨w1, hw1⟩ : ∃ w1, w1 = (w.alloc (.cells #[.int .i64 ten, .int .i64 ref] 123)).alloc (.cells #[.int .i64 j.arr, .int .i64 j.dl, .int .i64 j.len, .int .i64 j.units, .int .i64 j.val] 58) := ⟨_, rfl⟩
  rw [← hw1]
  have hc1 : Chg (fun _ => False) w w1 := by rw [hw1]; exact ((Chg.refl _ _).alloc _).alloc _
  have hbn : w1.heap[w.heap.size]? = some (.cells #[.int .i64 ten, .int .i64 ref] 123 (0, 0)) := by rw [hw1, Below.heap_alloc _ _ _ (by simp)]; exact heap_alloc_new w _
  have hbj : w1.heap[w.heap.size + 1]? = some (.cells #[.int .i64 j.arr, .int .i64 j.dl, .int .i64 j.len, .int .i64 j.units, .int .i64 j.val] 58 (0, 0)) := by
    rw [hw1]
    have := heap_alloc_new (w.alloc (.cells #[.int .i64 ten, .int .i64 ref] 123)) (.cells #[.int .i64 j.arr, .int .i64 j.dl, .int .i64 j.len, .int .i64 j.units, .int .i64 j.val] 58)
    simpa using this
  have HSZ := hide (show w1.heap.size = w.heap.size + 1 + 1 by rw [hw1]; simp)
  have HC1 := hide hc1
  -- what lies in the two boxes, in every world from here on
  have HBN := hide (fun (w' : World) (hc : Chg (fun _ => False) w1 w') => show w'.heap[w.heap.size]? = some (.cells #[.int .i64 ten, .int .i64 ref] 123 (0, 0)) from (hc.block _ (by rw [HSZ.out]; omega) (fun h => h)).trans hbn)
  have HBJ := hide (fun (w' : World) (hc : Chg (fun _ => False) w1 w') => show w'.heap[w.heap.size + 1]? = some (.cells #[.int .i64 j.arr, .int .i64 j.dl, .int .i64 j.len, .int .i64 j.units, .int .i64 j.val] 58 (0, 0)) from (hc.block _ (by rw [HSZ.out]; omega) (fun h => h)).trans hbj)
  have H1 := hide (fun (w' : World) (hc : Chg (fun _ => False) w1 w') => (HM.out.chg0 hc1).chg0 hc)
  have HW := hide (fun (w' : World) (hc : Chg (fun _ => False) w1 w') => hc1.trans hc (fun _ _ h => h))
  clear hw1 hc1 hbn hbj
  have n0 : w1.cell? ⟨w.heap.size, 0, none⟩ = some (.int .i64 ten) := by unfold World.cell?; rw [HBN.out w1 (Chg.refl _ _)]; rfl
  refine (hasTenant_any V m ten _ (H1.out w1 (Chg.refl _ _)) HOK.out.ck).mono ?_
  rintro e w2 ⟨rfl, hw⟩
  subst w2
  cases hT : m.tenB ten
  · have E1 := hide (show submitE m ten ref j = 3 by simp [submitE, hT])
    clear hT
    go_wp2
    go_ret
    exact ⟨ret_int E1.out.symm, HBAD.out _ HC1.out (by rw [E1.out]; decide)⟩
  obtain ⟨t0, t1⟩ := tenB_true hT
  have hns := HOK.out.ns
  have hcf := cfgOk_true HOK.out.ck
  obtain ⟨ti, hti⟩ := Int.eq_ofNat_of_zero_le t0
  obtain ⟨ao, cap, hv, hel⟩ := (H1.out w1 (Chg.refl _ _)).susp_form
  obtain ⟨gs, hao, hown, hcl, hfr⟩ := hel ti (by omega)
  subst hao
  have hil : (ti : Int) < (m.susp.length : Int) := by omega
  have hsl : m.susp.length ≤ 8 := by omega
  have c7 : w1.cell? ⟨V.q, 7, none⟩ = some (.slice (some ⟨gs, 0, none⟩) m.susp.length cap) := by rw [← hv]; exact (H1.out w1 (Chg.refl _ _)).cell 7
  have esu : suspAt m ten = m.susp.getD ti false := by rw [hti]; rfl
  have cs : w1.cell? ⟨gs, ti, none⟩ = some (.bool (suspAt m ten)) := by rw [esu]; exact hcl
  have HT := hide hT
  clear hcl hfr hel hv hown hns t0 t1 hT esu hcf
  subst hti
  have i0 : (0 : Int) ≤ (ti : Int) := by omega
  generalize m.susp.length = ns at *
  cases hS : suspAt m ti
  rotate_left
  · rw [hS] at cs
    have E1 := hide (show submitE m ti ref j = 4 by simp [submitE, HT.out, hS])
    clear hS
    go_wp2
    go_quiet (fail)
    go_wp2
    go_ret
    exact ⟨ret_int E1.out.symm, HBAD.out _ (HC1.out.drewN _) (by rw [E1.out]; decide)⟩
  rw [hS] at cs
  have HS := hide hS
  have r1 : w1.cell? ⟨w.heap.size, 1, none⟩ = some (.int .i64 ref) := by unfold World.cell?; rw [HBN.out w1 (Chg.refl _ _)]; rfl
  clear hS
  go_wp2
  go_quiet (fail)
  go_wp2_with fail
  obtain ⟨w2, hw2⟩ : ∃ w2, w2 = w1.drewN nq := ⟨_, rfl⟩
  rw [← hw2]
  have hc2 : Chg (fun _ => False) w1 w2 := by rw [hw2]; exact (Chg.refl _ _).drewN _
  have HC2 := hide hc2
  clear hw2 hc2 c7 cs r1 n0
  have n0 : w2.cell? ⟨w.heap.size, 0, none⟩ = some (.int .i64 ti) := by unfold World.cell?; rw [HBN.out w2 HC2.out]; rfl
  have n1 : w2.cell? ⟨w.heap.size, 1, none⟩ = some (.int .i64 ref) := by unfold World.cell?; rw [HBN.out w2 HC2.out]; rfl
  refine (within_any _ _ _ _).mono ?_
  rintro e w3 ⟨rfl, hw⟩
  subst w3
  cases hR1 : inB ref 1 1073741824
  · have E1 := hide (show submitE m ti ref j = 5 by
      have := inB_false hR1
      have hR : refB m ti ref = true := by simp [refB]; omega
      simp [submitE, HT.out, HS.out, hR])
    clear hR1
    go_wp2
    go_ret
    exact ⟨ret_int E1.out.symm, HBAD.out _ (HW.out _ HC2.out) (by rw [E1.out]; decide)⟩
  have hrr := inB_true hR1
  go_wp2_with fail
  refine (indexOf_any V m ti ref _ (H1.out w2 HC2.out) HOK.out.bl).mono ?_
  rintro e w3 ⟨rfl, hq3⟩
  have HC3 := hide (HC2.out.trans hq3 (fun _ _ h => h))
  clear hq3 n0 n1
  have hfl := findZ_lt m.bids ti ref
  by_cases hfz : 0 ≤ findZ m.bids ti ref
  · have E1 := hide (show submitE m ti ref j = 5 by
      have hR : refB m ti ref = true := by simp [refB, hfz]
      simp [submitE, HT.out, HS.out, hR])
    have d3 : decide (0 ≤ findZ m.bids ti ref) = true := by simpa using hfz
    clear hfl
    generalize findZ m.bids ti ref = fz at *
    go_wp2
    go_ret
    exact ⟨ret_int E1.out.symm, HBAD.out _ (HW.out _ HC3.out) (by rw [E1.out]; decide)⟩
  have HR := hide (show refB m ti ref = false by simp [refB]; omega)
  have j0 : w3.cell? ⟨w.heap.size + 1, 0, none⟩ = some (.int .i64 j.arr) := by unfold World.cell?; rw [HBJ.out w3 HC3.out]; rfl
  have j1 : w3.cell? ⟨w.heap.size + 1, 1, none⟩ = some (.int .i64 j.dl) := by unfold World.cell?; rw [HBJ.out w3 HC3.out]; rfl
  have j2 : w3.cell? ⟨w.heap.size + 1, 2, none⟩ = some (.int .i64 j.len) := by unfold World.cell?; rw [HBJ.out w3 HC3.out]; rfl
  have j3 : w3.cell? ⟨w.heap.size + 1, 3, none⟩ = some (.int .i64 j.units) := by unfold World.cell?; rw [HBJ.out w3 HC3.out]; rfl
  have j4 : w3.cell? ⟨w.heap.size + 1, 4, none⟩ = some (.int .i64 j.val) := by unfold World.cell?; rw [HBJ.out w3 HC3.out]; rfl
  have d3 : decide (0 ≤ findZ m.bids ti ref) = false := by simp; omega
  clear hfl hR1
  generalize findZ m.bids ti ref = fz at *
  go_wp2_with fail
  refine (canRun_any V m j _ (H1.out w3 HC3.out) HOK.out.ck HOK.out.t0 HOK.out.t1).mono ?_
  rintro e w4 ⟨rfl, hq4⟩
  have HC4 := hide (HC3.out.trans hq4 (fun _ _ h => h))
  clear hq4 j0 j1 j2 j3 j4 d3
  cases hJ : m.jobB j
  · have E1 := hide (show submitE m ti ref j = 6 by simp [submitE, HT.out, HS.out, HR.out, hJ])
    clear hJ
    go_wp2
    go_ret
    exact ⟨ret_int E1.out.symm, HBAD.out _ (HW.out _ HC4.out) (by rw [E1.out]; decide)⟩
  have HJ := hide hJ
  clear hJ
  have c4 : w4.cell? ⟨V.q, 4, none⟩ = some (.int .i64 m.c.quo) := (H1.out w4 HC4.out).cell 4
  have n0 : w4.cell? ⟨w.heap.size, 0, none⟩ = some (.int .i64 ti) := by unfold World.cell?; rw [HBN.out w4 HC4.out]; rfl
  have HCP := hide (fun k => countPending_any V m ti (w4.drewN k) (H1.out _ (HC4.out.drewN _)) HOK.out.bl)
  by_cases hP : m.c.quo ≤ pendL m.bids ti
  · have E1 := hide (show submitE m ti ref j = 7 by simp [submitE, HT.out, HS.out, HR.out, HJ.out, hP])
    generalize pendL m.bids ti = pz at *
    generalize m.c.quo = qz at *
    go_wp2
    go_quiet (first | (go_at_call 105; refine Calls.quiet_of_same (HCP.out _)))
    go_wp2
    go_ret
    exact ⟨ret_int E1.out.symm, HBAD.out _ (HW.out _ (HC4.out.drewN _)) (by rw [E1.out]; decide)⟩
  have E1 := hide (show submitE m ti ref j = 0 by simp [submitE, HT.out, HS.out, HR.out, HJ.out, hP])
  have E2 := hide (show submitM m ti ref j = ({ m with bids := m.bids ++ [newBid m ti ref j] } : MkG).logs (callSubmit ti ref j) by
    simp [submitM, E1.out, MkG.logs])
  have hPd : decide (m.c.quo ≤ pendL m.bids ti) = false := by simp; omega
  generalize pendL m.bids ti = pz at *
  generalize m.c.quo = qz at *
  go_wp2
  go_quiet (first | (go_at_call 105; refine Calls.quiet_of_same (HCP.out _)))
  go_wp2
  obtain ⟨w5, hw5⟩ : ∃ w5, w5 = w4.drewN nq := ⟨_, rfl⟩
  rw [← hw5]
  have HC5 : Hid (Chg (fun _ => False) w1 w5) := by rw [hw5]; exact HC4.out.drewN _
  clear hw5 c4 n0 HCP
  have n0 : w5.cell? ⟨w.heap.size, 0, none⟩ = some (.int .i64 ti) := by unfold World.cell?; rw [HBN.out w5 HC5.out]; rfl
  have n1 : w5.cell? ⟨w.heap.size, 1, none⟩ = some (.int .i64 ref) := by unfold World.cell?; rw [HBN.out w5 HC5.out]; rfl
  have j0 : w5.cell? ⟨w.heap.size + 1, 0, none⟩ = some (.int .i64 j.arr) := by unfold World.cell?; rw [HBJ.out w5 HC5.out]; rfl
  have j1 : w5.cell? ⟨w.heap.size + 1, 1, none⟩ = some (.int .i64 j.dl) := by unfold World.cell?; rw [HBJ.out w5 HC5.out]; rfl
  have j2 : w5.cell? ⟨w.heap.size + 1, 2, none⟩ = some (.int .i64 j.len) := by unfold World.cell?; rw [HBJ.out w5 HC5.out]; rfl
  have j3 : w5.cell? ⟨w.heap.size + 1, 3, none⟩ = some (.int .i64 j.units) := by unfold World.cell?; rw [HBJ.out w5 HC5.out]; rfl
  have j4 : w5.cell? ⟨w.heap.size + 1, 4, none⟩ = some (.int .i64 j.val) := by unfold World.cell?; rw [HBJ.out w5 HC5.out]; rfl
  have H5 := hide (H1.out w5 HC5.out)
  have hp5 : V.q < w5.heap.size := H5.out.lt
  have hs5 := HC5.out.size
  have hq5 : w.heap.size + 1 < w5.heap.size := by have := HSZ.out; omega
  have hq5' : w.heap.size < w5.heap.size := by omega
  obtain ⟨ba, bc, hbv, _⟩ := H5.out.bid_form
  obtain ⟨n, hn⟩ : ∃ n, n = m.bids.length := ⟨_, rfl⟩
  have HBV : Hid (V.bv = .slice ba m.bids.length bc) := hbv
  have c6 : w5.cell? ⟨V.q, 6, none⟩ = some (.slice ba n bc) := by rw [hn, ← HBV.out]; exact H5.out.cell 6
  have c6' : ∀ o, (w5.alloc o).cell? ⟨V.q, 6, none⟩ = some (.slice ba n bc) := fun o => by rw [World.cell?_alloc_lt _ _ _ (by exact hp5)]; exact c6
  have HOB : Hid (w5.ownsRow 0 158 9 (.slice ba n bc) n (m.bids.flatMap ybidCells)) := by rw [hn, ← HBV.out]; exact H5.out.bids
  have HN := hide hn
  have hnb := HOK.out.bl
  rw [← hn] at hnb
  obtain ⟨i0', hi, hz0, hz1, hz2⟩ := info_parts infoYBid
  clear hbv hn hs5
  go_region_law (refine step_append_lies _ rfl (.tmp 48) (.tmp 53) 100 rfl 0 158 i0' (.agg #[.int .i64 0, .int .i64 0, .int .i64 0, .int .i64 0, .int .i64 0, .int .i64 0, .int .i64 0, .int .i64 0, .int .i64 0]) 9 72 Try.underlying100 hi hz0 hz1 hz2 rfl (by decide) (.slice ba n bc) n (m.bids.flatMap ybidCells) (by simp [Act.eval]) (by exact HOB.out.alloc _) ⟨w5.heap.size, 0, none⟩ 1 1 (ybidCells (newBid m ti ref j)) (by simp [Act.eval]) rfl (by exact World.news_of_block (heap_alloc_new w5 _)) (by simp [ybidCells, newBid, Value.oneCell']) (by decide) (by unfold maxLen; omega) (by omega) (Nat.zero_le _) _ rfl ?_; intro g cap' w6 hown hgrow hat2 hlt; obtain ⟨s1, s2, s3⟩ := ybids_arm H5.out HBV.out HN.out rfl (by first | exact ((Chg.refl _ _).alloc _).drew | exact (Chg.refl _ _).alloc _) hown hgrow hat2 (by simp); clear hown hgrow hat2 hlt)
  all_goals
    go_wp2
    go_ret
    refine ⟨ret_int E1.out.symm, ?_⟩
    rw [E2.out]
    exact (YmTo.start (HW.out _ HC5.out) s3.out).logs _
end Go.Proofs.Ytccfademkgjeiaa

namespace Go.Proofs.Ytccfademkgjeiaa
open Go.RowKit

set_option maxRecDepth 100000 in
set_option maxHeartbeats 4000000 in
theorem ylook_any (V : YV) (m : MkG) (ten ref : Int) (w : World) (hm : YmAt w V m) (hok : MkOk m) :
    Calls Try.prog 78 #[.pointer (some ⟨V.q, 0, none⟩), .agg #[.int .i64 ten, .int .i64 ref]] w fun e w' => e = .returned (.tuple #[.agg #[.int .i64 (lookS m ten ref), .int .i64 (lookT m ten ref)], .int .i64 (lookE m ten ref)]) ∧ Chg (fun _ => False) w w' := by
  have HM := hide hm
  have HOK := hide hok
  clear hm hok
  go_enter Try.func78, Try.ntmps78
  go_wp2_with fail
  obtain ⟨w1, hw1⟩ : ∃ w1, w1 = (w.alloc (.cells #[.int .i64 ten, .int .i64 ref] 123)).alloc (.cells #[.int .i64 0, .int .i64 0] 114) := ⟨_, rfl⟩
  rw [← hw1]
  have hbk : w1.heap[w.heap.size + 1]? = some (.cells #[.int .i64 0, .int .i64 0] 114 (0, 0)) := by
    rw [hw1]
    have := heap_alloc_new (w.alloc (.cells #[.int .i64 ten, .int .i64 ref] 123)) (.cells #[.int .i64 0, .int .i64 0] 114)
    simpa using this
  have hc1 : Chg (fun _ => False) w w1 := by rw [hw1]; exact ((Chg.refl _ _).alloc _).alloc _
  have hs1 : w1.heap.size = w.heap.size + 1 + 1 := by rw [hw1]; simp
  clear hw1
  refine (yfind_any V m ten ref _ (HM.out.chg0 hc1) HOK.out).mono ?_
  rintro e w2 ⟨rfl, hq⟩
  have hbk2 : w2.heap[w.heap.size + 1]? = some (.cells #[.int .i64 0, .int .i64 0] 114 (0, 0)) := (hq.block _ (by omega) (fun h => h)).trans hbk
  have z0 : w2.cell? ⟨w.heap.size + 1, 0, none⟩ = some (.int .i64 0) := by unfold World.cell?; rw [hbk2]; rfl
  have z1 : w2.cell? ⟨w.heap.size + 1, 1, none⟩ = some (.int .i64 0) := by unfold World.cell?; rw [hbk2]; rfl
  have zf : ∀ r, w2.frozen? ⟨w.heap.size + 1, r, none⟩ = false := fun r => by unfold World.frozen?; rw [hbk2]; simp
  have HC2 := hide (hc1.trans hq (fun _ _ h => h))
  have HBK := hide hbk2
  have H2 := hide (HM.out.chg0 HC2.out)
  clear hc1 hs1 hbk hq hbk2
  rcases lookE_cases m ten ref with ⟨h1, hT⟩ | ⟨h1, hT, hf⟩ | ⟨h1, hT, hf⟩
  · have E1 := hide h1
    rw [h1]
    clear h1 hT
    generalize yfindI m ten ref = z at *
    go_wp2
    obtain ⟨r0, r1⟩ := two_set (a := .int .i64 0) (b := .int .i64 0) HBK.out
    refine bodyPost_ret (v := .tuple #[.agg #[.int .i64 0, .int .i64 0], .int .i64 3]) (by simp [results, Try.results78, go_sem, r0, r1]) rfl ⟨?_, ?_⟩
    · rw [lookS, lookT, E1.out]; rfl
    · exact (HC2.out.setCell (.inr (Nat.le_succ _)) _).setCell (.inr (Nat.le_succ _)) _
  · have E1 := hide h1
    rw [h1]
    clear h1 hT hf
    generalize yfindI m ten ref = z at *
    go_wp2
    obtain ⟨r0, r1⟩ := two_set (a := .int .i64 0) (b := .int .i64 0) HBK.out
    refine bodyPost_ret (v := .tuple #[.agg #[.int .i64 0, .int .i64 0], .int .i64 5]) (by simp [results, Try.results78, go_sem, r0, r1]) rfl ⟨?_, ?_⟩
    · rw [lookS, lookT, E1.out]; rfl
    · exact (HC2.out.setCell (.inr (Nat.le_succ _)) _).setCell (.inr (Nat.le_succ _)) _
  · have E2 : yfindI m ten ref = findZ m.bids ten ref := by rw [yfindI, h1]; rfl
    rw [h1, E2]
    have hfl := findZ_lt m.bids ten ref
    have hbl := HOK.out.bl
    obtain ⟨i, hi⟩ := Int.eq_ofNat_of_zero_le (show 0 ≤ findZ m.bids ten ref by omega)
    obtain ⟨b, hb⟩ : ∃ b, m.bids[i]? = some b := ⟨_, List.getElem?_eq_getElem (by omega)⟩
    obtain ⟨ao, cap, hv, hel⟩ := H2.out.bid_form
    obtain ⟨g, hao, hown, hcl, hfr⟩ := hel i b hb
    subst hao
    have hil : (i : Int) < (m.bids.length : Int) := by omega
    have c6 : w2.cell? ⟨V.q, 6, none⟩ = some (.slice (some ⟨g, 0, none⟩) m.bids.length cap) := by rw [← hv]; exact H2.out.cell 6
    have c7 : w2.cell? ⟨g, i * 9 + 7, none⟩ = some (.int .i64 b.state) := hcl 7 _ rfl
    have c8 : w2.cell? ⟨g, i * 9 + 8, none⟩ = some (.int .i64 b.start) := hcl 8 _ rfl
    have E1 := hide h1
    have E3 := hide (show lookS m ten ref = b.state ∧ lookT m ten ref = b.start by
      rw [lookS, lookT, h1, hi]
      simp [stateAt, startAt, hb])
    rw [hi]
    clear hcl hfr hel hv hb hown hfl hf hi hT h1 E2
    generalize m.bids.length = n at *
    go_wp2
    obtain ⟨r0, r1⟩ := two_set (a := .int .i64 b.state) (b := .int .i64 b.start) HBK.out
    refine bodyPost_ret (v := .tuple #[.agg #[.int .i64 b.state, .int .i64 b.start], .int .i64 0]) (by simp [results, Try.results78, go_sem, r0, r1]) rfl ⟨?_, ?_⟩
    · rw [E3.out.1, E3.out.2, E1.out]
    · exact (HC2.out.setCell (.inr (Nat.le_succ _)) _).setCell (.inr (Nat.le_succ _)) _
end Go.Proofs.Ytccfademkgjeiaa

namespace Go.Proofs.Ytccfademkgjeiaa
open Go.RowKit

theorem ownsRow_set {w : World} {e : TypeId} {v : Value} {n i g : Nat} {xs : List Value} (h : w.ownsRow 0 e 1 v n xs) (hi : i < n) (hg : v.ownBlock = some g) (u : Value) : (w.setCell ⟨g, i, none⟩ u).ownsRow 0 e 1 v n (xs.set i u) := by
  rcases h.2 with ⟨hv, h0⟩ | ⟨g', cap, cur, hv, hb0, hh, hc, hmx, hsz, htake⟩
  · omega
  · have hgg : g' = g := by rw [hv] at hg; simpa [Value.ownBlock] using hg
    subst hgg
    refine ⟨by simp [h.1], .inr ⟨g', cap, cur.setIfInBounds i u, hv, hb0, box_set hh _, hc, hmx, by simpa using hsz, ?_⟩⟩
    rw [Array.toList_setIfInBounds, List.take_set, htake]

def fillL (n k : Nat) (cap : Int) : List Value := (List.range n).map fun j => .int .i64 (if j < k then cap else 0)
theorem fillL_start (n : Nat) (cap : Int) : fillL n 0 cap = List.replicate n (.int .i64 0) := by
  apply List.ext_getElem?
  intro i
  by_cases hi : i < n
  · simp [fillL, hi]
  · simp [fillL, hi]
theorem fillL_step (n k : Nat) (cap : Int) (hk : k < n) : (fillL n k cap).set k (.int .i64 cap) = fillL n (k + 1) cap := by
  apply List.ext_getElem?
  intro i
  rw [List.getElem?_set]
  by_cases hi : i < n
  · by_cases e : k = i
    · subst e
      simp [fillL, hi]
    · simp only [if_neg e, fillL, List.getElem?_map, List.getElem?_range hi, Option.map_some]
      simp [show (i < k ↔ i < k + 1) by omega]
  · by_cases e : k = i
    · omega
    · simp [fillL, hi, e]
theorem fillL_end (n : Nat) (cap : Int) : fillL n n cap = (List.replicate n cap).map (Value.int .i64) := by
  apply List.ext_getElem?
  intro i
  by_cases hi : i < n
  · simp [fillL, hi]
  · simp [fillL, hi]

/-- the parts of a fresh market, as they lie -/
theorem ymOpen {W : World} {nk nt q r g U S : Nat} {cap res quo : Int} (h8 : nt ≤ 8) (_ : 1 ≤ nk) (hU : U ≠ g) (hbox : W.heap[q]? = some (.cells #[.int .i64 (nk : Int), .int .i64 cap, .int .i64 res, .int .i64 (nt : Int), .int .i64 quo, .int .i64 0, .slice none 0 0, .slice (some ⟨S, 0, none⟩) nt nt, .slice (some ⟨U, 0, none⟩) nk nk, .pointer (some ⟨r, 0, none⟩)] 102 (0, 0)))
    (hu : W.ownsRow 0 3 1 (.slice (some ⟨U, 0, none⟩) nk nk) nk (fillL nk nk cap)) (hs : W.heap[S]? = some (.cells (madeCells #[.bool false] nt) 4 (0, 0))) (hc : RowAt 89 W r g nk nk (fun _ => cap)) :
    YmAt W ⟨q, r, g, nk, .slice (some ⟨U, 0, none⟩) nk nk, .slice none 0 0, .slice (some ⟨S, 0, none⟩) nt nt⟩ (openM ⟨nk, cap, res, nt, quo⟩) := by
  refine ⟨hbox, World.ownsRow_nil _ _ _ _, ?_, ?_, ?_, ?_⟩
  · show W.ownsRow 0 _ 1 _ (List.replicate (Int.toNat (nt : Int)) false).length ((List.replicate (Int.toNat (nt : Int)) false).map Value.bool)
    rw [Int.toNat_natCast, List.length_replicate, List.map_replicate]
    exact ⟨by simp, .inr ⟨S, nt, _, rfl, Nat.zero_le _, hs, Nat.le_refl _, by unfold maxLen; omega, by rw [size_madeCells]; omega, by rw [made_list]; simp⟩⟩
  · show W.ownsRow 0 _ 1 _ (List.replicate (Int.toNat (nk : Int)) cap).length ((List.replicate (Int.toNat (nk : Int)) cap).map (Value.int .i64))
    rw [Int.toNat_natCast, List.length_replicate, ← fillL_end]
    exact hu
  · show RowAt _ W r g (List.replicate (Int.toNat (nk : Int)) cap).length nk _
    rw [Int.toNat_natCast, List.length_replicate]
    refine hc.congr (fun j hj => ?_)
    simp [freeZ, openM, usedL, List.getD, hj]
  · simp [Value.ownBlock, hU]

set_option maxRecDepth 100000 in
set_option maxHeartbeats 4000000 in
theorem newMarket_any (c : CfgG) (w : World) (hc : cfgOk c = true) :
    Calls Try.prog 71 #[.agg #[.int .i64 c.ticks, .int .i64 c.cap, .int .i64 c.res, .int .i64 c.ten, .int .i64 c.quo]] w fun e w' => ∃ V, e = .returned (.pointer (some ⟨V.q, 0, none⟩)) ∧ YmAt w' V (openM c) ∧ Chg (fun _ => False) w w' ∧ ∀ k, V.foot k → w.heap.size ≤ k := by
  obtain ⟨⟨a1, a2⟩, ⟨a3, a4⟩, ⟨a5, a6⟩, ⟨a7, a8⟩, a9, a10⟩ := cfgOk_true hc
  obtain ⟨tk, cap, res, ten, quo⟩ := c
  simp only at *
  obtain ⟨nt, rfl⟩ := Int.eq_ofNat_of_zero_le (show 0 ≤ ten by omega)
  obtain ⟨nk, rfl⟩ := Int.eq_ofNat_of_zero_le (show 0 ≤ tk by omega)
  have hmk1 := run_make_row' (P := Try.prog) 96 4 (.bool false) 1 Try.underlying96 infoBool rfl .i64 .i64 nt (by omega) (by omega)
  have hmk2 := run_make_row' (P := Try.prog) 25 3 (.int .i64 0) 8 Try.underlying25 infoInt' rfl .i64 .i64 nk (by omega) (by omega)
  have HST := hide (show standB cap = true by simp [standB, inB]; omega)
  clear hc
  go_enter Try.func71, Try.ntmps71
  go_wp2_with fail
  obtain ⟨w1, hw1⟩ : ∃ w1, w1 = w.alloc (.cells #[.int .i64 (nk : Int), .int .i64 cap, .int .i64 res, .int .i64 (nt : Int), .int .i64 quo] 42) := ⟨_, rfl⟩
  rw [← hw1]
  have hb1 : w1.heap[w.heap.size]? = some (.cells #[.int .i64 (nk : Int), .int .i64 cap, .int .i64 res, .int .i64 (nt : Int), .int .i64 quo] 42 (0, 0)) := by rw [hw1]; exact heap_alloc_new w _
  have hc1 : Chg (fun _ => False) w w1 := by rw [hw1]; exact (Chg.refl _ _).alloc _
  have hs1 : w1.heap.size = w.heap.size + 1 := by rw [hw1]; simp
  clear hw1
  refine (calNew_ok nk cap _ (by omega) (by omega) HST.out).mono ?_
  rintro e w2 ⟨r, rfl, hr, hrow, hq⟩
  have hb2 : w2.heap[w.heap.size]? = some (.cells #[.int .i64 (nk : Int), .int .i64 cap, .int .i64 res, .int .i64 (nt : Int), .int .i64 quo] 42 (0, 0)) := (hq.block _ (by omega) (fun h => h)).trans hb1
  have hs2 := hq.size
  have hl2 := hrow.ltp
  have hg2 := hrow.ltg
  have HC2 := hide (hc1.trans hq (fun _ _ h => h))
  have HROW := hide hrow
  have HB2 := hide hb2
  have q0 : w2.cell? ⟨w.heap.size, 0, none⟩ = some (.int .i64 (nk : Int)) := by unfold World.cell?; rw [hb2]; rfl
  clear hb1 hc1 hq hrow hb2
  go_wp2_with fail
  clear hmk2
  go_loopw [21] (fun i wr => ∃ k : Nat, k ≤ nk ∧ i = .int .i64 k ∧ wr.ownsRow 0 3 1 (.slice (some ⟨w2.heap.size, 0, none⟩) nk nk) nk (fillL nk k cap) ∧ Chg (fun _ => False) w2 wr) (fun i _ => nk - (intOf i).toNat)
  case atStart =>
    refine ⟨0, by omega, rfl, ?_, (Chg.refl _ _).alloc _⟩
    rw [fillL_start]
    exact ⟨by simp, .inr ⟨w2.heap.size, nk, _, rfl, Nat.zero_le _, heap_alloc_new w2 _, Nat.le_refl _, by unfold maxLen; omega, by rw [size_madeCells]; omega, by rw [made_list]; simp⟩⟩
  case round =>
    obtain ⟨k, hk, rfl, hown, hchg⟩ := hrel
    have HOWN := hide hown
    have HCH := hide hchg
    have hbr : wr.heap[w.heap.size]? = some (.cells #[.int .i64 (nk : Int), .int .i64 cap, .int .i64 res, .int .i64 (nt : Int), .int .i64 quo] 42 (0, 0)) := (hchg.block _ (by omega) (fun h => h)).trans HB2.out
    have q1 : wr.cell? ⟨w.heap.size, 1, none⟩ = some (.int .i64 cap) := by unfold World.cell?; rw [hbr]; rfl
    have q0 : wr.cell? ⟨w.heap.size, 0, none⟩ = some (.int .i64 (nk : Int)) := by unfold World.cell?; rw [hbr]; rfl
    have q2 : wr.cell? ⟨w.heap.size, 2, none⟩ = some (.int .i64 res) := by unfold World.cell?; rw [hbr]; rfl
    have q3 : wr.cell? ⟨w.heap.size, 3, none⟩ = some (.int .i64 (nt : Int)) := by unfold World.cell?; rw [hbr]; rfl
    have q4 : wr.cell? ⟨w.heap.size, 4, none⟩ = some (.int .i64 quo) := by unfold World.cell?; rw [hbr]; rfl
    have hsr := hchg.size
    have hlr : w2.heap.size < wr.heap.size := (hown.lt w2.heap.size rfl).2
    by_cases hlt : k < nk
    · obtain ⟨cu, hcu⟩ := ownsRow_block hown (k := w2.heap.size) rfl
      have fz : wr.frozen? ⟨w2.heap.size, k, none⟩ = false := by unfold World.frozen?; rw [hcu]; simp
      have hcell := hown.cells (g := w2.heap.size) rfl k (.int .i64 0) (by simp [fillL, hlt])
      rw [Addr.add_lit, Nat.zero_add] at hcell
      clear hown hchg hbr hcu
      go_wp2
      go_roundw
      case rel => exact ⟨k + 1, by omega, by go_num, by rw [← fillL_step nk k cap hlt]; exact ownsRow_set HOWN.out hlt rfl _, HCH.out.setCell (.inr (Nat.le_refl _)) _⟩
      case measure => simp [intOf]; omega
    · have q0' : ∀ o, (wr.alloc o).cell? ⟨w.heap.size, 0, none⟩ = some (.int .i64 (nk : Int)) := fun o => by rw [World.cell?_alloc_lt _ _ _ (by show w.heap.size < wr.heap.size; omega)]; exact q0
      have q1' : ∀ o, (wr.alloc o).cell? ⟨w.heap.size, 1, none⟩ = some (.int .i64 cap) := fun o => by rw [World.cell?_alloc_lt _ _ _ (by show w.heap.size < wr.heap.size; omega)]; exact q1
      have q2' : ∀ o, (wr.alloc o).cell? ⟨w.heap.size, 2, none⟩ = some (.int .i64 res) := fun o => by rw [World.cell?_alloc_lt _ _ _ (by show w.heap.size < wr.heap.size; omega)]; exact q2
      have q3' : ∀ o, (wr.alloc o).cell? ⟨w.heap.size, 3, none⟩ = some (.int .i64 (nt : Int)) := fun o => by rw [World.cell?_alloc_lt _ _ _ (by show w.heap.size < wr.heap.size; omega)]; exact q3
      have q4' : ∀ o, (wr.alloc o).cell? ⟨w.heap.size, 4, none⟩ = some (.int .i64 quo) := fun o => by rw [World.cell?_alloc_lt _ _ _ (by show w.heap.size < wr.heap.size; omega)]; exact q4
      have hkn : k = nk := by omega
      have HK := hide hkn
      clear hown hchg hbr hkn
      go_wp2
      go_ret
      refine ⟨⟨wr.heap.size + 1, r, w1.heap.size, nk, .slice (some ⟨w2.heap.size, 0, none⟩) nk nk, .slice none 0 0, .slice (some ⟨wr.heap.size, 0, none⟩) nt nt⟩, rfl, ?_, ?_, ?_⟩
      · refine ymOpen (by omega) (by omega) (by omega) (heap_at_new (by simp)) ?_ ?_ ?_
        · have := HOWN.out
          rw [HK.out] at this
          exact (this.alloc _).alloc _
        · rw [Below.heap_alloc _ _ _ (by simp)]; exact heap_alloc_new wr _
        · exact HROW.out.frame (by rw [Below.heap_alloc _ _ _ (by simp; omega), Below.heap_alloc _ _ _ (by omega)]; exact HCH.out.block _ hl2 (fun h => h)) (by rw [Below.heap_alloc _ _ _ (by simp; omega), Below.heap_alloc _ _ _ (by omega)]; exact HCH.out.block _ hg2 (fun h => h))
      · exact ((HC2.out.trans HCH.out (fun _ _ h => h)).alloc _).alloc _
      · intro x hx
        rcases hx with h | h | h | h | h | h
        · simp only at h; omega
        · simp only at h; omega
        · simp only at h; omega
        · simp [Value.ownBlock] at h; omega
        · simp [Value.ownBlock] at h
        · simp [Value.ownBlock] at h; omega
end Go.Proofs.Ytccfademkgjeiaa
