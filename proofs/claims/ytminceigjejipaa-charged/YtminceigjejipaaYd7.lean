import Derived.Test.YtminceigjejipaaYd2
import Derived.Test.YtminceigjejipaaYd3
import Derived.Deep.RegionLaw
namespace Go.Proofs.Ytminceigjejipaa
open Go.RowKit

theorem infoYBid : (Try.prog.info? 125).map (fun i => (i.zero, i.size, i.bytes)) = some (some (.agg #[.int .i64 0, .int .i64 0, .int .i64 0, .int .i64 0, .int .i64 0, .int .i64 0, .int .i64 0, .int .i64 0, .int .i64 0]), 9, 72) := by kernel_rfl

set_option maxRecDepth 100000 in
set_option maxHeartbeats 8000000 in
theorem ysubmit_any (V : YV) (m : MkG) (ten ref : Int) (j : JobG) (w : World) (hm : YmAt w V m) (hok : MkOk m) :
    Calls Try.prog 82 #[.pointer (some ⟨V.q, 0, none⟩), .agg #[.int .i64 ten, .int .i64 ref], .agg #[.int .i64 j.arr, .int .i64 j.dl, .int .i64 j.len, .int .i64 j.units, .int .i64 j.val]] w fun e w' => e = .returned (.int .i64 (submitE m ten ref j)) ∧ YmTo w V (submitM m ten ref j) w' := by
  have HM := hide hm
  have HOK := hide hok
  clear hm hok
  have HBAD := hide (fun (w' : World) (hc : Chg (fun _ => False) w w') (h : submitE m ten ref j ≠ 0) => show YmTo w V (submitM m ten ref j) w' from by
    rw [show submitM m ten ref j = m.logs (callSubmit ten ref j) by simp [submitM, h]]
    exact (YmTo.same HM.out hc).logs _)
  go_enter Try.func82, Try.ntmps82
  go_wp2_with fail
  obtain ⟨w1, hw1⟩ : ∃ w1, w1 = (w.alloc (.cells #[.int .i64 ten, .int .i64 ref] 90)).alloc (.cells #[.int .i64 j.arr, .int .i64 j.dl, .int .i64 j.len, .int .i64 j.units, .int .i64 j.val] 54) := ⟨_, rfl⟩
  rw [← hw1]
  have hc1 : Chg (fun _ => False) w w1 := by rw [hw1]; exact ((Chg.refl _ _).alloc _).alloc _
  have hbn : w1.heap[w.heap.size]? = some (.cells #[.int .i64 ten, .int .i64 ref] 90 (0, 0)) := by rw [hw1, Below.heap_alloc _ _ _ (by simp)]; exact heap_alloc_new w _
  have hbj : w1.heap[w.heap.size + 1]? = some (.cells #[.int .i64 j.arr, .int .i64 j.dl, .int .i64 j.len, .int .i64 j.units, .int .i64 j.val] 54 (0, 0)) := by
    rw [hw1]
    have := heap_alloc_new (w.alloc (.cells #[.int .i64 ten, .int .i64 ref] 90)) (.cells #[.int .i64 j.arr, .int .i64 j.dl, .int .i64 j.len, .int .i64 j.units, .int .i64 j.val] 54)
    simpa using this
  have HSZ := hide (show w1.heap.size = w.heap.size + 1 + 1 by rw [hw1]; simp)
  have HC1 := hide hc1
  -- what lies in the two boxes, in every world from here on
  have HBN := hide (fun (w' : World) (hc : Chg (fun _ => False) w1 w') => show w'.heap[w.heap.size]? = some (.cells #[.int .i64 ten, .int .i64 ref] 90 (0, 0)) from (hc.block _ (by rw [HSZ.out]; omega) (fun h => h)).trans hbn)
  have HBJ := hide (fun (w' : World) (hc : Chg (fun _ => False) w1 w') => show w'.heap[w.heap.size + 1]? = some (.cells #[.int .i64 j.arr, .int .i64 j.dl, .int .i64 j.len, .int .i64 j.units, .int .i64 j.val] 54 (0, 0)) from (hc.block _ (by rw [HSZ.out]; omega) (fun h => h)).trans hbj)
  have H1 := hide (fun (w' : World) (hc : Chg (fun _ => False) w1 w') => (HM.out.chg0 hc1).chg0 hc)
  have HW := hide (fun (w' : World) (hc : Chg (fun _ => False) w1 w') => hc1.trans hc (fun _ _ h => h))
  clear hw1 hc1 hbn hbj
  have n0 : w1.cell? ⟨w.heap.size, 0, none⟩ = some (.int .i64 ten) := by unfold World.cell?; rw [HBN.out w1 (Chg.refl _ _)]; rfl
  refine (hasTenant_any V m ten _ (H1.out w1 (Chg.refl _ _)) HOK.out.ck).mono ?_
  rintro e w2 ⟨rfl, hw⟩
  subst w2
  cases hT : m.tenB ten
  · have E1 := hide (show submitE m ten ref j = 3 by simp [submitE, hT])
    clear hT
    go_wp2
    go_ret
    exact ⟨ret_int E1.out.symm, HBAD.out _ HC1.out (by rw [E1.out]; decide)⟩
  obtain ⟨t0, t1⟩ := tenB_true hT
  have hns := HOK.out.ns
  have hcf := cfgOk_true HOK.out.ck
  obtain ⟨ti, hti⟩ := Int.eq_ofNat_of_zero_le t0
  obtain ⟨ao, cap, hv, hel⟩ := (H1.out w1 (Chg.refl _ _)).susp_form
  obtain ⟨gs, hao, hown, hcl, hfr⟩ := hel ti (by omega)
  subst hao
  have hil : (ti : Int) < (m.susp.length : Int) := by omega
  have hsl : m.susp.length ≤ 8 := by omega
  have c7 : w1.cell? ⟨V.q, 7, none⟩ = some (.slice (some ⟨gs, 0, none⟩) m.susp.length cap) := by rw [← hv]; exact (H1.out w1 (Chg.refl _ _)).cell 7
  have esu : suspAt m ten = m.susp.getD ti false := by rw [hti]; rfl
  have cs : w1.cell? ⟨gs, ti, none⟩ = some (.bool (suspAt m ten)) := by rw [esu]; exact hcl
  have HT := hide hT
  clear hcl hfr hel hv hown hns t0 t1 hT esu hcf
  subst hti
  have i0 : (0 : Int) ≤ (ti : Int) := by omega
  generalize m.susp.length = ns at *
  cases hS : suspAt m ti
  rotate_left
  · rw [hS] at cs
    have E1 := hide (show submitE m ti ref j = 4 by simp [submitE, HT.out, hS])
    clear hS
    go_wp2
    go_quiet (fail)
    go_wp2
    go_ret
    exact ⟨ret_int E1.out.symm, HBAD.out _ (HC1.out.drewN _) (by rw [E1.out]; decide)⟩
  rw [hS] at cs
  have HS := hide hS
  have r1 : w1.cell? ⟨w.heap.size, 1, none⟩ = some (.int .i64 ref) := by unfold World.cell?; rw [HBN.out w1 (Chg.refl _ _)]; rfl
  clear hS
  go_wp2
  go_quiet (fail)
  go_wp2_with fail
  obtain ⟨w2, hw2⟩ : ∃ w2, w2 = w1.drewN nq := ⟨_, rfl⟩
  rw [← hw2]
  have hc2 : Chg (fun _ => False) w1 w2 := by rw [hw2]; exact (Chg.refl _ _).drewN _
  have HC2 := hide hc2
  clear hw2 hc2 c7 cs r1 n0
  have n0 : w2.cell? ⟨w.heap.size, 0, none⟩ = some (.int .i64 ti) := by unfold World.cell?; rw [HBN.out w2 HC2.out]; rfl
  have n1 : w2.cell? ⟨w.heap.size, 1, none⟩ = some (.int .i64 ref) := by unfold World.cell?; rw [HBN.out w2 HC2.out]; rfl
  refine (within_any _ _ _ _).mono ?_
  rintro e w3 ⟨rfl, hw⟩
  subst w3
  cases hR1 : inB ref 1 1073741824
  · have E1 := hide (show submitE m ti ref j = 5 by
      have := inB_false hR1
      have hR : refB m ti ref = true := by simp [refB]; omega
      simp [submitE, HT.out, HS.out, hR])
    clear hR1
    go_wp2
    go_ret
    exact ⟨ret_int E1.out.symm, HBAD.out _ (HW.out _ HC2.out) (by rw [E1.out]; decide)⟩
  have hrr := inB_true hR1
  go_wp2_with fail
  refine (indexOf_any V m ti ref _ (H1.out w2 HC2.out) HOK.out.bl).mono ?_
  rintro e w3 ⟨rfl, hq3⟩
  have HC3 := hide (HC2.out.trans hq3 (fun _ _ h => h))
  clear hq3 n0 n1
  have hfl := findZ_lt m.bids ti ref
  by_cases hfz : 0 ≤ findZ m.bids ti ref
  · have E1 := hide (show submitE m ti ref j = 5 by
      have hR : refB m ti ref = true := by simp [refB, hfz]
      simp [submitE, HT.out, HS.out, hR])
    have d3 : decide (0 ≤ findZ m.bids ti ref) = true := by simpa using hfz
    clear hfl
    generalize findZ m.bids ti ref = fz at *
    go_wp2
    go_ret
    exact ⟨ret_int E1.out.symm, HBAD.out _ (HW.out _ HC3.out) (by rw [E1.out]; decide)⟩
  have HR := hide (show refB m ti ref = false by simp [refB]; omega)
  have j0 : w3.cell? ⟨w.heap.size + 1, 0, none⟩ = some (.int .i64 j.arr) := by unfold World.cell?; rw [HBJ.out w3 HC3.out]; rfl
  have j1 : w3.cell? ⟨w.heap.size + 1, 1, none⟩ = some (.int .i64 j.dl) := by unfold World.cell?; rw [HBJ.out w3 HC3.out]; rfl
  have j2 : w3.cell? ⟨w.heap.size + 1, 2, none⟩ = some (.int .i64 j.len) := by unfold World.cell?; rw [HBJ.out w3 HC3.out]; rfl
  have j3 : w3.cell? ⟨w.heap.size + 1, 3, none⟩ = some (.int .i64 j.units) := by unfold World.cell?; rw [HBJ.out w3 HC3.out]; rfl
  have j4 : w3.cell? ⟨w.heap.size + 1, 4, none⟩ = some (.int .i64 j.val) := by unfold World.cell?; rw [HBJ.out w3 HC3.out]; rfl
  have d3 : decide (0 ≤ findZ m.bids ti ref) = false := by simp; omega
  clear hfl hR1
  generalize findZ m.bids ti ref = fz at *
  go_wp2_with fail
  refine (canRun_any V m j _ (H1.out w3 HC3.out) HOK.out.ck HOK.out.t0 HOK.out.t1).mono ?_
  rintro e w4 ⟨rfl, hq4⟩
  have HC4 := hide (HC3.out.trans hq4 (fun _ _ h => h))
  clear hq4 j0 j1 j2 j3 j4 d3
  cases hJ : m.jobB j
  · have E1 := hide (show submitE m ti ref j = 6 by simp [submitE, HT.out, HS.out, HR.out, hJ])
    clear hJ
    go_wp2
    go_ret
    exact ⟨ret_int E1.out.symm, HBAD.out _ (HW.out _ HC4.out) (by rw [E1.out]; decide)⟩
  have HJ := hide hJ
  clear hJ
  have c4 : w4.cell? ⟨V.q, 4, none⟩ = some (.int .i64 m.c.quo) := (H1.out w4 HC4.out).cell 4
  have n0 : w4.cell? ⟨w.heap.size, 0, none⟩ = some (.int .i64 ti) := by unfold World.cell?; rw [HBN.out w4 HC4.out]; rfl
  have HCP := hide (fun k => countPending_any V m ti (w4.drewN k) (H1.out _ (HC4.out.drewN _)) HOK.out.bl)
  by_cases hP : m.c.quo ≤ pendL m.bids ti
  · have E1 := hide (show submitE m ti ref j = 7 by simp [submitE, HT.out, HS.out, HR.out, HJ.out, hP])
    generalize pendL m.bids ti = pz at *
    generalize m.c.quo = qz at *
    go_wp2
    go_quiet (first | (go_at_call 90; refine Calls.quiet_of_same (HCP.out _)))
    go_wp2
    go_ret
    exact ⟨ret_int E1.out.symm, HBAD.out _ (HW.out _ (HC4.out.drewN _)) (by rw [E1.out]; decide)⟩
  have E1 := hide (show submitE m ti ref j = 0 by simp [submitE, HT.out, HS.out, HR.out, HJ.out, hP])
  have E2 := hide (show submitM m ti ref j = ({ m with bids := m.bids ++ [newBid m ti ref j] } : MkG).logs (callSubmit ti ref j) by
    simp [submitM, E1.out, MkG.logs])
  have hPd : decide (m.c.quo ≤ pendL m.bids ti) = false := by simp; omega
  generalize pendL m.bids ti = pz at *
  generalize m.c.quo = qz at *
  go_wp2
  go_quiet (first | (go_at_call 90; refine Calls.quiet_of_same (HCP.out _)))
  go_wp2
  obtain ⟨w5, hw5⟩ : ∃ w5, w5 = w4.drewN nq := ⟨_, rfl⟩
  rw [← hw5]
  have HC5 : Hid (Chg (fun _ => False) w1 w5) := by rw [hw5]; exact HC4.out.drewN _
  clear hw5 c4 n0 HCP
  have n0 : w5.cell? ⟨w.heap.size, 0, none⟩ = some (.int .i64 ti) := by unfold World.cell?; rw [HBN.out w5 HC5.out]; rfl
  have n1 : w5.cell? ⟨w.heap.size, 1, none⟩ = some (.int .i64 ref) := by unfold World.cell?; rw [HBN.out w5 HC5.out]; rfl
  have j0 : w5.cell? ⟨w.heap.size + 1, 0, none⟩ = some (.int .i64 j.arr) := by unfold World.cell?; rw [HBJ.out w5 HC5.out]; rfl
  have j1 : w5.cell? ⟨w.heap.size + 1, 1, none⟩ = some (.int .i64 j.dl) := by unfold World.cell?; rw [HBJ.out w5 HC5.out]; rfl
  have j2 : w5.cell? ⟨w.heap.size + 1, 2, none⟩ = some (.int .i64 j.len) := by unfold World.cell?; rw [HBJ.out w5 HC5.out]; rfl
  have j3 : w5.cell? ⟨w.heap.size + 1, 3, none⟩ = some (.int .i64 j.units) := by unfold World.cell?; rw [HBJ.out w5 HC5.out]; rfl
  have j4 : w5.cell? ⟨w.heap.size + 1, 4, none⟩ = some (.int .i64 j.val) := by unfold World.cell?; rw [HBJ.out w5 HC5.out]; rfl
  have H5 := hide (H1.out w5 HC5.out)
  have hp5 : V.q < w5.heap.size := H5.out.lt
  have hs5 := HC5.out.size
  have hq5 : w.heap.size + 1 < w5.heap.size := by have := HSZ.out; omega
  have hq5' : w.heap.size < w5.heap.size := by omega
  obtain ⟨ba, bc, hbv, _⟩ := H5.out.bid_form
  obtain ⟨n, hn⟩ : ∃ n, n = m.bids.length := ⟨_, rfl⟩
  have HBV : Hid (V.bv = .slice ba m.bids.length bc) := hbv
  have c6 : w5.cell? ⟨V.q, 6, none⟩ = some (.slice ba n bc) := by rw [hn, ← HBV.out]; exact H5.out.cell 6
  have c6' : ∀ o, (w5.alloc o).cell? ⟨V.q, 6, none⟩ = some (.slice ba n bc) := fun o => by rw [World.cell?_alloc_lt _ _ _ (by exact hp5)]; exact c6
  have HOB : Hid (w5.ownsRow 0 125 9 (.slice ba n bc) n (m.bids.flatMap ybidCells)) := by rw [hn, ← HBV.out]; exact H5.out.bids
  have HN := hide hn
  have hnb := HOK.out.bl
  rw [← hn] at hnb
  obtain ⟨i0', hi, hz0, hz1, hz2⟩ := info_parts infoYBid
  clear hbv hn hs5
  go_region_law (refine step_append_lies _ rfl (.tmp 48) (.tmp 53) 105 rfl 0 125 i0' (.agg #[.int .i64 0, .int .i64 0, .int .i64 0, .int .i64 0, .int .i64 0, .int .i64 0, .int .i64 0, .int .i64 0, .int .i64 0]) 9 72 Try.underlying105 hi hz0 hz1 hz2 rfl (by decide) (.slice ba n bc) n (m.bids.flatMap ybidCells) (by simp [Act.eval]) (by exact HOB.out.alloc _) ⟨w5.heap.size, 0, none⟩ 1 1 (ybidCells (newBid m ti ref j)) (by simp [Act.eval]) rfl (by exact World.news_of_block (heap_alloc_new w5 _)) (by simp [ybidCells, newBid, Value.oneCell']) (by decide) (by unfold maxLen; omega) (by omega) (Nat.zero_le _) _ rfl ?_; intro g cap' w6 hown hgrow hat2 hlt; obtain ⟨s1, s2, s3⟩ := ybids_arm H5.out HBV.out HN.out rfl (by first | exact ((Chg.refl _ _).alloc _).drew | exact (Chg.refl _ _).alloc _) hown hgrow hat2 (by simp); clear hown hgrow hat2 hlt)
  all_goals
    go_wp2
    go_ret
    refine ⟨ret_int E1.out.symm, ?_⟩
    rw [E2.out]
    exact (YmTo.start (HW.out _ HC5.out) s3.out).logs _
end Go.Proofs.Ytminceigjejipaa
