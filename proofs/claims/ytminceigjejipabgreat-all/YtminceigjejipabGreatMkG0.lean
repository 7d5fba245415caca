import Derived.Test.YtminceigjejipabGreatG3
namespace Go.Proofs.YtminceigjejipabGreat
open Go.RowKit

set_option maxHeartbeats 1000000 in
theorem submit_full (p : Nat) (V : MV) (m : MkG) (ten ref : Int) (j : JobG) (w : World) (hm : MktAt w p V m) (hl : m.log.length = 300) :
    Calls Tryz.prog 32 #[.pointer (some ⟨p, 0, none⟩), .int .i64 ten, .int .i64 ref, .agg #[.int .i64 j.arr, .int .i64 j.dl, .int .i64 j.len, .int .i64 j.units, .int .i64 j.val]] w fun e w' => e = .returned (.int .i64 2) ∧ MktTo w p V m w' := by
  have HM := hide hm
  have HL := hide hl
  clear hm hl
  go_enter Tryz.func32, Tryz.ntmps32
  go_wp2_with fail
  refine (logged_full p V m (callSubmit ten ref j) _ (HM.out.chg0 ((Chg.refl _ _).alloc _)) HL.out).mono ?_
  rintro e w1 ⟨rfl, h1⟩
  have H1 := hide (((Chg.refl _ _).alloc _).trans h1 (fun _ _ h => h))
  clear h1
  go_wp2
  go_ret
  exact ⟨rfl, MktTo.full HM.out H1.out⟩

set_option maxRecDepth 100000 in
set_option maxHeartbeats 8000000 in
theorem submit_ok (p : Nat) (V : MV) (m : MkG) (ten ref : Int) (j : JobG) (w : World) (hm : MktAt w p V m) (hok : MkOk m) (hl : m.log.length < 300) :
    Calls Tryz.prog 32 #[.pointer (some ⟨p, 0, none⟩), .int .i64 ten, .int .i64 ref, .agg #[.int .i64 j.arr, .int .i64 j.dl, .int .i64 j.len, .int .i64 j.units, .int .i64 j.val]] w fun e w' => e = .returned (.int .i64 (submitE m ten ref j)) ∧ MktTo w p V (submitM m ten ref j) w' := by
  have HM := hide hm
  have HL := hide hl
  have HOK := hide hok
  have hpl := hm.lt
  clear hm hl hok
  go_enter Tryz.func32, Tryz.ntmps32
  go_wp2_with fail
  obtain ⟨w0, hw0⟩ : ∃ w0, w0 = w.alloc (.cells #[.int .i64 j.arr, .int .i64 j.dl, .int .i64 j.len, .int .i64 j.units, .int .i64 j.val] 35) := ⟨_, rfl⟩
  rw [← hw0]
  have hc0 : Chg (fun _ => False) w w0 := by rw [hw0]; exact (Chg.refl _ _).alloc _
  have HBX := hide (show w0.heap[w.heap.size]? = some (.cells #[.int .i64 j.arr, .int .i64 j.dl, .int .i64 j.len, .int .i64 j.units, .int .i64 j.val] 35 (0, 0)) by rw [hw0]; exact heap_alloc_new w _)
  have HC0 := hide hc0
  clear hw0 hc0
  refine (logged_ok p V m (callSubmit ten ref j) _ (HM.out.chg0 HC0.out) HL.out).mono ?_
  rintro e w1 ⟨rfl, hto⟩
  obtain ⟨V1, hm1, hc1, hf1⟩ := hto
  have H1 := hide hm1
  have hfl : ∀ k, V.foot p k → k < w.heap.size := HM.out.foot_lt
  have hq0 : w.heap.size < w0.heap.size := (Array.getElem?_eq_some_iff.1 HBX.out).1
  have HBX1 := hide (show w1.heap[w.heap.size]? = some (.cells #[.int .i64 j.arr, .int .i64 j.dl, .int .i64 j.len, .int .i64 j.units, .int .i64 j.val] 35 (0, 0)) by
    rw [hc1.block _ hq0 (fun h => by have := hfl _ h; omega)]; exact HBX.out)
  have hc1' : Chg (V.foot p) w w1 := (HC0.out.mono (fun _ _ h => h.elim)).trans hc1 (fun _ _ h => h)
  have hf1' : ∀ k, V1.foot p k → V.foot p k ∨ w.heap.size ≤ k := fun k hk => by
    rcases hf1 k hk with h | h
    · exact .inl h
    · exact .inr (by omega)
  have HTO := hide (show MktTo w p V (m.logs (callSubmit ten ref j)) w1 from ⟨V1, hm1, hc1', hf1'⟩)
  have HAF := hide (fun m2 w2 (h : MktTo w1 p V1 m2 w2) => MktTo.after hc1' hf1' h)
  have hsz1 := hc1.size
  have HSZ := hide (show w.heap.size < w1.heap.size by omega)
  clear hm1 hc1 hf1 hc1' hf1' hfl hq0 hsz1 HBX
  go_wp2_with fail
  refine (tenant_any p V1 _ ten _ H1.out).mono ?_
  rintro e w2 ⟨rfl, hw⟩
  subst w2
  have et : (m.logs (callSubmit ten ref j)).tenB ten = m.tenB ten := rfl
  rw [et]
  clear et
  cases hT : m.tenB ten
  · have E1 := hide (show submitE m ten ref j = 3 by simp [submitE, hT])
    clear hT
    go_wp2
    go_ret
    exact ⟨ret_int E1.out.symm, by rw [show submitM m ten ref j = m.logs (callSubmit ten ref j) by simp [submitM, E1.out]]; exact HTO.out⟩
  obtain ⟨t0, t1⟩ := tenB_true hT
  have hns := HOK.out.ns
  have hcf := cfgOk_true HOK.out.ck
  obtain ⟨ti, hti⟩ := Int.eq_ofNat_of_zero_le t0
  obtain ⟨ao, cap, hv, hel⟩ := H1.out.susp_form
  obtain ⟨gs, hao, hown, hcl, hfr⟩ := hel ti (by show ti < m.susp.length; omega)
  subst hao
  have hil : (ti : Int) < (m.susp.length : Int) := by omega
  have hsl : m.susp.length ≤ 8 := by omega
  have c8 : w1.cell? ⟨p, 8, none⟩ = some (.slice (some ⟨gs, 0, none⟩) m.susp.length cap) := by rw [← show V1.sv = .slice (some ⟨gs, 0, none⟩) m.susp.length cap from hv]; exact H1.out.cell 8
  have esu : suspAt m ten = m.susp.getD ti false := by rw [hti]; rfl
  have cs : w1.cell? ⟨gs, ti, none⟩ = some (.bool (suspAt m ten)) := by rw [esu]; exact hcl
  have HT := hide hT
  have hnb := HOK.out.bl
  clear hcl hfr hel hv hown hns t0 t1 hT esu
  subst hti
  generalize m.susp.length = ns at *
  cases hS : suspAt m ti
  rotate_left
  · rw [hS] at cs
    have E1 := hide (show submitE m ti ref j = 4 by simp [submitE, HT.out, hS])
    clear hS
    go_wp2
    go_ret
    exact ⟨ret_int E1.out.symm, by rw [show submitM m ti ref j = m.logs (callSubmit ti ref j) by simp [submitM, E1.out]]; exact HTO.out⟩
  rw [hS] at cs
  have HS := hide hS
  clear hS
  go_wp2_with fail
  refine (find_any p V1 _ ti ref _ H1.out HOK.out.bl).mono ?_
  rintro e w2 ⟨rfl, hw⟩
  subst w2
  have ef : findZ (m.logs (callSubmit ti ref j)).bids ti ref = findZ m.bids ti ref := rfl
  rw [ef]
  clear ef
  have hfl := findZ_lt m.bids ti ref
  cases hR : refB m ti ref
  rotate_left
  · have E1 := hide (show submitE m ti ref j = 5 by simp [submitE, HT.out, HS.out, hR])
    have hcs : ref < 1 ∨ (1 ≤ ref ∧ 1073741824 < ref) ∨ (1 ≤ ref ∧ ref ≤ 1073741824 ∧ 0 ≤ findZ m.bids ti ref) := by
      simp [refB] at hR
      omega
    clear hR hfl
    generalize findZ m.bids ti ref = fz at *
    rcases hcs with g1 | ⟨g1, g2⟩ | ⟨g1, g2, g3⟩
    · have d1 : decide (ref < 1) = true := by simpa using g1
      go_wp2
      go_ret
      exact ⟨ret_int E1.out.symm, by rw [show submitM m ti ref j = m.logs (callSubmit ti ref j) by simp [submitM, E1.out]]; exact HTO.out⟩
    · have d1 : decide (ref < 1) = false := by simp; omega
      have d2 : decide (1073741824 < ref) = true := by simpa using g2
      go_wp2
      go_ret
      exact ⟨ret_int E1.out.symm, by rw [show submitM m ti ref j = m.logs (callSubmit ti ref j) by simp [submitM, E1.out]]; exact HTO.out⟩
    · have d1 : decide (ref < 1) = false := by simp; omega
      have d2 : decide (1073741824 < ref) = false := by simp; omega
      have d3 : decide (0 ≤ fz) = true := by simpa using g3
      go_wp2
      go_ret
      exact ⟨ret_int E1.out.symm, by rw [show submitM m ti ref j = m.logs (callSubmit ti ref j) by simp [submitM, E1.out]]; exact HTO.out⟩
  have hcs : 1 ≤ ref ∧ ref ≤ 1073741824 ∧ findZ m.bids ti ref < 0 := by
    simp [refB] at hR
    omega
  have HR := hide hR
  obtain ⟨g1, g2, g3⟩ := hcs
  have d1 : decide (ref < 1) = false := by simp; omega
  have d2 : decide (1073741824 < ref) = false := by simp; omega
  have j0 : w1.cell? ⟨w.heap.size, 0, none⟩ = some (.int .i64 j.arr) := by unfold World.cell?; rw [HBX1.out]; rfl
  have j1 : w1.cell? ⟨w.heap.size, 1, none⟩ = some (.int .i64 j.dl) := by unfold World.cell?; rw [HBX1.out]; rfl
  have j2 : w1.cell? ⟨w.heap.size, 2, none⟩ = some (.int .i64 j.len) := by unfold World.cell?; rw [HBX1.out]; rfl
  have j3 : w1.cell? ⟨w.heap.size, 3, none⟩ = some (.int .i64 j.units) := by unfold World.cell?; rw [HBX1.out]; rfl
  have j4 : w1.cell? ⟨w.heap.size, 4, none⟩ = some (.int .i64 j.val) := by unfold World.cell?; rw [HBX1.out]; rfl
  clear hR hfl c8 cs
  generalize findZ m.bids ti ref = fz at *
  have d3 : decide (0 ≤ fz) = false := by simp; omega
  go_wp2_with fail
  refine (job_any p V1 _ j _ H1.out HOK.out.ck HOK.out.t0 HOK.out.t1).mono ?_
  rintro e w2 ⟨rfl, hq2⟩
  have ej : (m.logs (callSubmit ti ref j)).jobB j = m.jobB j := rfl
  rw [ej]
  clear ej
  have HQ2 := hide hq2
  clear hq2 j0 j1 j2 j3 j4 d1 d2 d3
  cases hJ : m.jobB j
  · have E1 := hide (show submitE m ti ref j = 6 by simp [submitE, HT.out, HS.out, HR.out, hJ])
    clear hJ
    go_wp2
    go_ret
    exact ⟨ret_int E1.out.symm, by rw [show submitM m ti ref j = m.logs (callSubmit ti ref j) by simp [submitM, E1.out]]; exact HTO.out.chg0 HQ2.out⟩
  have HJ := hide hJ
  have H2 := hide (H1.out.chg0 HQ2.out)
  clear hJ
  go_wp2_with fail
  refine (pending_any p V1 _ ti _ H2.out HOK.out.bl).mono ?_
  rintro e w3 ⟨rfl, hw⟩
  subst w3
  have ep : pendL (m.logs (callSubmit ti ref j)).bids ti = pendL m.bids ti := rfl
  rw [ep]
  clear ep
  have c4 : w2.cell? ⟨p, 4, none⟩ = some (.int .i64 m.c.quo) := H2.out.cell 4
  by_cases hP : m.c.quo ≤ pendL m.bids ti
  · have E1 := hide (show submitE m ti ref j = 7 by simp [submitE, HT.out, HS.out, HR.out, HJ.out, hP])
    generalize pendL m.bids ti = pz at *
    generalize m.c.quo = qz at *
    go_wp2
    go_ret
    exact ⟨ret_int E1.out.symm, by rw [show submitM m ti ref j = m.logs (callSubmit ti ref j) by simp [submitM, E1.out]]; exact HTO.out.chg0 HQ2.out⟩
  have E1 := hide (show submitE m ti ref j = 0 by simp [submitE, HT.out, HS.out, HR.out, HJ.out, hP])
  obtain ⟨lg, hlg⟩ : ∃ lg, lg = m.log.length := ⟨_, rfl⟩
  have E2 := hide (show ∀ X, atOf m.time j = X → submitM m ti ref j = { m.logs (callSubmit ti ref j) with bids := m.bids ++ [⟨ti, ref, j, X, 1, -1, (lg : Int), false⟩] } by
    intro X hX
    simp [submitM, E1.out, MkG.logs, newBid, hX, hlg])
  generalize pendL m.bids ti = pz at *
  generalize m.c.quo = qz at *
  obtain ⟨i0, hi, hz0, hz1, hz2⟩ := info_parts infoBid
  have hqs := HSZ.out
  have hsz2 := HQ2.out.size
  have hq2 : w.heap.size < w2.heap.size := by omega
  have hp2 : p < w2.heap.size := by omega
  have hbx2 : w2.heap[w.heap.size]? = some (.cells #[.int .i64 j.arr, .int .i64 j.dl, .int .i64 j.len, .int .i64 j.units, .int .i64 j.val] 35 (0, 0)) := by rw [HQ2.out.block _ hqs (fun h => h)]; exact HBX1.out
  have j0 : w2.cell? ⟨w.heap.size, 0, none⟩ = some (.int .i64 j.arr) := by unfold World.cell?; rw [hbx2]; rfl
  have j1 : w2.cell? ⟨w.heap.size, 1, none⟩ = some (.int .i64 j.dl) := by unfold World.cell?; rw [hbx2]; rfl
  have j2 : w2.cell? ⟨w.heap.size, 2, none⟩ = some (.int .i64 j.len) := by unfold World.cell?; rw [hbx2]; rfl
  have j3 : w2.cell? ⟨w.heap.size, 3, none⟩ = some (.int .i64 j.units) := by unfold World.cell?; rw [hbx2]; rfl
  have j4 : w2.cell? ⟨w.heap.size, 4, none⟩ = some (.int .i64 j.val) := by unfold World.cell?; rw [hbx2]; rfl
  have c5 : w2.cell? ⟨p, 5, none⟩ = some (.int .i64 m.time) := H2.out.cell 5
  obtain ⟨la, lc, hlv⟩ := H2.out.log_form
  have c9 : w2.cell? ⟨p, 9, none⟩ = some (.slice la (lg + 1) lc) := by
    rw [hlg, ← show V1.lv = .slice la (m.log.length + 1) lc by rw [hlv]; simp [MkG.logs]]
    exact H2.out.cell 9
  obtain ⟨ba, bc, hbv, _⟩ := H2.out.bid_form
  obtain ⟨n, hn⟩ : ∃ n, n = m.bids.length := ⟨_, rfl⟩
  have HBV : Hid (V1.bv = .slice ba m.bids.length bc) := hbv
  have c7 : w2.cell? ⟨p, 7, none⟩ = some (.slice ba n bc) := by rw [hn, ← HBV.out]; exact H2.out.cell 7
  have c7' : ∀ o, (w2.alloc o).cell? ⟨p, 7, none⟩ = some (.slice ba n bc) := fun o => by rw [World.cell?_alloc_lt _ _ _ (by exact hp2)]; exact c7
  have HOB : Hid (w2.ownsRow 0 118 12 (.slice ba n bc) n (m.bids.flatMap bidCells)) := by rw [hn, ← HBV.out]; exact H2.out.bids
  have HN := hide hn
  have hlgl : lg < 300 := by rw [hlg]; exact HL.out
  rw [← hn] at hnb
  have hwl : IntKind.i64.wrap (lg : Int) = (lg : Int) := by rw [IntKind.wrap_i64]; omega
  clear hbx2 hlv hbv hn hlg hcf
  by_cases hat : j.arr < m.time
  · have HE2 := hide (E2.out m.time (by simp [atOf, hat]))
    go_wp2
    go_region_law (refine step_append_lies _ rfl (.tmp 79) (.tmp 91) 83 rfl 0 118 i0 (.agg #[.int .i64 0, .int .i64 0, .int .i64 0, .int .i64 0, .int .i64 0, .int .i64 0, .int .i64 0, .int .i64 0, .int .i64 0, .int .i64 0, .int .i64 0, .bool false]) 12 96 Tryz.underlying83 hi hz0 hz1 hz2 rfl (by decide) (.slice ba n bc) n (m.bids.flatMap bidCells) (by simp [Act.eval]) (by exact HOB.out.alloc _) ⟨w2.heap.size, 0, none⟩ 1 1 (bidCells ⟨ti, ref, j, m.time, 1, -1, (lg : Int), false⟩) (by simp [Act.eval]) rfl (by exact World.news_of_block (heap_alloc_new w2 _)) (by simp [bidCells, Value.oneCell']) (by decide) (by unfold maxLen; omega) (by omega) (Nat.zero_le _) _ rfl ?_; intro g cap' w3 hown hgrow hat2 hlt; obtain ⟨s1, s2, s3⟩ := bids_arm H2.out HBV.out HN.out (by first | exact ((Chg.refl _ _).alloc _).drew | exact (Chg.refl _ _).alloc _) hown hgrow hat2 (by simp); clear hown hgrow hat2 hlt)
    all_goals
      go_wp2
      go_ret
      refine ⟨ret_int E1.out.symm, ?_⟩
      rw [HE2.out]
      exact HAF.out _ _ ((MktTo.after ((HQ2.out.mono (fun _ _ h => h.elim)).mono (fun _ _ h => h)) (fun k hk => .inl hk) s3.out))
  · have HE2 := hide (E2.out j.arr (by simp [atOf]; omega))
    go_wp2
    go_region_law (refine step_append_lies _ rfl (.tmp 79) (.tmp 91) 83 rfl 0 118 i0 (.agg #[.int .i64 0, .int .i64 0, .int .i64 0, .int .i64 0, .int .i64 0, .int .i64 0, .int .i64 0, .int .i64 0, .int .i64 0, .int .i64 0, .int .i64 0, .bool false]) 12 96 Tryz.underlying83 hi hz0 hz1 hz2 rfl (by decide) (.slice ba n bc) n (m.bids.flatMap bidCells) (by simp [Act.eval]) (by exact HOB.out.alloc _) ⟨w2.heap.size, 0, none⟩ 1 1 (bidCells ⟨ti, ref, j, j.arr, 1, -1, (lg : Int), false⟩) (by simp [Act.eval]) rfl (by exact World.news_of_block (heap_alloc_new w2 _)) (by simp [bidCells, Value.oneCell']) (by decide) (by unfold maxLen; omega) (by omega) (Nat.zero_le _) _ rfl ?_; intro g cap' w3 hown hgrow hat2 hlt; obtain ⟨s1, s2, s3⟩ := bids_arm H2.out HBV.out HN.out (by first | exact ((Chg.refl _ _).alloc _).drew | exact (Chg.refl _ _).alloc _) hown hgrow hat2 (by simp); clear hown hgrow hat2 hlt)
    all_goals
      go_wp2
      go_ret
      refine ⟨ret_int E1.out.symm, ?_⟩
      rw [HE2.out]
      exact HAF.out _ _ ((MktTo.after ((HQ2.out.mono (fun _ _ h => h.elim)).mono (fun _ _ h => h)) (fun k hk => .inl hk) s3.out))
end Go.Proofs.YtminceigjejipabGreat
