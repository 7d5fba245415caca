import Derived.Test.YtminceigjejipaaG15
import Derived.Deep.RegionHeld3
namespace Go.Proofs.Ytminceigjejipaa
open Go.RowKit

/-- what was there is there -/
def Keep (w w' : World) : Prop := ∀ p v, w.cell? p = some v → w'.cell? p = some v
theorem Chg.keep {w w' : World} (h : Chg (fun _ => False) w w') : Keep w w' := by
  intro p v hv
  have hl : p.block < w.heap.size := by
    rcases Nat.lt_or_ge p.block w.heap.size with e | e
    · exact e
    · unfold World.cell? at hv
      rw [Array.getElem?_eq_none e] at hv
      simp at hv
  rw [h.cell hl (fun h => h)]
  exact hv

set_option maxHeartbeats 1000000 in
theorem ysz_any (j : JobG) (w : World) (h : sizeJ j ≤ 64000) (h0 : 0 ≤ sizeJ j) :
    Calls Try.prog 88 #[.agg #[.int .i64 j.arr, .int .i64 j.dl, .int .i64 j.len, .int .i64 j.units, .int .i64 j.val]] w fun e w' => e = .returned (.int .i64 (sizeJ j)) ∧ Chg (fun _ => False) w w' := by
  have hw : IntKind.i64.wrap (j.len * j.units) = j.len * j.units := by unfold sizeJ at h h0; rw [IntKind.wrap_i64]; omega
  clear h h0
  go_enter Try.func88, Try.ntmps88
  go_wp2
  go_ret
  exact ⟨ret_int (by first | rfl | rw [hw]; rfl), (Chg.refl _ _).alloc _⟩

set_option maxRecDepth 100000 in
set_option maxHeartbeats 4000000 in
theorem worthMore_any (ja jb : JobG) (w : World) (hsa : 1 ≤ sizeJ ja ∧ sizeJ ja ≤ 64000) (hsb : 1 ≤ sizeJ jb ∧ sizeJ jb ≤ 64000) (hva : 1 ≤ ja.val ∧ ja.val ≤ 1048576) (hvb : 1 ≤ jb.val ∧ jb.val ≤ 1048576) :
    Calls Try.prog 87 #[.agg #[.int .i64 ja.arr, .int .i64 ja.dl, .int .i64 ja.len, .int .i64 ja.units, .int .i64 ja.val], .agg #[.int .i64 jb.arr, .int .i64 jb.dl, .int .i64 jb.len, .int .i64 jb.units, .int .i64 jb.val]] w fun e w' => e = .returned (.bool (worthB ja jb)) ∧ Chg (fun _ => False) w w' := by
  have hx := mul_lt (a := ja.val) (b := sizeJ jb) (A := 1048576) (B := 64000) (by omega) (by omega) (by omega) (by omega)
  have hy := mul_lt (a := jb.val) (b := sizeJ ja) (A := 1048576) (B := 64000) (by omega) (by omega) (by omega) (by omega)
  have hwx : IntKind.i64.wrap (ja.val * sizeJ jb) = ja.val * sizeJ jb := by rw [IntKind.wrap_i64]; omega
  have hwy : IntKind.i64.wrap (jb.val * sizeJ ja) = jb.val * sizeJ ja := by rw [IntKind.wrap_i64]; omega
  have HSA := hide hsa
  have HSB := hide hsb
  have HW := hide (show worthB ja jb = decide (jb.val * sizeJ ja < ja.val * sizeJ jb) from rfl)
  clear hsa hsb hva hvb hx hy
  go_enter Try.func87, Try.ntmps87
  go_wp2
  obtain ⟨w2, hw2⟩ : ∃ w2, w2 = (w.alloc (.cells #[.int .i64 ja.arr, .int .i64 ja.dl, .int .i64 ja.len, .int .i64 ja.units, .int .i64 ja.val] 54)).alloc (.cells #[.int .i64 jb.arr, .int .i64 jb.dl, .int .i64 jb.len, .int .i64 jb.units, .int .i64 jb.val] 54) := ⟨_, rfl⟩
  rw [← hw2]
  have hbA : w2.heap[w.heap.size]? = some (.cells #[.int .i64 ja.arr, .int .i64 ja.dl, .int .i64 ja.len, .int .i64 ja.units, .int .i64 ja.val] 54 (0, 0)) := by rw [hw2, Below.heap_alloc _ _ _ (by simp)]; exact heap_alloc_new w _
  have hbB : w2.heap[w.heap.size + 1]? = some (.cells #[.int .i64 jb.arr, .int .i64 jb.dl, .int .i64 jb.len, .int .i64 jb.units, .int .i64 jb.val] 54 (0, 0)) := by
    rw [hw2]
    have := heap_alloc_new (w.alloc (.cells #[.int .i64 ja.arr, .int .i64 ja.dl, .int .i64 ja.len, .int .i64 ja.units, .int .i64 ja.val] 54)) (.cells #[.int .i64 jb.arr, .int .i64 jb.dl, .int .i64 jb.len, .int .i64 jb.units, .int .i64 jb.val] 54)
    simpa using this
  have HC2 : Hid (Chg (fun _ => False) w w2) := by rw [hw2]; exact ((Chg.refl _ _).alloc _).alloc _
  clear hw2
  have A0 : w2.cell? ⟨w.heap.size, 0, none⟩ = some (.int .i64 ja.arr) := by unfold World.cell?; rw [hbA]; rfl
  have A1 : w2.cell? ⟨w.heap.size, 1, none⟩ = some (.int .i64 ja.dl) := by unfold World.cell?; rw [hbA]; rfl
  have A2 : w2.cell? ⟨w.heap.size, 2, none⟩ = some (.int .i64 ja.len) := by unfold World.cell?; rw [hbA]; rfl
  have A3 : w2.cell? ⟨w.heap.size, 3, none⟩ = some (.int .i64 ja.units) := by unfold World.cell?; rw [hbA]; rfl
  have A4 : w2.cell? ⟨w.heap.size, 4, none⟩ = some (.int .i64 ja.val) := by unfold World.cell?; rw [hbA]; rfl
  have B0 : w2.cell? ⟨w.heap.size + 1, 0, none⟩ = some (.int .i64 jb.arr) := by unfold World.cell?; rw [hbB]; rfl
  have B1 : w2.cell? ⟨w.heap.size + 1, 1, none⟩ = some (.int .i64 jb.dl) := by unfold World.cell?; rw [hbB]; rfl
  have B2 : w2.cell? ⟨w.heap.size + 1, 2, none⟩ = some (.int .i64 jb.len) := by unfold World.cell?; rw [hbB]; rfl
  have B3 : w2.cell? ⟨w.heap.size + 1, 3, none⟩ = some (.int .i64 jb.units) := by unfold World.cell?; rw [hbB]; rfl
  have B4 : w2.cell? ⟨w.heap.size + 1, 4, none⟩ = some (.int .i64 jb.val) := by unfold World.cell?; rw [hbB]; rfl
  clear hbA hbB
  go_region_held3 (fun w' => w'.cell? ⟨w.heap.size, 0, none⟩ = some (.int .i64 ja.arr) ∧ w'.cell? ⟨w.heap.size, 1, none⟩ = some (.int .i64 ja.dl) ∧ w'.cell? ⟨w.heap.size, 2, none⟩ = some (.int .i64 ja.len) ∧ w'.cell? ⟨w.heap.size, 3, none⟩ = some (.int .i64 ja.units) ∧ w'.cell? ⟨w.heap.size, 4, none⟩ = some (.int .i64 ja.val) ∧ w'.cell? ⟨w.heap.size + 1, 0, none⟩ = some (.int .i64 jb.arr) ∧ w'.cell? ⟨w.heap.size + 1, 1, none⟩ = some (.int .i64 jb.dl) ∧ w'.cell? ⟨w.heap.size + 1, 2, none⟩ = some (.int .i64 jb.len) ∧ w'.cell? ⟨w.heap.size + 1, 3, none⟩ = some (.int .i64 jb.units) ∧ w'.cell? ⟨w.heap.size + 1, 4, none⟩ = some (.int .i64 jb.val)) (go_keep)
    (first | (go_at_call 88; have _x := HQ1; refine (ysz_any _ _ (by first | exact HSA.out.2 | exact HSB.out.2) (by first | exact Int.le_trans (by decide) HSA.out.1 | exact Int.le_trans (by decide) HSB.out.1)).mono ?_; rintro e w4 ⟨rfl, hq⟩; have hk4 := hq.keep; have HQ2 := hide hq; clear hq _x; have j0 := hk4 _ _ k0; have j1 := hk4 _ _ k1; have j2 := hk4 _ _ k2; have j3 := hk4 _ _ k3; have j4 := hk4 _ _ k4; have j5 := hk4 _ _ k5; have j6 := hk4 _ _ k6; have j7 := hk4 _ _ k7; have j8 := hk4 _ _ k8; have j9 := hk4 _ _ k9; clear hk4) | (go_at_call 88; refine (ysz_any _ _ (by first | exact HSA.out.2 | exact HSB.out.2) (by first | exact Int.le_trans (by decide) HSA.out.1 | exact Int.le_trans (by decide) HSB.out.1)).mono ?_; rintro e w3 ⟨rfl, hq⟩; have hk3 := hq.keep; have HQ1 := hide hq; clear hq; have k0 := hk3 _ _ A0; have k1 := hk3 _ _ A1; have k2 := hk3 _ _ A2; have k3 := hk3 _ _ A3; have k4 := hk3 _ _ A4; have k5 := hk3 _ _ B0; have k6 := hk3 _ _ B1; have k7 := hk3 _ _ B2; have k8 := hk3 _ _ B3; have k9 := hk3 _ _ B4; clear hk3))
  all_goals
    have HC4 : Hid (Chg (fun _ => False) w w4) := HC2.out.trans ((show Chg (fun _ => False) w2 w3 from ⟨HQ1.out.os, HQ1.out.tape, HQ1.out.output, HQ1.out.size, HQ1.out.block⟩).trans (show Chg (fun _ => False) w3 w4 from ⟨HQ2.out.os, HQ2.out.tape, HQ2.out.output, HQ2.out.size, HQ2.out.block⟩) (fun _ _ h => h)) (fun _ _ h => h)
    go_wp2
    go_ret
    exact ⟨ret_bool (by rw [HW.out]), HC4.out⟩

set_option maxHeartbeats 1000000 in
theorem inTime_any (V : YV) (m : MkG) (j : JobG) (w : World) (hm : YmAt w V m) (ht0 : 0 ≤ m.time) (ht1 : m.time ≤ 64) (hl : 1 ≤ j.len ∧ j.len ≤ 64) :
    Calls Try.prog 80 #[.pointer (some ⟨V.q, 0, none⟩), .agg #[.int .i64 j.arr, .int .i64 j.dl, .int .i64 j.len, .int .i64 j.units, .int .i64 j.val]] w fun e w' => e = .returned (.bool (decide (m.time + j.len ≤ j.dl))) ∧ Chg (fun _ => False) w w' := by
  have hpl := hm.lt
  have c5 : w.cell? ⟨V.q, 5, none⟩ = some (.int .i64 m.time) := hm.cell 5
  have d5 : ∀ o, (w.alloc o).cell? ⟨V.q, 5, none⟩ = some (.int .i64 m.time) := fun o => by rw [World.cell?_alloc_lt _ _ _ (by exact hpl)]; exact c5
  have hwr : IntKind.i64.wrap (m.time + j.len) = m.time + j.len := by rw [IntKind.wrap_i64]; omega
  clear hm
  generalize m.time = t at *
  go_enter Try.func80, Try.ntmps80
  go_wp2
  go_quiet (fail)
  go_wp2
  go_ret
  exact ⟨ret_bool (by first | rfl | rw [hwr]), ((Chg.refl _ _).alloc _).drewN _⟩

theorem YmAt.bidCell {w : World} {V : YV} {m : MkG} {i : Nat} {b : BidG} (h : YmAt w V m) (hb : m.bids[i]? = some b) :
    ∃ g cap, V.bv = .slice (some ⟨g, 0, none⟩) m.bids.length cap ∧ V.bv.ownBlock = some g ∧ g < w.heap.size ∧ (∀ r u, (ybidCells b)[r]? = some u → w.cell? ⟨g, i * 9 + r, none⟩ = some u) ∧ (∀ r, w.frozen? ⟨g, r, none⟩ = false) := by
  obtain ⟨ao, cap, hv, hel⟩ := h.bid_form
  obtain ⟨g, hao, hown, hcl, hfr⟩ := hel i b hb
  subst hao
  exact ⟨g, cap, hv, hown, (h.bids.lt g hown).2, hcl, hfr⟩

set_option maxRecDepth 100000 in
set_option maxHeartbeats 8000000 in
theorem isCandidate_any (V : YV) (m : MkG) (i : Nat) (b : BidG) (w : World) (hm : YmAt w V m) (hok : MkOk m) (har : ArrOk m) (hb : m.bids[i]? = some b) :
    Calls Try.prog 86 #[.pointer (some ⟨V.q, 0, none⟩), .int .i64 i] w fun e w' => e = .returned (.bool (b.openB m m.time)) ∧ Chg (fun _ => False) w w' := by
  obtain ⟨g, cap, hv, hown, hgl, hcl, _⟩ := hm.bidCell hb
  have hil : (i : Int) < (m.bids.length : Int) := by have := (List.getElem?_eq_some_iff.1 hb).1; omega
  have i0 : (0 : Int) ≤ (i : Int) := by omega
  have hbok := hok.bid b (List.mem_of_getElem? hb)
  obtain ⟨n1, n2, n3, n4, n5⟩ := hbok.nums hok
  have hcf := cfgOk_true hok.ck
  have hpl := hm.lt
  have ht0 := hok.t0
  have ht1 := hok.t1
  have ht2 : m.time ≤ 64 := by omega
  have c6 : w.cell? ⟨V.q, 6, none⟩ = some (.slice (some ⟨g, 0, none⟩) m.bids.length cap) := by rw [← hv]; exact hm.cell 6
  obtain ⟨ti, hti⟩ := Int.eq_ofNat_of_zero_le hbok.t0
  obtain ⟨sao, scap, hsv, hsel⟩ := hm.susp_form
  have hns := hok.ns
  have hbt := hbok.t1
  obtain ⟨gs, hsao, hsown, hscl, _⟩ := hsel ti (by omega)
  subst hsao
  have c7 : w.cell? ⟨V.q, 7, none⟩ = some (.slice (some ⟨gs, 0, none⟩) m.susp.length scap) := by rw [← hsv]; exact hm.cell 7
  have c5 : w.cell? ⟨V.q, 5, none⟩ = some (.int .i64 m.time) := hm.cell 5
  have hsi : (ti : Int) < (m.susp.length : Int) := by omega
  have t0 : (0 : Int) ≤ (ti : Int) := by omega
  have esu : suspAt m b.ten = m.susp.getD ti false := by rw [hti]; rfl
  have cs : w.cell? ⟨gs, ti, none⟩ = some (.bool (suspAt m b.ten)) := by rw [esu]; exact hscl
  have b0 : w.cell? ⟨g, i * 9, none⟩ = some (.int .i64 ti) := by rw [← hti]; exact hcl 0 _ rfl
  have b1 : w.cell? ⟨g, i * 9 + 1, none⟩ = some (.int .i64 b.ref) := hcl 1 _ rfl
  have b2 : w.cell? ⟨g, i * 9 + 2, none⟩ = some (.int .i64 b.job.arr) := hcl 2 _ rfl
  have b3 : w.cell? ⟨g, i * 9 + 3, none⟩ = some (.int .i64 b.job.dl) := hcl 3 _ rfl
  have b4 : w.cell? ⟨g, i * 9 + 4, none⟩ = some (.int .i64 b.job.len) := hcl 4 _ rfl
  have b5 : w.cell? ⟨g, i * 9 + 5, none⟩ = some (.int .i64 b.job.units) := hcl 5 _ rfl
  have b6 : w.cell? ⟨g, i * 9 + 6, none⟩ = some (.int .i64 b.job.val) := hcl 6 _ rfl
  have b7 : w.cell? ⟨g, i * 9 + 7, none⟩ = some (.int .i64 b.state) := hcl 7 _ rfl
  have b8 : w.cell? ⟨g, i * 9 + 8, none⟩ = some (.int .i64 b.start) := hcl 8 _ rfl
  obtain ⟨r, hr⟩ : ∃ r, r = b.openB m m.time := ⟨_, rfl⟩
  have HR : Hid (r = ((b.state == 1) && !suspAt m b.ten && decide (b.job.arr ≤ m.time) && decide (m.time + b.job.len ≤ b.job.dl))) := hr.trans (open_split har (List.mem_of_getElem? hb) hok)
  rw [← hr]
  have HM := hide hm
  clear hcl hv hown hm hok hb hbok hcf hns hsel hsv hsown hscl esu hbt hr hti har
  obtain ⟨su, hsu⟩ : ∃ su, su = suspAt m b.ten := ⟨_, rfl⟩
  rw [← hsu] at cs HR
  clear hsu
  generalize m.bids.length = n at *
  generalize m.susp.length = ns at *
  obtain ⟨w1, hw1⟩ : ∃ w1, w1 = w.alloc (.cells #[.int .i64 (ti : Int), .int .i64 b.ref, .int .i64 b.job.arr, .int .i64 b.job.dl, .int .i64 b.job.len, .int .i64 b.job.units, .int .i64 b.job.val, .int .i64 b.state, .int .i64 b.start] 125) := ⟨_, rfl⟩
  have HC1 : Hid (Chg (fun _ => False) w w1) := by rw [hw1]; exact (Chg.refl _ _).alloc _
  have hk := HC1.out.keep
  have hbk : w1.heap[w.heap.size]? = some (.cells #[.int .i64 (ti : Int), .int .i64 b.ref, .int .i64 b.job.arr, .int .i64 b.job.dl, .int .i64 b.job.len, .int .i64 b.job.units, .int .i64 b.job.val, .int .i64 b.state, .int .i64 b.start] 125 (0, 0)) := by rw [hw1]; exact heap_alloc_new w _
  have k7 := hk _ _ c7
  have k5 := hk _ _ c5
  have ks := hk _ _ cs
  have e0 : w1.cell? ⟨w.heap.size, 0, none⟩ = some (.int .i64 (ti : Int)) := by unfold World.cell?; rw [hbk]; rfl
  have e2 : w1.cell? ⟨w.heap.size, 2, none⟩ = some (.int .i64 b.job.arr) := by unfold World.cell?; rw [hbk]; rfl
  have e3 : w1.cell? ⟨w.heap.size, 3, none⟩ = some (.int .i64 b.job.dl) := by unfold World.cell?; rw [hbk]; rfl
  have e4 : w1.cell? ⟨w.heap.size, 4, none⟩ = some (.int .i64 b.job.len) := by unfold World.cell?; rw [hbk]; rfl
  have e5 : w1.cell? ⟨w.heap.size, 5, none⟩ = some (.int .i64 b.job.units) := by unfold World.cell?; rw [hbk]; rfl
  have e6 : w1.cell? ⟨w.heap.size, 6, none⟩ = some (.int .i64 b.job.val) := by unfold World.cell?; rw [hbk]; rfl
  have e7 : w1.cell? ⟨w.heap.size, 7, none⟩ = some (.int .i64 b.state) := by unfold World.cell?; rw [hbk]; rfl
  have HIT := hide (fun (w' : World) (hc : Chg (fun _ => False) w1 w') => inTime_any V m b.job w' ((HM.out.chg0 HC1.out).chg0 hc) ht0 ht2 n3)
  clear hbk hk c7 c5 cs
  generalize m.time = t at *
  go_enter Try.func86, Try.ntmps86
  go_wp2
  first | rw [← hw1] | trace_state
  clear hw1 b0 b1 b2 b3 b4 b5 b6 b7 b8 c6
  cases h1 : b.state == 1
  · have hz : r = false := by rw [HR.out, h1]; rfl
    subst hz
    clear HR
    go_quiet (fail)
    go_wp2
    go_ret
    exact ⟨rfl, HC1.out.drewN _⟩
  cases su
  rotate_left
  · have hz : r = false := by rw [HR.out, h1]; rfl
    subst hz
    clear HR
    go_quiet (fail)
    go_wp2
    go_ret
    exact ⟨rfl, HC1.out.drewN _⟩
  cases h3 : decide (b.job.arr ≤ t)
  · have hz : r = false := by rw [HR.out, h1, h3]; rfl
    subst hz
    clear HR
    go_quiet (fail)
    go_wp2
    go_ret
    exact ⟨rfl, HC1.out.drewN _⟩
  have hz : Hid (r = decide (t + b.job.len ≤ b.job.dl)) := by rw [HR.out, h1, h3]; exact Bool.true_and _
  clear HR
  have h3' : b.job.arr ≤ t := by simpa using h3
  go_region_held3 (fun w' => w'.cell? ⟨V.q, 5, none⟩ = some (.int .i64 t) ∧ w'.cell? ⟨V.q, 7, none⟩ = some (.slice (some ⟨gs, 0, none⟩) ns scap) ∧ w'.cell? ⟨gs, ti, none⟩ = some (.bool false) ∧ w'.cell? ⟨w.heap.size, 0, none⟩ = some (.int .i64 (ti : Int)) ∧ w'.cell? ⟨w.heap.size, 2, none⟩ = some (.int .i64 b.job.arr) ∧ w'.cell? ⟨w.heap.size, 3, none⟩ = some (.int .i64 b.job.dl) ∧ w'.cell? ⟨w.heap.size, 4, none⟩ = some (.int .i64 b.job.len) ∧ w'.cell? ⟨w.heap.size, 5, none⟩ = some (.int .i64 b.job.units) ∧ w'.cell? ⟨w.heap.size, 6, none⟩ = some (.int .i64 b.job.val) ∧ w'.cell? ⟨w.heap.size, 7, none⟩ = some (.int .i64 b.state)) (go_keep)
    (first | (go_at_call 80; refine (HIT.out _ (by first | exact Chg.refl _ _ | exact (Chg.refl _ _).drew)).mono ?_; rintro e w3 ⟨rfl, hq⟩; have hk3 := hq.keep; have HQ := hide hq; clear hq; have q5 := hk3 _ _ k5; have q7 := hk3 _ _ k7; have qs := hk3 _ _ ks; have f0 := hk3 _ _ e0; have f2 := hk3 _ _ e2; have f3 := hk3 _ _ e3; have f4 := hk3 _ _ e4; have f5 := hk3 _ _ e5; have f6 := hk3 _ _ e6; have f7 := hk3 _ _ e7; clear hk3))
  all_goals
    go_wp2
    go_ret
    refine ⟨ret_bool (by rw [hz.out]), HC1.out.trans (?_ : Chg (fun _ => False) w1 _) (fun _ _ h => h)⟩
    exact ⟨HQ.out.os, HQ.out.tape, HQ.out.output, HQ.out.size, HQ.out.block⟩
end Go.Proofs.Ytminceigjejipaa
