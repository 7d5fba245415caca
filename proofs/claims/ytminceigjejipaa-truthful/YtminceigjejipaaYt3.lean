import Derived.Test.YtminceigjejipaaYt2
namespace Go.Proofs.Ytminceigjejipaa
open Go.RowKit

/-- what becomes of a bid that is looked at -/
def startedB (m : MkG) (b : BidG) : Bool := fitsB m b m.time && b.winB m.c.res
def startedM (m : MkG) (i : Nat) (b : BidG) : MkG := if startedB m b then startM m i m.time else m

set_option maxRecDepth 100000 in
set_option maxHeartbeats 8000000 in
theorem start_any (V : YV) (m : MkG) (i : Nat) (b : BidG) (w : World) (hm : YmAt w V m) (hok : MkOk m) (hb : m.bids[i]? = some b) (hop : b.openB m m.time = true) :
    Calls Try.prog 78 #[.pointer (some ⟨V.q, 0, none⟩), .int .i64 i] w fun e w' => e = .returned (.bool (startedB m b)) ∧ YmAt w' V (startedM m i b) ∧ Chg V.foot w w' := by
  obtain ⟨g, cap, hv, hown, hgl, hcl, hfr⟩ := hm.bidCell hb
  have hil : (i : Int) < (m.bids.length : Int) := by have := (List.getElem?_eq_some_iff.1 hb).1; omega
  have i0 : (0 : Int) ≤ (i : Int) := by omega
  have hbok := hok.bid b (List.mem_of_getElem? hb)
  obtain ⟨⟨n1, n1'⟩, ⟨n2, n2'⟩, ⟨n3, n3'⟩, ⟨n4, n4'⟩, n5, n5'⟩ := hbok.nums hok
  have hcf := cfgOk_true hok.ck
  have hnu := hok.nu
  have hjt := (jobIn_true hbok.job).2.2.2.2.2.2.2
  have hsz := sizeJ_pos hbok.job hcf.1.2
  have hpl := hm.lt
  have ht0 := hok.t0
  have ht1 := hok.t1
  simp only [BidG.openB, Bool.and_eq_true, decide_eq_true_eq, beq_iff_eq] at hop
  obtain ⟨⟨⟨hs1, _⟩, _⟩, hdl⟩ := hop
  have hs2 : b.state ≠ 2 := by omega
  obtain ⟨a, ha⟩ := Int.eq_ofNat_of_zero_le ht0
  obtain ⟨e, he⟩ : ∃ e : Nat, (e : Int) = m.time + b.job.len := ⟨(m.time + b.job.len).toNat, by omega⟩
  have hae : a < e := by omega
  have hel : e ≤ m.units.length := by omega
  have hul : m.units.length ≤ 64 := by omega
  have hfit : fitsB m b m.time = decide (b.job.units ≤ minZ (freeZ m) a (e - 1 - a)) := by rw [ha]; exact fits_min hok (by rw [he, ha]) n3 hel
  have hrange := freeZ_range hok
  have HMIN := hide (fun (w' : World) (h : YmAt w' V m) => show Calls Try.prog 12 #[.pointer (some ⟨V.r, 0, none⟩), .int .i64 m.time, .int .i64 (m.time + b.job.len)] w' (fun r w2 => r = .returned (.tuple #[.int .i64 (minZ (freeZ m) a (e - 1 - a)), .int .i64 0]) ∧ w2 = w') from by
    have := calMin_ok V.r V.g m.units.length V.cc a e (freeZ m) w' h.cal.cellp (by omega) hae hel h.cal.cellg
    rw [he, ← ha] at this
    exact this)
  have HADD := hide (fun (w' : World) (h : YmAt w' V m) (hf : fitsB m b m.time = true) => show Calls Try.prog 39 #[.pointer (some ⟨V.r, 0, none⟩), .int .i64 m.time, .int .i64 (m.time + b.job.len), .int .i64 (-b.job.units)] w' (fun r w2 => r = .returned (.int .i64 0) ∧ RowAt 98 w2 V.r V.g m.units.length V.cc (addZ (freeZ m) a e (-b.job.units)) ∧ Chg (fun k => k = V.g) w' w2) from by
    have hgood : addOk (freeZ m) a e (-b.job.units) := by
      intro j h1 h2
      have := hrange j (by omega)
      rw [hfit] at hf
      have hle := (le_minZ (freeZ m) a b.job.units (e - 1 - a)).1 (by simpa using hf) (j - a) (by omega)
      rw [show a + (j - a) = j by omega] at hle
      simp [standB, inB]
      omega
    have := calAdd_ok V.r V.g m.units.length V.cc a e (-b.job.units) (freeZ m) w' h.cal (by omega) hae hel (by omega) (by omega) hrange hgood
    rw [he, ← ha] at this
    exact this)
  have HSTART := hide (fun (w1 w2 : World) (h : YmAt w1 V m) hrow hc => h.startB (w' := w2) (i := i) (a := a) (e := e) hb hs2 hown (by rw [he, ha]) hrow hc)
  have HM := hide hm
  have HBC := hide (fun (w' : World) (h : YmAt w' V m) => show w'.cell? ⟨V.q, 6, none⟩ = some (.slice (some ⟨g, 0, none⟩) m.bids.length cap) ∧ (∀ r u, (ybidCells b)[r]? = some u → w'.cell? ⟨g, i * 9 + r, none⟩ = some u) ∧ (∀ r, w'.frozen? ⟨g, r, none⟩ = false) ∧ V.q ≠ V.g ∧ g ≠ V.g ∧ V.q < w'.heap.size ∧ g < w'.heap.size ∧ g ≠ V.q from by
    obtain ⟨g', cap', hv', hown', hgl', hcl', hfr'⟩ := h.bidCell hb
    have hgg : g' = g ∧ cap' = cap := by rw [hv] at hv'; simp at hv'; exact ⟨hv'.1.symm, hv'.2.symm⟩
    obtain ⟨rfl, rfl⟩ := hgg
    obtain ⟨curg, hg1, _⟩ := h.cal.hg
    exact ⟨by rw [← hv]; exact h.cell 6, hcl', hfr', cells_ne h.box hg1 (by decide), fun e => ownsRow_box h.bids hg1 (by decide) (e ▸ hown'), h.lt, hgl', fun e => ownsRow_box h.bids h.box (by decide) (e ▸ hown')⟩)
  have HFIT := hide hfit
  have hmin : ∃ mz, mz = minZ (freeZ m) a (e - 1 - a) := ⟨_, rfl⟩
  obtain ⟨mz, hmz⟩ := hmin
  rw [← hmz] at HMIN HFIT
  have hS := hide (show startedB m b = (fitsB m b m.time && b.winB m.c.res) from rfl)
  have c6 := (HBC.out w hm).1
  have hx := (HBC.out w hm).2.1
  have b2 : w.cell? ⟨g, i * 9 + 2, none⟩ = some (.int .i64 b.job.arr) := hx 2 _ rfl
  have b3 : w.cell? ⟨g, i * 9 + 3, none⟩ = some (.int .i64 b.job.dl) := hx 3 _ rfl
  have b4 : w.cell? ⟨g, i * 9 + 4, none⟩ = some (.int .i64 b.job.len) := hx 4 _ rfl
  have b5 : w.cell? ⟨g, i * 9 + 5, none⟩ = some (.int .i64 b.job.units) := hx 5 _ rfl
  have b6 : w.cell? ⟨g, i * 9 + 6, none⟩ = some (.int .i64 b.job.val) := hx 6 _ rfl
  obtain ⟨w1, hw1⟩ : ∃ w1, w1 = w.alloc (.cells #[.int .i64 b.job.arr, .int .i64 b.job.dl, .int .i64 b.job.len, .int .i64 b.job.units, .int .i64 b.job.val] 54) := ⟨_, rfl⟩
  have HC1 : Hid (Chg (fun _ => False) w w1) := by rw [hw1]; exact (Chg.refl _ _).alloc _
  have hbk : w1.heap[w.heap.size]? = some (.cells #[.int .i64 b.job.arr, .int .i64 b.job.dl, .int .i64 b.job.len, .int .i64 b.job.units, .int .i64 b.job.val] 54 (0, 0)) := by rw [hw1]; exact heap_alloc_new w _
  have e0 : w1.cell? ⟨w.heap.size, 0, none⟩ = some (.int .i64 b.job.arr) := by unfold World.cell?; rw [hbk]; rfl
  have e1 : w1.cell? ⟨w.heap.size, 1, none⟩ = some (.int .i64 b.job.dl) := by unfold World.cell?; rw [hbk]; rfl
  have e2 : w1.cell? ⟨w.heap.size, 2, none⟩ = some (.int .i64 b.job.len) := by unfold World.cell?; rw [hbk]; rfl
  have e3 : w1.cell? ⟨w.heap.size, 3, none⟩ = some (.int .i64 b.job.units) := by unfold World.cell?; rw [hbk]; rfl
  have e4 : w1.cell? ⟨w.heap.size, 4, none⟩ = some (.int .i64 b.job.val) := by unfold World.cell?; rw [hbk]; rfl
  have k2 : w1.cell? ⟨V.q, 2, none⟩ = some (.int .i64 m.c.res) := (hm.chg0 HC1.out).cell 2
  have hX := mul_lt (a := m.c.res) (b := sizeJ b.job) (A := 1000) (B := 64000) (by omega) (by omega) (by omega) (by omega)
  have hwX : IntKind.i64.wrap (m.c.res * sizeJ b.job) = m.c.res * sizeJ b.job := by rw [IntKind.wrap_i64]; omega
  have HSZ := hide (fun (w' : World) => ysz_any b.job w' hsz.2 (by omega))
  have HWIN := hide (show b.winB m.c.res = decide (m.c.res * sizeJ b.job ≤ b.job.val) from rfl)
  have hwe : IntKind.i64.wrap (m.time + b.job.len) = m.time + b.job.len := by rw [IntKind.wrap_i64]; omega
  have hwn : IntKind.i64.wrap (-b.job.units) = -b.job.units := by rw [IntKind.wrap_i64]; omega
  have HA := hide ha
  have HE := hide he
  clear ha he
  clear hx hbk hcl hv hown hm hok hb hbok hcf hnu hjt hsz hfr hrange hfit hmz hae hel hul ht1 hdl hs1 hs2 hgl
  obtain ⟨n, hn⟩ : ∃ n, n = m.bids.length := ⟨_, rfl⟩
  rw [← hn] at c6 hil HBC
  clear hn
  go_enter Try.func78, Try.ntmps78
  go_wp2
  rw [← hw1]
  clear hw1 b2 b3 b4 b5 b6 c6
  go_region_held3 (fun w' => w'.cell? ⟨V.q, 2, none⟩ = some (.int .i64 m.c.res) ∧ w'.cell? ⟨w.heap.size, 0, none⟩ = some (.int .i64 b.job.arr) ∧ w'.cell? ⟨w.heap.size, 1, none⟩ = some (.int .i64 b.job.dl) ∧ w'.cell? ⟨w.heap.size, 2, none⟩ = some (.int .i64 b.job.len) ∧ w'.cell? ⟨w.heap.size, 3, none⟩ = some (.int .i64 b.job.units) ∧ w'.cell? ⟨w.heap.size, 4, none⟩ = some (.int .i64 b.job.val)) (go_keep)
    (first | (go_at_call 88; refine (HSZ.out _).mono ?_; rintro e w2 ⟨rfl, hq⟩; have hk3 := hq.keep; have HQ := hide hq; clear hq; have q2 := hk3 _ _ k2; have f0 := hk3 _ _ e0; have f1 := hk3 _ _ e1; have f2 := hk3 _ _ e2; have f3 := hk3 _ _ e3; have f4 := hk3 _ _ e4; clear hk3))
  all_goals
    have HC2 : Hid (Chg (fun _ => False) w w2) := HC1.out.trans (show Chg (fun _ => False) w1 w2 from ⟨HQ.out.os, HQ.out.tape, HQ.out.output, HQ.out.size, HQ.out.block⟩) (fun _ _ h => h)
    clear HQ e0 e1 e2 e3 e4 k2 HC1 HSZ
    obtain ⟨X, hXe⟩ : ∃ X, X = m.c.res * sizeJ b.job := ⟨_, rfl⟩
    rw [← hXe] at hX hwX HWIN ⊢
    clear hXe
    by_cases hwin : b.job.val < X
    · have E := hide (show startedB m b = false by rw [hS.out, HWIN.out]; simp; omega)
      go_wp2
      go_ret
      exact ⟨ret_bool E.out.symm, by rw [startedM, E.out]; exact HM.out.chg0 HC2.out, HC2.out.mono (fun _ _ h => h.elim)⟩
    · have H2 := hide (HM.out.chg0 HC2.out)
      have k5 : w2.cell? ⟨V.q, 5, none⟩ = some (.int .i64 m.time) := H2.out.cell 5
      have k9 : w2.cell? ⟨V.q, 9, none⟩ = some (.pointer (some ⟨V.r, 0, none⟩)) := H2.out.cell 9
      have HW1 := hide (show b.winB m.c.res = true by rw [HWIN.out]; simp; omega)
      go_wp2
      go_quiet (fail)
      go_wp2
      obtain ⟨w3, hw3⟩ : ∃ w3, w3 = w2.drewN nq := ⟨_, rfl⟩
      rw [← hw3]
      have HC23 : Hid (Chg (fun _ => False) w2 w3) := by rw [hw3]; exact (Chg.refl _ _).drewN _
      clear hw3
      have hk3 := HC23.out.keep
      have l5 := hk3 _ _ k5
      have l9 := hk3 _ _ k9
      have l3 := hk3 _ _ f3
      clear hk3 k5 k9 q2 f0 f1 f2 f3 f4
      have HCP := hide (fun k => HMIN.out (w3.drewN k) (H2.out.chg0 (HC23.out.drewN k)))
      by_cases hf : mz < b.job.units
      · have E := hide (show startedB m b = false by rw [hS.out, HFIT.out]; simp; omega)
        go_quiet (first | (go_at_call 12; refine Calls.quiet_of_same (HCP.out _)))
        go_wp2
        go_ret
        exact ⟨ret_bool E.out.symm, by rw [startedM, E.out]; exact (H2.out.chg0 HC23.out).chg0 ((Chg.refl _ _).drewN _), ((HC2.out.trans HC23.out (fun _ _ h => h)).drewN _).mono (fun _ _ h => h.elim)⟩
      · have HFT := hide (show fitsB m b m.time = true by rw [HFIT.out]; simp; omega)
        have E := hide (show startedB m b = true by rw [hS.out, HFT.out, HW1.out]; rfl)
        go_quiet (first | (go_at_call 12; refine Calls.quiet_of_same (HCP.out _)))
        go_wp2
        obtain ⟨w4, hw4⟩ : ∃ w4, w4 = w3.drewN nq := ⟨_, rfl⟩
        rw [← hw4]
        have HC34 : Hid (Chg (fun _ => False) w3 w4) := by rw [hw4]; exact (Chg.refl _ _).drewN _
        clear hw4
        have H4 := hide ((H2.out.chg0 HC23.out).chg0 HC34.out)
        have HC4 := hide ((HC2.out.trans HC23.out (fun _ _ h => h)).trans HC34.out (fun _ _ h => h))
        have hk4 := HC34.out.keep
        have p5 := hk4 _ _ l5
        have p9 := hk4 _ _ l9
        have p3 := hk4 _ _ l3
        obtain ⟨p6, hbc4, hbf4, hne1, hne2, hlq, hlg, hgq⟩ := HBC.out w4 H4.out
        have p7 : w4.cell? ⟨g, i * 9 + 7, none⟩ = some (.int .i64 b.state) := hbc4 7 _ rfl
        have p8 : w4.cell? ⟨g, i * 9 + 8, none⟩ = some (.int .i64 b.start) := hbc4 8 _ rfl
        have HLJ := hide (show w.heap.size ≠ V.g ∧ w.heap.size < w4.heap.size from ⟨by
          have := HM.out.foot_lt V.g (.inr (.inr (.inl rfl)))
          omega, by
          rcases Nat.lt_or_ge w.heap.size w4.heap.size with e | e
          · exact e
          · exfalso
            unfold World.cell? at p3
            rw [Array.getElem?_eq_none e] at p3
            simp at p3⟩)
        have HNE := hide (And.intro hne1 (And.intro hne2 (And.intro hlq hlg)))
        have HBF := hide hbf4
        have hqg := Ne.symm hgq
        clear hbc4 hbf4 hk4 l5 l9 l3 HCP HMIN HC23 HC34 HC2 H2 hne1 hne2 hlq hlg
        have HAD := hide (fun (w' : World) (hc : Chg (fun _ => False) w4 w') => HADD.out w' (H4.out.chg0 hc) HFT.out)
        go_region_held3 (fun w' => w'.cell? ⟨V.q, 5, none⟩ = some (.int .i64 m.time) ∧ w'.cell? ⟨V.q, 9, none⟩ = some (.pointer (some ⟨V.r, 0, none⟩)) ∧ w'.cell? ⟨w.heap.size, 3, none⟩ = some (.int .i64 b.job.units)) (go_keep)
          (first | (go_at_call 39; refine (HAD.out _ (by first | exact Chg.refl _ _ | exact (Chg.refl _ _).drew)).mono ?_; rintro e w5 ⟨rfl, hrow, hq⟩; have x5 := (hq.cell (p := ⟨V.q, 5, none⟩) HNE.out.2.2.1 HNE.out.1).trans p5; have x9 := (hq.cell (p := ⟨V.q, 9, none⟩) HNE.out.2.2.1 HNE.out.1).trans p9; have x3 := (hq.cell (p := ⟨w.heap.size, 3, none⟩) HLJ.out.2 HLJ.out.1).trans p3; have x6 := (hq.cell (p := ⟨V.q, 6, none⟩) HNE.out.2.2.1 HNE.out.1).trans p6; have x7 := (hq.cell (p := ⟨g, i * 9 + 7, none⟩) HNE.out.2.2.2 HNE.out.2.1).trans p7; have x8 := (hq.cell (p := ⟨g, i * 9 + 8, none⟩) HNE.out.2.2.2 HNE.out.2.1).trans p8; have y7 := (hq.frozen (p := ⟨g, i * 9 + 7, none⟩) HNE.out.2.2.2 HNE.out.2.1).trans (HBF.out _); have y8 := (hq.frozen (p := ⟨g, i * 9 + 8, none⟩) HNE.out.2.2.2 HNE.out.2.1).trans (HBF.out _); have HROW := hide hrow; have HQ := hide hq; clear hq hrow))
        all_goals
          have HQ5 : Hid (Chg (fun k => k = V.g) w4 w5) := ⟨HQ.out.os, HQ.out.tape, HQ.out.output, HQ.out.size, HQ.out.block⟩
          have HFIN := hide (HSTART.out w4 w5 H4.out HROW.out HQ5.out)
          clear HQ HROW p5 p9 p3 p6 p7 p8 HAD
          go_wp2
          go_region_held3 (fun w' => w'.cell? ⟨V.q, 5, none⟩ = some (.int .i64 m.time) ∧ w'.cell? ⟨V.q, 6, none⟩ = some (.slice (some ⟨g, 0, none⟩) n cap)) (go_keep) (fail)
          all_goals
            go_wp2
            go_ret
            refine ⟨ret_bool E.out.symm, ?_, ?_⟩
            · have := HFIN.out.1
              rw [← HA.out] at this
              rw [startedM, E.out, if_pos rfl]
              first | exact this | exact this.chg0 ((Chg.refl _ _).drew)
            · have := HFIN.out.2
              rw [← HA.out] at this
              first | exact (HC4.out.mono (fun _ _ h => h.elim)).trans this (fun _ _ h => h) | exact ((HC4.out.mono (fun _ _ h => h.elim)).trans this (fun _ _ h => h)).drew
end Go.Proofs.Ytminceigjejipaa
