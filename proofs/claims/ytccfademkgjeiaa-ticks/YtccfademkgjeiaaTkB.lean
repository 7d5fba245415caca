import Derived.Test.YtccfademkgjeiaaTkA
namespace Go.Proofs.Ytccfademkgjeiaa
open Go.RowKit

theorem heap_get_lt {w : World} {p : Nat} {o : Obj} (h : w.heap[p]? = some o) : p < w.heap.size := (Array.getElem?_eq_some_iff.1 h).1

set_option maxRecDepth 100000 in
set_option maxHeartbeats 4000000 in
theorem ahead_at (p : Nat) (V : MV) (m : MkG) (i k : Nat) (a b : BidG) (w : World) (hm : MktAt w p V m) (hok : MkOk m) (ha : m.bids[i]? = some a) (hb : m.bids[k]? = some b) :
    Calls Try.prog 130 #[.pointer (some ⟨p, 0, none⟩), .int .i64 i, .int .i64 k] w fun e w' => e = .returned (.bool (aheadJ a.job b.job i k)) ∧ Chg (fun _ => False) w w' := by
  obtain ⟨g, cap, hv, hown, hgl, hcl, _⟩ := hm.bidCell ha
  obtain ⟨g', cap', hv', hown', hgl', hcl', _⟩ := hm.bidCell hb
  have hgg : g' = g ∧ cap' = cap := by rw [hv] at hv'; simp at hv'; exact ⟨hv'.1.symm, hv'.2.symm⟩
  obtain ⟨rfl, rfl⟩ := hgg
  have hil : (i : Int) < (m.bids.length : Int) := by have := (List.getElem?_eq_some_iff.1 ha).1; omega
  have hkl : (k : Int) < (m.bids.length : Int) := by have := (List.getElem?_eq_some_iff.1 hb).1; omega
  have i0 : (0 : Int) ≤ (i : Int) := by omega
  have k0 : (0 : Int) ≤ (k : Int) := by omega
  have hcf := cfgOk_true hok.ck
  have hja := (hok.bid a (List.mem_of_getElem? ha)).job
  have hjb := (hok.bid b (List.mem_of_getElem? hb)).job
  have hsa := sizeJ_pos hja hcf.1.2
  have hsb := sizeJ_pos hjb hcf.1.2
  have hva := jobIn_true hja
  have hvb := jobIn_true hjb
  have hpl := hm.lt
  have c7 : w.cell? ⟨p, 7, none⟩ = some (.slice (some ⟨g', 0, none⟩) m.bids.length cap') := by rw [← hv]; exact hm.cell 7
  have a2 : w.cell? ⟨g', i * 12 + 2, none⟩ = some (.int .i64 a.job.arr) := hcl 2 _ rfl
  have a3 : w.cell? ⟨g', i * 12 + 3, none⟩ = some (.int .i64 a.job.dl) := hcl 3 _ rfl
  have a4 : w.cell? ⟨g', i * 12 + 4, none⟩ = some (.int .i64 a.job.len) := hcl 4 _ rfl
  have a5 : w.cell? ⟨g', i * 12 + 5, none⟩ = some (.int .i64 a.job.units) := hcl 5 _ rfl
  have a6 : w.cell? ⟨g', i * 12 + 6, none⟩ = some (.int .i64 a.job.val) := hcl 6 _ rfl
  have b2 : w.cell? ⟨g', k * 12 + 2, none⟩ = some (.int .i64 b.job.arr) := hcl' 2 _ rfl
  have b3 : w.cell? ⟨g', k * 12 + 3, none⟩ = some (.int .i64 b.job.dl) := hcl' 3 _ rfl
  have b4 : w.cell? ⟨g', k * 12 + 4, none⟩ = some (.int .i64 b.job.len) := hcl' 4 _ rfl
  have b5 : w.cell? ⟨g', k * 12 + 5, none⟩ = some (.int .i64 b.job.units) := hcl' 5 _ rfl
  have b6 : w.cell? ⟨g', k * 12 + 6, none⟩ = some (.int .i64 b.job.val) := hcl' 6 _ rfl
  have e7 : ∀ o, (w.alloc o).cell? ⟨p, 7, none⟩ = some (.slice (some ⟨g', 0, none⟩) m.bids.length cap') := fun o => by rw [World.cell?_alloc_lt _ _ _ (by exact hpl)]; exact c7
  have e2 : ∀ o, (w.alloc o).cell? ⟨g', k * 12 + 2, none⟩ = some (.int .i64 b.job.arr) := fun o => by rw [World.cell?_alloc_lt _ _ _ (by exact hgl)]; exact b2
  have e3 : ∀ o, (w.alloc o).cell? ⟨g', k * 12 + 3, none⟩ = some (.int .i64 b.job.dl) := fun o => by rw [World.cell?_alloc_lt _ _ _ (by exact hgl)]; exact b3
  have e4 : ∀ o, (w.alloc o).cell? ⟨g', k * 12 + 4, none⟩ = some (.int .i64 b.job.len) := fun o => by rw [World.cell?_alloc_lt _ _ _ (by exact hgl)]; exact b4
  have e5 : ∀ o, (w.alloc o).cell? ⟨g', k * 12 + 5, none⟩ = some (.int .i64 b.job.units) := fun o => by rw [World.cell?_alloc_lt _ _ _ (by exact hgl)]; exact b5
  have e6 : ∀ o, (w.alloc o).cell? ⟨g', k * 12 + 6, none⟩ = some (.int .i64 b.job.val) := fun o => by rw [World.cell?_alloc_lt _ _ _ (by exact hgl)]; exact b6
  obtain ⟨ja, hja'⟩ : ∃ ja, ja = a.job := ⟨_, rfl⟩
  obtain ⟨jb, hjb'⟩ : ∃ jb, jb = b.job := ⟨_, rfl⟩
  rw [← hja'] at a2 a3 a4 a5 a6 hsa hva ⊢
  rw [← hjb'] at e2 e3 e4 e5 e6 b2 b3 b4 b5 b6 hsb hvb ⊢
  have hx := mul_lt (a := ja.val) (b := sizeJ jb) (A := 1048576) (B := 64000) (by omega) (by omega) (by omega) (by omega)
  have hy := mul_lt (a := jb.val) (b := sizeJ ja) (A := 1048576) (B := 64000) (by omega) (by omega) (by omega) (by omega)
  clear hcl hcl' hv hv' hown hown' hm hok ha hb hcf hja hjb hja' hjb' hva hvb
  generalize m.bids.length = n at *
  have HSA := hide hsa
  have HSB := hide hsb
  clear hsa hsb
  go_enter Try.func130, Try.ntmps130
  go_wp2
  clear c7 a2 a3 a4 a5 a6 b2 b3 b4 b5 b6 e2 e3 e4 e5 e6 e7
  obtain ⟨w2, hw2⟩ : ∃ w2, w2 = (w.alloc (.cells #[.int .i64 ja.arr, .int .i64 ja.dl, .int .i64 ja.len, .int .i64 ja.units, .int .i64 ja.val] 58)).alloc (.cells #[.int .i64 jb.arr, .int .i64 jb.dl, .int .i64 jb.len, .int .i64 jb.units, .int .i64 jb.val] 58) := ⟨_, rfl⟩
  rw [← hw2]
  have hbA : w2.heap[w.heap.size]? = some (.cells #[.int .i64 ja.arr, .int .i64 ja.dl, .int .i64 ja.len, .int .i64 ja.units, .int .i64 ja.val] 58 (0, 0)) := by rw [hw2, Below.heap_alloc _ _ _ (by simp)]; exact heap_alloc_new w _
  have hbB : w2.heap[w.heap.size + 1]? = some (.cells #[.int .i64 jb.arr, .int .i64 jb.dl, .int .i64 jb.len, .int .i64 jb.units, .int .i64 jb.val] 58 (0, 0)) := by
    rw [hw2]
    have := heap_alloc_new (w.alloc (.cells #[.int .i64 ja.arr, .int .i64 ja.dl, .int .i64 ja.len, .int .i64 ja.units, .int .i64 ja.val] 58)) (.cells #[.int .i64 jb.arr, .int .i64 jb.dl, .int .i64 jb.len, .int .i64 jb.units, .int .i64 jb.val] 58)
    simpa using this
  have HC2 : Hid (Chg (fun _ => False) w w2) := by rw [hw2]; exact ((Chg.refl _ _).alloc _).alloc _
  have lA := heap_get_lt hbA
  have lB := heap_get_lt hbB
  clear hw2
  have HA := hide (fun (w' : World) (hc : Chg (fun _ => False) w2 w') => show w'.heap[w.heap.size]? = some (.cells #[.int .i64 ja.arr, .int .i64 ja.dl, .int .i64 ja.len, .int .i64 ja.units, .int .i64 ja.val] 58 (0, 0)) from (hc.block _ lA (fun h => h)).trans hbA)
  have HB := hide (fun (w' : World) (hc : Chg (fun _ => False) w2 w') => show w'.heap[w.heap.size + 1]? = some (.cells #[.int .i64 jb.arr, .int .i64 jb.dl, .int .i64 jb.len, .int .i64 jb.units, .int .i64 jb.val] 58 (0, 0)) from (hc.block _ lB (fun h => h)).trans hbB)
  have A4 : w2.cell? ⟨w.heap.size, 4, none⟩ = some (.int .i64 ja.val) := by unfold World.cell?; rw [hbA]; rfl
  have B0 : w2.cell? ⟨w.heap.size + 1, 0, none⟩ = some (.int .i64 jb.arr) := by unfold World.cell?; rw [hbB]; rfl
  have B1 : w2.cell? ⟨w.heap.size + 1, 1, none⟩ = some (.int .i64 jb.dl) := by unfold World.cell?; rw [hbB]; rfl
  have B2 : w2.cell? ⟨w.heap.size + 1, 2, none⟩ = some (.int .i64 jb.len) := by unfold World.cell?; rw [hbB]; rfl
  have B3 : w2.cell? ⟨w.heap.size + 1, 3, none⟩ = some (.int .i64 jb.units) := by unfold World.cell?; rw [hbB]; rfl
  have B4 : w2.cell? ⟨w.heap.size + 1, 4, none⟩ = some (.int .i64 jb.val) := by unfold World.cell?; rw [hbB]; rfl
  have hwx : IntKind.i64.wrap (ja.val * sizeJ jb) = ja.val * sizeJ jb := by rw [IntKind.wrap_i64]; omega
  have hwy : IntKind.i64.wrap (jb.val * sizeJ ja) = jb.val * sizeJ ja := by rw [IntKind.wrap_i64]; omega
  have HSZ1 := hide (size_any jb w2.drew (by have := HSB.out; omega) (by have := HSB.out; omega))
  clear hbA hbB hx hy
  go_region_held3 (fun w' => w'.cell? ⟨w.heap.size, 4, none⟩ = some (.int .i64 ja.val) ∧ w'.cell? ⟨w.heap.size + 1, 0, none⟩ = some (.int .i64 jb.arr) ∧ w'.cell? ⟨w.heap.size + 1, 1, none⟩ = some (.int .i64 jb.dl) ∧ w'.cell? ⟨w.heap.size + 1, 2, none⟩ = some (.int .i64 jb.len) ∧ w'.cell? ⟨w.heap.size + 1, 3, none⟩ = some (.int .i64 jb.units) ∧ w'.cell? ⟨w.heap.size + 1, 4, none⟩ = some (.int .i64 jb.val)) (go_keep)
    (first | (go_at_call 122; refine HSZ1.out.mono ?_; rintro e w3 ⟨rfl, hq⟩; have x0 := hq.cell (p := ⟨w.heap.size, 4, none⟩) lA (fun h => h); have x1 := hq.cell (p := ⟨w.heap.size + 1, 0, none⟩) lB (fun h => h); have x2 := hq.cell (p := ⟨w.heap.size + 1, 1, none⟩) lB (fun h => h); have x3 := hq.cell (p := ⟨w.heap.size + 1, 2, none⟩) lB (fun h => h); have x4 := hq.cell (p := ⟨w.heap.size + 1, 3, none⟩) lB (fun h => h); have x5 := hq.cell (p := ⟨w.heap.size + 1, 4, none⟩) lB (fun h => h); have HQ := hide hq; clear hq))
  all_goals
    clear x0 x1 x2 x3 x4 x5 A4 B0 B1 B2 B3 B4 HSZ1
    have HC3 : Hid (Chg (fun _ => False) w2 w3) := ⟨HQ.out.os, HQ.out.tape, HQ.out.output, HQ.out.size, HQ.out.block⟩
    have lA3 : w.heap.size < w3.heap.size := heap_get_lt (HA.out w3 HC3.out)
    have lB3 : w.heap.size + 1 < w3.heap.size := heap_get_lt (HB.out w3 HC3.out)
    have B4 : w3.cell? ⟨w.heap.size + 1, 4, none⟩ = some (.int .i64 jb.val) := by unfold World.cell?; rw [HB.out w3 HC3.out]; rfl
    have A0 : w3.cell? ⟨w.heap.size, 0, none⟩ = some (.int .i64 ja.arr) := by unfold World.cell?; rw [HA.out w3 HC3.out]; rfl
    have A1 : w3.cell? ⟨w.heap.size, 1, none⟩ = some (.int .i64 ja.dl) := by unfold World.cell?; rw [HA.out w3 HC3.out]; rfl
    have A2 : w3.cell? ⟨w.heap.size, 2, none⟩ = some (.int .i64 ja.len) := by unfold World.cell?; rw [HA.out w3 HC3.out]; rfl
    have A3 : w3.cell? ⟨w.heap.size, 3, none⟩ = some (.int .i64 ja.units) := by unfold World.cell?; rw [HA.out w3 HC3.out]; rfl
    have A4 : w3.cell? ⟨w.heap.size, 4, none⟩ = some (.int .i64 ja.val) := by unfold World.cell?; rw [HA.out w3 HC3.out]; rfl
    have HSZ2 := hide (size_any ja w3.drew (by have := HSA.out; omega) (by have := HSA.out; omega))
    have HAHE := hide (show aheadJ ja jb i k = (decide (jb.val * sizeJ ja < ja.val * sizeJ jb) || ((ja.val * sizeJ jb == jb.val * sizeJ ja) && decide (i < k))) from rfl)
    clear HSA HSB
    go_wp2
    go_region_held3 (fun w' => w'.cell? ⟨w.heap.size + 1, 4, none⟩ = some (.int .i64 jb.val) ∧ w'.cell? ⟨w.heap.size, 0, none⟩ = some (.int .i64 ja.arr) ∧ w'.cell? ⟨w.heap.size, 1, none⟩ = some (.int .i64 ja.dl) ∧ w'.cell? ⟨w.heap.size, 2, none⟩ = some (.int .i64 ja.len) ∧ w'.cell? ⟨w.heap.size, 3, none⟩ = some (.int .i64 ja.units) ∧ w'.cell? ⟨w.heap.size, 4, none⟩ = some (.int .i64 ja.val)) (go_keep)
      (first | (go_at_call 122; refine HSZ2.out.mono ?_; rintro e w4 ⟨rfl, hq⟩; have x0 := hq.cell (p := ⟨w.heap.size + 1, 4, none⟩) lB3 (fun h => h); have x1 := hq.cell (p := ⟨w.heap.size, 0, none⟩) lA3 (fun h => h); have x2 := hq.cell (p := ⟨w.heap.size, 1, none⟩) lA3 (fun h => h); have x3 := hq.cell (p := ⟨w.heap.size, 2, none⟩) lA3 (fun h => h); have x4 := hq.cell (p := ⟨w.heap.size, 3, none⟩) lA3 (fun h => h); have x5 := hq.cell (p := ⟨w.heap.size, 4, none⟩) lA3 (fun h => h); have HQ2 := hide hq; clear hq))
    all_goals
      clear x0 x1 x2 x3 x4 x5 A0 A1 A2 A3 A4 B4 HSZ2 hwx hwy
      have HC4 : Hid (Chg (fun _ => False) w w4) := HC2.out.trans (HC3.out.trans (show Chg (fun _ => False) w3 w4 from ⟨HQ2.out.os, HQ2.out.tape, HQ2.out.output, HQ2.out.size, HQ2.out.block⟩) (fun _ _ h => h)) (fun _ _ h => h)
      clear HQ HQ2
      generalize ja.val * sizeJ jb = X at *
      generalize jb.val * sizeJ ja = Y at *
      by_cases h1 : Y < X
      · go_wp2
        go_ret
        exact ⟨ret_bool (by rw [HAHE.out]; simp [h1]), HC4.out⟩
      · cases h2 : X == Y
        · go_wp2
          go_ret
          exact ⟨ret_bool (by rw [HAHE.out]; simp [h1, h2]), HC4.out⟩
        · have h2' : X = Y := by simpa using h2
          subst h2'
          by_cases h3 : i < k
          · go_wp2
            go_ret
            exact ⟨ret_bool (by rw [HAHE.out]; simp [h3]), HC4.out⟩
          · go_wp2
            go_ret
            exact ⟨ret_bool (by rw [HAHE.out]; simp [h3]), HC4.out⟩
end Go.Proofs.Ytccfademkgjeiaa
