import Derived.Test.YtminceigjejipabGreatG4
import Derived.Test.YtminceigjejipabGreatG7
namespace Go.Proofs.YtminceigjejipabGreat
open Go.RowKit

theorem heap_get_lt {w : World} {p : Nat} {o : Obj} (h : w.heap[p]? = some o) : p < w.heap.size := (Array.getElem?_eq_some_iff.1 h).1

set_option maxRecDepth 100000 in
set_option maxHeartbeats 4000000 in
theorem ahead_at (p : Nat) (V : MV) (m : MkG) (i k : Nat) (a b : BidG) (w : World) (hm : MktAt w p V m) (hok : MkOk m) (ha : m.bids[i]? = some a) (hb : m.bids[k]? = some b) :
    Calls Tryz.prog 92 #[.pointer (some ⟨p, 0, none⟩), .int .i64 i, .int .i64 k] w fun e w' => e = .returned (.bool (aheadJ a.job b.job i k)) ∧ Chg (fun _ => False) w w' := by
  obtain ⟨g, cap, hv, hown, hgl, hcl, _⟩ := hm.bidCell ha
  obtain ⟨g', cap', hv', hown', hgl', hcl', _⟩ := hm.bidCell hb
  have hgg : g' = g ∧ cap' = cap := by rw [hv] at hv'; simp at hv'; exact ⟨hv'.1.symm, hv'.2.symm⟩
  obtain ⟨rfl, rfl⟩ := hgg
  have hil : (i : Int) < (m.bids.length : Int) := by have := (List.getElem?_eq_some_iff.1 ha).1; omega
  have hkl : (k : Int) < (m.bids.length : Int) := by have := (List.getElem?_eq_some_iff.1 hb).1; omega
  have i0 : (0 : Int) ≤ (i : Int) := by omega
  have k0 : (0 : Int) ≤ (k : Int) := by omega
  have hcf := cfgOk_true hok.ck
  have hja := (hok.bid a (List.mem_of_getElem? ha)).job
  have hjb := (hok.bid b (List.mem_of_getElem? hb)).job
  have hsa := sizeJ_pos hja hcf.1.2
  have hsb := sizeJ_pos hjb hcf.1.2
  have hva := jobIn_true hja
  have hvb := jobIn_true hjb
  have hpl := hm.lt
  have c7 : w.cell? ⟨p, 7, none⟩ = some (.slice (some ⟨g', 0, none⟩) m.bids.length cap') := by rw [← hv]; exact hm.cell 7
  have a2 : w.cell? ⟨g', i * 12 + 2, none⟩ = some (.int .i64 a.job.arr) := hcl 2 _ rfl
  have a3 : w.cell? ⟨g', i * 12 + 3, none⟩ = some (.int .i64 a.job.dl) := hcl 3 _ rfl
  have a4 : w.cell? ⟨g', i * 12 + 4, none⟩ = some (.int .i64 a.job.len) := hcl 4 _ rfl
  have a5 : w.cell? ⟨g', i * 12 + 5, none⟩ = some (.int .i64 a.job.units) := hcl 5 _ rfl
  have a6 : w.cell? ⟨g', i * 12 + 6, none⟩ = some (.int .i64 a.job.val) := hcl 6 _ rfl
  have b2 : w.cell? ⟨g', k * 12 + 2, none⟩ = some (.int .i64 b.job.arr) := hcl' 2 _ rfl
  have b3 : w.cell? ⟨g', k * 12 + 3, none⟩ = some (.int .i64 b.job.dl) := hcl' 3 _ rfl
  have b4 : w.cell? ⟨g', k * 12 + 4, none⟩ = some (.int .i64 b.job.len) := hcl' 4 _ rfl
  have b5 : w.cell? ⟨g', k * 12 + 5, none⟩ = some (.int .i64 b.job.units) := hcl' 5 _ rfl
  have b6 : w.cell? ⟨g', k * 12 + 6, none⟩ = some (.int .i64 b.job.val) := hcl' 6 _ rfl
  have e7 : ∀ o, (w.alloc o).cell? ⟨p, 7, none⟩ = some (.slice (some ⟨g', 0, none⟩) m.bids.length cap') := fun o => by rw [World.cell?_alloc_lt _ _ _ (by exact hpl)]; exact c7
  have e2 : ∀ o, (w.alloc o).cell? ⟨g', k * 12 + 2, none⟩ = some (.int .i64 b.job.arr) := fun o => by rw [World.cell?_alloc_lt _ _ _ (by exact hgl)]; exact b2
  have e3 : ∀ o, (w.alloc o).cell? ⟨g', k * 12 + 3, none⟩ = some (.int .i64 b.job.dl) := fun o => by rw [World.cell?_alloc_lt _ _ _ (by exact hgl)]; exact b3
  have e4 : ∀ o, (w.alloc o).cell? ⟨g', k * 12 + 4, none⟩ = some (.int .i64 b.job.len) := fun o => by rw [World.cell?_alloc_lt _ _ _ (by exact hgl)]; exact b4
  have e5 : ∀ o, (w.alloc o).cell? ⟨g', k * 12 + 5, none⟩ = some (.int .i64 b.job.units) := fun o => by rw [World.cell?_alloc_lt _ _ _ (by exact hgl)]; exact b5
  have e6 : ∀ o, (w.alloc o).cell? ⟨g', k * 12 + 6, none⟩ = some (.int .i64 b.job.val) := fun o => by rw [World.cell?_alloc_lt _ _ _ (by exact hgl)]; exact b6
  obtain ⟨ja, hja'⟩ : ∃ ja, ja = a.job := ⟨_, rfl⟩
  obtain ⟨jb, hjb'⟩ : ∃ jb, jb = b.job := ⟨_, rfl⟩
  rw [← hja'] at a2 a3 a4 a5 a6 hsa hva ⊢
  rw [← hjb'] at e2 e3 e4 e5 e6 b2 b3 b4 b5 b6 hsb hvb ⊢
  have hx := mul_lt (a := ja.val) (b := sizeJ jb) (A := 1048576) (B := 64000) (by omega) (by omega) (by omega) (by omega)
  have hy := mul_lt (a := jb.val) (b := sizeJ ja) (A := 1048576) (B := 64000) (by omega) (by omega) (by omega) (by omega)
  clear hcl hcl' hv hv' hown hown' hm hok ha hb hcf hja hjb hja' hjb' hva hvb
  generalize m.bids.length = n at *
  have HSA := hide hsa
  have HSB := hide hsb
  clear hsa hsb
  go_enter Tryz.func92, Tryz.ntmps92
  go_wp2
  clear c7 a2 a3 a4 a5 a6 b2 b3 b4 b5 b6 e2 e3 e4 e5 e6 e7
  obtain ⟨w2, hw2⟩ : ∃ w2, w2 = (w.alloc (.cells #[.int .i64 ja.arr, .int .i64 ja.dl, .int .i64 ja.len, .int .i64 ja.units, .int .i64 ja.val] 35)).alloc (.cells #[.int .i64 jb.arr, .int .i64 jb.dl, .int .i64 jb.len, .int .i64 jb.units, .int .i64 jb.val] 35) := ⟨_, rfl⟩
  rw [← hw2]
  have hbA : w2.heap[w.heap.size]? = some (.cells #[.int .i64 ja.arr, .int .i64 ja.dl, .int .i64 ja.len, .int .i64 ja.units, .int .i64 ja.val] 35 (0, 0)) := by rw [hw2, Below.heap_alloc _ _ _ (by simp)]; exact heap_alloc_new w _
  have hbB : w2.heap[w.heap.size + 1]? = some (.cells #[.int .i64 jb.arr, .int .i64 jb.dl, .int .i64 jb.len, .int .i64 jb.units, .int .i64 jb.val] 35 (0, 0)) := by
    rw [hw2]
    have := heap_alloc_new (w.alloc (.cells #[.int .i64 ja.arr, .int .i64 ja.dl, .int .i64 ja.len, .int .i64 ja.units, .int .i64 ja.val] 35)) (.cells #[.int .i64 jb.arr, .int .i64 jb.dl, .int .i64 jb.len, .int .i64 jb.units, .int .i64 jb.val] 35)
    simpa using this
  have HC2 : Hid (Chg (fun _ => False) w w2) := by rw [hw2]; exact ((Chg.refl _ _).alloc _).alloc _
  have lA := heap_get_lt hbA
  have lB := heap_get_lt hbB
  clear hw2
  have HA := hide (fun (w' : World) (hc : Chg (fun _ => False) w2 w') => show w'.heap[w.heap.size]? = some (.cells #[.int .i64 ja.arr, .int .i64 ja.dl, .int .i64 ja.len, .int .i64 ja.units, .int .i64 ja.val] 35 (0, 0)) from (hc.block _ lA (fun h => h)).trans hbA)
  have HB := hide (fun (w' : World) (hc : Chg (fun _ => False) w2 w') => show w'.heap[w.heap.size + 1]? = some (.cells #[.int .i64 jb.arr, .int .i64 jb.dl, .int .i64 jb.len, .int .i64 jb.units, .int .i64 jb.val] 35 (0, 0)) from (hc.block _ lB (fun h => h)).trans hbB)
  have A4 : w2.cell? ⟨w.heap.size, 4, none⟩ = some (.int .i64 ja.val) := by unfold World.cell?; rw [hbA]; rfl
  have B0 : w2.cell? ⟨w.heap.size + 1, 0, none⟩ = some (.int .i64 jb.arr) := by unfold World.cell?; rw [hbB]; rfl
  have B1 : w2.cell? ⟨w.heap.size + 1, 1, none⟩ = some (.int .i64 jb.dl) := by unfold World.cell?; rw [hbB]; rfl
  have B2 : w2.cell? ⟨w.heap.size + 1, 2, none⟩ = some (.int .i64 jb.len) := by unfold World.cell?; rw [hbB]; rfl
  have B3 : w2.cell? ⟨w.heap.size + 1, 3, none⟩ = some (.int .i64 jb.units) := by unfold World.cell?; rw [hbB]; rfl
  have B4 : w2.cell? ⟨w.heap.size + 1, 4, none⟩ = some (.int .i64 jb.val) := by unfold World.cell?; rw [hbB]; rfl
  have hwx : IntKind.i64.wrap (ja.val * sizeJ jb) = ja.val * sizeJ jb := by rw [IntKind.wrap_i64]; omega
  have hwy : IntKind.i64.wrap (jb.val * sizeJ ja) = jb.val * sizeJ ja := by rw [IntKind.wrap_i64]; omega
  have HSZ1 := hide (size_any jb w2.drew (by have := HSB.out; omega) (by have := HSB.out; omega))
  clear hbA hbB hx hy
  go_region_held3 (fun w' => w'.cell? ⟨w.heap.size, 4, none⟩ = some (.int .i64 ja.val) ∧ w'.cell? ⟨w.heap.size + 1, 0, none⟩ = some (.int .i64 jb.arr) ∧ w'.cell? ⟨w.heap.size + 1, 1, none⟩ = some (.int .i64 jb.dl) ∧ w'.cell? ⟨w.heap.size + 1, 2, none⟩ = some (.int .i64 jb.len) ∧ w'.cell? ⟨w.heap.size + 1, 3, none⟩ = some (.int .i64 jb.units) ∧ w'.cell? ⟨w.heap.size + 1, 4, none⟩ = some (.int .i64 jb.val)) (go_keep)
    (first | (go_at_call 77; refine HSZ1.out.mono ?_; rintro e w3 ⟨rfl, hq⟩; have x0 := hq.cell (p := ⟨w.heap.size, 4, none⟩) lA (fun h => h); have x1 := hq.cell (p := ⟨w.heap.size + 1, 0, none⟩) lB (fun h => h); have x2 := hq.cell (p := ⟨w.heap.size + 1, 1, none⟩) lB (fun h => h); have x3 := hq.cell (p := ⟨w.heap.size + 1, 2, none⟩) lB (fun h => h); have x4 := hq.cell (p := ⟨w.heap.size + 1, 3, none⟩) lB (fun h => h); have x5 := hq.cell (p := ⟨w.heap.size + 1, 4, none⟩) lB (fun h => h); have HQ := hide hq; clear hq))
  all_goals
    clear x0 x1 x2 x3 x4 x5 A4 B0 B1 B2 B3 B4 HSZ1
    have HC3 : Hid (Chg (fun _ => False) w2 w3) := ⟨HQ.out.os, HQ.out.tape, HQ.out.output, HQ.out.size, HQ.out.block⟩
    have lA3 : w.heap.size < w3.heap.size := heap_get_lt (HA.out w3 HC3.out)
    have lB3 : w.heap.size + 1 < w3.heap.size := heap_get_lt (HB.out w3 HC3.out)
    have B4 : w3.cell? ⟨w.heap.size + 1, 4, none⟩ = some (.int .i64 jb.val) := by unfold World.cell?; rw [HB.out w3 HC3.out]; rfl
    have A0 : w3.cell? ⟨w.heap.size, 0, none⟩ = some (.int .i64 ja.arr) := by unfold World.cell?; rw [HA.out w3 HC3.out]; rfl
    have A1 : w3.cell? ⟨w.heap.size, 1, none⟩ = some (.int .i64 ja.dl) := by unfold World.cell?; rw [HA.out w3 HC3.out]; rfl
    have A2 : w3.cell? ⟨w.heap.size, 2, none⟩ = some (.int .i64 ja.len) := by unfold World.cell?; rw [HA.out w3 HC3.out]; rfl
    have A3 : w3.cell? ⟨w.heap.size, 3, none⟩ = some (.int .i64 ja.units) := by unfold World.cell?; rw [HA.out w3 HC3.out]; rfl
    have A4 : w3.cell? ⟨w.heap.size, 4, none⟩ = some (.int .i64 ja.val) := by unfold World.cell?; rw [HA.out w3 HC3.out]; rfl
    have HSZ2 := hide (size_any ja w3.drew (by have := HSA.out; omega) (by have := HSA.out; omega))
    have HAHE := hide (show aheadJ ja jb i k = (decide (jb.val * sizeJ ja < ja.val * sizeJ jb) || ((ja.val * sizeJ jb == jb.val * sizeJ ja) && decide (i < k))) from rfl)
    clear HSA HSB
    go_wp2
    go_region_held3 (fun w' => w'.cell? ⟨w.heap.size + 1, 4, none⟩ = some (.int .i64 jb.val) ∧ w'.cell? ⟨w.heap.size, 0, none⟩ = some (.int .i64 ja.arr) ∧ w'.cell? ⟨w.heap.size, 1, none⟩ = some (.int .i64 ja.dl) ∧ w'.cell? ⟨w.heap.size, 2, none⟩ = some (.int .i64 ja.len) ∧ w'.cell? ⟨w.heap.size, 3, none⟩ = some (.int .i64 ja.units) ∧ w'.cell? ⟨w.heap.size, 4, none⟩ = some (.int .i64 ja.val)) (go_keep)
      (first | (go_at_call 77; refine HSZ2.out.mono ?_; rintro e w4 ⟨rfl, hq⟩; have x0 := hq.cell (p := ⟨w.heap.size + 1, 4, none⟩) lB3 (fun h => h); have x1 := hq.cell (p := ⟨w.heap.size, 0, none⟩) lA3 (fun h => h); have x2 := hq.cell (p := ⟨w.heap.size, 1, none⟩) lA3 (fun h => h); have x3 := hq.cell (p := ⟨w.heap.size, 2, none⟩) lA3 (fun h => h); have x4 := hq.cell (p := ⟨w.heap.size, 3, none⟩) lA3 (fun h => h); have x5 := hq.cell (p := ⟨w.heap.size, 4, none⟩) lA3 (fun h => h); have HQ2 := hide hq; clear hq))
    all_goals
      clear x0 x1 x2 x3 x4 x5 A0 A1 A2 A3 A4 B4 HSZ2 hwx hwy
      have HC4 : Hid (Chg (fun _ => False) w w4) := HC2.out.trans (HC3.out.trans (show Chg (fun _ => False) w3 w4 from ⟨HQ2.out.os, HQ2.out.tape, HQ2.out.output, HQ2.out.size, HQ2.out.block⟩) (fun _ _ h => h)) (fun _ _ h => h)
      clear HQ HQ2
      generalize ja.val * sizeJ jb = X at *
      generalize jb.val * sizeJ ja = Y at *
      by_cases h1 : Y < X
      · go_wp2
        go_ret
        exact ⟨ret_bool (by rw [HAHE.out]; simp [h1]), HC4.out⟩
      · cases h2 : X == Y
        · go_wp2
          go_ret
          exact ⟨ret_bool (by rw [HAHE.out]; simp [h1, h2]), HC4.out⟩
        · have h2' : X = Y := by simpa using h2
          subst h2'
          by_cases h3 : i < k
          · go_wp2
            go_ret
            exact ⟨ret_bool (by rw [HAHE.out]; simp [h3]), HC4.out⟩
          · go_wp2
            go_ret
            exact ⟨ret_bool (by rw [HAHE.out]; simp [h3]), HC4.out⟩
end Go.Proofs.YtminceigjejipabGreat

namespace Go.Proofs.YtminceigjejipabGreat
open Go.RowKit

theorem freeV_range {m : MkG} (hok : MkOk m) (t : Int) : -300000 ≤ freeV m t ∧ freeV m t ≤ 100000 := by
  unfold freeV
  split
  · omega
  · rename_i h
    have hnu := hok.nu
    have hcf := cfgOk_true hok.ck
    have hi : t.toNat < m.units.length := by omega
    have hu := hok.un (m.units.getD t.toNat 0) (by simp [List.getD, List.getElem?_eq_getElem hi])
    have hus := usedL_le m.c t m.bids hok.bid
    have hbl := hok.bl
    omega

theorem fitsB_iff {m : MkG} {b : BidG} {t : Int} : fitsB m b t = true ↔ ∀ s : Nat, (s : Int) < b.job.len → b.job.units ≤ freeV m (t + s) := by
  simp only [fitsB, List.all_eq_true, List.mem_range, decide_eq_true_eq]
  constructor
  · intro h s hs
    exact h s (by omega)
  · intro h s hs
    exact h s (by omega)

set_option maxRecDepth 100000 in
set_option maxHeartbeats 4000000 in
theorem fits_at (p : Nat) (V : MV) (m : MkG) (i : Nat) (b : BidG) (t : Int) (w : World) (hm : MktAt w p V m) (hok : MkOk m) (hb : m.bids[i]? = some b) (ht0 : 0 ≤ t) (ht1 : t ≤ 64) :
    Calls Tryz.prog 75 #[.pointer (some ⟨p, 0, none⟩), .int .i64 i, .int .i64 t] w fun e w' => e = .returned (.bool (fitsB m b t)) ∧ Chg (fun _ => False) w w' := by
  obtain ⟨g, cap, hv, hown, hgl, hcl, _⟩ := hm.bidCell hb
  have hil : (i : Int) < (m.bids.length : Int) := by have := (List.getElem?_eq_some_iff.1 hb).1; omega
  have i0 : (0 : Int) ≤ (i : Int) := by omega
  have hj := jobIn_true (hok.bid b (List.mem_of_getElem? hb)).job
  have hcf := cfgOk_true hok.ck
  have hpl := hm.lt
  have HC7 := hide (show w.cell? ⟨p, 7, none⟩ = some (.slice (some ⟨g, 0, none⟩) m.bids.length cap) by rw [← hv]; exact hm.cell 7)
  have HB4 := hide (show w.cell? ⟨g, i * 12 + 4, none⟩ = some (.int .i64 b.job.len) from hcl 4 _ rfl)
  have HB5 := hide (show w.cell? ⟨g, i * 12 + 5, none⟩ = some (.int .i64 b.job.units) from hcl 5 _ rfl)
  have HM := hide hm
  have HOK := hide hok
  have hl : 1 ≤ b.job.len ∧ b.job.len ≤ 64 := by omega
  obtain ⟨l1, l2⟩ := hl
  clear hcl hv hown hm hok hb hj hcf
  generalize m.bids.length = n at *
  go_enter Tryz.func75, Tryz.ntmps75
  go_wp2
  go_loopw [7] (fun x wr => ∃ s : Nat, (s : Int) ≤ b.job.len ∧ x = .int .i64 (t + s) ∧ (∀ s' : Nat, s' < s → b.job.units ≤ freeV m (t + s')) ∧ Chg (fun _ => False) w wr) (fun x _ => (t + b.job.len - intOf x).toNat)
  case atStart => exact ⟨0, by omega, by simp, fun s' h => by omega, Chg.refl _ _⟩
  case round =>
    obtain ⟨s, hs, rfl, hno, hch⟩ := hrel
    have HNO := hide hno
    have HCH := hide hch
    have c7 : wr.cell? ⟨p, 7, none⟩ = some (.slice (some ⟨g, 0, none⟩) n cap) := by rw [hch.cell (by exact hpl) (fun h => h)]; exact HC7.out
    have b4 : wr.cell? ⟨g, i * 12 + 4, none⟩ = some (.int .i64 b.job.len) := by rw [hch.cell (by exact hgl) (fun h => h)]; exact HB4.out
    clear hno hch
    by_cases hlt : (s : Int) < b.job.len
    · go_wp2_with fail
      refine (free_any p V m (t + s) _ (HM.out.chg0 HCH.out) HOK.out).mono ?_
      rintro e w2 ⟨rfl, hq⟩
      have hch2 := HCH.out.trans hq (fun _ _ h => h)
      have HCH2 := hide hch2
      have hrange := freeV_range HOK.out (t + s)
      obtain ⟨f, hf⟩ : ∃ f, f = freeV m (t + s) := ⟨_, rfl⟩
      rw [← hf] at hrange ⊢
      have HF := hide hf
      obtain ⟨fe, hfe⟩ : ∃ fe, fe = freeE m (t + s) := ⟨_, rfl⟩
      rw [← hfe]
      clear hfe hf
      have c7' : w2.cell? ⟨p, 7, none⟩ = some (.slice (some ⟨g, 0, none⟩) n cap) := by rw [hch2.cell (by exact hpl) (fun h => h)]; exact HC7.out
      have b5 : w2.cell? ⟨g, i * 12 + 5, none⟩ = some (.int .i64 b.job.units) := by rw [hch2.cell (by exact hgl) (fun h => h)]; exact HB5.out
      clear hq hch2 c7 b4
      by_cases hfu : f < b.job.units
      · have E := hide (show fitsB m b t = false by
          cases hb : fitsB m b t
          · rfl
          · have := fitsB_iff.1 hb s hlt
            rw [← HF.out] at this
            omega)
        go_wp2
        go_ret
        exact ⟨ret_bool E.out.symm, HCH2.out⟩
      · go_wp2
        go_roundw
        case rel =>
          refine ⟨s + 1, by omega, by go_num, fun s' h => ?_, HCH2.out⟩
          by_cases e : s' < s
          · exact HNO.out s' e
          · obtain rfl : s' = s := by omega
            rw [← HF.out]
            omega
        case measure => simp [intOf]; omega
    · have E := hide (show fitsB m b t = true from fitsB_iff.2 (fun s' h => HNO.out s' (by omega)))
      go_wp2
      go_ret
      exact ⟨ret_bool E.out.symm, HCH.out⟩

theorem nextGo_lt (m : MkG) (t : Int) (lk : Nat → Bool) : ∀ k, -1 ≤ nextGo m t lk k ∧ nextGo m t lk k < (k : Int)
  | 0 => by simp [nextGo]
  | k + 1 => by
    have ih := nextGo_lt m t lk k
    unfold nextGo
    simp only
    split
    · split
      · omega
      · omega
    · omega
theorem nextGo_succ {m : MkG} {t : Int} {lk : Nat → Bool} {k : Nat} {b : BidG} (hb : m.bids[k]? = some b) : nextGo m t lk (k + 1) = if candB m t b && !lk k && (decide (nextGo m t lk k < 0) || aheadI m.bids k (nextGo m t lk k).toNat) then (k : Int) else nextGo m t lk k := by
  rw [nextGo]
  simp only [hb]

/-- a list of marks in memory -/
def LkAt (w : World) (lv : Value) (n : Nat) (lk : Nat → Bool) : Prop := ∃ ao cap, lv = .slice ao n cap ∧ ∀ j, j < n → ∃ g, ao = some ⟨g, 0, none⟩ ∧ g < w.heap.size ∧ w.cell? ⟨g, j, none⟩ = some (.bool (lk j)) ∧ w.frozen? ⟨g, j, none⟩ = false

theorem LkAt.chg0 {w w' : World} {lv : Value} {n : Nat} {lk : Nat → Bool} (h : LkAt w lv n lk) (hc : Chg (fun _ => False) w w') : LkAt w' lv n lk := by
  obtain ⟨ao, cap, hv, h⟩ := h
  refine ⟨ao, cap, hv, fun j hj => ?_⟩
  obtain ⟨g, h1, h2, h3, h4⟩ := h j hj
  exact ⟨g, h1, Nat.lt_of_lt_of_le h2 hc.size, by rw [hc.cell (by exact h2) (fun h => h)]; exact h3, by rw [hc.frozen (by exact h2) (fun h => h)]; exact h4⟩
end Go.Proofs.YtminceigjejipabGreat
