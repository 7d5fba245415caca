import Derived.Test.YtminceigjejipaaG13
import Derived.Test.YtminceigjejipaaG14
import Derived.Test.YtminceigjejipaaYt2
/-
  yardkeep: size, before, room, index.
-/
namespace Go.Proofs.Ytminceigjejipaa
open Go.RowKit

set_option maxHeartbeats 1000000 in
theorem ksz_any (j : JobG) (w : World) (h : sizeJ j ≤ 64000) (h0 : 0 ≤ sizeJ j) :
    Calls Try.prog 54 #[.agg #[.int .i64 j.arr, .int .i64 j.dl, .int .i64 j.len, .int .i64 j.units, .int .i64 j.val]] w fun e w' => e = .returned (.int .i64 (sizeJ j)) ∧ Chg (fun _ => False) w w' := by
  have hw : IntKind.i64.wrap (j.len * j.units) = j.len * j.units := by unfold sizeJ at h h0; rw [IntKind.wrap_i64]; omega
  clear h h0
  go_enter Try.func54, Try.ntmps54
  go_wp2
  go_ret
  exact ⟨ret_int (by first | rfl | rw [hw]; rfl), (Chg.refl _ _).alloc _⟩

set_option maxRecDepth 100000 in
set_option maxHeartbeats 4000000 in
theorem before_any (ja jb : JobG) (i k : Nat) (w : World) (hsa : 1 ≤ sizeJ ja ∧ sizeJ ja ≤ 64000) (hsb : 1 ≤ sizeJ jb ∧ sizeJ jb ≤ 64000) (hva : 1 ≤ ja.val ∧ ja.val ≤ 1048576) (hvb : 1 ≤ jb.val ∧ jb.val ≤ 1048576) :
    Calls Try.prog 55 #[.agg #[.int .i64 ja.arr, .int .i64 ja.dl, .int .i64 ja.len, .int .i64 ja.units, .int .i64 ja.val], .int .i64 i, .agg #[.int .i64 jb.arr, .int .i64 jb.dl, .int .i64 jb.len, .int .i64 jb.units, .int .i64 jb.val], .int .i64 k] w fun e w' => e = .returned (.bool (aheadJ ja jb i k)) ∧ Chg (fun _ => False) w w' := by
  have hx := mul_lt (a := ja.val) (b := sizeJ jb) (A := 1048576) (B := 64000) (by omega) (by omega) (by omega) (by omega)
  have hy := mul_lt (a := jb.val) (b := sizeJ ja) (A := 1048576) (B := 64000) (by omega) (by omega) (by omega) (by omega)
  have hwx : IntKind.i64.wrap (ja.val * sizeJ jb) = ja.val * sizeJ jb := by rw [IntKind.wrap_i64]; omega
  have hwy : IntKind.i64.wrap (jb.val * sizeJ ja) = jb.val * sizeJ ja := by rw [IntKind.wrap_i64]; omega
  have HZA := hide (fun (w' : World) => ksz_any ja w' hsa.2 (by omega))
  have HZB := hide (fun (w' : World) => ksz_any jb w' hsb.2 (by omega))
  obtain ⟨r, hr⟩ : ∃ r, r = aheadJ ja jb i k := ⟨_, rfl⟩
  have HR : Hid (r = (decide (jb.val * sizeJ ja < ja.val * sizeJ jb) || ((ja.val * sizeJ jb == jb.val * sizeJ ja) && decide ((i : Int) < (k : Int))))) := by
    rw [hr]
    unfold aheadJ
    congr 2
    simp
  rw [← hr]
  clear hsa hsb hva hvb hx hy hr
  generalize sizeJ ja = sa at *
  generalize sizeJ jb = sb at *
  go_enter Try.func55, Try.ntmps55
  go_wp2
  obtain ⟨w2, hw2⟩ : ∃ w2, w2 = (w.alloc (.cells #[.int .i64 ja.arr, .int .i64 ja.dl, .int .i64 ja.len, .int .i64 ja.units, .int .i64 ja.val] 54)).alloc (.cells #[.int .i64 jb.arr, .int .i64 jb.dl, .int .i64 jb.len, .int .i64 jb.units, .int .i64 jb.val] 54) := ⟨_, rfl⟩
  rw [← hw2]
  have hbA : w2.heap[w.heap.size]? = some (.cells #[.int .i64 ja.arr, .int .i64 ja.dl, .int .i64 ja.len, .int .i64 ja.units, .int .i64 ja.val] 54 (0, 0)) := by rw [hw2, Below.heap_alloc _ _ _ (by simp)]; exact heap_alloc_new w _
  have hbB : w2.heap[w.heap.size + 1]? = some (.cells #[.int .i64 jb.arr, .int .i64 jb.dl, .int .i64 jb.len, .int .i64 jb.units, .int .i64 jb.val] 54 (0, 0)) := by rw [hw2]; exact heap_at_new (by simp)
  have HC2 : Hid (Chg (fun _ => False) w w2) := by rw [hw2]; exact ((Chg.refl _ _).alloc _).alloc _
  clear hw2
  have A0 : w2.cell? ⟨w.heap.size, 0, none⟩ = some (.int .i64 ja.arr) := by unfold World.cell?; rw [hbA]; rfl
  have A1 : w2.cell? ⟨w.heap.size, 1, none⟩ = some (.int .i64 ja.dl) := by unfold World.cell?; rw [hbA]; rfl
  have A2 : w2.cell? ⟨w.heap.size, 2, none⟩ = some (.int .i64 ja.len) := by unfold World.cell?; rw [hbA]; rfl
  have A3 : w2.cell? ⟨w.heap.size, 3, none⟩ = some (.int .i64 ja.units) := by unfold World.cell?; rw [hbA]; rfl
  have A4 : w2.cell? ⟨w.heap.size, 4, none⟩ = some (.int .i64 ja.val) := by unfold World.cell?; rw [hbA]; rfl
  have B0 : w2.cell? ⟨w.heap.size + 1, 0, none⟩ = some (.int .i64 jb.arr) := by unfold World.cell?; rw [hbB]; rfl
  have B1 : w2.cell? ⟨w.heap.size + 1, 1, none⟩ = some (.int .i64 jb.dl) := by unfold World.cell?; rw [hbB]; rfl
  have B2 : w2.cell? ⟨w.heap.size + 1, 2, none⟩ = some (.int .i64 jb.len) := by unfold World.cell?; rw [hbB]; rfl
  have B3 : w2.cell? ⟨w.heap.size + 1, 3, none⟩ = some (.int .i64 jb.units) := by unfold World.cell?; rw [hbB]; rfl
  have B4 : w2.cell? ⟨w.heap.size + 1, 4, none⟩ = some (.int .i64 jb.val) := by unfold World.cell?; rw [hbB]; rfl
  clear hbA hbB
  go_region_held3 (fun w' => w'.cell? ⟨w.heap.size, 0, none⟩ = some (.int .i64 ja.arr) ∧ w'.cell? ⟨w.heap.size, 1, none⟩ = some (.int .i64 ja.dl) ∧ w'.cell? ⟨w.heap.size, 2, none⟩ = some (.int .i64 ja.len) ∧ w'.cell? ⟨w.heap.size, 3, none⟩ = some (.int .i64 ja.units) ∧ w'.cell? ⟨w.heap.size, 4, none⟩ = some (.int .i64 ja.val) ∧ w'.cell? ⟨w.heap.size + 1, 0, none⟩ = some (.int .i64 jb.arr) ∧ w'.cell? ⟨w.heap.size + 1, 1, none⟩ = some (.int .i64 jb.dl) ∧ w'.cell? ⟨w.heap.size + 1, 2, none⟩ = some (.int .i64 jb.len) ∧ w'.cell? ⟨w.heap.size + 1, 3, none⟩ = some (.int .i64 jb.units) ∧ w'.cell? ⟨w.heap.size + 1, 4, none⟩ = some (.int .i64 jb.val)) (go_keep)
    (first | (go_at_call 54; refine (HZB.out _).mono ?_; rintro e w3 ⟨rfl, hq⟩; have hk3 := hq.keep; have HQ3 := hide (show Chg (fun _ => False) w2 w3 from ⟨hq.os, hq.tape, hq.output, hq.size, hq.block⟩); clear hq; have a0 := hk3 _ _ A0; have a1 := hk3 _ _ A1; have a2 := hk3 _ _ A2; have a3 := hk3 _ _ A3; have a4 := hk3 _ _ A4; have b0 := hk3 _ _ B0; have b1 := hk3 _ _ B1; have b2 := hk3 _ _ B2; have b3 := hk3 _ _ B3; have b4 := hk3 _ _ B4; clear hk3))
  clear A0 B0 A1 B1 A2 B2 A3 B3 A4 B4
  go_wp2
  go_region_held3 (fun w' => w'.cell? ⟨w.heap.size, 0, none⟩ = some (.int .i64 ja.arr) ∧ w'.cell? ⟨w.heap.size, 1, none⟩ = some (.int .i64 ja.dl) ∧ w'.cell? ⟨w.heap.size, 2, none⟩ = some (.int .i64 ja.len) ∧ w'.cell? ⟨w.heap.size, 3, none⟩ = some (.int .i64 ja.units) ∧ w'.cell? ⟨w.heap.size, 4, none⟩ = some (.int .i64 ja.val) ∧ w'.cell? ⟨w.heap.size + 1, 0, none⟩ = some (.int .i64 jb.arr) ∧ w'.cell? ⟨w.heap.size + 1, 1, none⟩ = some (.int .i64 jb.dl) ∧ w'.cell? ⟨w.heap.size + 1, 2, none⟩ = some (.int .i64 jb.len) ∧ w'.cell? ⟨w.heap.size + 1, 3, none⟩ = some (.int .i64 jb.units) ∧ w'.cell? ⟨w.heap.size + 1, 4, none⟩ = some (.int .i64 jb.val)) (go_keep)
    (first | (go_at_call 54; refine (HZA.out _).mono ?_; rintro e w4 ⟨rfl, hq⟩; have hk4 := hq.keep; have HQ4 := hide (show Chg (fun _ => False) w3 w4 from ⟨hq.os, hq.tape, hq.output, hq.size, hq.block⟩); clear hq; have c0 := hk4 _ _ a0; have c1 := hk4 _ _ a1; have c2 := hk4 _ _ a2; have c3 := hk4 _ _ a3; have c4 := hk4 _ _ a4; have d0 := hk4 _ _ b0; have d1 := hk4 _ _ b1; have d2 := hk4 _ _ b2; have d3 := hk4 _ _ b3; have d4 := hk4 _ _ b4; clear hk4))
  clear a0 b0 c0 d0 a1 b1 c1 d1 a2 b2 c2 d2 a3 b3 c3 d3 a4 b4 c4 d4
  have HC4 := hide (HC2.out.trans (HQ3.out.trans HQ4.out (fun _ _ h => h)) (fun _ _ h => h))
  cases h1 : decide (jb.val * sa < ja.val * sb)
  · cases h2 : ja.val * sb == jb.val * sa
    · have HR2 := hide (show r = false by rw [HR.out, h1, h2]; rfl)
      go_wp2
      go_ret
      exact ⟨ret_bool HR2.out.symm, HC4.out⟩
    · have HR2 := hide (show r = decide (i < k) by rw [HR.out, h1, h2]; simp)
      go_wp2
      go_ret
      exact ⟨ret_bool HR2.out.symm, HC4.out⟩
  · have HR2 := hide (show r = true by rw [HR.out, h1]; rfl)
    go_wp2
    go_ret
    exact ⟨ret_bool HR2.out.symm, HC4.out⟩

theorem fits_take {m : MkG} {b : BidG} {t : Int} (k : Nat) (hk : k < b.job.len.toNat) (h : ¬ b.job.units ≤ freeV m (t + k)) : fitsB m b t = false := by
  cases hf : fitsB m b t
  · rfl
  · simp only [fitsB, List.all_eq_true, List.mem_range, decide_eq_true_eq] at hf
    exact absurd (hf k hk) h

set_option maxRecDepth 100000 in
set_option maxHeartbeats 4000000 in
theorem room_any {YAt : World → Nat → (Nat → Prop) → MkG → Prop} (hY : YardSpec YAt) (y : Nat) (F : Nat → Prop) (m : MkG) (b : BidG) (t : Int) (w : World) (hy : YAt w y F m) (hok : MkOk m) (ht0 : 0 ≤ t) (ht1 : t + b.job.len ≤ m.c.ticks) (hl : 1 ≤ b.job.len) :
    Calls Try.prog 56 #[.pointer (some ⟨y, 0, none⟩), .agg #[.int .i64 b.job.arr, .int .i64 b.job.dl, .int .i64 b.job.len, .int .i64 b.job.units, .int .i64 b.job.val], .int .i64 t] w fun e w' => e = .returned (.bool (fitsB m b t)) ∧ YTo YAt w y F m w' := by
  have hcf := cfgOk_true hok.ck
  have HY := hide hY
  have HYA := hide hy
  have HOK := hide hok
  have h64 : m.c.ticks ≤ 64 := by omega
  obtain ⟨n, hn⟩ := Int.eq_ofNat_of_zero_le (show 0 ≤ b.job.len by omega)
  have hww : IntKind.i64.wrap (t + (n : Int)) = t + (n : Int) := by rw [IntKind.wrap_i64]; omega
  have HN := hide hn
  have HFR := hide (fun (k : Nat) (hk : k < n) => show freeE m (t + k) = 0 from by rw [freeE, if_neg (by omega)])
  have hn64 : n ≤ 64 := by omega
  rw [hn]
  clear hY hy hok hcf
  go_enter Try.func56, Try.ntmps56
  go_wp2
  obtain ⟨w1, hw1⟩ : ∃ w1, w1 = w.alloc (.cells #[.int .i64 b.job.arr, .int .i64 b.job.dl, .int .i64 (n : Int), .int .i64 b.job.units, .int .i64 b.job.val] 54) := ⟨_, rfl⟩
  rw [← hw1]
  have HC1 : Hid (Chg (fun _ => False) w w1) := by rw [hw1]; exact (Chg.refl _ _).alloc _
  have hb1 : w1.heap[w.heap.size]? = some (.cells #[.int .i64 b.job.arr, .int .i64 b.job.dl, .int .i64 (n : Int), .int .i64 b.job.units, .int .i64 b.job.val] 54 (0, 0)) := by rw [hw1]; exact heap_alloc_new w _
  have hs1 : w.heap.size < w1.heap.size := (Array.getElem?_eq_some_iff.1 hb1).1
  have HB1 := hide hb1
  have HFL := hide (fun k (hk : F k) => show k < w.heap.size from HY.out.lt _ _ _ _ HYA.out k hk)
  have HY1 := hide (HY.out.frame _ w1 _ _ _ HYA.out (fun k hk => HC1.out.block k (HFL.out k hk) (fun h => h)))
  clear hw1 hb1 hn
  go_loopw [7] (fun s wr => ∃ (k : Nat) (F2 : Nat → Prop), k ≤ n ∧ s = .int .i64 (t + k) ∧ (∀ x : Nat, x < k → b.job.units ≤ freeV m (t + x)) ∧ YAt wr y F2 m ∧ Chg F w1 wr ∧ ∀ x, F2 x → F x ∨ w1.heap.size ≤ x) (fun s _ => (t + n - intOf s).toNat)
  case atStart => exact ⟨0, F, by omega, by simp, fun x hx => by omega, HY1.out, Chg.refl _ _, fun _ h => .inl h⟩
  case round =>
    obtain ⟨k, F2, hk, rfl, hfit, hya, hcr, hft⟩ := hrel
    have HFIT := hide hfit
    have HYR := hide hya
    have HCR := hide hcr
    have HFT := hide hft
    have hbr : wr.heap[w.heap.size]? = some (.cells #[.int .i64 b.job.arr, .int .i64 b.job.dl, .int .i64 (n : Int), .int .i64 b.job.units, .int .i64 b.job.val] 54 (0, 0)) := (hcr.block _ hs1 (fun h => by have := HFL.out _ h; omega)).trans HB1.out
    have c2 : wr.cell? ⟨w.heap.size, 2, none⟩ = some (.int .i64 (n : Int)) := by unfold World.cell?; rw [hbr]; rfl
    have hsr : w.heap.size < wr.heap.size := Nat.lt_of_lt_of_le hs1 hcr.size
    have HBR := hide hbr
    clear hfit hya hcr hft hbr
    by_cases hlt : k < n
    · have hd : decide (t + (k : Int) < t + (n : Int)) = true := by simp; omega
      have hwk : IntKind.i64.wrap (t + (k : Int) + 1) = t + (k : Int) + 1 := by rw [IntKind.wrap_i64]; omega
      have HFE := hide (HFR.out k hlt)
      have HSUB := hide (HY.out.free wr y F2 m (t + k) HYR.out HOK.out (by constructor <;> omega))
      go_wp2_with fail
      refine HSUB.out.mono ?_
      rw [HFE.out]
      rintro e w3 ⟨rfl, F3, hy3, hc3, hf3⟩
      have HY3 := hide hy3
      have HF3 := hide (show ∀ x, F3 x → F x ∨ w1.heap.size ≤ x from fun x hx => by
        rcases hf3 x hx with h | h
        · exact HFT.out x h
        · exact .inr (Nat.le_trans HCR.out.size h))
      have HC3 := hide (show Chg F w1 w3 from HCR.out.trans hc3 (fun x hx h => by
        rcases HFT.out x h with h | h
        · exact h
        · omega))
      have hb3 : w3.heap[w.heap.size]? = some (.cells #[.int .i64 b.job.arr, .int .i64 b.job.dl, .int .i64 (n : Int), .int .i64 b.job.units, .int .i64 b.job.val] 54 (0, 0)) := (hc3.block _ hsr (fun h => by
        rcases HFT.out _ h with h | h
        · have := HFL.out _ h; omega
        · omega)).trans HBR.out
      have d3 : w3.cell? ⟨w.heap.size, 3, none⟩ = some (.int .i64 b.job.units) := by unfold World.cell?; rw [hb3]; rfl
      clear hy3 hc3 hf3 hb3 HSUB c2
      obtain ⟨fv, hfv⟩ : ∃ fv, fv = freeV m (t + k) := ⟨_, rfl⟩
      rw [← hfv]
      have HFV := hide hfv
      clear hfv
      by_cases hle : b.job.units ≤ fv
      · have hd2 : decide (fv < b.job.units) = false := by simp; omega
        go_wp2
        go_roundw
        case rel => exact ⟨k + 1, F3, by omega, by go_num, fun x hx => by
          by_cases e : x = k
          · rw [e, ← HFV.out]; exact hle
          · exact HFIT.out x (by omega), HY3.out, HC3.out, HF3.out⟩
        case measure => simp [intOf]; omega
      · have hd2 : decide (fv < b.job.units) = true := by simp; omega
        have HE := hide (show fitsB m b t = false from fits_take k (by rw [HN.out]; simpa using hlt) (by rw [← HFV.out]; exact hle))
        go_wp2
        go_ret
        refine ⟨ret_bool HE.out.symm, F3, HY3.out, (HC1.out.mono (fun _ _ h => h.elim)).trans HC3.out (fun _ _ h => h), fun x hx => ?_⟩
        rcases HF3.out x hx with h | h
        · exact .inl h
        · exact .inr (Nat.le_trans HC1.out.size h)
    · have hd : decide (t + (k : Int) < t + (n : Int)) = false := by simp; omega
      have HE := hide (show fitsB m b t = true by
        simp only [fitsB, List.all_eq_true, List.mem_range, decide_eq_true_eq]
        intro s hs
        rw [HN.out] at hs
        simp at hs
        exact HFIT.out s (by omega))
      go_wp2
      go_ret
      refine ⟨ret_bool HE.out.symm, F2, HYR.out, (HC1.out.mono (fun _ _ h => h.elim)).trans HCR.out (fun _ _ h => h), fun x hx => ?_⟩
      rcases HFT.out x hx with h | h
      · exact .inl h
      · exact .inr (Nat.le_trans HC1.out.size h)

set_option maxRecDepth 100000 in
set_option maxHeartbeats 4000000 in
theorem index_at (p : Nat) (V : BV) (b : BookG) (i : Nat) (o : KnownG) (ten ref : Int) (w : World) (hb : BookAt w p V b) (hl : b.bids.length ≤ 300) (ho : b.bids[i]? = some o) (ht : o.ten = ten) (hr : o.ref = ref) (hfirst : ∀ (k : Nat) (x : KnownG), k < i → b.bids[k]? = some x → ¬ (x.ten = ten ∧ x.ref = ref)) :
    Calls Try.prog 34 #[.pointer (some ⟨p, 0, none⟩), .agg #[.int .i64 ten, .int .i64 ref]] w fun e w' => e = .returned (.int .i64 i) ∧ Chg (fun _ => False) w w' := by
  have HB := hide hb
  have HO := hide ho
  have HTR := hide (And.intro ht hr)
  have HFI := hide hfirst
  have hil : i < b.bids.length := (List.getElem?_eq_some_iff.1 ho).1
  obtain ⟨n, hn⟩ : ∃ n, n = b.bids.length := ⟨_, rfl⟩
  have HN := hide hn
  rw [← hn] at hil hl
  clear hb ho ht hr hfirst hn
  go_enter Try.func34, Try.ntmps34
  go_wp2
  obtain ⟨w1, hw1⟩ : ∃ w1, w1 = w.alloc (.cells #[.int .i64 ten, .int .i64 ref] 90) := ⟨_, rfl⟩
  rw [← hw1]
  have HC1 : Hid (Chg (fun _ => False) w w1) := by rw [hw1]; exact (Chg.refl _ _).alloc _
  have hb1 : w1.heap[w.heap.size]? = some (.cells #[.int .i64 ten, .int .i64 ref] 90 (0, 0)) := by rw [hw1]; exact heap_alloc_new w _
  have hs1 : w.heap.size < w1.heap.size := (Array.getElem?_eq_some_iff.1 hb1).1
  have HB1 := hide hb1
  clear hw1 hb1
  go_loopw [5] (fun s wr => ∃ k : Nat, k ≤ i ∧ s = .int .i64 k ∧ Chg (fun _ => False) w1 wr) (fun s _ => n - (intOf s).toNat)
  case atStart => exact ⟨0, by omega, rfl, Chg.refl _ _⟩
  case round =>
    obtain ⟨k, hk, rfl, hcr⟩ := hrel
    have HCR := hide hcr
    have HCW := hide (HC1.out.trans hcr (fun _ _ h => h))
    have hbr : wr.heap[w.heap.size]? = some (.cells #[.int .i64 ten, .int .i64 ref] 90 (0, 0)) := (hcr.block _ hs1 (fun h => h)).trans HB1.out
    have n0 : wr.cell? ⟨w.heap.size, 0, none⟩ = some (.int .i64 ten) := by unfold World.cell?; rw [hbr]; rfl
    have n1 : wr.cell? ⟨w.heap.size, 1, none⟩ = some (.int .i64 ref) := by unfold World.cell?; rw [hbr]; rfl
    obtain ⟨x, hx⟩ : ∃ x, b.bids[k]? = some x := ⟨_, List.getElem?_eq_getElem (by rw [← HN.out]; omega)⟩
    obtain ⟨g, cap, hv, _, _, hcl, _⟩ := (HB.out.chg0 HCW.out).bidCell hx
    have c5 : wr.cell? ⟨p, 5, none⟩ = some (.slice (some ⟨g, 0, none⟩) n cap) := by rw [HN.out, ← hv]; exact (HB.out.chg0 HCW.out).cell 5
    have k0 : (0 : Int) ≤ (k : Int) := by omega
    have k1 : (k : Int) < (n : Int) := by omega
    have l0 : wr.cell? ⟨g, k * 12, none⟩ = some (.int .i64 x.ten) := hcl 0 _ rfl
    have l1 : wr.cell? ⟨g, k * 12 + 1, none⟩ = some (.int .i64 x.ref) := hcl 1 _ rfl
    have hd : decide ((k : Int) < (n : Int)) = true := by simpa using k1
    have HX := hide hx
    clear hcr hbr hv hcl hx
    by_cases e : k = i
    · have hxo : x = o := by have h1 := HX.out; rw [e, HO.out] at h1; exact (Option.some.inj h1).symm
      have h1 : (x.ten == ten) = true := by rw [hxo]; simpa using HTR.out.1
      have h2 : (x.ref == ref) = true := by rw [hxo]; simpa using HTR.out.2
      have HEI := hide (show ((k : Nat) : Int) = (i : Int) by rw [e])
      clear hxo e
      go_wp2
      go_quiet (fail)
      go_wp2
      go_ret
      exact ⟨ret_int HEI.out, HCW.out.drewN _⟩
    · have hno := HFI.out k x (by omega) HX.out
      cases h1 : x.ten == ten
      · go_wp2
        go_quiet (fail)
        go_wp2
        go_roundw
        case rel => exact ⟨k + 1, by omega, by go_num, HCR.out.drewN _⟩
        case measure => simp [intOf]; omega
      · have h2 : (x.ref == ref) = false := by
          cases h2 : x.ref == ref
          · rfl
          · exact absurd ⟨by simpa using h1, by simpa using h2⟩ hno
        go_wp2
        go_quiet (fail)
        go_wp2
        go_roundw
        case rel => exact ⟨k + 1, by omega, by go_num, HCR.out.drewN _⟩
        case measure => simp [intOf]; omega
end Go.Proofs.Ytminceigjejipaa
