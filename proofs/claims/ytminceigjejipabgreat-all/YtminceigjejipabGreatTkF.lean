import Derived.Test.YtminceigjejipabGreatTkE
namespace Go.Proofs.YtminceigjejipabGreat
open Go.RowKit

/-- a number of the market's own, written; all lies where it lay -/
theorem MktAt.setBoxV {w : World} {p f : Nat} {V : MV} {m m' : MkG} {u : Value} (h : MktAt w p V m) (hb : (mktBox V m).setIfInBounds f u = mktBox V m') (h1 : m'.units = m.units) (h2 : m'.bids = m.bids) (h3 : m'.susp = m.susp) (h4 : m'.log = m.log) (h5 : m'.paid = m.paid) (h6 : m'.charges = m.charges) :
    MktAt (w.setCell ⟨p, f, none⟩ u) p V m' := by
  have far : ∀ k, k ≠ p → (w.setCell ⟨p, f, none⟩ u).heap[k]? = w.heap[k]? := fun k hk => Below.heap_setCell _ _ _ _ hk
  have old : ∀ {e : TypeId} {size n : Nat} {v : Value} {xs : List Value}, w.ownsRow 0 e size v n xs → e ≠ 87 → (w.setCell ⟨p, f, none⟩ u).ownsRow 0 e size v n xs := by
    intro e size n v xs ho he
    exact ownsRow_keep ho (fun k hk => far k (fun e => ownsRow_box ho h.box he (e ▸ hk)))
  refine ⟨by rw [box_set h.box, hb], ?_, ?_, ?_, ?_, ?_, ?_, h.ne⟩
  · rw [h1]; exact old h.units (by decide)
  · rw [h2]; exact old h.bids (by decide)
  · rw [h3]; exact old h.susp (by decide)
  · rw [h4]; exact old h.log (by decide)
  · rw [h5]; exact old h.paid (by decide)
  · rw [h6]; exact old h.charges (by decide)
/-- all lies where it lay, and the market's own numbers alone have turned -/
def MktSame (w : World) (p : Nat) (V : MV) (m' : MkG) (w' : World) : Prop := MktAt w' p V m' ∧ Chg (fun k => k = p) w w'

theorem jobAt_eq {m : MkG} {i : Nat} {b : BidG} (h : m.bids[i]? = some b) : jobAt m i = b.job := by
  unfold jobAt
  rw [h]

set_option maxRecDepth 100000 in
set_option maxHeartbeats 4000000 in
theorem least_at (p : Nat) (V : MV) (m : MkG) (i k : Nat) (a b : BidG) (w : World) (hm : MktAt w p V m) (hok : MkOk m) (ha : m.bids[i]? = some a) (hb : m.bids[k]? = some b) :
    Calls Tryz.prog 78 #[.pointer (some ⟨p, 0, none⟩), .int .i64 i, .int .i64 k] w fun e w' => e = .returned (.int .i64 (leastV m i k)) ∧ Chg (fun _ => False) w w' := by
  have HE := hide (show leastV m i k = if (b.job.val * sizeJ a.job).tmod (sizeJ b.job) = 0 ∧ i < k then (b.job.val * sizeJ a.job).tdiv (sizeJ b.job) else (b.job.val * sizeJ a.job).tdiv (sizeJ b.job) + 1 by
    unfold leastV
    rw [jobAt_eq ha, jobAt_eq hb])
  obtain ⟨g, cap, hv, hown, hgl, hcl, _⟩ := hm.bidCell ha
  obtain ⟨g', cap', hv', hown', hgl', hcl', _⟩ := hm.bidCell hb
  have hgg : g' = g ∧ cap' = cap := by rw [hv] at hv'; simp at hv'; exact ⟨hv'.1.symm, hv'.2.symm⟩
  obtain ⟨rfl, rfl⟩ := hgg
  have hil : (i : Int) < (m.bids.length : Int) := by have := (List.getElem?_eq_some_iff.1 ha).1; omega
  have hkl : (k : Int) < (m.bids.length : Int) := by have := (List.getElem?_eq_some_iff.1 hb).1; omega
  have i0 : (0 : Int) ≤ (i : Int) := by omega
  have k0 : (0 : Int) ≤ (k : Int) := by omega
  have hcf := cfgOk_true hok.ck
  have hja := (hok.bid a (List.mem_of_getElem? ha)).job
  have hjb := (hok.bid b (List.mem_of_getElem? hb)).job
  have hsa := sizeJ_pos hja hcf.1.2
  have hsb := sizeJ_pos hjb hcf.1.2
  have hvb := jobIn_true hjb
  have hpl := hm.lt
  have HC7 := hide (show w.cell? ⟨p, 7, none⟩ = some (.slice (some ⟨g', 0, none⟩) m.bids.length cap') by rw [← hv]; exact hm.cell 7)
  have c7 := HC7.out
  have a2 : w.cell? ⟨g', i * 12 + 2, none⟩ = some (.int .i64 a.job.arr) := hcl 2 _ rfl
  have a3 : w.cell? ⟨g', i * 12 + 3, none⟩ = some (.int .i64 a.job.dl) := hcl 3 _ rfl
  have a4 : w.cell? ⟨g', i * 12 + 4, none⟩ = some (.int .i64 a.job.len) := hcl 4 _ rfl
  have a5 : w.cell? ⟨g', i * 12 + 5, none⟩ = some (.int .i64 a.job.units) := hcl 5 _ rfl
  have a6 : w.cell? ⟨g', i * 12 + 6, none⟩ = some (.int .i64 a.job.val) := hcl 6 _ rfl
  have b6 : w.cell? ⟨g', k * 12 + 6, none⟩ = some (.int .i64 b.job.val) := hcl' 6 _ rfl
  have HB2 := hide (show w.cell? ⟨g', k * 12 + 2, none⟩ = some (.int .i64 b.job.arr) from hcl' 2 _ rfl)
  have HB3 := hide (show w.cell? ⟨g', k * 12 + 3, none⟩ = some (.int .i64 b.job.dl) from hcl' 3 _ rfl)
  have HB4 := hide (show w.cell? ⟨g', k * 12 + 4, none⟩ = some (.int .i64 b.job.len) from hcl' 4 _ rfl)
  have HB5 := hide (show w.cell? ⟨g', k * 12 + 5, none⟩ = some (.int .i64 b.job.units) from hcl' 5 _ rfl)
  have HB6 := hide b6
  have hx := mul_lt (a := b.job.val) (b := sizeJ a.job) (A := 1048576) (B := 64000) (by omega) (by omega) (by omega) (by omega)
  have hwx : IntKind.i64.wrap (b.job.val * sizeJ a.job) = b.job.val * sizeJ a.job := by rw [IntKind.wrap_i64]; omega
  have HSZ1 := hide (size_any a.job w.drew (by omega) (by omega))
  have HSZ2 := hide (fun w' => size_any b.job w' (by omega) (by omega))
  clear hcl hcl' hv hv' hown hown' hm hok ha hb hcf hja hjb hvb hsa
  generalize m.bids.length = n at *
  go_enter Tryz.func78, Tryz.ntmps78
  go_wp2
  go_region_held3 (fun w' => w'.cell? ⟨p, 7, none⟩ = some (.slice (some ⟨g', 0, none⟩) n cap') ∧ w'.cell? ⟨g', k * 12 + 6, none⟩ = some (.int .i64 b.job.val) ∧ w'.cell? ⟨g', i * 12 + 2, none⟩ = some (.int .i64 a.job.arr) ∧ w'.cell? ⟨g', i * 12 + 3, none⟩ = some (.int .i64 a.job.dl) ∧ w'.cell? ⟨g', i * 12 + 4, none⟩ = some (.int .i64 a.job.len) ∧ w'.cell? ⟨g', i * 12 + 5, none⟩ = some (.int .i64 a.job.units) ∧ w'.cell? ⟨g', i * 12 + 6, none⟩ = some (.int .i64 a.job.val)) (go_keep)
    (first | (go_at_call 77; refine HSZ1.out.mono ?_; rintro e w2 ⟨rfl, hq⟩; have x0 := hq.cell (p := ⟨p, 7, none⟩) hpl (fun h => h); have x1 := hq.cell (p := ⟨g', k * 12 + 6, none⟩) hgl (fun h => h); have x2 := hq.cell (p := ⟨g', i * 12 + 2, none⟩) hgl (fun h => h); have x3 := hq.cell (p := ⟨g', i * 12 + 3, none⟩) hgl (fun h => h); have x4 := hq.cell (p := ⟨g', i * 12 + 4, none⟩) hgl (fun h => h); have x5 := hq.cell (p := ⟨g', i * 12 + 5, none⟩) hgl (fun h => h); have x6 := hq.cell (p := ⟨g', i * 12 + 6, none⟩) hgl (fun h => h); have HQ := hide hq; clear hq))
  all_goals
    clear x0 x1 x2 x3 x4 x5 x6 c7 a2 a3 a4 a5 a6 b6 HSZ1
    have hc2 : Chg (fun _ => False) w w2 := ⟨HQ.out.os, HQ.out.tape, HQ.out.output, HQ.out.size, HQ.out.block⟩
    have HC2 := hide hc2
    have c7 : w2.cell? ⟨p, 7, none⟩ = some (.slice (some ⟨g', 0, none⟩) n cap') := by rw [hc2.cell (by exact hpl) (fun h => h)]; exact HC7.out
    have b2 : w2.cell? ⟨g', k * 12 + 2, none⟩ = some (.int .i64 b.job.arr) := by rw [hc2.cell (by exact hgl) (fun h => h)]; exact HB2.out
    have b3 : w2.cell? ⟨g', k * 12 + 3, none⟩ = some (.int .i64 b.job.dl) := by rw [hc2.cell (by exact hgl) (fun h => h)]; exact HB3.out
    have b4 : w2.cell? ⟨g', k * 12 + 4, none⟩ = some (.int .i64 b.job.len) := by rw [hc2.cell (by exact hgl) (fun h => h)]; exact HB4.out
    have b5 : w2.cell? ⟨g', k * 12 + 5, none⟩ = some (.int .i64 b.job.units) := by rw [hc2.cell (by exact hgl) (fun h => h)]; exact HB5.out
    have b6 : w2.cell? ⟨g', k * 12 + 6, none⟩ = some (.int .i64 b.job.val) := by rw [hc2.cell (by exact hgl) (fun h => h)]; exact HB6.out
    clear HQ hc2 hwx
    generalize b.job.val * sizeJ a.job = N at *
    go_wp2_with fail
    refine (HSZ2.out _).mono ?_
    rintro e w3 ⟨rfl, hq⟩
    have HC3 := hide (HC2.out.trans hq (fun _ _ h => h))
    clear hq HSZ2 c7 b2 b3 b4 b5 b6
    generalize sizeJ b.job = D at *
    have hqd : 0 ≤ N.tdiv D ∧ N.tdiv D ≤ N := ⟨Int.tdiv_nonneg hx.1 (by omega), Int.tdiv_le_self D hx.1⟩
    have hwd : IntKind.i64.wrap (N.tdiv D) = N.tdiv D := by rw [IntKind.wrap_i64]; omega
    have hwd1 : IntKind.i64.wrap (N.tdiv D + 1) = N.tdiv D + 1 := by rw [IntKind.wrap_i64]; omega
    have hD : ¬ D = 0 := by omega
    have hD' : (D == 0) = false := by simpa using hD
    have HME := hide (show N.tmod D = N % D from Int.tmod_eq_emod_of_nonneg hx.1)
    by_cases h1 : N % D = 0
    · by_cases h2 : i < k
      · have E := hide (show leastV m i k = N.tdiv D by rw [HE.out, if_pos ⟨by rw [HME.out]; exact h1, h2⟩])
        go_wp2
        go_ret
        exact ⟨ret_int E.out.symm, HC3.out⟩
      · have E := hide (show leastV m i k = N.tdiv D + 1 by rw [HE.out, if_neg (by simp [h2])])
        go_wp2
        go_ret
        exact ⟨ret_int E.out.symm, HC3.out⟩
    · have E := hide (show leastV m i k = N.tdiv D + 1 by rw [HE.out, if_neg (by rw [HME.out]; simp [h1])])
      go_wp2
      go_ret
      exact ⟨ret_int E.out.symm, HC3.out⟩

theorem wantM_need {m : MkG} {g : Nat} {v : Int} (h : m.need = 0 ∨ wantV m g v < m.need) : wantM m g v = { m with need := wantV m g v } := by rw [wantM, if_pos h]
theorem wantM_same {m : MkG} {g : Nat} {v : Int} (h : ¬ (m.need = 0 ∨ wantV m g v < m.need)) : wantM m g v = m := by rw [wantM, if_neg h]

set_option maxRecDepth 100000 in
set_option maxHeartbeats 4000000 in
theorem wanted_at (p : Nat) (V : MV) (m : MkG) (i : Nat) (a : BidG) (v : Int) (w : World) (hm : MktAt w p V m) (hok : MkOk m) (ha : m.bids[i]? = some a) :
    Calls Tryz.prog 76 #[.pointer (some ⟨p, 0, none⟩), .int .i64 i, .int .i64 v] w fun e w' => e = .returned (.tuple #[]) ∧ MktSame w p V (wantM m i v) w' := by
  have HE := hide (show wantV m i v = if (if v < m.c.res * sizeJ a.job then m.c.res * sizeJ a.job else v) < 1 then 1 else (if v < m.c.res * sizeJ a.job then m.c.res * sizeJ a.job else v) by
    unfold wantV
    rw [jobAt_eq ha])
  obtain ⟨g, cap, hv, hown, hgl, hcl, _⟩ := hm.bidCell ha
  have hil : (i : Int) < (m.bids.length : Int) := by have := (List.getElem?_eq_some_iff.1 ha).1; omega
  have i0 : (0 : Int) ≤ (i : Int) := by omega
  have hcf := cfgOk_true hok.ck
  have hsa := sizeJ_pos (hok.bid a (List.mem_of_getElem? ha)).job hcf.1.2
  have hpl := hm.lt
  have HM := hide hm
  have c7 : w.cell? ⟨p, 7, none⟩ = some (.slice (some ⟨g, 0, none⟩) m.bids.length cap) := by rw [← hv]; exact hm.cell 7
  have c2 : w.cell? ⟨p, 2, none⟩ = some (.int .i64 m.c.res) := hm.cell 2
  have a2 : w.cell? ⟨g, i * 12 + 2, none⟩ = some (.int .i64 a.job.arr) := hcl 2 _ rfl
  have a3 : w.cell? ⟨g, i * 12 + 3, none⟩ = some (.int .i64 a.job.dl) := hcl 3 _ rfl
  have a4 : w.cell? ⟨g, i * 12 + 4, none⟩ = some (.int .i64 a.job.len) := hcl 4 _ rfl
  have a5 : w.cell? ⟨g, i * 12 + 5, none⟩ = some (.int .i64 a.job.units) := hcl 5 _ rfl
  have a6 : w.cell? ⟨g, i * 12 + 6, none⟩ = some (.int .i64 a.job.val) := hcl 6 _ rfl
  have hx := mul_lt (a := m.c.res) (b := sizeJ a.job) (A := 1000) (B := 64000) (by omega) (by omega) (by omega) (by omega)
  have hwx : IntKind.i64.wrap (m.c.res * sizeJ a.job) = m.c.res * sizeJ a.job := by rw [IntKind.wrap_i64]; omega
  have HSZ1 := hide (size_any a.job w.drew (by omega) (by omega))
  clear hcl hv hown hm hok ha hcf hsa
  generalize m.bids.length = n at *
  go_enter Tryz.func76, Tryz.ntmps76
  go_wp2
  go_region_held3 (fun w' => w'.cell? ⟨p, 7, none⟩ = some (.slice (some ⟨g, 0, none⟩) n cap) ∧ w'.cell? ⟨p, 2, none⟩ = some (.int .i64 m.c.res) ∧ w'.cell? ⟨g, i * 12 + 2, none⟩ = some (.int .i64 a.job.arr) ∧ w'.cell? ⟨g, i * 12 + 3, none⟩ = some (.int .i64 a.job.dl) ∧ w'.cell? ⟨g, i * 12 + 4, none⟩ = some (.int .i64 a.job.len) ∧ w'.cell? ⟨g, i * 12 + 5, none⟩ = some (.int .i64 a.job.units) ∧ w'.cell? ⟨g, i * 12 + 6, none⟩ = some (.int .i64 a.job.val)) (go_keep)
    (first | (go_at_call 77; refine HSZ1.out.mono ?_; rintro e w2 ⟨rfl, hq⟩; have x0 := hq.cell (p := ⟨p, 7, none⟩) hpl (fun h => h); have x1 := hq.cell (p := ⟨p, 2, none⟩) hpl (fun h => h); have x2 := hq.cell (p := ⟨g, i * 12 + 2, none⟩) hgl (fun h => h); have x3 := hq.cell (p := ⟨g, i * 12 + 3, none⟩) hgl (fun h => h); have x4 := hq.cell (p := ⟨g, i * 12 + 4, none⟩) hgl (fun h => h); have x5 := hq.cell (p := ⟨g, i * 12 + 5, none⟩) hgl (fun h => h); have x6 := hq.cell (p := ⟨g, i * 12 + 6, none⟩) hgl (fun h => h); have HQ := hide hq; clear hq))
  all_goals
    clear x0 x1 x2 x3 x4 x5 x6 c7 c2 a2 a3 a4 a5 a6 HSZ1
    have hc2 : Chg (fun _ => False) w w2 := ⟨HQ.out.os, HQ.out.tape, HQ.out.output, HQ.out.size, HQ.out.block⟩
    have HC2 := hide hc2
    have H2 := hide (HM.out.chg0 hc2)
    have c13 : w2.cell? ⟨p, 13, none⟩ = some (.int .i64 m.need) := H2.out.cell 13
    have f13 : w2.frozen? ⟨p, 13, none⟩ = false := H2.out.free 13
    have HSET := hide (show MktSame w p V { m with need := wantV m i v } (w2.setCell ⟨p, 13, none⟩ (.int .i64 (wantV m i v))) from ⟨H2.out.setBoxV (m' := { m with need := wantV m i v }) rfl rfl rfl rfl rfl rfl rfl, (HC2.out.mono (O' := fun k => k = p) (fun _ _ h => h.elim)).setCell (p := ⟨p, 13, none⟩) (.inl rfl) _⟩)
    clear HQ hc2 hwx
    generalize m.c.res * sizeJ a.job = R at *
    obtain ⟨x, hx2⟩ : ∃ x, x = wantV m i v := ⟨_, rfl⟩
    have HX := hide hx2
    rw [HE.out] at hx2
    rw [← HX.out] at HSET
    have HD := hide (show (m.need = 0 ∨ x < m.need) → wantM m i v = { m with need := x } from fun h => by rw [HX.out] at h ⊢; exact wantM_need h)
    have HS := hide (show ¬ (m.need = 0 ∨ x < m.need) → wantM m i v = m from fun h => by rw [HX.out] at h; exact wantM_same h)
    clear HE HX
    generalize m.need = nd at *
    by_cases h1 : v < R
    · rw [if_pos h1] at hx2
      by_cases h2 : R < 1
      · rw [if_pos h2] at hx2
        subst hx2
        by_cases h3 : nd = 0
        · go_wp2
          go_end0
          exact ⟨rfl, by rw [HD.out (.inl h3)]; exact HSET.out⟩
        · by_cases h4 : (1 : Int) < nd
          · go_wp2
            go_end0
            exact ⟨rfl, by rw [HD.out (.inr h4)]; exact HSET.out⟩
          · go_wp2
            go_end0
            exact ⟨rfl, by rw [HS.out (by omega)]; exact ⟨H2.out, HC2.out.mono (fun _ _ h => h.elim)⟩⟩
      · rw [if_neg h2] at hx2
        subst hx2
        by_cases h3 : nd = 0
        · go_wp2
          go_end0
          exact ⟨rfl, by rw [HD.out (.inl h3)]; exact HSET.out⟩
        · by_cases h4 : x < nd
          · go_wp2
            go_end0
            exact ⟨rfl, by rw [HD.out (.inr h4)]; exact HSET.out⟩
          · go_wp2
            go_end0
            exact ⟨rfl, by rw [HS.out (by omega)]; exact ⟨H2.out, HC2.out.mono (fun _ _ h => h.elim)⟩⟩
    · rw [if_neg h1] at hx2
      by_cases h2 : v < 1
      · rw [if_pos h2] at hx2
        subst hx2
        by_cases h3 : nd = 0
        · go_wp2
          go_end0
          exact ⟨rfl, by rw [HD.out (.inl h3)]; exact HSET.out⟩
        · by_cases h4 : (1 : Int) < nd
          · go_wp2
            go_end0
            exact ⟨rfl, by rw [HD.out (.inr h4)]; exact HSET.out⟩
          · go_wp2
            go_end0
            exact ⟨rfl, by rw [HS.out (by omega)]; exact ⟨H2.out, HC2.out.mono (fun _ _ h => h.elim)⟩⟩
      · rw [if_neg h2] at hx2
        subst hx2
        by_cases h3 : nd = 0
        · go_wp2
          go_end0
          exact ⟨rfl, by rw [HD.out (.inl h3)]; exact HSET.out⟩
        · by_cases h4 : x < nd
          · go_wp2
            go_end0
            exact ⟨rfl, by rw [HD.out (.inr h4)]; exact HSET.out⟩
          · go_wp2
            go_end0
            exact ⟨rfl, by rw [HS.out (by omega)]; exact ⟨H2.out, HC2.out.mono (fun _ _ h => h.elim)⟩⟩
end Go.Proofs.YtminceigjejipabGreat
