import Derived.Test.YtminceigjejipaaKrD
import Derived.Test.YtminceigjejipaaG19
/-
  Threshold: its walk.
-/
namespace Go.Proofs.Ytminceigjejipaa
open Go.ChangeShapes Go.WideShapes Go.ChangeAt Go.RowKit Go.Deep

set_option maxRecDepth 100000 in
set_option maxHeartbeats 4000000 in
theorem thresh_bad {YAt : World → Nat → (Nat → Prop) → MkG → Prop} (hY : YardSpec YAt) (c : CfgG) (sa : Option Addr) (sl sc : Nat) (w : World) (hc : cfgOk c = false) (wh v0 : Int) :
    Calls Try.prog 6 #[caseV c (.slice sa sl sc), .int .i64 wh, .int .i64 v0] w fun e w' => e = .returned (.bool true) ∧ Below w.heap.size w w' := by
  have HY := hide hY
  have HC := hide hc
  clear hY hc
  unfold caseV caseC
  go_enter Try.func6, Try.ntmps6
  go_wp2_with fail
  refine (open_bad' HY.out c (.slice sa sl sc) _ HC.out ⟨_, _, _, rfl⟩).mono ?_
  rintro e w1 ⟨rfl, hc1⟩
  have HC1 := hide hc1
  clear hc1
  go_wp2
  go_ret
  exact ⟨rfl, (((Chg.refl (fun _ => False) w).alloc _).trans HC1.out (fun _ _ h => h)).below (Nat.le_refl _) (fun _ h => h.elim)⟩

set_option maxRecDepth 100000 in
set_option maxHeartbeats 8000000 in
theorem thresh_ok {YAt : World → Nat → (Nat → Prop) → MkG → Prop} (hY : YardSpec YAt) (hT : TickY YAt) (hP : PaidY YAt) (c : CfgG) (sa : Option Addr) (sl sc : Nat) (w : World) (hc : cfgOk c = true) (hs : IntRows w 9 sa sl) (hsl : sl < 5000000000000) (wh v0 : Int) (hwh : I64 wh) (hv0 : I64 v0) :
    Calls Try.prog 6 #[caseV c (.slice sa sl sc), .int .i64 wh, .int .i64 v0] w fun e w' => e = .returned (.bool true) ∧ Below w.heap.size w w' := by
  have HY := hide hY
  have HT := hide hT
  have HP := hide hP
  have HC := hide hc
  have HWH := hide hwh
  have HV0 := hide hv0
  clear hwh hv0
  obtain ⟨Z, hcase⟩ := caseAt_new (c := c) (sc := sc) hs
  obtain ⟨w0, hw0⟩ : ∃ w0, w0 = w.alloc (.cells (caseC c (.slice sa sl sc)) 41) := ⟨_, rfl⟩
  rw [← hw0] at hcase
  have HC0 : Hid (Chg (fun _ => False) w w0) := by rw [hw0]; exact (Chg.refl _ _).alloc _
  have HCA := hide hcase
  have HW0 := hide hw0
  clear hY hT hP hc hs hcase hw0
  unfold caseV caseC
  go_enter Try.func6, Try.ntmps6
  go_wp2_with fail
  refine (open_ok' HY.out HT.out c (.slice sa sl sc) _ HC.out ⟨_, _, _, rfl⟩).mono ?_
  rintro e w1 ⟨y, F1, rfl, hown1⟩
  have hown1' : OwnY YAt w0 y F1 (openM c) w1 := by rw [HW0.out]; exact hown1
  have HO1 := hide hown1'
  have HCA1 := hide (HCA.out.chg hown1'.chg)
  have k0 : w1.cell? ⟨w.heap.size, 0, none⟩ = some (.int .i64 c.ticks) := HCA1.out.cell 0
  have k1 : w1.cell? ⟨w.heap.size, 1, none⟩ = some (.int .i64 c.cap) := HCA1.out.cell 1
  have k2 : w1.cell? ⟨w.heap.size, 2, none⟩ = some (.int .i64 c.res) := HCA1.out.cell 2
  have k3 : w1.cell? ⟨w.heap.size, 3, none⟩ = some (.int .i64 c.ten) := HCA1.out.cell 3
  have k4 : w1.cell? ⟨w.heap.size, 4, none⟩ = some (.int .i64 c.quo) := HCA1.out.cell 4
  clear hown1 hown1'
  go_wp2_with fail
  refine (begin_any c w1 HC.out).mono ?_
  rintro e w2 ⟨p, V2, rfl, hbk2, hc2, hnew2⟩
  have HK0 : Hid (∃ F V, KeepM YAt w0 y p w2 (openM c) F V (startB c)) := by
    have hs := HO1.out.chg.size
    exact ⟨F1, V2, HY.out.frame _ _ _ _ _ HO1.out.yard (fun k hk => hc2.block k (HY.out.lt _ _ _ _ HO1.out.yard k hk) (fun e => e)), hbk2, fun k hk e => (by have := hnew2 k hk; have := HY.out.lt _ _ _ _ HO1.out.yard k e; omega), HO1.out.new, fun k hk => (by have := hnew2 k hk; omega), HO1.out.chg.trans hc2 (fun _ _ e => e)⟩
  clear hbk2 hc2 hnew2 k0 k1 k2 k3 k4
  go_wp2
  go_loopw [10] (fun i wr => ∃ (k : Nat) (m : MkG) (F : Nat → Prop) (V : BV) (b : BookG), k ≤ sl ∧ i = .int .i64 k ∧ KeepM YAt w0 y p wr m F V b ∧ KeepP m b ∧ StepsOk (stepZ Z) k m b ∧ m.c = c) (fun i _ => sl - (intOf i).toNat)
  case atStart =>
    obtain ⟨F, V, h⟩ := HK0.out
    exact ⟨0, openM c, F, V, startB c, Nat.zero_le _, rfl, h, ⟨GoodM.open HC.out, SoundM.open HC.out, BookRel.start c⟩, StepsOk.start _ c, rfl⟩
  case round =>
    obtain ⟨k, m, F, V, b, hk, rfl, hkm, hkp, hstp, hmc⟩ := hrel
    have HSTP := hide hstp
    have HMC := hide hmc
    clear hstp hmc
    have HK := hide hkm
    have HKP := hide hkp
    have HCR := hide (HCA.out.chg hkm.chg)
    have c5 : wr.cell? ⟨w.heap.size, 5, none⟩ = some (.slice sa sl sc) := HCR.out.cell 5
    clear hkm hkp HK0 HO1 HCA1
    by_cases hlt : k < sl
    · obtain ⟨sb, off, hsa, hst⟩ := HCA.out.step hlt
      subst hsa
      have hi := stepZ_i64 HCA.out.i64 hlt
      obtain ⟨s, hse, hst', hi'⟩ : ∃ s, stepZ Z k = s ∧ StepAt w0 sb (off + k * 9) s ∧ StepI64 s := ⟨_, rfl, hst, hi⟩
      have HSE := hide hse
      clear hst hi hse
      obtain ⟨kd, A, B, C, ⟨ja, jd, jl, ju, jv⟩⟩ := s
      have HST := hide hst'
      have HI := hide hi'
      clear hst' hi'
      have n0 : (0 : Int) ≤ (k : Int) := by omega
      have n1 : (k : Int) < (sl : Int) := by omega
      go_wp2_with fail
      refine (HY.out.now wr y F m HK.out.yard HKP.out.good.ok).mono ?_
      rintro e w3 ⟨rfl, hto⟩
      obtain ⟨F3, hk3, _, _⟩ := HK.out.yto hto
      have HK3 := hide hk3
      have c5 : w3.cell? ⟨w.heap.size, 5, none⟩ = some (.slice (some ⟨sb, off, none⟩) sl sc) := (HCA.out.chg hk3.chg).cell 5
      obtain ⟨_, q0, q1, q2, q3, q4, q5, q6, q7, q8⟩ := HST.out.chg hk3.chg (fun e => e)
      simp only at q0 q1 q2 q3 q4 q5 q6 q7 q8
      clear hk3 hto
      go_wp2_with fail
      refine (does_any HY.out HT.out HP.out y F3 m ⟨kd, A, B, C, ⟨ja, jd, jl, ju, jv⟩⟩ w3 HK3.out.yard HKP.out.good HI.out).mono ?_
      rintro e w4 ⟨z, names, bills, m', F4, nv, bv, rfl, hres, htold⟩
      obtain ⟨na, nc, hnv⟩ := ownsRow_form htold.ns
      obtain ⟨ba, bc, hbv⟩ := ownsRow_form htold.bs
      subst hnv
      subst hbv
      obtain ⟨hk4, _, _⟩ := HK3.out.told htold
      have HRES := hide hres
      obtain ⟨w5, hw5⟩ : ∃ w5, w5 = w4.alloc (.cells #[.int .i64 z, .slice na names.length nc, .slice ba bills.length bc] 51) := ⟨_, rfl⟩
      have hk5 : KeepM YAt w0 y p w5 m' F4 V b := by rw [hw5]; exact hk4.chg0 HY.out ((Chg.refl _ _).alloc _)
      have hb5 : w5.heap[w4.heap.size]? = some (.cells #[.int .i64 z, .slice na names.length nc, .slice ba bills.length bc] 51 (0, 0)) := by rw [hw5]; exact heap_alloc_new w4 _
      have hnf : ¬ V.foot p w4.heap.size := fun e => Nat.lt_irrefl _ (hk4.book.foot_lt _ e)
      have HK5 := hide hk5
      have HB5 := hide hb5
      have HNF := hide hnf
      have HW5 := hide hw5
      clear hk4 hres htold q0 q1 q2 q3 q4 q5 q6 q7 q8 c5 hw5
      go_wp2
      rw [← HW5.out]
      have t0 : w5.cell? ⟨w4.heap.size, 0, none⟩ = some (.int .i64 z) := by unfold World.cell?; rw [HB5.out]; rfl
      have c5 : w5.cell? ⟨w.heap.size, 5, none⟩ = some (.slice (some ⟨sb, off, none⟩) sl sc) := (HCA.out.chg hk5.chg).cell 5
      obtain ⟨_, q0, q1, q2, q3, q4, q5, q6, q7, q8⟩ := HST.out.chg hk5.chg (fun e => e)
      simp only at q0 q1 q2 q3 q4 q5 q6 q7 q8
      clear hk5 hb5 hnf HW5
      go_region_held3 (fun w' => w'.cell? ⟨w4.heap.size, 0, none⟩ = some (.int .i64 z) ∧ w'.cell? ⟨w.heap.size, 5, none⟩ = some (.slice (some ⟨sb, off, none⟩) sl sc) ∧ w'.cell? ⟨sb, off + k * 9, none⟩ = some (.int .i64 kd) ∧ w'.cell? ⟨sb, off + k * 9 + 1, none⟩ = some (.int .i64 A) ∧ w'.cell? ⟨sb, off + k * 9 + 2, none⟩ = some (.int .i64 B) ∧ w'.cell? ⟨sb, off + k * 9 + 3, none⟩ = some (.int .i64 C) ∧ w'.cell? ⟨sb, off + k * 9 + 4, none⟩ = some (.int .i64 ja) ∧ w'.cell? ⟨sb, off + k * 9 + 5, none⟩ = some (.int .i64 jd) ∧ w'.cell? ⟨sb, off + k * 9 + 6, none⟩ = some (.int .i64 jl) ∧ w'.cell? ⟨sb, off + k * 9 + 7, none⟩ = some (.int .i64 ju) ∧ w'.cell? ⟨sb, off + k * 9 + 8, none⟩ = some (.int .i64 jv)) (go_keep)
        (first | (go_at_call 19; refine (notes_does p V b k ⟨kd, A, B, C, ⟨ja, jd, jl, ju, jv⟩⟩ _ (by first | exact HK5.out.book.chg0 ((Chg.refl _ _).drew) | exact HK5.out.book) HKP.out HRES.out).mono ?_; rintro e w6 ⟨rfl, hto⟩; obtain ⟨V6, hk6, hch6, _⟩ := KeepM.note HY.out (by first | exact HK5.out.chg0 HY.out ((Chg.refl _ _).drew) | exact HK5.out) hto; have HK6 := hide hk6; have t0' : w6.cell? ⟨w4.heap.size, 0, none⟩ = some (.int .i64 z) := (by rw [hch6.cell (by exact (Array.getElem?_eq_some_iff.1 HB5.out).1) HNF.out]; exact t0); have c5' : w6.cell? ⟨w.heap.size, 5, none⟩ = some (.slice (some ⟨sb, off, none⟩) sl sc) := (HCA.out.chg hk6.chg).cell 5; obtain ⟨_, r0, r1, r2, r3, r4, r5, r6, r7, r8⟩ := HST.out.chg hk6.chg (fun e => e); simp only at r0 r1 r2 r3 r4 r5 r6 r7 r8; clear hk6 hch6 hto))
      have HKP6 := hide (HKP.out.step HRES.out k)
      clear t0 c5 q0 q1 q2 q3 q4 q5 q6 q7 q8 t0' c5' r0 r1 r2 r3 r4 r5 r6 r7 r8
      have HST6 := hide (show StepsOk (stepZ Z) (k + 1) m' (noteB b k ⟨kd, A, B, C, ⟨ja, jd, jl, ju, jv⟩⟩ z m.time) ∧ m'.c = c from by
        have h1 := HRES.out
        rw [← HSE.out] at h1 ⊢
        exact ⟨HSTP.out.step HKP.out.good HKP.out.sound HKP.out.rel h1, h1.logd.2.trans HMC.out⟩)
      go_wp2
      go_roundw
      case rel => exact ⟨k + 1, m', F4, V6, _, by omega, by go_num, HK6.out, HKP6.out, HST6.out.1, HST6.out.2⟩
      case measure => simp [intOf]; omega
    · have hkn : k = sl := by omega
      subst hkn
      have HCW := hide HK.out.chg
      obtain ⟨n, hn⟩ : ∃ n, n = m.bids.length := ⟨_, rfl⟩
      have hnl : n ≤ 300 := by rw [hn]; exact HKP.out.good.ok.bl
      have HN := hide hn
      have HKA := hide HK.out
      clear hlt hn
      go_wp2
      clear c5
      go_loopw [13] (fun i wr => ∃ (k2 : Nat) (F2 : Nat → Prop), k2 ≤ n ∧ i = .int .i64 k2 ∧ KeepM YAt w0 y p wr m F2 V b) (fun i _ => n - (intOf i).toNat)
      case atStart => exact ⟨0, F, Nat.zero_le _, rfl, HKA.out⟩
      case round =>
        obtain ⟨k2, F2, hk2, rfl, hkm⟩ := hrel
        have HKM := hide hkm
        obtain ⟨ba, bc, hbv0⟩ := hkm.book.bidForm
        have hnn : b.bids.length = n := by rw [HKP.out.rel.len, HN.out]
        have c5 : wr.cell? ⟨p, 5, none⟩ = some (.slice ba n bc) := by rw [← hnn, ← hbv0]; exact hkm.book.cell 5
        clear hkm
        by_cases hlt : k2 < n
        · obtain ⟨x, hx⟩ : ∃ x, m.bids[k2]? = some x := ⟨_, List.getElem?_eq_getElem (by rw [← HN.out]; exact hlt)⟩
          obtain ⟨o, ho⟩ : ∃ o, b.bids[k2]? = some o := ⟨_, List.getElem?_eq_getElem (by rw [hnn]; exact hlt)⟩
          obtain ⟨r1, r2, r3, r4⟩ := HKP.out.rel.bid k2 o x ho hx
          have hbo := HKP.out.good.ok.bid x (List.mem_of_getElem? hx)
          obtain ⟨l1, l2, l3⟩ := HKP.out.sound.look HKP.out.good.ok hx
          obtain ⟨gb, bcap, hbv, _, _, hbc, _⟩ := HKM.out.book.bidCell ho
          have hba : ba = some ⟨gb, 0, none⟩ := by
            rw [hbv0] at hbv
            simp at hbv
            exact hbv.1
          subst hba
          have k0 : (0 : Int) ≤ (k2 : Int) := by omega
          have k1 : (k2 : Int) < (n : Int) := by omega
          have hd : decide ((k2 : Int) < (n : Int)) = true := by simpa using k1
          have b0 : wr.cell? ⟨gb, k2 * 12, none⟩ = some (.int .i64 o.ten) := hbc 0 _ rfl
          have b1 : wr.cell? ⟨gb, k2 * 12 + 1, none⟩ = some (.int .i64 o.ref) := hbc 1 _ rfl
          have b2 : wr.cell? ⟨gb, k2 * 12 + 2, none⟩ = some (.int .i64 o.job.arr) := hbc 2 _ rfl
          have b3 : wr.cell? ⟨gb, k2 * 12 + 3, none⟩ = some (.int .i64 o.job.dl) := hbc 3 _ rfl
          have b4 : wr.cell? ⟨gb, k2 * 12 + 4, none⟩ = some (.int .i64 o.job.len) := hbc 4 _ rfl
          have b5 : wr.cell? ⟨gb, k2 * 12 + 5, none⟩ = some (.int .i64 o.job.units) := hbc 5 _ rfl
          have b6 : wr.cell? ⟨gb, k2 * 12 + 6, none⟩ = some (.int .i64 o.job.val) := hbc 6 _ rfl
          have b7 : wr.cell? ⟨gb, k2 * 12 + 7, none⟩ = some (.int .i64 o.arrival) := hbc 7 _ rfl
          have b8 : wr.cell? ⟨gb, k2 * 12 + 8, none⟩ = some (.int .i64 o.step) := hbc 8 _ rfl
          have b9 : wr.cell? ⟨gb, k2 * 12 + 9, none⟩ = some (.int .i64 o.wasS) := hbc 9 _ rfl
          have b10 : wr.cell? ⟨gb, k2 * 12 + 10, none⟩ = some (.int .i64 o.wasT) := hbc 10 _ rfl
          have b11 : wr.cell? ⟨gb, k2 * 12 + 11, none⟩ = some (.bool o.charged) := hbc 11 _ rfl
          have HX := hide hx
          have HO := hide ho
          have hti : I64 o.ten := by have h1 := hbo.t0; have h2 := hbo.t1; have h3 := cfgOk_true HKP.out.good.ok.ck; rw [← r1] at h1 h2; constructor <;> omega
          have hri : I64 o.ref := by have h1 := hbo.r0; have h2 := hbo.r1; rw [← r2] at h1 h2; constructor <;> omega
          have HTR := hide (And.intro hti hri)
          obtain ⟨w4, hw4⟩ : ∃ w4, w4 = wr.alloc (.cells #[.int .i64 o.ten, .int .i64 o.ref, .int .i64 o.job.arr, .int .i64 o.job.dl, .int .i64 o.job.len, .int .i64 o.job.units, .int .i64 o.job.val, .int .i64 o.arrival, .int .i64 o.step, .int .i64 o.wasS, .int .i64 o.wasT, .bool o.charged] 70) := ⟨_, rfl⟩
          have hq4 : Chg (fun _ => False) wr w4 := by rw [hw4]; exact (Chg.refl _ _).alloc _
          have hbx4 : w4.heap[wr.heap.size]? = some (.cells #[.int .i64 o.ten, .int .i64 o.ref, .int .i64 o.job.arr, .int .i64 o.job.dl, .int .i64 o.job.len, .int .i64 o.job.units, .int .i64 o.job.val, .int .i64 o.arrival, .int .i64 o.step, .int .i64 o.wasS, .int .i64 o.wasT, .bool o.charged] 70 (0, 0)) := by rw [hw4]; exact heap_alloc_new wr _
          have HK4 := hide (HKM.out.chg0 HY.out hq4)
          have hs4 : wr.heap.size < w4.heap.size := (Array.getElem?_eq_some_iff.1 hbx4).1
          have HNF := hide (show ¬ F2 wr.heap.size from fun h => by have := HY.out.lt _ _ _ _ HKM.out.yard _ h; omega)
          have HLOOK := hide (HY.out.look w4 y F2 m o.ten o.ref HK4.out.yard HKP.out.good.ok hti hri)
          rw [← r1, ← r2] at l1 l2 l3
          rw [l1, l2, l3] at HLOOK
          have HLL := hide (And.intro l1 l2)
          have HBX4 := hide hbx4
          have HW4 := hide hw4
          clear hx ho r1 r2 r3 r4 hbo l1 l2 l3 hbv hbc hbv0 hq4 hbx4 hw4 hti hri
          go_wp2_with fail
          rw [← HW4.out]
          refine HLOOK.out.mono ?_
          rintro e w5 ⟨rfl, hto⟩
          obtain ⟨F5, hk5, hch5, hft5⟩ := HK4.out.yto hto
          have hbx5 := (hch5.block _ hs4 HNF.out).trans HBX4.out
          have hs5 : wr.heap.size < w5.heap.size := (Array.getElem?_eq_some_iff.1 hbx5).1
          have HNF5 := hide (show ¬ F5 wr.heap.size from fun h => by
            rcases hft5 _ h with h1 | h1
            · exact HNF.out h1
            · omega)
          obtain ⟨w6, hw6⟩ : ∃ w6, w6 = w5.alloc (.cells #[.int .i64 x.state, .int .i64 x.start] 68) := ⟨_, rfl⟩
          have hq6 : Chg (fun _ => False) w5 w6 := by rw [hw6]; exact (Chg.refl _ _).alloc _
          have HK6 := hide (hk5.chg0 HY.out hq6)
          have hbx6 := (hq6.block _ hs5 (fun h => h)).trans hbx5
          have HW6 := hide hw6
          have c56 : w6.cell? ⟨p, 5, none⟩ = some (.slice (some ⟨gb, 0, none⟩) n bc) := by
            have h1 : wr.cell? ⟨p, 5, none⟩ = some V.bv := HKM.out.book.cell 5
            have h2 : w6.cell? ⟨p, 5, none⟩ = some V.bv := HK6.out.book.cell 5
            rw [h2, ← h1, c5]
          have c55 : w5.cell? ⟨p, 5, none⟩ = some (.slice (some ⟨gb, 0, none⟩) n bc) := by
            have h1 : wr.cell? ⟨p, 5, none⟩ = some V.bv := HKM.out.book.cell 5
            have h2 : w5.cell? ⟨p, 5, none⟩ = some V.bv := hk5.book.cell 5
            rw [h2, ← h1, c5]
          have hp5 : p < w5.heap.size := hk5.book.lt
          have g0 : w5.cell? ⟨wr.heap.size, 0, none⟩ = some (.int .i64 o.ten) := by unfold World.cell?; rw [hbx5]; rfl
          have g1 : w5.cell? ⟨wr.heap.size, 1, none⟩ = some (.int .i64 o.ref) := by unfold World.cell?; rw [hbx5]; rfl
          have x0 : w6.cell? ⟨wr.heap.size, 0, none⟩ = some (.int .i64 o.ten) := by unfold World.cell?; rw [hbx6]; rfl
          have x1 : w6.cell? ⟨wr.heap.size, 1, none⟩ = some (.int .i64 o.ref) := by unfold World.cell?; rw [hbx6]; rfl
          have x2 : w6.cell? ⟨wr.heap.size, 2, none⟩ = some (.int .i64 o.job.arr) := by unfold World.cell?; rw [hbx6]; rfl
          have x3 : w6.cell? ⟨wr.heap.size, 3, none⟩ = some (.int .i64 o.job.dl) := by unfold World.cell?; rw [hbx6]; rfl
          have x4 : w6.cell? ⟨wr.heap.size, 4, none⟩ = some (.int .i64 o.job.len) := by unfold World.cell?; rw [hbx6]; rfl
          have x5 : w6.cell? ⟨wr.heap.size, 5, none⟩ = some (.int .i64 o.job.units) := by unfold World.cell?; rw [hbx6]; rfl
          have x6 : w6.cell? ⟨wr.heap.size, 6, none⟩ = some (.int .i64 o.job.val) := by unfold World.cell?; rw [hbx6]; rfl
          have x7 : w6.cell? ⟨wr.heap.size, 7, none⟩ = some (.int .i64 o.arrival) := by unfold World.cell?; rw [hbx6]; rfl
          have x8 : w6.cell? ⟨wr.heap.size, 8, none⟩ = some (.int .i64 o.step) := by unfold World.cell?; rw [hbx6]; rfl
          have x9 : w6.cell? ⟨wr.heap.size, 9, none⟩ = some (.int .i64 o.wasS) := by unfold World.cell?; rw [hbx6]; rfl
          have x10 : w6.cell? ⟨wr.heap.size, 10, none⟩ = some (.int .i64 o.wasT) := by unfold World.cell?; rw [hbx6]; rfl
          have x11 : w6.cell? ⟨wr.heap.size, 11, none⟩ = some (.bool o.charged) := by unfold World.cell?; rw [hbx6]; rfl
          have HCAS := hide (HCA.out.chg HK6.out.chg)
          have HNEW := hide HK6.out.newF
          have HS56 := hide (show wr.heap.size < w6.heap.size from Nat.lt_of_lt_of_le hs5 hq6.size)
          have HSX := hide hbx6
          clear hto hk5 hch5 hft5 hbx5 hq6 hbx6 hw6 HLOOK HBX4 HW4 c5 b0 b1 b2 b3 b4 b5 b6 b7 b8 b9 b10 b11
          cases h2 : x.state == 2
          · have h2' : ¬ x.state = 2 := by simpa using h2
            have hd2 : (x.state != 2) = true := by simpa using h2'
            have HPR := hide (HP.out.price w6 y F5 m o.ten o.ref HK6.out.yard HKP.out.good HTR.out.1 HTR.out.2)
            have hpe : priceE m o.ten o.ref = 8 := by rw [priceE, if_pos HLL.out.1, HLL.out.2, if_neg h2']
            have hpv : priceV m o.ten o.ref = 0 := by rw [priceV, hpe]; rfl
            rw [hpe, hpv, HW6.out] at HPR
            clear hpe hpv c56
            obtain ⟨xs, hxs⟩ : ∃ xs, xs = x.state := ⟨_, rfl⟩
            go_wp2_with fail
            refine HPR.out.mono ?_
            rintro e w7 ⟨rfl, hto7⟩
            rw [← HW6.out] at hto7
            obtain ⟨F7, hk7, _, _⟩ := HK6.out.yto hto7
            have HK7 := hide hk7
            clear hto7 hk7 HPR
            go_wp2
            go_roundw
            case rel => exact ⟨k2 + 1, F7, by omega, by go_num, HK7.out⟩
            case measure => simp [intOf]; omega
          · have h2' : x.state = 2 := by simpa using h2
            have hd2 : (x.state != 2) = false := by simp [h2']
            have HPRD := hide (priced_any HY.out HT.out HP.out c sa k sc Z w.heap.size y F5 v0 w0 w6 HC.out HCA.out HK6.out.chg HK6.out.newF hsl HV0.out HK6.out.yard HSTP.out HKP.out.good HKP.out.sound HMC.out HKP.out.rel HO.out HX.out h2')
            have hpk := pickZ_lt wh (n : Int) (by omega)
            have HPK := hide (fun (w' : World) => kpick_any wh (n : Int) w' HWH.out.1 HWH.out.2 (by omega))
            obtain ⟨pz, hpz⟩ : ∃ pz, pz = pickZ wh (n : Int) := ⟨_, rfl⟩
            rw [← hpz] at HPK hpk
            have hcc : ∀ f u, (caseC c (.slice sa k sc))[f]? = some u → w6.cell? ⟨w.heap.size, f, none⟩ = some u := fun f u hu => (HCAS.out.cell f).trans hu
            have e0 : w6.cell? ⟨w.heap.size, 0, none⟩ = some (.int .i64 c.ticks) := hcc 0 _ rfl
            have e1 : w6.cell? ⟨w.heap.size, 1, none⟩ = some (.int .i64 c.cap) := hcc 1 _ rfl
            have e2 : w6.cell? ⟨w.heap.size, 2, none⟩ = some (.int .i64 c.res) := hcc 2 _ rfl
            have e3 : w6.cell? ⟨w.heap.size, 3, none⟩ = some (.int .i64 c.ten) := hcc 3 _ rfl
            have e4 : w6.cell? ⟨w.heap.size, 4, none⟩ = some (.int .i64 c.quo) := hcc 4 _ rfl
            have e5 : w6.cell? ⟨w.heap.size, 5, none⟩ = some (.slice sa k sc) := hcc 5 _ rfl
            clear hcc hpz h2'
            cases hpq : (k2 : Int) == pz
            · go_wp2_with (first | (go_at_call 25; rw [← HW6.out]; refine (HPK.out _).mono ?_; rintro e w7 ⟨rfl, hw7⟩; subst w7))
              go_roundw
              case rel => exact ⟨k2 + 1, F5, by omega, by go_num, HK6.out⟩
              case measure => simp [intOf]; omega
            · go_wp2_with (first | (go_at_call 25; rw [← HW6.out]; refine (HPK.out _).mono ?_; rintro e w7 ⟨rfl, hw7⟩; subst w7))
              refine HPRD.out.mono ?_
              rintro e w7 ⟨rfl, hto7⟩
              obtain ⟨F7, hk7, _, _⟩ := HK6.out.yto hto7
              have HK7 := hide hk7
              clear hto7 hk7 HPRD
              go_wp2
              go_roundw
              case rel => exact ⟨k2 + 1, F7, by omega, by go_num, HK7.out⟩
              case measure => simp [intOf]; omega
        · have hd : decide ((k2 : Int) < (n : Int)) = false := by simp; omega
          clear hbv0
          go_wp2
          go_ret
          exact ⟨rfl, (HC0.out.trans HKM.out.chg (fun _ _ h => h)).below (Nat.le_refl _) (fun _ h => h.elim)⟩
end Go.Proofs.Ytminceigjejipaa
