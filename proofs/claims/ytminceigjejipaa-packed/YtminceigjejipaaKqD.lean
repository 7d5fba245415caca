import Derived.Test.YtminceigjejipaaKqE
/-
  yardkeep: packed: what is left behind a Tick.
-/
namespace Go.Proofs.Ytminceigjejipaa
open Go.RowKit

set_option maxRecDepth 100000 in
set_option maxHeartbeats 16000000 in
theorem packed_any {YAt : World → Nat → (Nat → Prop) → MkG → Prop} (hY : YardSpec YAt) (y : Nat) (F0 : Nat → Prop) (m' : MkG) (t : Int) (p : Nat) (V : BV) (b : BookG) (w : World) (hy : YAt w y F0 m') (hbk : BookAt w p V b) (hdis : ∀ k, V.foot p k → ¬ F0 k) (hg : GoodM m') (hs : SoundM m') (hrel : BookRel m' b) (ht0 : 0 ≤ t) (ht1 : t < m'.c.ticks)
    (hleft : ∀ (i : Nat) (x : BidG), m'.bids[i]? = some x → LeftP m' t m'.c.res x) :
    Calls Try.prog 22 #[.pointer (some ⟨p, 0, none⟩), .pointer (some ⟨y, 0, none⟩), .int .i64 t] w fun e w' => e = .returned (.tuple #[.int .i64 (cntW m'.bids t m'.bids.length), .bool true]) ∧ ∃ F, LkSt YAt w y F0 m' F w' := by
  obtain ⟨n, hn⟩ : ∃ n, n = m'.bids.length := ⟨_, rfl⟩
  have hnl : n ≤ 300 := by rw [hn]; exact hg.ok.bl
  have hcf := cfgOk_true hg.ok.ck
  have ht2 : t < 64 := by omega
  have hr0 : 0 ≤ m'.c.res ∧ m'.c.res ≤ 1000 := by omega
  have HN := hide hn
  have HY := hide hY
  have HBK := hide hbk
  have HDIS := hide hdis
  have HG := hide hg
  have HS := hide hs
  have HREL := hide hrel
  have HLEFT := hide hleft
  have HST0 := hide (show LkSt YAt w y F0 m' F0 w from ⟨hy, Chg.refl _ _, fun _ h => .inl h⟩)
  clear hY hbk hdis hg hs hrel hleft hy hn hcf ht1
  go_enter Try.func22, Try.ntmps22
  go_wp2
  go_loopw [8, 9] (fun c i wr => ∃ (k : Nat) (F : Nat → Prop), k ≤ n ∧ i = .int .i64 k ∧ c = .int .i64 (cntW m'.bids t k) ∧ LkSt YAt w y F0 m' F wr) (fun _ i _ => n - (intOf i).toNat)
  case atStart => exact ⟨0, F0, by omega, rfl, rfl, HST0.out⟩
  case round =>
    obtain ⟨k, F, hk, rfl, rfl, hst⟩ := hrel
    have HST := hide hst
    have hbkr := hst.book HBK.out HDIS.out
    obtain ⟨nb', hnb'⟩ : ∃ nb', nb' = b.bids.length := ⟨_, rfl⟩
    have hnn : nb' = n := by rw [hnb', HREL.out.len, HN.out]
    obtain ⟨ba, bc, hbv0⟩ := hbkr.bidForm
    have c5 : wr.cell? ⟨p, 5, none⟩ = some (.slice ba n bc) := by rw [← hnn, hnb', ← hbv0]; exact hbkr.cell 5
    have hcl : cntW m'.bids t k ≤ 300 := by
      unfold cntW
      have h1 := List.countP_le_length (p := fun x : BidG => (x.state == 2) && (x.start == t)) (l := m'.bids.take k)
      rw [List.length_take] at h1
      omega
    clear hst hnb' hnn nb'
    by_cases hlt : k < n
    · obtain ⟨x, hx⟩ : ∃ x, m'.bids[k]? = some x := ⟨_, List.getElem?_eq_getElem (by rw [← HN.out]; exact hlt)⟩
      obtain ⟨o, ho⟩ : ∃ o, b.bids[k]? = some o := ⟨_, List.getElem?_eq_getElem (by rw [HREL.out.len, ← HN.out]; exact hlt)⟩
      obtain ⟨r1, r2, r3, r4⟩ := HREL.out.bid k o x ho hx
      obtain ⟨⟨z1, z2⟩, ⟨v1, v2⟩, ⟨u1, u2⟩⟩ := job_nums HG.out.ok (List.mem_of_getElem? hx)
      have hbo := HG.out.ok.bid x (List.mem_of_getElem? hx)
      obtain ⟨l1, l2, l3⟩ := HS.out.look HG.out.ok hx
      obtain ⟨gb, bcap, hbv, _, _, hbc, _⟩ := hbkr.bidCell ho
      have hba : ba = some ⟨gb, 0, none⟩ := by
        rw [hbv0] at hbv
        simp at hbv
        exact hbv.1
      subst hba
      have k0 : (0 : Int) ≤ (k : Int) := by omega
      have k1 : (k : Int) < (n : Int) := by omega
      have hd : decide ((k : Int) < (n : Int)) = true := by simpa using k1
      have b0 : wr.cell? ⟨gb, k * 12, none⟩ = some (.int .i64 o.ten) := hbc 0 _ rfl
      have b1 : wr.cell? ⟨gb, k * 12 + 1, none⟩ = some (.int .i64 o.ref) := hbc 1 _ rfl
      have b2 : wr.cell? ⟨gb, k * 12 + 2, none⟩ = some (.int .i64 o.job.arr) := hbc 2 _ rfl
      have b3 : wr.cell? ⟨gb, k * 12 + 3, none⟩ = some (.int .i64 o.job.dl) := hbc 3 _ rfl
      have b4 : wr.cell? ⟨gb, k * 12 + 4, none⟩ = some (.int .i64 o.job.len) := hbc 4 _ rfl
      have b5 : wr.cell? ⟨gb, k * 12 + 5, none⟩ = some (.int .i64 o.job.units) := hbc 5 _ rfl
      have b6 : wr.cell? ⟨gb, k * 12 + 6, none⟩ = some (.int .i64 o.job.val) := hbc 6 _ rfl
      have b7 : wr.cell? ⟨gb, k * 12 + 7, none⟩ = some (.int .i64 o.arrival) := hbc 7 _ rfl
      have b8 : wr.cell? ⟨gb, k * 12 + 8, none⟩ = some (.int .i64 o.step) := hbc 8 _ rfl
      have b9 : wr.cell? ⟨gb, k * 12 + 9, none⟩ = some (.int .i64 o.wasS) := hbc 9 _ rfl
      have b10 : wr.cell? ⟨gb, k * 12 + 10, none⟩ = some (.int .i64 o.wasT) := hbc 10 _ rfl
      have b11 : wr.cell? ⟨gb, k * 12 + 11, none⟩ = some (.bool o.charged) := hbc 11 _ rfl
      have HCS := hide (cntW_succ (t := t) hx)
      have HLP := hide (HLEFT.out k x hx)
      have HX := hide hx
      have HR := hide (show o.ten = x.ten ∧ o.ref = x.ref ∧ o.job = x.job ∧ o.arrival = x.arrival from ⟨r1, r2, r3, r4⟩)
      have HNZ := hide (show (1 ≤ sizeJ o.job ∧ sizeJ o.job ≤ 64000) ∧ (1 ≤ o.job.len ∧ o.job.len ≤ 64) ∧ o.job.dl ≤ 64 ∧ 0 ≤ o.job.dl from by
        rw [r3]
        obtain ⟨_, h2, _, _, _⟩ := hbo.nums HG.out.ok
        exact ⟨⟨z1, z2⟩, ⟨u1, u2⟩, h2.2, h2.1⟩)
      have hlen := HNZ.out.2
      obtain ⟨w4, hw4⟩ : ∃ w4, w4 = wr.alloc (.cells #[.int .i64 o.ten, .int .i64 o.ref, .int .i64 o.job.arr, .int .i64 o.job.dl, .int .i64 o.job.len, .int .i64 o.job.units, .int .i64 o.job.val, .int .i64 o.arrival, .int .i64 o.step, .int .i64 o.wasS, .int .i64 o.wasT, .bool o.charged] 70) := ⟨_, rfl⟩
      have hq4 : Chg (fun _ => False) wr w4 := by rw [hw4]; exact (Chg.refl _ _).alloc _
      have hbx4 : w4.heap[wr.heap.size]? = some (.cells #[.int .i64 o.ten, .int .i64 o.ref, .int .i64 o.job.arr, .int .i64 o.job.dl, .int .i64 o.job.len, .int .i64 o.job.units, .int .i64 o.job.val, .int .i64 o.arrival, .int .i64 o.step, .int .i64 o.wasS, .int .i64 o.wasT, .bool o.charged] 70 (0, 0)) := by rw [hw4]; exact heap_alloc_new wr _
      have HST4 := hide (HST.out.chg0 HY.out hq4)
      have hs4 : wr.heap.size < w4.heap.size := (Array.getElem?_eq_some_iff.1 hbx4).1
      have HNF := hide (show ¬ F wr.heap.size from fun h => by have := HY.out.lt _ _ _ _ HST.out.yard _ h; omega)
      have HLOOK := hide (HY.out.look w4 y F m' o.ten o.ref HST4.out.yard HG.out.ok (by have h1 := hbo.t0; have h2 := hbo.t1; have h3 := cfgOk_true HG.out.ok.ck; rw [← r1] at h1 h2; constructor <;> omega) (by have h1 := hbo.r0; have h2 := hbo.r1; rw [← r2] at h1 h2; constructor <;> omega))
      rw [← r1, ← r2] at l1 l2 l3
      rw [l1, l2, l3] at HLOOK
      have HBX4 := hide hbx4
      have HW4 := hide hw4
      have HBO := hide hbo
      clear hx ho r1 r2 r3 r4 z1 z2 v1 v2 u1 u2 hbo l1 l2 l3 hbv hbc hbv0 hbkr hq4 hbx4 hw4 HST0
      go_wp2_with fail
      rw [← HW4.out]
      refine HLOOK.out.mono ?_
      rintro e w5 ⟨rfl, hto⟩
      obtain ⟨F5, hst5, hfar⟩ := HST4.out.yto hto
      have hbx5 := (hfar _ hs4 HNF.out).trans HBX4.out
      have hs5 : wr.heap.size < w5.heap.size := (Array.getElem?_eq_some_iff.1 hbx5).1
      have hb5 := hst5.book HBK.out HDIS.out
      obtain ⟨w6, hw6⟩ : ∃ w6, w6 = w5.alloc (.cells #[.int .i64 x.state, .int .i64 x.start] 68) := ⟨_, rfl⟩
      have hq6 : Chg (fun _ => False) w5 w6 := by rw [hw6]; exact (Chg.refl _ _).alloc _
      have hbd6 : w6.heap[w5.heap.size]? = some (.cells #[.int .i64 x.state, .int .i64 x.start] 68 (0, 0)) := by rw [hw6]; exact heap_alloc_new w5 _
      have hbx6 := (hq6.block _ hs5 (fun h => h)).trans hbx5
      have HST6 := hide (hst5.chg0 HY.out hq6)
      have hb6 := hb5.chg0 hq6
      have HW6 := hide hw6
      have d0 : w6.cell? ⟨w5.heap.size, 0, none⟩ = some (.int .i64 x.state) := by unfold World.cell?; rw [hbd6]; rfl
      have d1 : w6.cell? ⟨w5.heap.size, 1, none⟩ = some (.int .i64 x.start) := by unfold World.cell?; rw [hbd6]; rfl
      have x0 : w6.cell? ⟨wr.heap.size, 0, none⟩ = some (.int .i64 o.ten) := by unfold World.cell?; rw [hbx6]; rfl
      have x2 : w6.cell? ⟨wr.heap.size, 2, none⟩ = some (.int .i64 o.job.arr) := by unfold World.cell?; rw [hbx6]; rfl
      have x3 : w6.cell? ⟨wr.heap.size, 3, none⟩ = some (.int .i64 o.job.dl) := by unfold World.cell?; rw [hbx6]; rfl
      have x4 : w6.cell? ⟨wr.heap.size, 4, none⟩ = some (.int .i64 o.job.len) := by unfold World.cell?; rw [hbx6]; rfl
      have x5 : w6.cell? ⟨wr.heap.size, 5, none⟩ = some (.int .i64 o.job.units) := by unfold World.cell?; rw [hbx6]; rfl
      have x6 : w6.cell? ⟨wr.heap.size, 6, none⟩ = some (.int .i64 o.job.val) := by unfold World.cell?; rw [hbx6]; rfl
      have x7 : w6.cell? ⟨wr.heap.size, 7, none⟩ = some (.int .i64 o.arrival) := by unfold World.cell?; rw [hbx6]; rfl
      have g3 : w5.cell? ⟨wr.heap.size, 3, none⟩ = some (.int .i64 o.job.dl) := by unfold World.cell?; rw [hbx5]; rfl
      have g4 : w5.cell? ⟨wr.heap.size, 4, none⟩ = some (.int .i64 o.job.len) := by unfold World.cell?; rw [hbx5]; rfl
      have cr : w6.cell? ⟨p, 2, none⟩ = some (.int .i64 b.c.res) := hb6.cell 2
      obtain ⟨ti, hti⟩ := Int.eq_ofNat_of_zero_le (show 0 ≤ o.ten by rw [HR.out.1]; exact HBO.out.t0)
      have hsl : ti < b.susp.length := by
        have h1 := HBO.out.t1
        have h2 := HG.out.ok.ns
        rw [HREL.out.susp, h2]
        rw [← HR.out.1] at h1
        omega
      obtain ⟨gs, scap, hsv, _, _, hsc, _⟩ := hb6.suspCell hsl
      have c6 : w6.cell? ⟨p, 6, none⟩ = some (.slice (some ⟨gs, 0, none⟩) b.susp.length scap) := by rw [← hsv]; exact hb6.cell 6
      have hsf : b.susp.getD ti false = suspAt m' x.ten := by
        unfold suspAt
        rw [← HR.out.1, hti, Int.toNat_natCast, ← HREL.out.susp]
      rw [hsf] at hsc
      rw [hti] at x0
      have t0 : (0 : Int) ≤ (ti : Int) := by omega
      have t1 : (ti : Int) < (b.susp.length : Int) := by omega
      have hwn : IntKind.i64.wrap ((cntW m'.bids t k : Int) + 1) = (cntW m'.bids t k : Int) + 1 := by rw [IntKind.wrap_i64]; omega
      have hwt : IntKind.i64.wrap (t + 1) = t + 1 := by rw [IntKind.wrap_i64]; omega
      have hwt2 : IntKind.i64.wrap (t + 1 + o.job.len) = t + 1 + o.job.len := by rw [IntKind.wrap_i64]; omega
      obtain ⟨rs, hrs⟩ : ∃ rs, rs = b.c.res := ⟨_, rfl⟩
      have HRS := hide (show rs = m'.c.res by rw [hrs, HREL.out.c])
      have hrs0 : 0 ≤ rs ∧ rs ≤ 1000 := by rw [hrs, HREL.out.c]; exact hr0
      have hwr : IntKind.i64.wrap (rs * sizeJ o.job) = rs * sizeJ o.job := by
        have h2 := HNZ.out.1
        have h3 : rs * sizeJ o.job ≤ 1000 * 64000 := Int.mul_le_mul (by omega) (by omega) (by omega) (by omega)
        have h4 : 0 ≤ rs * sizeJ o.job := Int.mul_nonneg (by omega) (by omega)
        rw [IntKind.wrap_i64]
        omega
      rw [← hrs] at cr
      have HSZ := hide (fun (w' : World) => ksz_any o.job w' HNZ.out.1.2 (by have := HNZ.out.1.1; omega))
      have HSZE := hide (show sizeJ x.job = sizeJ o.job by rw [HR.out.2.2.1])
      obtain ⟨sz, hsz⟩ : ∃ sz, sz = sizeJ o.job := ⟨_, rfl⟩
      rw [← hsz] at hwr HSZ HSZE
      obtain ⟨su, hsu⟩ : ∃ su, su = suspAt m' x.ten := ⟨_, rfl⟩
      rw [← hsu] at hsc
      have HSU := hide hsu
      have HAR := hide HR.out.2.2.2
      obtain ⟨cn, hcn⟩ : ∃ cn, cn = cntW m'.bids t k := ⟨_, rfl⟩
      rw [← hcn] at hwn HCS hcl ⊢
      obtain ⟨st, hst0⟩ : ∃ st, st = x.state := ⟨_, rfl⟩
      have HSTA := hide hst0
      rw [← hst0] at d0 HCS HW6
      obtain ⟨sr, hsr0⟩ : ∃ sr, sr = x.start := ⟨_, rfl⟩
      rw [← hsr0] at d1 HCS HW6
      rw [← hst0, ← hsr0]
      generalize b.susp.length = ns at *
      clear hto hst5 hfar hbx5 hq6 hbd6 hbx6 hb6 hb5 hw6 hsv hsf hti hsl hrs hsz hsu hcn hst0 hsr0 b0 b1 b2 b3 b4 b5 b6 b7 b8 b9 b10 b11 HLOOK HBX4 HW4 c5
      -- all ways end so: nothing but looks
      have HEND := hide (fun (F' : Nat → Prop) (w' : World) (c : Nat) (hc : cntW m'.bids t (k + 1) = c) (h : LkSt YAt w y F0 m' F' w') => show ∃ (k' : Nat) (F'' : Nat → Prop), k' ≤ n ∧ Value.int .i64 ((k : Int) + 1) = .int .i64 k' ∧ Value.int .i64 (c : Int) = .int .i64 (cntW m'.bids t k') ∧ LkSt YAt w y F0 m' F'' w' from ⟨k + 1, F', by omega, by simp, by rw [hc], h⟩)
      by_cases hpen : st = 1
      · subst hpen
        have HC0 := hide (show cntW m'.bids t (k + 1) = cn by rw [HCS.out]; simp)
        have hlate : decide (o.job.dl < t + 1 + o.job.len) = false := by
          have h1 := HLP.out.late HSTA.out.symm
          rw [← HR.out.2.2.1] at h1
          simp
          omega
        cases su
        rotate_left
        · -- suspended
          go_wp2
          rw [← HW6.out]
          go_quiet (fail)
          go_wp2
          go_roundw
          case rel => exact HEND.out _ _ _ HC0.out (HST6.out.chg0 HY.out ((Chg.refl _ _).drewN _))
          case measure => simp [intOf]; omega
        cases har : decide (t < o.arrival)
        rotate_left
        · -- not yet
          go_wp2
          rw [← HW6.out]
          go_quiet (fail)
          go_wp2
          go_roundw
          case rel => exact HEND.out _ _ _ HC0.out (HST6.out.chg0 HY.out ((Chg.refl _ _).drewN _))
          case measure => simp [intOf]; omega
        have HCALL := hide HSZ.out
        cases hvd : decide (o.job.val < rs * sz)
        rotate_left
        · -- worth too little
          go_wp2
          rw [← HW6.out]
          go_region_held3 (fun w' => w'.cell? ⟨w5.heap.size, 0, none⟩ = some (.int .i64 1) ∧ w'.cell? ⟨p, 2, none⟩ = some (.int .i64 rs) ∧ w'.cell? ⟨p, 6, none⟩ = some (.slice (some ⟨gs, 0, none⟩) ns scap) ∧ w'.cell? ⟨gs, ti, none⟩ = some (.bool false) ∧ w'.cell? ⟨wr.heap.size, 0, none⟩ = some (.int .i64 (ti : Int)) ∧ w'.cell? ⟨wr.heap.size, 2, none⟩ = some (.int .i64 o.job.arr) ∧ w'.cell? ⟨wr.heap.size, 3, none⟩ = some (.int .i64 o.job.dl) ∧ w'.cell? ⟨wr.heap.size, 4, none⟩ = some (.int .i64 o.job.len) ∧ w'.cell? ⟨wr.heap.size, 5, none⟩ = some (.int .i64 o.job.units) ∧ w'.cell? ⟨wr.heap.size, 6, none⟩ = some (.int .i64 o.job.val) ∧ w'.cell? ⟨wr.heap.size, 7, none⟩ = some (.int .i64 o.arrival)) (go_keep)
            (first | (go_at_call 54; refine (HSZ.out _).mono ?_; rintro e w7 ⟨rfl, hq⟩; have hk7 := hq.keep; have HQ7 := hide (show Chg (fun _ => False) w6 w7 from ⟨hq.os, hq.tape, hq.output, hq.size, hq.block⟩); clear hq; have y0 := hk7 _ _ d0; have y1 := hk7 _ _ cr; have y2 := hk7 _ _ c6; have y3 := hk7 _ _ hsc; have y4 := hk7 _ _ x0; have z2 := hk7 _ _ x2; have z3 := hk7 _ _ x3; have z4 := hk7 _ _ x4; have z5 := hk7 _ _ x5; have z6 := hk7 _ _ x6; have z7 := hk7 _ _ x7; clear hk7))
          have HST7 := hide (HST6.out.chg0 HY.out HQ7.out)
          clear y0 y1 y2 y3 y4 z2 z3 z4 z5 z6 z7
          go_wp2
          go_roundw
          case rel => exact HEND.out _ _ _ HC0.out HST7.out
          case measure => simp [intOf]; omega
        · -- its units are not free
          have HFIT := hide (show fitsB m' x t = false from HLP.out.fit HSTA.out.symm HSU.out.symm (by rw [← HAR.out]; simpa using har) (by rw [HSZE.out, ← HRS.out, ← HR.out.2.2.1]; simpa using hvd))
          go_wp2
          rw [← HW6.out]
          go_region_held3 (fun w' => w'.cell? ⟨w5.heap.size, 0, none⟩ = some (.int .i64 1) ∧ w'.cell? ⟨p, 2, none⟩ = some (.int .i64 rs) ∧ w'.cell? ⟨p, 6, none⟩ = some (.slice (some ⟨gs, 0, none⟩) ns scap) ∧ w'.cell? ⟨gs, ti, none⟩ = some (.bool false) ∧ w'.cell? ⟨wr.heap.size, 0, none⟩ = some (.int .i64 (ti : Int)) ∧ w'.cell? ⟨wr.heap.size, 2, none⟩ = some (.int .i64 o.job.arr) ∧ w'.cell? ⟨wr.heap.size, 3, none⟩ = some (.int .i64 o.job.dl) ∧ w'.cell? ⟨wr.heap.size, 4, none⟩ = some (.int .i64 o.job.len) ∧ w'.cell? ⟨wr.heap.size, 5, none⟩ = some (.int .i64 o.job.units) ∧ w'.cell? ⟨wr.heap.size, 6, none⟩ = some (.int .i64 o.job.val) ∧ w'.cell? ⟨wr.heap.size, 7, none⟩ = some (.int .i64 o.arrival)) (go_keep)
            (first | (go_at_call 54; refine (HSZ.out _).mono ?_; rintro e w7 ⟨rfl, hq⟩; have hk7 := hq.keep; have HQ7 := hide (show Chg (fun _ => False) w6 w7 from ⟨hq.os, hq.tape, hq.output, hq.size, hq.block⟩); clear hq; have y0 := hk7 _ _ d0; have y1 := hk7 _ _ cr; have y2 := hk7 _ _ c6; have y3 := hk7 _ _ hsc; have y4 := hk7 _ _ x0; have z2 := hk7 _ _ x2; have z3 := hk7 _ _ x3; have z4 := hk7 _ _ x4; have z5 := hk7 _ _ x5; have z6 := hk7 _ _ x6; have z7 := hk7 _ _ x7; clear hk7))
          have HST7 := hide (HST6.out.chg0 HY.out HQ7.out)
          have HROOM := hide (room_any HY.out y F5 m' x t w7 HST7.out.yard HG.out.ok ht0 (by
            have h1 := HLP.out.late HSTA.out.symm
            have h2 := jobIn_true HBO.out.job
            omega) (by rw [← HR.out.2.2.1]; exact hlen.1.1))
          rw [HFIT.out, ← HR.out.2.2.1] at HROOM
          clear y0 y1 y2 y3 y4 HSZ d0 d1 cr c6 hsc x0 x2 x3 x4 x5 x6 x7 hwr hvd har hlate
          go_wp2_with fail
          refine HROOM.out.mono ?_
          rintro e w8 ⟨rfl, hto8⟩
          obtain ⟨F8, hst8, _⟩ := HST7.out.yto hto8
          have HST8 := hide hst8
          clear hto8 hst8 HROOM z2 z3 z4 z5 z6 z7
          go_wp2
          go_roundw
          case rel => exact HEND.out _ _ _ HC0.out HST8.out
          case measure => simp [intOf]; omega
      · have hd1 : (st == 1) = false := by simpa using hpen
        have hd1b : (st != 1) = true := by simpa using hpen
        clear HLP HSU HAR HSZ HRS HR HNZ HBO hwr hwt hwt2 hr0 hrs0 hlen hsc x0 x2 x3 x4 x5 x6 x7 cr c6
        cases h2 : st == 2
        · have HC0 := hide (show cntW m'.bids t (k + 1) = cn by rw [HCS.out, h2]; simp)
          go_wp2
          rw [← HW6.out]
          go_quiet (fail)
          go_wp2
          go_roundw
          case rel => exact HEND.out _ _ _ HC0.out (HST6.out.chg0 HY.out ((Chg.refl _ _).drewN _))
          case measure => simp [intOf]; omega
        · cases h3 : sr == t
          · have HC0 := hide (show cntW m'.bids t (k + 1) = cn by rw [HCS.out, h2, h3]; simp)
            go_wp2
            rw [← HW6.out]
            go_quiet (fail)
            go_wp2
            go_roundw
            case rel => exact HEND.out _ _ _ HC0.out (HST6.out.chg0 HY.out ((Chg.refl _ _).drewN _))
            case measure => simp [intOf]; omega
          · have HC0 := hide (show cntW m'.bids t (k + 1) = cn + 1 by rw [HCS.out, h2, h3]; simp)
            go_wp2
            rw [← HW6.out]
            go_quiet (fail)
            go_wp2
            go_roundw
            case rel => exact HEND.out _ _ _ HC0.out (HST6.out.chg0 HY.out ((Chg.refl _ _).drewN _))
            case measure => simp [intOf]; omega
    · have hd : decide ((k : Int) < (n : Int)) = false := by simp; omega
      have HE := hide (show cntW m'.bids t k = cntW m'.bids t m'.bids.length by
        rw [show k = m'.bids.length by rw [← HN.out]; omega])
      clear hbv0 hbkr
      go_wp2
      go_ret2
      exact ⟨by rw [HE.out]; rfl, F, HST.out⟩
end Go.Proofs.Ytminceigjejipaa
