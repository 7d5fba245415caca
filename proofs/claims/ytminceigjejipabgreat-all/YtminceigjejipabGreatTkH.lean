import Derived.Test.YtminceigjejipabGreatG9
import Derived.Test.YtminceigjejipabGreatG7
import Derived.Deep.LoopGhost
namespace Go.Proofs.YtminceigjejipabGreat
open Go.RowKit

set_option maxRecDepth 100000 in
set_option maxHeartbeats 1000000 in
theorem tick_full (p : Nat) (V : MV) (m : MkG) (w : World) (hm : MktAt w p V m) (hl : m.log.length = 300) :
    Calls Tryz.prog 46 #[.pointer (some ⟨p, 0, none⟩)] w fun e w' => e = .returned (.tuple #[.slice none 0 0, .int .i64 2]) ∧ MktTo w p V m w' := by
  have HM := hide hm
  have HL := hide hl
  clear hm hl
  go_enter Tryz.func46, Tryz.ntmps46
  go_wp2_with fail
  refine (logged_full p V m callTick _ HM.out HL.out).mono ?_
  rintro e w1 ⟨rfl, h1⟩
  have H1 := hide h1
  clear h1
  go_wp2
  go_ret2
  exact ⟨rfl, MktTo.full HM.out H1.out⟩

set_option maxRecDepth 100000 in
set_option maxHeartbeats 2000000 in
theorem tick_over (p : Nat) (V : MV) (m : MkG) (w : World) (hm : MktAt w p V m) (hl : m.log.length < 300) (ht : m.c.ticks ≤ m.time) :
    Calls Tryz.prog 46 #[.pointer (some ⟨p, 0, none⟩)] w fun e w' => e = .returned (.tuple #[.slice none 0 0, .int .i64 11]) ∧ MktTo w p V (m.logs callTick) w' := by
  have HM := hide hm
  have HL := hide hl
  clear hm hl
  go_enter Tryz.func46, Tryz.ntmps46
  go_wp2_with fail
  refine (logged_ok p V m callTick _ HM.out HL.out).mono ?_
  rintro e w1 ⟨rfl, hto⟩
  obtain ⟨V1, hm1, hc1, hf1⟩ := hto
  have HTO := hide (show MktTo w p V (m.logs callTick) w1 from ⟨V1, hm1, hc1, hf1⟩)
  have c0 : w1.cell? ⟨p, 0, none⟩ = some (.int .i64 m.c.ticks) := hm1.cell 0
  have c5 : w1.cell? ⟨p, 5, none⟩ = some (.int .i64 m.time) := hm1.cell 5
  have d : decide (m.c.ticks ≤ m.time) = true := by simpa using ht
  clear hm1 hc1 hf1
  generalize m.c.ticks = tk at *
  generalize m.time = tm at *
  go_wp2
  go_quiet (fail)
  go_wp2
  go_ret2
  exact ⟨rfl, HTO.out.chg0 ((Chg.refl _ _).drewN _)⟩

theorem startM_eq {m : MkG} {i : Nat} {b : BidG} (h : m.bids[i]? = some b) (t : Int) : startM m i t = { m with bids := m.bids.set i { b with state := 2, start := t } } := by
  unfold startM
  rw [h]

set_option maxRecDepth 100000 in
set_option maxHeartbeats 16000000 in
theorem tick_none (p : Nat) (V : MV) (m : MkG) (w : World) (hm : MktAt w p V m) (hok : MkOk m) (hl : m.log.length < 300) (ht : m.time < m.c.ticks) (hgh : ghostI (m.logs callTick) m.time = none) :
    Calls Tryz.prog 46 #[.pointer (some ⟨p, 0, none⟩)] w fun e w' => ∃ ov l, IsOrder m m.time l ∧ e = .returned (.tuple #[ov, .int .i64 0]) ∧ TickTo w p V (tickM m l).2 (tickM m l).1 ov w' := by
  have HM := hide hm
  have HL := hide hl
  have HOK := hide hok
  have HGH := hide hgh
  have hcf := cfgOk_true hok.ck
  have ht0 := hok.t0
  clear hm hl hok hgh
  go_enter Tryz.func46, Tryz.ntmps46
  go_wp2_with fail
  refine (logged_ok p V m callTick _ HM.out HL.out).mono ?_
  rintro e w1 ⟨rfl, hto⟩
  obtain ⟨V1, hm1, hc1, hf1⟩ := hto
  have H1 := hide hm1
  have HOK1 := hide (HOK.out.logs HL.out callTick)
  have HAF := hide (fun m2 w2 (h : MktTo w1 p V1 m2 w2) => MktTo.after hc1 hf1 h)
  have HS1 := hide hc1.size
  have c0 : w1.cell? ⟨p, 0, none⟩ = some (.int .i64 m.c.ticks) := hm1.cell 0
  have c5 : w1.cell? ⟨p, 5, none⟩ = some (.int .i64 m.time) := hm1.cell 5
  have d : decide (m.c.ticks ≤ m.time) = false := by simp; omega
  obtain ⟨n, hn⟩ : ∃ n, n = m.bids.length := ⟨_, rfl⟩
  obtain ⟨ba, bc, hbv, _⟩ := hm1.bid_form
  have c7 : w1.cell? ⟨p, 7, none⟩ = some (.slice ba n bc) := by rw [hn, ← show V1.bv = .slice ba m.bids.length bc from hbv]; exact hm1.cell 7
  have HN := hide hn
  have hnb := HOK.out.bl
  rw [← hn] at hnb
  clear hm1 hc1 hf1 hbv hn
  have ht1 : m.time ≤ 63 := by omega
  obtain ⟨t, hte⟩ : ∃ t, t = m.time := ⟨_, rfl⟩
  rw [← hte] at c5 d ht0 ht1 ht HGH
  obtain ⟨tk, htk⟩ : ∃ tk, tk = m.c.ticks := ⟨_, rfl⟩
  rw [← htk] at c0 d ht hcf
  have HTE := hide hte
  clear hte htk
  have hmk := run_make_row' (P := Tryz.prog) 84 4 (.bool false) 1 Tryz.underlying84 infoBool rfl .i64 .i64 n (by omega) (by omega)
  go_wp2
  go_quiet (fail)
  go_wp2_with fail
  obtain ⟨wa, hwa⟩ : ∃ wa, wa = (w1.drewN nq).alloc (.cells (madeCells #[.bool false] n) 4) := ⟨_, rfl⟩
  rw [← hwa]
  have hca : Chg (fun _ => False) w1 wa := by rw [hwa]; exact ((Chg.refl _ _).drewN _).alloc _
  have hla : wa.heap[w1.heap.size]? = some (.cells (madeCells #[.bool false] n) 4 (0, 0)) := by rw [hwa]; exact heap_alloc_new (w1.drewN nq) _
  have HST0 := hide (show TickSt w1 p V1 w1.heap.size n (m.logs callTick) [] [] (.slice none 0 0) wa from
    ⟨H1.out.chg0 hca, ⟨_, hla, by rw [size_madeCells]; omega, fun j hj => by simp [madeCells, hj, inL, Nat.mod_one]⟩, World.ownsRow_nil _ _ _ _, hca.mono (fun _ _ h => h.elim), H1.out.foot_lt, Nat.le_refl _, fun k hk => by simp [Value.ownBlock] at hk⟩)
  clear hwa hca hla hmk c0 c5 c7 d
  refine (ghost_at p V1 (m.logs callTick) t _ HST0.out.mkt HOK1.out (by omega) (by omega)).mono ?_
  rintro e wb ⟨rfl, hq⟩
  have hgz : ghostZ (m.logs callTick) t = -1 := by rw [ghostZ, HGH.out]
  rw [hgz]
  have HST1 := hide (HST0.out.chg0 hq)
  clear hq hgz HST0
  go_wp2
  go_loopg [7] (remL n []) (fun k ov wr => ∃ done mr out, k = remL n done ∧ Sel (m.logs callTick) t done ∧ tickFold t none (m.logs callTick) done = (mr, out) ∧ out.length + remL n done ≤ n ∧ TickSt w1 p V1 w1.heap.size n mr out done ov wr)
  case atStart => exact ⟨[], _, _, rfl, Sel.nil _ _, rfl, by have : remL n [] ≤ (List.range n).length := List.countP_le_length; simp at this ⊢; exact this, HST1.out⟩
  case round =>
    clear HST1
    obtain ⟨done, mr, out, hgk, hsel, hfold, hol0, hst⟩ := hrel
    have HOL0 := hide hol0
    clear hol0
    have hokr : MkOk mr := by have := MkOk.fold none (t := t) (by omega) (by omega) done (m.logs callTick, []) HOK1.out; rw [show done.foldl (tickOne t none) (m.logs callTick, []) = (mr, out) from hfold] at this; exact this
    have halr : AlikeM (m.logs callTick) mr done := by have := AlikeM.fold t none done (m.logs callTick, []); rw [show done.foldl (tickOne t none) (m.logs callTick, []) = (mr, out) from hfold] at this; exact this
    have hlen : mr.bids.length = n := halr.len.trans HN.out.symm
    have hbest := nextGo_best (t := t) (lk := inL done) HOK1.out.sizes n
    have hnx : nextGo mr t (inL done) mr.bids.length = nextGo (m.logs callTick) t (inL done) n := by rw [hlen]; exact halr.next t (inL done) (fun i hi => by simp [inL, hi]) n
    have hlt := nextGo_lt (m.logs callTick) t (inL done) n
    have HGK := hide hgk
    have HSEL := hide hsel
    have HFOLD := hide hfold
    have HST := hide hst
    have HOKR := hide hokr
    have HLEN := hide hlen
    have HALR := hide halr
    clear hgk hsel hfold hst hokr halr hlen
    go_wp2_with fail
    refine (next_at p V1 mr t (.slice (some ⟨w1.heap.size, 0, none⟩) n n) (inL done) _ HST.out.mkt HOKR.out (by rw [HLEN.out]; exact HST.out.lkAt n) (by omega) (by omega)).mono ?_
    rintro e w2 ⟨rfl, hq2⟩
    rw [hnx]
    have HST2 := hide (HST.out.chg0 hq2)
    clear hq2 hnx HST
    obtain ⟨z, hz⟩ : ∃ z, z = nextGo (m.logs callTick) t (inL done) n := ⟨_, rfl⟩
    rw [← hz] at hbest hlt ⊢
    clear hz
    have HBEST := hide hbest
    clear hbest
    by_cases hz0 : z < 0
    · have HORD := hide (HSEL.out.done (show n = (m.logs callTick).bids.length from HN.out) HBEST.out hz0)
      clear HBEST HSEL
      have hmt : mr.time = t := by have := HALR.out.time; rw [this]; exact HTE.out.symm
      have c5 : w2.cell? ⟨p, 5, none⟩ = some (.int .i64 t) := by rw [← hmt]; exact HST2.out.mkt.cell 5
      have f5 : w2.frozen? ⟨p, 5, none⟩ = false := HST2.out.mkt.free 5
      have HTM := hide (HST2.out.boxV (f := 5) (m' := { mr with time := t + 1 }) (u := .int .i64 (t + 1)) rfl rfl rfl rfl rfl rfl rfl)
      have hwt : IntKind.i64.wrap (t + 1) = t + 1 := by rw [IntKind.wrap_i64]; omega
      clear hmt HST2 HGK HALR
      go_wp2
      go_loopw [13] (fun y wr => ∃ k : Nat, k ≤ n ∧ y = .int .i64 k ∧ TickSt w1 p V1 w1.heap.size n { mr with time := t + 1, bids := expTo mr.bids k (t + 1) } out done u7 wr) (fun y _ => n - (intOf y).toNat)
      case atStart => exact ⟨0, by omega, rfl, by rw [expTo_zero]; exact HTM.out⟩
      case round =>
        obtain ⟨k, hk, rfl, hst⟩ := hrel
        have HSTK := hide hst
        obtain ⟨ba2, bc2, hbv2, _⟩ := hst.mkt.bid_form
        have hlk : (expTo mr.bids k (t + 1)).length = n := by rw [expTo_len]; exact HLEN.out
        have c7 : wr.cell? ⟨p, 7, none⟩ = some (.slice ba2 n bc2) := by rw [← hlk, ← show V1.bv = .slice ba2 (expTo mr.bids k (t + 1)).length bc2 from hbv2]; exact hst.mkt.cell 7
        have c5 : wr.cell? ⟨p, 5, none⟩ = some (.int .i64 (t + 1)) := hst.mkt.cell 5
        clear hst
        by_cases hlt : k < n
        · obtain ⟨b, hb⟩ : ∃ b, mr.bids[k]? = some b := ⟨_, List.getElem?_eq_getElem (by rw [HLEN.out]; exact hlt)⟩
          have hb2 : (expTo mr.bids k (t + 1))[k]? = some b := by rw [expTo_get]; exact hb
          obtain ⟨gb, cap, hv, hown, hgbl, hbcl, hbfr⟩ := HSTK.out.mkt.bidCell hb2
          have hv' : V1.bv = .slice (some ⟨gb, 0, none⟩) n cap := by rw [← hlk]; exact hv
          have hba : ba2 = some ⟨gb, 0, none⟩ ∧ bc2 = cap := by
            have h1 : V1.bv = .slice ba2 n bc2 := by rw [← hlk]; exact hbv2
            rw [hv'] at h1
            simp at h1
            exact ⟨h1.1.symm, h1.2.symm⟩
          obtain ⟨rfl, rfl⟩ := hba
          have hbok := HOKR.out.bid b (List.mem_of_getElem? hb)
          have hvb := jobIn_true hbok.job
          have hcr := cfgOk_true HOKR.out.ck
          have hle : 1 ≤ b.job.len ∧ b.job.len ≤ 64 := by omega
          obtain ⟨l1, l2⟩ := hle
          have b8 : wr.cell? ⟨gb, k * 12 + 8, none⟩ = some (.int .i64 b.state) := hbcl 8 _ rfl
          have b4 : wr.cell? ⟨gb, k * 12 + 4, none⟩ = some (.int .i64 b.job.len) := hbcl 4 _ rfl
          have b3 : wr.cell? ⟨gb, k * 12 + 3, none⟩ = some (.int .i64 b.job.dl) := hbcl 3 _ rfl
          have f8 := hbfr (k * 12 + 8)
          have k0 : (0 : Int) ≤ (k : Int) := by omega
          have k1 : (k : Int) < (n : Int) := by omega
          have hwl : IntKind.i64.wrap (t + 1 + b.job.len) = t + 1 + b.job.len := by rw [IntKind.wrap_i64]; omega
          have HB := hide hb
          have HB2 := hide hb2
          have HOW := hide hown
          clear hv hv' hown hbcl hbfr hbok hvb hcr hb hb2 hbv2 hlk
          cases h1 : b.state == 1
          · have E := hide (show expTo mr.bids (k + 1) (t + 1) = expTo mr.bids k (t + 1) from expTo_same HB.out (by unfold BidG.expire; rw [h1]; rfl))
            go_wp2
            go_quiet (fail)
            go_wp2
            go_roundw
            case rel => exact ⟨k + 1, by omega, by go_num, by rw [E.out]; exact HSTK.out.chg0 ((Chg.refl _ _).drewN _)⟩
            case measure => simp [intOf]; omega
          · by_cases h2 : b.job.dl < t + 1 + b.job.len
            · have E := hide (show expTo mr.bids (k + 1) (t + 1) = (expTo mr.bids k (t + 1)).set k { b with state := 4 } by rw [expTo_succ HB.out]; unfold BidG.expire; rw [h1]; simp [h2])
              have HN2 := hide (HSTK.out.bid (i := k) (g := gb) (r := 8) (b := b) (b' := { b with state := 4 }) (u := .int .i64 4) HB2.out (by omega) HOW.out rfl)
              have d2 : decide (b.job.dl < t + 1 + b.job.len) = true := by simpa using h2
              go_wp2
              go_quiet (fail)
              go_wp2
              go_roundw
              case rel => exact ⟨k + 1, by omega, by go_num, by rw [E.out]; first | exact HN2.out | exact HN2.out.chg0 ((Chg.refl _ _).drewN _) | exact ((HSTK.out.chg0 ((Chg.refl _ _).drewN _)).bid (i := k) (g := gb) (r := 8) (b := b) (b' := { b with state := 4 }) (u := .int .i64 4) HB2.out (by omega) HOW.out rfl)⟩
              case measure => simp [intOf]; omega
            · have E := hide (show expTo mr.bids (k + 1) (t + 1) = expTo mr.bids k (t + 1) from expTo_same HB.out (by unfold BidG.expire; rw [h1]; simp [h2]))
              have d2 : decide (b.job.dl < t + 1 + b.job.len) = false := by simp; omega
              go_wp2
              go_quiet (fail)
              go_wp2
              go_roundw
              case rel => exact ⟨k + 1, by omega, by go_num, by rw [E.out]; exact HSTK.out.chg0 ((Chg.refl _ _).drewN _)⟩
              case measure => simp [intOf]; omega
        · have hkn : k = n := by omega
          have HKN := hide hkn
          clear hkn hbv2 hlk
          go_wp2
          go_ret2
          have hord : IsOrder m m.time done := by rw [← HTE.out]; exact ⟨HORD.out.mem, HORD.out.sorted⟩
          have hfold2 : tickFold m.time none (m.logs callTick) done = (mr, out) := by rw [← HTE.out]; exact HFOLD.out
          have hg2 : ghostI (m.logs callTick) m.time = none := by rw [← HTE.out]; exact HGH.out
          have htm : tickM m done = ({ mr with time := t + 1, bids := expTo mr.bids k (t + 1) }, out) := by
            unfold tickM
            simp only [hg2, hfold2, wantEnd, tickEnd]
            rw [← HTE.out, HKN.out, ← HLEN.out, expTo_all]
          refine ⟨u7, done, hord, rfl, ?_⟩
          rw [htm]
          exact ⟨HAF.out _ _ ⟨V1, HSTK.out.mkt, HSTK.out.chg, fun k hk => .inl hk⟩, HSTK.out.out, fun k hk => Nat.le_trans HS1.out (HSTK.out.ov k hk)⟩
    · obtain ⟨i, rfl⟩ := Int.eq_ofNat_of_zero_le (show 0 ≤ z by omega)
      obtain ⟨hsel2, hnd, b, hb, hcb⟩ := HSEL.out.snoc (show n = (m.logs callTick).bids.length from HN.out) HBEST.out
      have hbr : mr.bids[i]? = some b := (HALR.out.bid i hnd).trans hb
      have hin : i < n := by omega
      have i0 : (0 : Int) ≤ (i : Int) := by omega
      have i1 : (i : Int) < (n : Int) := by omega
      obtain ⟨la, lc, hlv, hlk⟩ := HST2.out.lkAt n
      simp at hlv
      obtain ⟨rfl, rfl⟩ := hlv
      obtain ⟨gl, hgl, _, l1, l2⟩ := hlk i hin
      simp at hgl
      subst hgl
      have HST3 := hide (HST2.out.look i)
      have HBR := hide hbr
      have HND := hide hnd
      have HSEL2 := hide hsel2
      clear hsel2 hnd hb hcb hbr hlk hlt HBEST HST2
      go_wp2_with fail
      refine (fits_at p V1 mr i b t _ HST3.out.mkt HOKR.out HBR.out (by omega) (by omega)).mono ?_
      rintro e w4 ⟨rfl, hq4⟩
      have HST4 := hide (HST3.out.chg0 hq4)
      clear hq4 HST3 l1 l2
      obtain ⟨gb, cap, hv, hown, hgbl, hbcl, _⟩ := HST4.out.mkt.bidCell HBR.out
      rw [HLEN.out] at hv
      have hbok := HOKR.out.bid b (List.mem_of_getElem? HBR.out)
      have hcr := cfgOk_true HOKR.out.ck
      have hsz := sizeJ_pos hbok.job hcr.1.2
      have hvb := jobIn_true hbok.job
      have c7 : w4.cell? ⟨p, 7, none⟩ = some (.slice (some ⟨gb, 0, none⟩) n cap) := by rw [← hv]; exact HST4.out.mkt.cell 7
      have HMEA := hide (remL_lt hin HND.out)
      cases hf : fitsB mr b t
      · have E := hide (show tickFold t none (m.logs callTick) (done ++ [i]) = (mr, out) by rw [tickFold_snoc, HFOLD.out, tickOne]; simp only [HBR.out, hf]; rfl)
        clear hf hbcl hv hown hgbl hbok hcr hsz hvb c7
        go_wp2
        go_quiet (fail)
        go_wp2
        go_roundg (remL n (done ++ [i]))
        case measure => rw [HGK.out]; exact HMEA.out
        case rel => exact ⟨done ++ [i], mr, out, rfl, HSEL2.out, E.out, by have := HMEA.out; have := HOL0.out; omega, HST4.out.chg0 ((Chg.refl _ _).drewN _)⟩
      · have c2 : w4.cell? ⟨p, 2, none⟩ = some (.int .i64 mr.c.res) := HST4.out.mkt.cell 2
        have b2 : w4.cell? ⟨gb, i * 12 + 2, none⟩ = some (.int .i64 b.job.arr) := hbcl 2 _ rfl
        have b3 : w4.cell? ⟨gb, i * 12 + 3, none⟩ = some (.int .i64 b.job.dl) := hbcl 3 _ rfl
        have b4 : w4.cell? ⟨gb, i * 12 + 4, none⟩ = some (.int .i64 b.job.len) := hbcl 4 _ rfl
        have b5 : w4.cell? ⟨gb, i * 12 + 5, none⟩ = some (.int .i64 b.job.units) := hbcl 5 _ rfl
        have b6 : w4.cell? ⟨gb, i * 12 + 6, none⟩ = some (.int .i64 b.job.val) := hbcl 6 _ rfl
        have hpl : p < w4.heap.size := HST4.out.mkt.lt
        have hx := mul_lt (a := mr.c.res) (b := sizeJ b.job) (A := 1000) (B := 64000) (by omega) (by omega) (by omega) (by omega)
        have hwx : IntKind.i64.wrap (mr.c.res * sizeJ b.job) = mr.c.res * sizeJ b.job := by rw [IntKind.wrap_i64]; omega
        have HSZ := hide (size_any b.job w4.drew (by omega) (by omega))
        have HF := hide hf
        have HOWN := hide hown
        clear hbok hcr hsz hvb hbcl hv hown
        go_wp2
        go_region_held3 (fun w' => w'.cell? ⟨p, 7, none⟩ = some (.slice (some ⟨gb, 0, none⟩) n cap) ∧ w'.cell? ⟨p, 2, none⟩ = some (.int .i64 mr.c.res) ∧ w'.cell? ⟨gb, i * 12 + 2, none⟩ = some (.int .i64 b.job.arr) ∧ w'.cell? ⟨gb, i * 12 + 3, none⟩ = some (.int .i64 b.job.dl) ∧ w'.cell? ⟨gb, i * 12 + 4, none⟩ = some (.int .i64 b.job.len) ∧ w'.cell? ⟨gb, i * 12 + 5, none⟩ = some (.int .i64 b.job.units) ∧ w'.cell? ⟨gb, i * 12 + 6, none⟩ = some (.int .i64 b.job.val)) (go_keep)
          (first | (go_at_call 77; refine HSZ.out.mono ?_; rintro e w5 ⟨rfl, hq⟩; have x0 := hq.cell (p := ⟨p, 7, none⟩) hpl (fun h => h); have x1 := hq.cell (p := ⟨p, 2, none⟩) hpl (fun h => h); have x2 := hq.cell (p := ⟨gb, i * 12 + 2, none⟩) hgbl (fun h => h); have x3 := hq.cell (p := ⟨gb, i * 12 + 3, none⟩) hgbl (fun h => h); have x4 := hq.cell (p := ⟨gb, i * 12 + 4, none⟩) hgbl (fun h => h); have x5 := hq.cell (p := ⟨gb, i * 12 + 5, none⟩) hgbl (fun h => h); have x6 := hq.cell (p := ⟨gb, i * 12 + 6, none⟩) hgbl (fun h => h); have HQ := hide hq; clear hq))
        all_goals
          clear x0 x1 x2 x3 x4 x5 x6 c7 c2 b2 b3 b4 b5 b6 HSZ hwx
          have hq5 : Chg (fun _ => False) w4 w5 := ⟨HQ.out.os, HQ.out.tape, HQ.out.output, HQ.out.size, HQ.out.block⟩
          have HST5 := hide (HST4.out.chg0 hq5)
          clear HQ hq5 HST4 hgbl
          by_cases hwin : mr.c.res * sizeJ b.job ≤ b.job.val
          rotate_left
          · have E := hide (show tickFold t none (m.logs callTick) (done ++ [i]) = (mr, out) by rw [tickFold_snoc, HFOLD.out, tickOne]; simp only [HBR.out, HF.out, BidG.winB]; simp [hwin])
            have d1 : decide (mr.c.res * sizeJ b.job ≤ b.job.val) = false := by simpa using hwin
            generalize mr.c.res * sizeJ b.job = X at *
            go_wp2
            go_roundg (remL n (done ++ [i]))
            case measure => rw [HGK.out]; exact HMEA.out
            case rel => exact ⟨done ++ [i], mr, out, rfl, HSEL2.out, E.out, by have := HMEA.out; have := HOL0.out; omega, HST5.out⟩
          · have d1 : decide (mr.c.res * sizeJ b.job ≤ b.job.val) = true := by simpa using hwin
            have E := hide (show tickFold t none (m.logs callTick) (done ++ [i]) = (startM mr i t, out ++ [(b.ten, b.ref)]) by rw [tickFold_snoc, HFOLD.out, tickOne]; simp only [HBR.out, HF.out, BidG.winB]; simp [hwin])
            have hlb : i < mr.bids.length := (List.getElem?_eq_some_iff.1 HBR.out).1
            have HST6 := hide (HST5.out.bid (i := i) (g := gb) (r := 8) (b := b) (b' := { b with state := 2 }) (u := .int .i64 2) HBR.out (by omega) HOWN.out rfl)
            have HST7 := hide (show TickSt w1 p V1 w1.heap.size n (startM mr i t) out (done ++ [i]) _ ((w5.setCell ⟨gb, i * 12 + 8, none⟩ (.int .i64 2)).setCell ⟨gb, i * 12 + 9, none⟩ (.int .i64 t)) by
              have := HST6.out.bid (i := i) (g := gb) (r := 9) (b := { b with state := 2 }) (b' := { b with state := 2, start := t }) (u := .int .i64 t) (by simp [hlb]) (by omega) HOWN.out rfl
              rw [startM_eq HBR.out]
              simpa using this)
            obtain ⟨gb', cap', hv, hown', hgbl, hbcl, hbfr⟩ := HST5.out.mkt.bidCell HBR.out
            obtain rfl : gb' = gb := by have := HOWN.out; rw [hown'] at this; exact Option.some.inj this
            rw [HLEN.out] at hv
            have c7 : w5.cell? ⟨p, 7, none⟩ = some (.slice (some ⟨gb', 0, none⟩) n cap') := by rw [← hv]; exact HST5.out.mkt.cell 7
            have b0 : w5.cell? ⟨gb', i * 12, none⟩ = some (.int .i64 b.ten) := hbcl 0 _ rfl
            have b1 : w5.cell? ⟨gb', i * 12 + 1, none⟩ = some (.int .i64 b.ref) := hbcl 1 _ rfl
            have b8 : w5.cell? ⟨gb', i * 12 + 8, none⟩ = some (.int .i64 b.state) := hbcl 8 _ rfl
            have b9 : w5.cell? ⟨gb', i * 12 + 9, none⟩ = some (.int .i64 b.start) := hbcl 9 _ rfl
            have f8 := hbfr (i * 12 + 8)
            have f9 := hbfr (i * 12 + 9)
            have npg : p ≠ gb' := fun e => ownsRow_box HST5.out.mkt.bids HST5.out.mkt.box (by decide) (e ▸ hown')
            clear hv hown' hbcl hbfr hgbl HST5 HST6 hlb
            generalize mr.c.res * sizeJ b.job = X at *
            go_wp2
            obtain ⟨w6, hw6⟩ : ∃ w6, w6 = (w5.setCell ⟨gb', i * 12 + 8, none⟩ (.int .i64 2)).setCell ⟨gb', i * 12 + 9, none⟩ (.int .i64 t) := ⟨_, rfl⟩
            rw [← hw6] at HST7 ⊢
            clear hw6 c7 b0 b1 b8 b9 f8 f9
            have hlb : i < mr.bids.length := (List.getElem?_eq_some_iff.1 HBR.out).1
            have hb7 : (startM mr i t).bids[i]? = some { b with state := 2, start := t } := by rw [startM_eq HBR.out]; simp [hlb]
            obtain ⟨gb2, cap2, hv, hown', hgbl, hbcl, _⟩ := HST7.out.mkt.bidCell hb7
            have hlen7 : (startM mr i t).bids.length = n := by rw [startM_eq HBR.out]; simpa using HLEN.out
            rw [hlen7] at hv
            have c7 : w6.cell? ⟨p, 7, none⟩ = some (.slice (some ⟨gb2, 0, none⟩) n cap2) := by rw [← hv]; exact HST7.out.mkt.cell 7
            have b0 : w6.cell? ⟨gb2, i * 12, none⟩ = some (.int .i64 b.ten) := hbcl 0 _ rfl
            have b1 : w6.cell? ⟨gb2, i * 12 + 1, none⟩ = some (.int .i64 b.ref) := hbcl 1 _ rfl
            have hpl6 : p < w6.heap.size := HST7.out.mkt.lt
            have c7' : ∀ o, (w6.alloc o).cell? ⟨p, 7, none⟩ = some (.slice (some ⟨gb2, 0, none⟩) n cap2) := fun o => by rw [World.cell?_alloc_lt _ _ _ (by exact hpl6)]; exact c7
            have b0' : ∀ o, (w6.alloc o).cell? ⟨gb2, i * 12, none⟩ = some (.int .i64 b.ten) := fun o => by rw [World.cell?_alloc_lt _ _ _ (by exact hgbl)]; exact b0
            have b1' : ∀ o, (w6.alloc o).cell? ⟨gb2, i * 12 + 1, none⟩ = some (.int .i64 b.ref) := fun o => by rw [World.cell?_alloc_lt _ _ _ (by exact hgbl)]; exact b1
            obtain ⟨oa, oc, hov⟩ := ownsRow_form HST7.out.out
            subst hov
            obtain ⟨no, hno⟩ : ∃ no, no = out.length := ⟨_, rfl⟩
            have HOUT : Hid (w6.ownsRow 0 61 2 (.slice oa no oc) no (out.flatMap nameCells)) := by rw [hno]; exact HST7.out.out
            rw [← hno] at HST7 ⊢
            have HNO := hide hno
            have HOL := hide (show out.length ≤ 300 by have := HOL0.out; omega)
            have hol : no ≤ 300 := by rw [hno]; exact HOL.out
            obtain ⟨i0', hi, hz0', hz1, hz2⟩ := info_parts infoName
            clear hv hown' hbcl hb7 hlb hlen7 hno
            go_region_law (refine step_append_lies _ rfl (.tmp 109) (.tmp 127) 59 rfl 0 61 i0' (.agg #[.int .i64 0, .int .i64 0]) 2 16 Tryz.underlying59 hi hz0' hz1 hz2 rfl (by decide) (.slice oa no oc) no (out.flatMap nameCells) (by simp [Act.eval]) (by exact HOUT.out.alloc _) ⟨w6.heap.size, 0, none⟩ 1 1 (nameCells (b.ten, b.ref)) (by simp [Act.eval]) rfl (by exact World.news_of_block (heap_alloc_new w6 _)) (by simp [nameCells, Value.oneCell']) (by decide) (by unfold maxLen; omega) (by omega) (Nat.zero_le _) _ rfl ?_; intro g capn w7 hown hgrow hat2 hlt; have HST8 := tick_arm HST7.out HNO.out (by first | exact ((Chg.refl _ _).alloc _).drew | exact (Chg.refl _ _).alloc _) hown hgrow hat2 (by simp); clear hown hgrow hat2 hlt)
            all_goals
              clear c7 b0 b1 c7' b0' b1'
              go_wp2
              go_roundg (remL n (done ++ [i]))
              case measure => rw [HGK.out]; exact HMEA.out
              case rel => first | exact ⟨done ++ [i], _, _, rfl, HSEL2.out, E.out, by have := HMEA.out; have := HOL0.out; simp; omega, HST8.out⟩ | exact ⟨done ++ [i], _, _, rfl, HSEL2.out, E.out, by have := HMEA.out; have := HOL0.out; simp; omega, HST8.out.chg0 ((Chg.refl _ _).drew)⟩
end Go.Proofs.YtminceigjejipabGreat
