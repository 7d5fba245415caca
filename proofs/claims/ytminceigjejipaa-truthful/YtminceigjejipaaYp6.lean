import Derived.Test.YtminceigjejipaaG19
import Derived.Test.YtminceigjejipaaG17
/-
  A PRICE IN THE PROGRAM: the log made once more with another value ('wins'), and the least value found by halves.
-/
namespace Go.Proofs.Ytminceigjejipaa
open Go.RowKit

theorem yfold_take {m0 : MkG} {l : List CallG} {k : Nat} {c : CallG} (hc : l[k]? = some c) : (l.take (k + 1)).foldl againM m0 = againM ((l.take k).foldl againM m0) c := by
  rw [take_snoc hc, List.foldl_append]
  rfl

/-- the replay under way -/
structure WinSt (w : World) (q : Nat) (X : MkG) (wr : World) : Prop where
  st : ∃ V : YV, V.q = q ∧ YmAt wr V X ∧ ∀ k, V.foot k → w.heap.size ≤ k
  rep : RepOk X
  chg : Chg (fun _ => False) w wr
theorem WinSt.step {w wr w5 : World} {q : Nat} {X' : MkG} {V : YV} (hq : V.q = q) (hf : ∀ k, V.foot k → w.heap.size ≤ k) (hrep : RepOk X') (hc : Chg (fun _ => False) w wr) (ht : YmTo wr V X' w5) : WinSt w q X' w5 := by
  obtain ⟨V', a0, a1, a2, a3⟩ := ht
  refine ⟨⟨V', a0.trans hq, a1, fun k hk => ?_⟩, hrep, hc.trans a2 (fun k hk hf' => ?_)⟩
  · rcases a3 k hk with h | h
    · exact hf k h
    · exact Nat.le_trans hc.size h
  · have := hf k hf'
    omega

set_option maxRecDepth 100000 in
set_option maxHeartbeats 8000000 in
theorem wins_any (p : Nat) (V : YV) (L : LV) (m : MkG) (i : Nat) (b : BidG) (v : Int) (w : World) (hy : YAtV w p V L m) (hok : MkOk m) (hb : m.bids[i]? = some b) (e : Nat) (he : b.entry = e) (hk1 : ∀ x, m.log[e]? = some x → x.kind = 1) :
    Calls Try.prog 75 #[.pointer (some ⟨p, 0, none⟩), .int .i64 i, .int .i64 v] w fun r w' => r = .returned (.bool (lookS (replayV m.c e v m.log) b.ten b.ref == 2)) ∧ Chg (fun _ => False) w w' := by
  have HY := hide hy
  have HOK := hide hok
  have HB := hide hb
  have HE := hide he
  have HK1 := hide hk1
  have cq : w.cell? ⟨p, 0, none⟩ = some (.pointer (some ⟨V.q, 0, none⟩)) := hy.cq
  have m0 : w.cell? ⟨V.q, 0, none⟩ = some (.int .i64 m.c.ticks) := hy.mkt.cell 0
  have m1 : w.cell? ⟨V.q, 1, none⟩ = some (.int .i64 m.c.cap) := hy.mkt.cell 1
  have m2 : w.cell? ⟨V.q, 2, none⟩ = some (.int .i64 m.c.res) := hy.mkt.cell 2
  have m3 : w.cell? ⟨V.q, 3, none⟩ = some (.int .i64 m.c.ten) := hy.mkt.cell 3
  have m4 : w.cell? ⟨V.q, 4, none⟩ = some (.int .i64 m.c.quo) := hy.mkt.cell 4
  clear hy hok hb he hk1
  go_enter Try.func75, Try.ntmps75
  go_wp2_with fail
  refine (newMarket_any m.c _ HOK.out.ck).mono ?_
  rintro r1 w1 ⟨V0, rfl, hm0, hq0, hf0⟩
  clear cq m0 m1 m2 m3 m4
  have HY1 := hide (HY.out.chg0 hq0)
  have HST := hide (show WinSt w V0.q (openM m.c) w1 from ⟨⟨V0, rfl, hm0, hf0⟩, RepOk.open HOK.out.ck, hq0⟩)
  obtain ⟨ca, cc, hcv, _⟩ := HY1.out.yb.calls_form
  obtain ⟨n, hn⟩ : ∃ n, n = m.log.length := ⟨_, rfl⟩
  have c1 : w1.cell? ⟨p, 1, none⟩ = some (.slice ca n cc) := by rw [hn, ← hcv]; exact HY1.out.yb.cell 1
  have HCV : Hid (L.cv = .slice ca n cc) := by rw [hn]; exact hcv
  have HN := hide hn
  have hn3 : n ≤ 300 := by rw [hn]; exact HOK.out.nl
  obtain ⟨lv, hlv⟩ : ∃ lv, lv = logV e v m.log := ⟨_, rfl⟩
  have HLV := hide hlv
  clear hm0 hq0 hf0 hcv hn hlv
  generalize V0.q = q at *
  go_wp2
  go_loopw [25] (fun y wr => ∃ k : Nat, k ≤ n ∧ y = .int .i64 k ∧ WinSt w q ((lv.take k).foldl againM (openM m.c)) wr) (fun y _ => n - (intOf y).toNat)
  case atStart => exact ⟨0, by omega, rfl, HST.out⟩
  case round =>
    obtain ⟨k, hk, rfl, hst⟩ := hrel
    have HW := hide hst
    have HYR := hide (HY.out.chg0 hst.chg)
    obtain ⟨V2, hq2, hm2, hf2⟩ := hst.st
    have hlk : ((lv.take k).foldl againM (openM m.c)).log.length = k := by
      rw [fold_log _ _ (by rw [List.length_take]; simp [openM]; omega)]
      rw [List.length_take, HLV.out, logV_len, ← HN.out]
      simp [openM]
      omega
    have hbl := HOK.out.bl
    have hil : i < m.bids.length := (List.getElem?_eq_some_iff.1 HB.out).1
    have c1r : wr.cell? ⟨p, 1, none⟩ = some (.slice ca n cc) := by rw [← HCV.out]; exact HYR.out.yb.cell 1
    clear c1 hst
    by_cases hlt : k < n
    · obtain ⟨c, hc⟩ : ∃ c, m.log[k]? = some c := ⟨_, List.getElem?_eq_getElem (by rw [← HN.out]; exact hlt)⟩
      obtain ⟨ca2, cc2, hcv2, hcel⟩ := HYR.out.yb.calls_form
      obtain ⟨gc, hgc, hcel⟩ := hcel k c hc
      have hca : ca = some ⟨gc, 0, none⟩ := by
        have := HCV.out
        rw [hcv2, hgc] at this
        simp at this
        exact this.1.symm
      subst hca
      have l0 : wr.cell? ⟨gc, k * 12, none⟩ = some (.int .i64 (ycallOf c).kind) := hcel 0 _ rfl
      have l1 : wr.cell? ⟨gc, k * 12 + 1, none⟩ = some (.int .i64 (ycallOf c).ten) := hcel 1 _ rfl
      have l2 : wr.cell? ⟨gc, k * 12 + 2, none⟩ = some (.int .i64 (ycallOf c).ref) := hcel 2 _ rfl
      have l3 : wr.cell? ⟨gc, k * 12 + 3, none⟩ = some (.int .i64 (ycallOf c).job.arr) := hcel 3 _ rfl
      have l4 : wr.cell? ⟨gc, k * 12 + 4, none⟩ = some (.int .i64 (ycallOf c).job.dl) := hcel 4 _ rfl
      have l5 : wr.cell? ⟨gc, k * 12 + 5, none⟩ = some (.int .i64 (ycallOf c).job.len) := hcel 5 _ rfl
      have l6 : wr.cell? ⟨gc, k * 12 + 6, none⟩ = some (.int .i64 (ycallOf c).job.units) := hcel 6 _ rfl
      have l7 : wr.cell? ⟨gc, k * 12 + 7, none⟩ = some (.int .i64 (ycallOf c).job.val) := hcel 7 _ rfl
      have l8 : wr.cell? ⟨gc, k * 12 + 8, none⟩ = some (.int .i64 (ycallOf c).fr) := hcel 8 _ rfl
      have l9 : wr.cell? ⟨gc, k * 12 + 9, none⟩ = some (.int .i64 (ycallOf c).to) := hcel 9 _ rfl
      have l10 : wr.cell? ⟨gc, k * 12 + 10, none⟩ = some (.int .i64 (ycallOf c).un) := hcel 10 _ rfl
      have l11 : wr.cell? ⟨gc, k * 12 + 11, none⟩ = some (.bool (ycallOf c).on) := hcel 11 _ rfl
      obtain ⟨na, nc, hnv, hnel⟩ := HYR.out.yb.subs_form
      obtain ⟨gn, hna, hncel⟩ := hnel i (e : Int) (by rw [List.getElem?_map, HB.out]; simp [HE.out])
      subst hna
      have c2r : wr.cell? ⟨p, 2, none⟩ = some (.slice (some ⟨gn, 0, none⟩) m.bids.length nc) := by
        have : wr.cell? ⟨p, 2, none⟩ = some L.nv := HYR.out.yb.cell 2
        rw [this, hnv, List.length_map]
      have hpl : p < wr.heap.size := HYR.out.lt
      have hgnl : gn < wr.heap.size := by
        have := HYR.out.yb.foot_lt gn (.inr (.inr (.inl (by rw [hnv]; rfl))))
        exact this
      have hneq : ∀ o, (wr.alloc o).cell? ⟨p, 2, none⟩ = some (.slice (some ⟨gn, 0, none⟩) m.bids.length nc) := fun o => by rw [World.cell?_alloc_lt _ _ _ (by exact hpl)]; exact c2r
      have hneq2 : ∀ o, (wr.alloc o).cell? ⟨gn, i, none⟩ = some (.int .i64 (e : Int)) := fun o => by rw [World.cell?_alloc_lt _ _ _ (by exact hgnl)]; exact hncel
      have k0 : (0 : Int) ≤ (k : Int) := by omega
      have k1 : (k : Int) < (n : Int) := by omega
      have i0 : (0 : Int) ≤ (i : Int) := by omega
      have i1 : (i : Int) < (m.bids.length : Int) := by omega
      have hrepn := HW.out.rep
      have HFIN := hide (fun (c' : CallG) (hc' : lv[k]? = some c') (w5 : World) (o : Obj) (ht : YmTo (wr.alloc o) V2 (againM ((lv.take k).foldl againM (openM m.c)) c') w5) => show WinSt w q ((lv.take (k + 1)).foldl againM (openM m.c)) w5 from by
        rw [yfold_take hc']
        exact WinSt.step hq2 hf2 (hrepn.again (by omega) c') (HW.out.chg.alloc o) ht)
      have HANS := hide (fun (c' : CallG) (o : Obj) => answer_any V2 ((lv.take k).foldl againM (openM m.c)) (wr.alloc o) c' (hm2.chg0 ((Chg.refl _ _).alloc _)) hrepn.ok hrepn.arr hrepn.gh (by omega))
      have HG := hide (show lv[k]? = some (if k = e then withV c v else c) by rw [HLV.out, logV_get, hc]; rfl)
      have HC := hide hc
      rw [hq2] at HANS
      clear hcel hcv2 hgc hnel hnv hrepn hm2 hlk hc hncel c2r
      generalize m.bids.length = nb at *
      by_cases hke : k = e
      · have hkd : ((k : Int) == (e : Int)) = true := by rw [hke]; simp
        have HG1 := hide (show lv[k]? = some (withV c v) by rw [HG.out, if_pos hke])
        have hx := ycall_withV (HK1.out c (by rw [← hke]; exact HC.out)) v
        have HA1 := HANS.out (withV c v)
        rw [hx] at HA1
        have HA2 := hide HA1
        clear HANS HG HA1 hx hke
        generalize ycallOf c = x at *
        go_wp2_with fail
        refine (HA2.out _).mono ?_
        rintro r5 w5 ⟨z, rfl, hto⟩
        have HTO := hide (HFIN.out _ HG1.out _ _ hto)
        clear hto HA2 HFIN l0 l1 l2 l3 l4 l5 l6 l7 l8 l9 l10 l11 c1r hneq hneq2
        go_wp2
        go_roundw
        case rel => exact ⟨k + 1, by omega, by go_num, HTO.out⟩
        case measure => simp [intOf]; omega
      · have hkd : ((k : Int) == (e : Int)) = false := by simp; omega
        have HG1 := hide (show lv[k]? = some c by rw [HG.out, if_neg hke])
        have HA2 := hide (HANS.out c)
        clear HANS HG hke
        generalize ycallOf c = x at *
        go_wp2_with fail
        refine (HA2.out _).mono ?_
        rintro r5 w5 ⟨z, rfl, hto⟩
        have HTO := hide (HFIN.out _ HG1.out _ _ hto)
        clear hto HA2 HFIN l0 l1 l2 l3 l4 l5 l6 l7 l8 l9 l10 l11 c1r hneq hneq2
        go_wp2
        go_roundw
        case rel => exact ⟨k + 1, by omega, by go_num, HTO.out⟩
        case measure => simp [intOf]; omega
    · have hkn : k = n := by omega
      have hX : (lv.take k).foldl againM (openM m.c) = replayV m.c e v m.log := by
        rw [replayV_eq, HLV.out, List.take_of_length_le (by rw [logV_len, ← HN.out]; omega)]
      rw [hX] at hm2
      have hrep : RepOk (replayV m.c e v m.log) := by rw [← hX]; exact HW.out.rep
      have HLK := hide (ylook_any V2 (replayV m.c e v m.log) b.ten b.ref wr hm2 hrep.ok)
      rw [hq2] at HLK
      obtain ⟨ba, bc, hbv, hbel⟩ := HYR.out.mkt.bid_form
      obtain ⟨gb, hba, _, hbcl, _⟩ := hbel i b HB.out
      subst hba
      have cq : wr.cell? ⟨p, 0, none⟩ = some (.pointer (some ⟨V.q, 0, none⟩)) := HYR.out.cq
      have c6 : wr.cell? ⟨V.q, 6, none⟩ = some (.slice (some ⟨gb, 0, none⟩) m.bids.length bc) := by rw [← hbv]; exact HYR.out.mkt.cell 6
      have t0 : wr.cell? ⟨gb, i * 9, none⟩ = some (.int .i64 b.ten) := hbcl 0 _ rfl
      have t1 : wr.cell? ⟨gb, i * 9 + 1, none⟩ = some (.int .i64 b.ref) := hbcl 1 _ rfl
      have i0 : (0 : Int) ≤ (i : Int) := by omega
      have i1 : (i : Int) < (m.bids.length : Int) := by omega
      clear hX hm2 hrep hbcl hbel hbv hlk hkn
      generalize m.bids.length = nb at *
      go_wp2_with fail
      refine HLK.out.mono ?_
      rintro r5 w5 ⟨rfl, hq5⟩
      have HQ5 := hide (HW.out.chg.trans hq5 (fun _ _ h => h))
      clear hq5 HLK cq c6 t0 t1 c1r
      obtain ⟨ls, hls⟩ : ∃ x, x = lookS (replayV m.c e v m.log) b.ten b.ref := ⟨_, rfl⟩
      obtain ⟨lt, hlt'⟩ : ∃ x, x = lookT (replayV m.c e v m.log) b.ten b.ref := ⟨_, rfl⟩
      obtain ⟨le, hle⟩ : ∃ x, x = lookE (replayV m.c e v m.log) b.ten b.ref := ⟨_, rfl⟩
      rw [← hls, ← hlt', ← hle]
      have HLS := hide hls
      clear hls hlt' hle
      go_wp2
      go_ret
      exact ⟨by rw [← HLS.out]; rfl, HQ5.out.alloc _⟩

set_option maxRecDepth 100000 in
set_option maxHeartbeats 4000000 in
theorem yprice_any (p : Nat) (V : YV) (L : LV) (m : MkG) (i : Nat) (b : BidG) (w : World) (hy : YAtV w p V L m) (hok : MkOk m) (hh : Hist m) (hb : m.bids[i]? = some b) (hw : b.state = 2) :
    Calls Try.prog 59 #[.pointer (some ⟨p, 0, none⟩), .int .i64 i] w fun r w' => r = .returned (.int .i64 (priceM m b.entry)) ∧ Chg (fun _ => False) w w' := by
  obtain ⟨e, he, hcall, hwin⟩ := hh.wins hok hb hw
  have hpr := hh.price hok hb hw
  have hj := jobIn_true (hok.bid b (List.mem_of_getElem? hb)).job
  have HWIN := hide (fun (v : Int) (h1 : 1 ≤ v) (h2 : v ≤ 1048576) (w0 : World) (hc : Chg (fun _ => False) w w0) => show Calls Try.prog 75 #[.pointer (some ⟨p, 0, none⟩), .int .i64 i, .int .i64 v] w0 fun r w' => r = .returned (.bool (decide (priceM m b.entry ≤ v))) ∧ Chg (fun _ => False) w0 w' from
    (wins_any p V L m i b v w0 (hy.chg0 hc) hok hb e he (fun x hx => by rw [hcall] at hx; rw [← Option.some.inj hx]; rfl)).mono (fun r w' ⟨q1, q2⟩ => ⟨by
      rw [q1]
      congr 2
      rw [Bool.eq_iff_iff, beq_iff_eq, decide_eq_true_eq]
      exact hwin v h1 h2, q2⟩))
  obtain ⟨ba, bc, hbv, hbel⟩ := hy.mkt.bid_form
  obtain ⟨gb, hba, _, hbcl, _⟩ := hbel i b hb
  subst hba
  have cq : w.cell? ⟨p, 0, none⟩ = some (.pointer (some ⟨V.q, 0, none⟩)) := hy.cq
  have c6 : w.cell? ⟨V.q, 6, none⟩ = some (.slice (some ⟨gb, 0, none⟩) m.bids.length bc) := by rw [← hbv]; exact hy.mkt.cell 6
  have t6 : w.cell? ⟨gb, i * 9 + 6, none⟩ = some (.int .i64 b.job.val) := hbcl 6 _ rfl
  have hil : i < m.bids.length := (List.getElem?_eq_some_iff.1 hb).1
  have hbl := hok.bl
  have i0 : (0 : Int) ≤ (i : Int) := by omega
  have i1 : (i : Int) < (m.bids.length : Int) := by omega
  have hv2 : b.job.val ≤ 1048576 := by omega
  clear hy hok hh hb hw hwin hcall he hbcl hbel hbv hj
  generalize priceM m b.entry = N at *
  generalize b.job.val = bv at *
  generalize m.bids.length = nb at *
  go_enter Try.func59, Try.ntmps59
  go_wp2
  go_loopw [5, 6] (fun lo hi wr => ∃ a g : Int, lo = .int .i64 a ∧ hi = .int .i64 g ∧ 1 ≤ a ∧ a ≤ N ∧ N ≤ g ∧ g ≤ 1048576 ∧ Chg (fun _ => False) w wr) (fun lo hi _ => (intOf hi - intOf lo).toNat)
  case atStart => exact ⟨1, bv, rfl, rfl, by omega, by omega, by omega, by omega, Chg.refl _ _⟩
  case round =>
    obtain ⟨a, g, rfl, rfl, h1, h2, h3, h4, hcr⟩ := hrel
    have HCR := hide hcr
    clear hcr cq c6 t6
    by_cases hlt : a < g
    · obtain ⟨mid, hmid⟩ : ∃ mid, mid = (a + g) / 2 := ⟨_, rfl⟩
      have hww : IntKind.i64.wrap (a + g) = a + g := by rw [IntKind.wrap_i64]; omega
      have htd : Int.tdiv (a + g) 2 = mid := by rw [hmid, Int.tdiv_eq_ediv_of_nonneg (by omega)]
      have hwm : IntKind.i64.wrap mid = mid := by rw [IntKind.wrap_i64]; omega
      have hb1 : a ≤ mid ∧ mid < g := by omega
      have hww2 : IntKind.i64.wrap (mid + 1) = mid + 1 := by rw [IntKind.wrap_i64]; omega
      clear hmid
      have HW2 := hide (HWIN.out mid (by omega) (by omega) _ HCR.out)
      go_wp2_with fail
      refine HW2.out.mono ?_
      rintro r5 w5 ⟨rfl, hq5⟩
      have HQ5 := hide (HCR.out.trans hq5 (fun _ _ h => h))
      clear hq5 HW2
      by_cases hle : N ≤ mid
      · have hd : decide (N ≤ mid) = true := by simpa using hle
        rw [hd]
        go_wp2
        go_roundw
        case rel => exact ⟨a, mid, rfl, rfl, h1, h2, hle, by omega, HQ5.out⟩
        case measure => simp [intOf]; omega
      · have hd : decide (N ≤ mid) = false := by simpa using hle
        rw [hd]
        go_wp2
        go_roundw
        case rel => exact ⟨mid + 1, g, rfl, rfl, by omega, by omega, h3, h4, HQ5.out⟩
        case measure => simp [intOf]; omega
    · have hN : a = N := by omega
      have HN := hide hN
      clear hN
      go_wp2
      go_ret
      exact ⟨ret_int HN.out, HCR.out⟩
end Go.Proofs.Ytminceigjejipaa
