import Derived.Test.YtminceigjejipabGreatG12
/-
  BILL IN THE REFERENCE.
-/
namespace Go.Proofs.YtminceigjejipabGreat
open Go.RowKit

set_option maxRecDepth 100000 in
set_option maxHeartbeats 1000000 in
theorem bill_full (p : Nat) (V : MV) (m : MkG) (w : World) (hm : MktAt w p V m) (hl : m.log.length = 300) :
    Calls Tryz.prog 50 #[.pointer (some ⟨p, 0, none⟩)] w fun e w' => e = .returned (.tuple #[.slice none 0 0, .int .i64 2]) ∧ MktTo w p V m w' := by
  have HM := hide hm
  have HL := hide hl
  clear hm hl
  go_enter Tryz.func50, Tryz.ntmps50
  go_wp2_with fail
  refine (logged_full p V m callBill _ HM.out HL.out).mono ?_
  rintro e w1 ⟨rfl, h1⟩
  have H1 := hide h1
  clear h1
  go_wp2
  go_ret2
  exact ⟨rfl, MktTo.full HM.out H1.out⟩

set_option maxRecDepth 100000 in
set_option maxHeartbeats 8000000 in
theorem bill_ok (p : Nat) (V : MV) (m : MkG) (w : World) (hm : MktAt w p V m) (hok : MkOk m) (hcl : m.charges.length ≤ 300) (hl : m.log.length < 300) :
    Calls Tryz.prog 50 #[.pointer (some ⟨p, 0, none⟩)] w fun e w' => ∃ ov, e = .returned (.tuple #[ov, .int .i64 0]) ∧ BillTo w p V (billL m) (billM m) ov w' := by
  have HM := hide hm
  have HL := hide hl
  have HOK := hide hok
  clear hm hl hok
  go_enter Tryz.func50, Tryz.ntmps50
  go_wp2_with fail
  refine (logged_ok p V m callBill _ HM.out HL.out).mono ?_
  rintro e w1 ⟨rfl, hto⟩
  obtain ⟨V1, hm1, hc1, hf1⟩ := hto
  have H1 := hide hm1
  have HOK1 := hide (HOK.out.logs HL.out callBill)
  have HAF := hide (fun out m2 ov w2 (h : BillTo w1 p V1 out m2 ov w2) => BillTo.after hc1 hf1 h)
  clear hm1 hc1 hf1
  obtain ⟨n, hn⟩ : ∃ n, n = m.bids.length := ⟨_, rfl⟩
  have HN := hide hn
  have hnb := HOK.out.bl
  rw [← hn] at hnb
  clear hn
  have HST0 := hide (show BillSt w1 p V1 { m.logs callBill with bids := billTo m.bids 0 m.time } [] (.slice none 0 0) w1 from
    ⟨by rw [billTo_zero]; exact H1.out, World.ownsRow_nil _ _ _ _, Chg.refl _ _, H1.out.foot_lt, fun k hk => by simp [Value.ownBlock] at hk⟩)
  go_wp2
  go_loopw [5, 6] (fun ov y wr => ∃ k : Nat, k ≤ n ∧ y = .int .i64 k ∧ BillSt w1 p V1 { m.logs callBill with bids := billTo m.bids k m.time } (dueL (m.logs callBill) (m.bids.take k)) ov wr ∧ (dueL (m.logs callBill) (m.bids.take k) = [] → ov = .slice none 0 0)) (fun _ y _ => n - (intOf y).toNat)
  case atStart => exact ⟨0, by omega, rfl, HST0.out, fun _ => rfl⟩
  case round =>
    clear HST0
    obtain ⟨k, hk, rfl, hst, hnil⟩ := hrel
    have HST := hide hst
    have HNIL := hide hnil
    clear hst hnil
    have hlk : (billTo m.bids k m.time).length = n := by rw [billTo_len]; exact HN.out.symm
    obtain ⟨ba, bc, hbv, _⟩ := HST.out.mkt.bid_form
    have c7 : wr.cell? ⟨p, 7, none⟩ = some (.slice ba n bc) := by rw [← hlk, ← show V1.bv = .slice ba (billTo m.bids k m.time).length bc from hbv]; exact HST.out.mkt.cell 7
    by_cases hlt : k < n
    · obtain ⟨b, hb⟩ : ∃ b, m.bids[k]? = some b := ⟨_, List.getElem?_eq_getElem (by rw [← HN.out]; exact hlt)⟩
      have hb2 : (billTo m.bids k m.time)[k]? = some b := by rw [billTo_get]; exact hb
      obtain ⟨gb, cap, hv, hown, hgl, hbcl, _⟩ := HST.out.mkt.bidCell hb2
      have hba : ba = some ⟨gb, 0, none⟩ ∧ bc = cap := by
        rw [show V1.bv = .slice ba (billTo m.bids k m.time).length bc from hbv] at hv
        simp at hv
        exact hv
      obtain ⟨rfl, rfl⟩ := hba
      have hbok := HOK.out.bid b (List.mem_of_getElem? hb)
      have hvb := jobIn_true hbok.job
      have hcr := cfgOk_true HOK.out.ck
      have hdl : 1 ≤ b.job.dl ∧ b.job.dl ≤ 64 ∧ 1 ≤ b.job.len ∧ b.job.len ≤ 64 := by have := hbok.a0; have := hbok.a1; omega
      have hww : IntKind.i64.wrap (b.job.dl - b.job.len) = b.job.dl - b.job.len := by rw [IntKind.wrap_i64]; omega
      have k0 : (0 : Int) ≤ (k : Int) := by omega
      have k1 : (k : Int) < (n : Int) := by omega
      have b0 : wr.cell? ⟨gb, k * 12, none⟩ = some (.int .i64 b.ten) := hbcl 0 _ rfl
      have b1 : wr.cell? ⟨gb, k * 12 + 1, none⟩ = some (.int .i64 b.ref) := hbcl 1 _ rfl
      have b2 : wr.cell? ⟨gb, k * 12 + 2, none⟩ = some (.int .i64 b.job.arr) := hbcl 2 _ rfl
      have b3 : wr.cell? ⟨gb, k * 12 + 3, none⟩ = some (.int .i64 b.job.dl) := hbcl 3 _ rfl
      have b4 : wr.cell? ⟨gb, k * 12 + 4, none⟩ = some (.int .i64 b.job.len) := hbcl 4 _ rfl
      have b5 : wr.cell? ⟨gb, k * 12 + 5, none⟩ = some (.int .i64 b.job.units) := hbcl 5 _ rfl
      have b6 : wr.cell? ⟨gb, k * 12 + 6, none⟩ = some (.int .i64 b.job.val) := hbcl 6 _ rfl
      have b7 : wr.cell? ⟨gb, k * 12 + 7, none⟩ = some (.int .i64 b.arrival) := hbcl 7 _ rfl
      have b8 : wr.cell? ⟨gb, k * 12 + 8, none⟩ = some (.int .i64 b.state) := hbcl 8 _ rfl
      have b9 : wr.cell? ⟨gb, k * 12 + 9, none⟩ = some (.int .i64 b.start) := hbcl 9 _ rfl
      have b10 : wr.cell? ⟨gb, k * 12 + 10, none⟩ = some (.int .i64 b.entry) := hbcl 10 _ rfl
      have b11 : wr.cell? ⟨gb, k * 12 + 11, none⟩ = some (.bool b.charged) := hbcl 11 _ rfl
      have HB := hide hb
      have HB2 := hide hb2
      have HOWN := hide hown
      have hpl : p < wr.heap.size := HST.out.mkt.lt
      clear hbcl hv hown hbok hvb hcr hdl hb hb2 hbv hlk
      go_wp2_with fail
      obtain ⟨wb, hwb⟩ : ∃ wb, wb = wr.alloc (.cells #[.int .i64 b.ten, .int .i64 b.ref, .int .i64 b.job.arr, .int .i64 b.job.dl, .int .i64 b.job.len, .int .i64 b.job.units, .int .i64 b.job.val, .int .i64 b.arrival, .int .i64 b.state, .int .i64 b.start, .int .i64 b.entry, .bool b.charged] 118) := ⟨_, rfl⟩
      rw [← hwb]
      have hcb : Chg (fun _ => False) wr wb := by rw [hwb]; exact (Chg.refl _ _).alloc _
      have hbk : wb.heap[wr.heap.size]? = some (.cells #[.int .i64 b.ten, .int .i64 b.ref, .int .i64 b.job.arr, .int .i64 b.job.dl, .int .i64 b.job.len, .int .i64 b.job.units, .int .i64 b.job.val, .int .i64 b.arrival, .int .i64 b.state, .int .i64 b.start, .int .i64 b.entry, .bool b.charged] 118 (0, 0)) := by rw [hwb]; exact heap_alloc_new wr _
      have hbl : wr.heap.size < wb.heap.size := (Array.getElem?_eq_some_iff.1 hbk).1
      obtain ⟨B, hB⟩ : ∃ B, B = wr.heap.size := ⟨_, rfl⟩
      rw [← hB] at hbk hbl ⊢
      have HBn := hide (show ¬ V1.foot p B from fun h => by have := HST.out.fl B h; have := HST.out.chg.size; omega)
      have HSTB := hide (HST.out.chg0 hcb)
      have x0 : wb.cell? ⟨B, 0, none⟩ = some (.int .i64 b.ten) := by unfold World.cell?; rw [hbk]; rfl
      have x1 : wb.cell? ⟨B, 1, none⟩ = some (.int .i64 b.ref) := by unfold World.cell?; rw [hbk]; rfl
      have x3 : wb.cell? ⟨B, 3, none⟩ = some (.int .i64 b.job.dl) := by unfold World.cell?; rw [hbk]; rfl
      have x4 : wb.cell? ⟨B, 4, none⟩ = some (.int .i64 b.job.len) := by unfold World.cell?; rw [hbk]; rfl
      have x8 : wb.cell? ⟨B, 8, none⟩ = some (.int .i64 b.state) := by unfold World.cell?; rw [hbk]; rfl
      have x11 : wb.cell? ⟨B, 11, none⟩ = some (.bool b.charged) := by unfold World.cell?; rw [hbk]; rfl
      have p5 : wb.cell? ⟨p, 5, none⟩ = some (.int .i64 m.time) := HSTB.out.mkt.cell 5
      have HS := hide (dueL_snoc (m := m.logs callBill) HB.out)
      clear c7 b0 b1 b2 b3 b4 b5 b6 b7 b8 b9 b10 b11 hwb hcb hbk HST hpl hgl hB
      cases hdue : b.dueB m.time
      · have E1 := hide (show billTo m.bids (k + 1) m.time = billTo m.bids k m.time from billTo_same HB.out (by unfold BidG.bill; rw [hdue]; rfl))
        have E2 := hide (show dueL (m.logs callBill) (m.bids.take (k + 1)) = dueL (m.logs callBill) (m.bids.take k) by rw [HS.out, show b.dueB (m.logs callBill).time = false from hdue]; simp)
        have hd2 : (b.state == 2) = false ∨ ((b.state == 2) = true ∧ b.charged = true) ∨ ((b.state == 2) = true ∧ b.charged = false ∧ decide (b.job.dl - b.job.len < m.time) = false) := by
          unfold BidG.dueB at hdue
          cases h1 : (b.state == 2)
          · exact .inl rfl
          · cases h2 : b.charged
            · rw [h1, h2] at hdue
              exact .inr (.inr ⟨rfl, rfl, by simpa using hdue⟩)
            · exact .inr (.inl ⟨rfl, rfl⟩)
        clear hdue HS
        rcases hd2 with d1 | ⟨d1, d2⟩ | ⟨d1, d2, d3⟩
        · go_wp2
          go_quiet (fail)
          go_wp2
          go_roundw
          case rel => exact ⟨k + 1, by omega, by go_num, by rw [E1.out, E2.out]; exact HSTB.out.chg0 ((Chg.refl _ _).drewN _), by rw [E2.out]; exact HNIL.out⟩
          case measure => simp [intOf]; omega
        · rw [d2] at x11
          go_wp2
          go_quiet (fail)
          go_wp2
          go_roundw
          case rel => exact ⟨k + 1, by omega, by go_num, by rw [E1.out, E2.out]; exact HSTB.out.chg0 ((Chg.refl _ _).drewN _), by rw [E2.out]; exact HNIL.out⟩
          case measure => simp [intOf]; omega
        · rw [d2] at x11
          go_wp2
          go_quiet (fail)
          go_wp2
          go_roundw
          case rel => exact ⟨k + 1, by omega, by go_num, by rw [E1.out, E2.out]; exact HSTB.out.chg0 ((Chg.refl _ _).drewN _), by rw [E2.out]; exact HNIL.out⟩
          case measure => simp [intOf]; omega
      · have hd2 : (b.state == 2) = true ∧ b.charged = false ∧ decide (b.job.dl - b.job.len < m.time) = true := by
          unfold BidG.dueB at hdue
          simpa [and_assoc] using hdue
        obtain ⟨d1, d2, d3⟩ := hd2
        have E1 := hide (show billTo m.bids (k + 1) m.time = (billTo m.bids k m.time).set k { b with charged := true } by rw [billTo_succ HB.out]; unfold BidG.bill; rw [if_pos hdue])
        have E2 := hide (show dueL (m.logs callBill) (m.bids.take (k + 1)) = dueL (m.logs callBill) (m.bids.take k) ++ [invOf (m.logs callBill) b] by rw [HS.out, if_pos (show b.dueB (m.logs callBill).time = true from hdue)])
        clear hdue HS
        rw [d2] at x11
        obtain ⟨tm, htm⟩ : ∃ tm, tm = m.time := ⟨_, rfl⟩
        rw [← htm] at p5 d3
        have HTM := hide htm
        clear htm
        go_wp2
        go_quiet (fail)
        go_wp2_with fail
        refine (price_at p V1 { m.logs callBill with bids := billTo m.bids k m.time } k b _ (HSTB.out.mkt.chg0 ((Chg.refl _ _).drewN _)) (HOK1.out.billTo k m.time) HB2.out).mono ?_
        rintro e w3 ⟨rfl, hc3⟩
        have hcb3 : Chg (fun _ => False) wb w3 := ((Chg.refl _ _).drewN _).trans hc3 (fun _ _ h => h)
        have HST3 := hide (HSTB.out.chg0 hcb3)
        have y0 : w3.cell? ⟨B, 0, none⟩ = some (.int .i64 b.ten) := by rw [hcb3.cell (p := ⟨B, 0, none⟩) hbl (fun h => h)]; exact x0
        have y1 : w3.cell? ⟨B, 1, none⟩ = some (.int .i64 b.ref) := by rw [hcb3.cell (p := ⟨B, 1, none⟩) hbl (fun h => h)]; exact x1
        have hbl3 : B < w3.heap.size := Nat.lt_of_lt_of_le hbl hcb3.size
        clear x0 x1 x3 x4 x8 x11 p5 hc3 hcb3 hbl HSTB
        have hpm : priceM { m.logs callBill with bids := billTo m.bids k m.time } b.entry = priceM (m.logs callBill) b.entry := rfl
        rw [hpm]
        obtain ⟨X, hX⟩ : ∃ X, X = priceM (m.logs callBill) b.entry := ⟨_, rfl⟩
        rw [← hX]
        have HX := hide hX
        clear hX hpm
        obtain ⟨gb', cap', hv, hown', hgl, hbcl, hbfr⟩ := HST3.out.mkt.bidCell HB2.out
        obtain rfl : gb' = gb := by have := HOWN.out; rw [hown'] at this; exact Option.some.inj this
        have hlk : (billTo m.bids k m.time).length = n := by rw [billTo_len]; exact HN.out.symm
        have c7 : w3.cell? ⟨p, 7, none⟩ = some (.slice (some ⟨gb', 0, none⟩) n cap') := by rw [← hlk, ← show V1.bv = .slice (some ⟨gb', 0, none⟩) (billTo m.bids k m.time).length cap' from hv]; exact HST3.out.mkt.cell 7
        have b11 : w3.cell? ⟨gb', k * 12 + 11, none⟩ = some (.bool b.charged) := hbcl 11 _ rfl
        have f11 := hbfr (k * 12 + 11)
        have HST4 := hide (show BillSt w1 p V1 { m.logs callBill with bids := billTo m.bids (k + 1) m.time } (dueL (m.logs callBill) (m.bids.take k)) _ (w3.setCell ⟨gb', k * 12 + 11, none⟩ (.bool true)) by
          rw [E1.out]
          exact HST3.out.bid (i := k) (g := gb') (r := 11) (b := b) (b' := { b with charged := true }) (u := .bool true) HB2.out (by omega) HOWN.out rfl)
        have nBg : B ≠ gb' := fun e => HBn.out (.inr (.inr (.inl (e ▸ HOWN.out))))
        have y0' : (w3.setCell ⟨gb', k * 12 + 11, none⟩ (.bool true)).cell? ⟨B, 0, none⟩ = some (.int .i64 b.ten) := by rw [World.cell?_setCell_far _ _ _ _ (Ne.symm nBg)]; exact y0
        have y1' : (w3.setCell ⟨gb', k * 12 + 11, none⟩ (.bool true)).cell? ⟨B, 1, none⟩ = some (.int .i64 b.ref) := by rw [World.cell?_setCell_far _ _ _ _ (Ne.symm nBg)]; exact y1
        clear hv hown' hbcl hbfr hlk HST3
        clear HNIL
        obtain ⟨oa, oc, hov⟩ := ownsRow_form HST4.out.out
        subst hov
        obtain ⟨no, hno⟩ : ∃ no, no = (dueL (m.logs callBill) (m.bids.take k)).length := ⟨_, rfl⟩
        obtain ⟨w4, hw4⟩ : ∃ w4, w4 = w3.setCell ⟨gb', k * 12 + 11, none⟩ (.bool true) := ⟨_, rfl⟩
        have HW4 := hide hw4
        rw [← hw4] at HST4 y0' y1'
        have HSZ := hide (show w3.heap.size = w4.heap.size by rw [hw4]; simp)
        have HOUT : Hid (w4.ownsRow 0 65 3 (.slice oa no oc) no ((dueL (m.logs callBill) (m.bids.take k)).flatMap invCells)) := by rw [hno]; exact HST4.out.out
        have hol : no ≤ 300 := by rw [hno]; have := dueL_len (m.logs callBill) (m.bids.take k); rw [List.length_take] at this; omega
        rw [← hno] at HST4 ⊢
        have HNO := hide hno
        clear hno hw4
        have E3 := hide (show invOf (m.logs callBill) b = ⟨b.ten, b.ref, X⟩ by rw [HX.out]; rfl)
        obtain ⟨i0', hi, hz0', hz1, hz2⟩ := info_parts infoInvoice
        go_wp2_with (first | (at_builtin; refine wpList_append_lies _ rfl (.tmp 63) (.tmp 70) 63 rfl 0 65 i0' (.agg #[.int .i64 0, .int .i64 0, .int .i64 0]) 3 24 Tryz.underlying63 hi hz0' hz1 hz2 rfl (by decide) (.slice oa no oc) no ((dueL (m.logs callBill) (m.bids.take k)).flatMap invCells) rfl (by rw [← HW4.out]; exact HOUT.out.alloc _) ⟨w3.heap.size, 0, none⟩ 1 1 (invCells ⟨b.ten, b.ref, X⟩) rfl rfl (by rw [← HW4.out]; exact World.news_of_block (heap_at_new HSZ.out)) (by simp [invCells, Value.oneCell']) (by decide) (by unfold maxLen; omega) (by omega) (Nat.zero_le _) _ rfl ?_; rw [← HW4.out]; intro g capn w7 hown hgrow hat2 hlt; have HST8 := bill_arm HST4.out HNO.out ((Chg.refl _ _).alloc _) hown hgrow hat2 (by simp); clear hown hgrow hat2 hlt))
        all_goals
          clear c7 b11 f11 y0 y1 y0' y1' HST4 HOUT
          go_wp2
          go_roundw
          case rel => exact ⟨k + 1, by omega, by go_num, by rw [E2.out, E3.out]; exact HST8.out, fun h => by rw [E2.out] at h; simp at h⟩
          case measure => simp [intOf]; omega
    · have hkn : k = n := by omega
      have E1 := hide (show billTo m.bids k m.time = m.bids.map fun b => b.bill m.time by rw [hkn, HN.out, billTo_all])
      have E2 := hide (show dueL (m.logs callBill) (m.bids.take k) = billL m by rw [hkn, HN.out, List.take_length]; rfl)
      rw [E1.out, E2.out] at HST
      rw [E2.out] at HNIL
      clear hkn hbv hlk
      obtain ⟨ca, cc, hcv⟩ := HST.out.mkt.chargeForm
      obtain ⟨nc, hnc⟩ : ∃ nc, nc = m.charges.length := ⟨_, rfl⟩
      have hcv' : V1.cv = .slice ca nc cc := by rw [hnc]; exact hcv
      have c11 : wr.cell? ⟨p, 11, none⟩ = some (.slice ca nc cc) := by rw [← hcv']; exact HST.out.mkt.cell 11
      have f11 : wr.frozen? ⟨p, 11, none⟩ = false := HST.out.mkt.free 11
      have HCH : Hid (wr.ownsRow 0 65 3 (.slice ca nc cc) nc (m.charges.flatMap invCells)) := by rw [hnc, ← show V1.cv = .slice ca m.charges.length cc from hcv]; exact HST.out.mkt.charges
      rw [← hnc] at hcl
      have HNC := hide hnc
      have HCV := hide hcv'
      clear hnc hcv hcv'
      obtain ⟨i0', hi, hz0', hz1, hz2⟩ := info_parts infoInvoice
      by_cases hne : billL m = []
      · have hov := HNIL.out hne
        subst hov
        have HFIN := hide (show BillTo w1 p V1 (billL m) (billM m) (.slice none 0 0) (wr.setCell ⟨p, 11, none⟩ (.slice ca nc cc)) by
          have := HST.out
          rw [hne] at this
          have h2 := bill_none this
          rw [HCV.out] at h2
          unfold billM
          rw [hne]
          exact h2)
        clear hne HST HNIL
        go_wp2_with (first | (at_builtin; refine wpList_append_own_none rfl (.tmp 76) (.tmp 77) 63 rfl 0 65 i0' 3 Tryz.underlying63 hi (.slice ca nc cc) nc (m.charges.flatMap invCells) rfl HCH.out rfl ?_))
        go_ret2
        exact ⟨_, rfl, HAF.out _ _ _ _ HFIN.out⟩
      · obtain ⟨no, hno⟩ : ∃ no, no = (billL m).length := ⟨_, rfl⟩
        have hnp : 0 < no := by rw [hno]; exact List.length_pos_iff.2 hne
        have hol : no ≤ 300 := by rw [hno]; have := dueL_len (m.logs callBill) m.bids; have := HN.out; unfold billL; omega
        have hof : ∃ go co, u5 = .slice (some ⟨go, 0, none⟩) no co ∧ ∀ j u, ((billL m).flatMap invCells)[j]? = some u → wr.cell? ((⟨go, 0, none⟩ : Addr).add j) = some u := by
          rcases HST.out.out.2 with ⟨hv, h0⟩ | ⟨go, co, cur, hv, _⟩
          · omega
          · exact ⟨go, co, by rw [hno]; exact hv, fun j u hu => HST.out.out.cells (g := go) (by rw [hv]; rfl) j u hu⟩
        obtain ⟨go, co, hov, hcells⟩ := hof
        subst hov
        have HCELLS := hide hcells
        have HNO := hide hno
        have HL3 := hide (show ((billL m).flatMap invCells).length = no * 3 by have := HST.out.out.1; rw [this, hno])
        have HONE := hide (show ∀ u ∈ (billL m).flatMap invCells, u.oneCell' = true by
          intro u hu
          obtain ⟨x, _, hx⟩ := List.mem_flatMap.1 hu
          simp [invCells] at hx
          rcases hx with rfl | rfl | rfl <;> rfl)
        clear hcells hno hne HNIL
        go_wp2_with (first | (at_builtin; refine wpList_append_lies _ rfl (.tmp 76) (.tmp 77) 63 rfl 0 65 i0' (.agg #[.int .i64 0, .int .i64 0, .int .i64 0]) 3 24 Tryz.underlying63 hi hz0' hz1 hz2 rfl (by decide) (.slice ca nc cc) nc (m.charges.flatMap invCells) rfl HCH.out ⟨go, 0, none⟩ no co ((billL m).flatMap invCells) rfl HL3.out HCELLS.out HONE.out hnp (by unfold maxLen; omega) (by omega) (Nat.zero_le _) _ rfl ?_; intro g capn w7 hown hgrow hat2 hlt; obtain ⟨s1, s2, HFIN⟩ := bill_end HST.out HNO.out HNC.out HCV.out hown hgrow hat2 rfl; clear hown hgrow hat2 hlt))
        go_ret2
        exact ⟨_, rfl, HAF.out _ _ _ _ HFIN.out⟩
end Go.Proofs.YtminceigjejipabGreat
