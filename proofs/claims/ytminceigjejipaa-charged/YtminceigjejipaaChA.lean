import Derived.Test.YtminceigjejipaaKqC
import Derived.Test.YtminceigjejipaaG9
import Derived.Test.YtminceigjejipaaQuA
/-
  yardkeep, Charged: due, of.
-/
namespace Go.Proofs.Ytminceigjejipaa
open Go.RowKit

theorem again_bill_need (X : MkG) : (againM X callBill).need = X.need := by
  by_cases h : 300 ≤ X.log.length
  · unfold againM
    rw [if_pos h]
  · rw [again_bill (by omega)]
    rfl
/-- a Bill in the log changes no price -/
theorem price_bill (m : MkG) (g : Int) : priceM (m.logs callBill) g = priceM m g := by
  unfold priceM replayG
  show ((m.log ++ [callBill]).foldl againM (ghostOpen m.c g)).need = _
  rw [List.foldl_append, List.foldl_cons, List.foldl_nil, again_bill_need]
theorem due_bill (m : MkG) : billL m = dueL m m.bids := by
  unfold billL dueL
  apply List.map_congr_left
  intro b _
  unfold invOf
  rw [price_bill]

/-- a list of invoices that grows while the yard is looked at -/
structure DueSt (YAt : World → Nat → (Nat → Prop) → MkG → Prop) (w0 : World) (y : Nat) (F0 : Nat → Prop) (m : MkG) (F : Nat → Prop) (out : List InvG) (ov : Value) (wr : World) : Prop where
  lk : LkSt YAt w0 y F0 m F wr
  own : wr.ownsRow 0 88 3 ov out.length (out.flatMap invCells)
  new : ∀ k, ov.ownBlock = some k → w0.heap.size ≤ k ∧ ¬ F k
section
variable {YAt : World → Nat → (Nat → Prop) → MkG → Prop} {w0 wr w2 : World} {y : Nat} {F0 F : Nat → Prop} {m : MkG} {out : List InvG} {ov : Value}
theorem DueSt.yto (h : DueSt YAt w0 y F0 m F out ov wr) (ht : YTo YAt wr y F m w2) : ∃ F', DueSt YAt w0 y F0 m F' out ov w2 ∧ (∀ k, k < wr.heap.size → ¬ F k → w2.heap[k]? = wr.heap[k]?) ∧ ∀ k, F' k → F k ∨ wr.heap.size ≤ k := by
  obtain ⟨F', a1, a2, a3⟩ := ht
  have hl : LkSt YAt w0 y F0 m F' w2 := by
    refine ⟨a1, h.lk.chg.trans a2 (fun k hk hf => ?_), fun k hk => ?_⟩
    · rcases h.lk.foot k hf with e | e
      · exact e
      · omega
    · rcases a3 k hk with e | e
      · exact h.lk.foot k e
      · exact .inr (Nat.le_trans h.lk.chg.size e)
  refine ⟨F', ⟨hl, ownsRow_keep h.own (fun k hk => a2.block k (h.own.lt k hk).2 (h.new k hk).2), fun k hk => ⟨(h.new k hk).1, fun hf => ?_⟩⟩, fun k hk hn => a2.block k hk hn, a3⟩
  rcases a3 k hf with e | e
  · exact (h.new k hk).2 e
  · have := (h.own.lt k hk).2
    omega
theorem DueSt.chg0 (hY : YardSpec YAt) (h : DueSt YAt w0 y F0 m F out ov wr) (hc : Chg (fun _ => False) wr w2) : DueSt YAt w0 y F0 m F out ov w2 :=
  ⟨h.lk.chg0 hY hc, ownsRow_keep h.own (fun k hk => hc.block k (h.own.lt k hk).2 (fun h => h)), h.new⟩
end
theorem due_arm {YAt : World → Nat → (Nat → Prop) → MkG → Prop} (hY : YardSpec YAt) {w0 wr wa w3 : World} {y : Nat} {F0 F : Nat → Prop} {m : MkG} {out : List InvG} {x : InvG} {ao : Option Addr} {cap cap' g H nn : Nat} (h : DueSt YAt w0 y F0 m F out (.slice ao nn cap) wr) (hn : nn = out.length) (hc : Chg (fun _ => False) wr wa)
    (hown : w3.ownsRow 0 88 3 (.slice (some ⟨g, 0, none⟩) (nn + 1) cap') (nn + 1) (out.flatMap invCells ++ invCells x)) (hgrow : wa.grownBy w3 (Value.ownBlock (.slice ao nn cap))) (hat : Value.ownBlock (.slice ao nn cap) = some g ∨ g = H) (hH : wr.heap.size ≤ H) :
    Hid (DueSt YAt w0 y F0 m F (out ++ [x]) (.slice (some ⟨g, 0, none⟩) (nn + 1) cap') w3) := by
  subst hn
  have hc3 : Chg (fun k => Value.ownBlock (.slice ao out.length cap) = some k) wr w3 := (hc.mono (fun _ _ h => h.elim)).grown hgrow (fun k hk => .inl hk)
  have hs := h.lk.chg.size
  refine ⟨⟨hY.frame _ _ _ _ _ h.lk.yard (fun k hk => hc3.block k (hY.lt _ _ _ _ h.lk.yard k hk) (fun e => (h.new k e).2 hk)), h.lk.chg.trans hc3 (fun k hk e => by have := (h.new k e).1; omega), h.lk.foot⟩, ?_, ?_⟩
  · rw [List.length_append, List.flatMap_append]
    simp only [List.flatMap_cons, List.flatMap_nil, List.append_nil, List.length_cons, List.length_nil, Nat.zero_add]
    exact hown
  · intro k hk
    simp [Value.ownBlock] at hk
    subst hk
    rcases hat with e | e
    · exact h.new g e
    · refine ⟨by omega, fun hf => ?_⟩
      have := hY.lt _ _ _ _ h.lk.yard g hf
      omega

set_option maxRecDepth 100000 in
set_option maxHeartbeats 16000000 in
theorem kdue_any {YAt : World → Nat → (Nat → Prop) → MkG → Prop} (hY : YardSpec YAt) (hP : PaidY YAt) (y : Nat) (F0 : Nat → Prop) (m : MkG) (p : Nat) (V : BV) (b : BookG) (w : World) (hy : YAt w y F0 m) (hbk : BookAt w p V b) (hdis : ∀ k, V.foot p k → ¬ F0 k) (hg : GoodM m) (hs : SoundM m) (hrel : BookRel m b) (hcg : ∀ (i : Nat) (o : KnownG) (x : BidG), b.bids[i]? = some o → m.bids[i]? = some x → o.charged = x.charged) :
    Calls Try.prog 32 #[.pointer (some ⟨p, 0, none⟩), .pointer (some ⟨y, 0, none⟩)] w fun e w' => ∃ lv F, e = .returned (.tuple #[lv, .bool true]) ∧ DueSt YAt w y F0 m F (dueL m m.bids) lv w' ∧ (dueL m m.bids = [] → lv = .slice none 0 0) := by
  obtain ⟨n, hn⟩ : ∃ n, n = m.bids.length := ⟨_, rfl⟩
  have hnl : n ≤ 300 := by rw [hn]; exact hg.ok.bl
  have hcf := cfgOk_true hg.ok.ck
  have htm : 0 ≤ m.time ∧ m.time ≤ 64 := by have h1 := hg.ok.t0; have h2 := hg.ok.t1; omega
  have HN := hide hn
  have HY := hide hY
  have HP := hide hP
  have HBK := hide hbk
  have HDIS := hide hdis
  have HG := hide hg
  have HS := hide hs
  have HREL := hide hrel
  have HCG := hide hcg
  have HNOW := hide (hY.now w y F0 m hy hg.ok)
  have HST0 := hide (show LkSt YAt w y F0 m F0 w from ⟨hy, Chg.refl _ _, fun _ h => .inl h⟩)
  obtain ⟨tm, htmd⟩ : ∃ tm, tm = m.time := ⟨_, rfl⟩
  have HTM := hide htmd
  rw [← htmd] at HNOW htm
  clear hY hP hbk hdis hg hs hrel hcg hy hn hcf htmd
  go_enter Try.func32, Try.ntmps32
  go_wp2_with fail
  refine HNOW.out.mono ?_
  rintro e w1 ⟨rfl, hto⟩
  obtain ⟨F1, hst1, _⟩ := HST0.out.yto hto
  have HD1 := hide (show DueSt YAt w y F0 m F1 [] (.slice none 0 0) w1 from ⟨hst1, World.ownsRow_nil _ _ _ _, fun k hk => by simp [Value.ownBlock] at hk⟩)
  clear hto hst1 HNOW
  go_wp2
  go_loopw [7, 8] (fun lv i wr => ∃ (k : Nat) (F : Nat → Prop), k ≤ n ∧ i = .int .i64 k ∧ DueSt YAt w y F0 m F (dueL m (m.bids.take k)) lv wr ∧ (dueL m (m.bids.take k) = [] → lv = .slice none 0 0)) (fun _ i _ => n - (intOf i).toNat)
  case atStart => exact ⟨0, F1, by omega, rfl, HD1.out, fun _ => rfl⟩
  case round =>
    obtain ⟨k, F, hk, rfl, hst, hnil⟩ := hrel
    have HST := hide hst
    have HNIL := hide hnil
    clear hnil
    have hbkr := hst.lk.book HBK.out HDIS.out
    have hnn : b.bids.length = n := by rw [HREL.out.len, HN.out]
    obtain ⟨ba, bc, hbv0⟩ := hbkr.bidForm
    have c5 : wr.cell? ⟨p, 5, none⟩ = some (.slice ba n bc) := by rw [← hnn, ← hbv0]; exact hbkr.cell 5
    clear hst HD1
    by_cases hlt : k < n
    · obtain ⟨x, hx⟩ : ∃ x, m.bids[k]? = some x := ⟨_, List.getElem?_eq_getElem (by rw [← HN.out]; exact hlt)⟩
      obtain ⟨o, ho⟩ : ∃ o, b.bids[k]? = some o := ⟨_, List.getElem?_eq_getElem (by rw [hnn]; exact hlt)⟩
      obtain ⟨r1, r2, r3, r4⟩ := HREL.out.bid k o x ho hx
      have hch := HCG.out k o x ho hx
      have hbo := HG.out.ok.bid x (List.mem_of_getElem? hx)
      obtain ⟨l1, l2, l3⟩ := HS.out.look HG.out.ok hx
      obtain ⟨gb, bcap, hbv, _, _, hbc, _⟩ := hbkr.bidCell ho
      have hba : ba = some ⟨gb, 0, none⟩ := by
        rw [hbv0] at hbv
        simp at hbv
        exact hbv.1
      subst hba
      have k0 : (0 : Int) ≤ (k : Int) := by omega
      have k1 : (k : Int) < (n : Int) := by omega
      have hd : decide ((k : Int) < (n : Int)) = true := by simpa using k1
      have b0 : wr.cell? ⟨gb, k * 12, none⟩ = some (.int .i64 o.ten) := hbc 0 _ rfl
      have b1 : wr.cell? ⟨gb, k * 12 + 1, none⟩ = some (.int .i64 o.ref) := hbc 1 _ rfl
      have b2 : wr.cell? ⟨gb, k * 12 + 2, none⟩ = some (.int .i64 o.job.arr) := hbc 2 _ rfl
      have b3 : wr.cell? ⟨gb, k * 12 + 3, none⟩ = some (.int .i64 o.job.dl) := hbc 3 _ rfl
      have b4 : wr.cell? ⟨gb, k * 12 + 4, none⟩ = some (.int .i64 o.job.len) := hbc 4 _ rfl
      have b5 : wr.cell? ⟨gb, k * 12 + 5, none⟩ = some (.int .i64 o.job.units) := hbc 5 _ rfl
      have b6 : wr.cell? ⟨gb, k * 12 + 6, none⟩ = some (.int .i64 o.job.val) := hbc 6 _ rfl
      have b7 : wr.cell? ⟨gb, k * 12 + 7, none⟩ = some (.int .i64 o.arrival) := hbc 7 _ rfl
      have b8 : wr.cell? ⟨gb, k * 12 + 8, none⟩ = some (.int .i64 o.step) := hbc 8 _ rfl
      have b9 : wr.cell? ⟨gb, k * 12 + 9, none⟩ = some (.int .i64 o.wasS) := hbc 9 _ rfl
      have b10 : wr.cell? ⟨gb, k * 12 + 10, none⟩ = some (.int .i64 o.wasT) := hbc 10 _ rfl
      have b11 : wr.cell? ⟨gb, k * 12 + 11, none⟩ = some (.bool o.charged) := hbc 11 _ rfl
      have hti : I64 o.ten := by have h1 := hbo.t0; have h2 := hbo.t1; have h3 := cfgOk_true HG.out.ok.ck; rw [← r1] at h1 h2; constructor <;> omega
      have hri : I64 o.ref := by have h1 := hbo.r0; have h2 := hbo.r1; rw [← r2] at h1 h2; constructor <;> omega
      have HTR := hide (And.intro hti hri)
      obtain ⟨_, hj2, hj3, _, _⟩ := hbo.nums HG.out.ok
      rw [← r3] at hj2 hj3
      have HSN := hide (dueL_snoc (m := m) hx)
      have HDB := hide (show x.dueB m.time = ((x.state == 2) && !o.charged && decide (o.job.dl - o.job.len < tm)) by rw [hch, r3, HTM.out]; rfl)
      have hws : IntKind.i64.wrap (o.job.dl - o.job.len) = o.job.dl - o.job.len := by rw [IntKind.wrap_i64]; omega
      have HPV := hide (fun (h2 : x.state = 2) => show priceE m o.ten o.ref = 0 ∧ priceV m o.ten o.ref = priceM m x.entry from by
        have l1' := l1
        rw [← r1, ← r2] at l1'
        have l2' := l2
        rw [← r1, ← r2] at l2'
        have hpe : priceE m o.ten o.ref = 0 := by rw [priceE, if_pos l1', l2', if_pos h2]
        refine ⟨hpe, ?_⟩
        rw [priceV, if_pos hpe]
        congr 1
        have hfz : findZ m.bids x.ten x.ref = k := findZ_some hx (by simp [BidG.is]) (fun k' u hk hu => by
          cases hi : u.is x.ten x.ref
          · rfl
          · simp [BidG.is] at hi
            have := HS.out.uniq k' k u x hu hx hi.1 hi.2
            omega)
        rw [r1, r2, hfz]
        simp [entryAt, hx])
      have HIV := hide (show invOf m x = ⟨o.ten, o.ref, priceM m x.entry⟩ by rw [r1, r2]; rfl)
      obtain ⟨w4, hw4⟩ : ∃ w4, w4 = wr.alloc (.cells #[.int .i64 o.ten, .int .i64 o.ref, .int .i64 o.job.arr, .int .i64 o.job.dl, .int .i64 o.job.len, .int .i64 o.job.units, .int .i64 o.job.val, .int .i64 o.arrival, .int .i64 o.step, .int .i64 o.wasS, .int .i64 o.wasT, .bool o.charged] 70) := ⟨_, rfl⟩
      have hq4 : Chg (fun _ => False) wr w4 := by rw [hw4]; exact (Chg.refl _ _).alloc _
      have hbx4 : w4.heap[wr.heap.size]? = some (.cells #[.int .i64 o.ten, .int .i64 o.ref, .int .i64 o.job.arr, .int .i64 o.job.dl, .int .i64 o.job.len, .int .i64 o.job.units, .int .i64 o.job.val, .int .i64 o.arrival, .int .i64 o.step, .int .i64 o.wasS, .int .i64 o.wasT, .bool o.charged] 70 (0, 0)) := by rw [hw4]; exact heap_alloc_new wr _
      have HST4 := hide (HST.out.chg0 HY.out hq4)
      have hs4 : wr.heap.size < w4.heap.size := (Array.getElem?_eq_some_iff.1 hbx4).1
      have HNF := hide (show ¬ F wr.heap.size from fun h => by have := HY.out.lt _ _ _ _ HST.out.lk.yard _ h; omega)
      have HLOOK := hide (HY.out.look w4 y F m o.ten o.ref HST4.out.lk.yard HG.out.ok hti hri)
      rw [← r1, ← r2] at l1 l2 l3
      rw [l1, l2, l3] at HLOOK
      have HBX4 := hide hbx4
      have HW4 := hide hw4
      clear hx ho r1 r2 r3 r4 hbo l1 l2 l3 hbv hbc hbv0 hbkr hq4 hbx4 hw4 hti hri hch
      go_wp2_with fail
      rw [← HW4.out]
      refine HLOOK.out.mono ?_
      rintro e w5 ⟨rfl, hto⟩
      obtain ⟨F5, hst5, hfar, hft5⟩ := HST4.out.yto hto
      have hbx5 := (hfar _ hs4 HNF.out).trans HBX4.out
      have hs5 : wr.heap.size < w5.heap.size := (Array.getElem?_eq_some_iff.1 hbx5).1
      have HNF5 := hide (show ¬ F5 wr.heap.size from fun h => by
        rcases hft5 _ h with e | e
        · exact HNF.out e
        · omega)
      obtain ⟨w6, hw6⟩ : ∃ w6, w6 = w5.alloc (.cells #[.int .i64 x.state, .int .i64 x.start] 68) := ⟨_, rfl⟩
      have hq6 : Chg (fun _ => False) w5 w6 := by rw [hw6]; exact (Chg.refl _ _).alloc _
      have HST6 := hide (hst5.chg0 HY.out hq6)
      have hbx6 := (hq6.block _ hs5 (fun h => h)).trans hbx5
      have HBX6 := hide hbx6
      have HS6 := hide (Nat.lt_of_lt_of_le hs5 hq6.size)
      have HW6 := hide hw6
      have g0 : w5.cell? ⟨wr.heap.size, 0, none⟩ = some (.int .i64 o.ten) := by unfold World.cell?; rw [hbx5]; rfl
      have g1 : w5.cell? ⟨wr.heap.size, 1, none⟩ = some (.int .i64 o.ref) := by unfold World.cell?; rw [hbx5]; rfl
      have g3 : w5.cell? ⟨wr.heap.size, 3, none⟩ = some (.int .i64 o.job.dl) := by unfold World.cell?; rw [hbx5]; rfl
      have g4 : w5.cell? ⟨wr.heap.size, 4, none⟩ = some (.int .i64 o.job.len) := by unfold World.cell?; rw [hbx5]; rfl
      have g11 : w5.cell? ⟨wr.heap.size, 11, none⟩ = some (.bool o.charged) := by unfold World.cell?; rw [hbx5]; rfl
      clear hto hst5 hfar hft5 hbx5 hq6 hbx6 hw6 HLOOK HBX4 HW4 c5 b0 b1 b2 b3 b4 b5 b6 b7 b8 b9 b10 b11
      cases h2 : x.state == 2
      · have HE := hide (show dueL m (m.bids.take (k + 1)) = dueL m (m.bids.take k) by
          rw [HSN.out, HDB.out, h2]; simp)
        go_wp2
        rw [← HW6.out]
        go_roundw
        case rel => exact ⟨k + 1, F5, by omega, by go_num, by rw [HE.out]; exact HST6.out, by rw [HE.out]; exact HNIL.out⟩
        case measure => simp [intOf]; omega
      · cases h3 : o.charged
        rotate_left
        · rw [h3] at g11
          have HE := hide (show dueL m (m.bids.take (k + 1)) = dueL m (m.bids.take k) by
            rw [HSN.out, HDB.out, h2, h3]; simp)
          go_wp2
          rw [← HW6.out]
          go_roundw
          case rel => exact ⟨k + 1, F5, by omega, by go_num, by rw [HE.out]; exact HST6.out, by rw [HE.out]; exact HNIL.out⟩
          case measure => simp [intOf]; omega
        · rw [h3] at g11
          cases h4 : decide (o.job.dl - o.job.len < tm)
          · have HE := hide (show dueL m (m.bids.take (k + 1)) = dueL m (m.bids.take k) by
              rw [HSN.out, HDB.out, h2, h3, h4]; simp)
            go_wp2
            rw [← HW6.out]
            go_roundw
            case rel => exact ⟨k + 1, F5, by omega, by go_num, by rw [HE.out]; exact HST6.out, by rw [HE.out]; exact HNIL.out⟩
            case measure => simp [intOf]; omega
          · have h2' : x.state = 2 := by simpa using h2
            obtain ⟨hpe, hpv⟩ := HPV.out h2'
            obtain ⟨P, hPd⟩ : ∃ P, P = priceM m x.entry := ⟨_, rfl⟩
            have HPR := hide (HP.out.price w6 y F5 m o.ten o.ref HST6.out.lk.yard HG.out HTR.out.1 HTR.out.2)
            rw [hpe, hpv, ← hPd] at HPR
            have HE := hide (show dueL m (m.bids.take (k + 1)) = dueL m (m.bids.take k) ++ [⟨o.ten, o.ref, P⟩] by
              rw [HSN.out, HDB.out, h2, h3, h4, HIV.out, hPd]; simp)
            rw [HW6.out] at HPR
            clear HNIL
            obtain ⟨oa, oc, hov⟩ := ownsRow_form HST6.out.own
            subst hov
            obtain ⟨no, hno⟩ : ∃ no, no = (dueL m (m.bids.take k)).length := ⟨_, rfl⟩
            have hol : no ≤ k := by
              rw [hno]
              have := dueL_len m (m.bids.take k)
              rw [List.length_take] at this
              omega
            rw [← hno] at HST6 HST HST4 ⊢
            have HNO := hide hno
            clear hno hpe hpv hPd h2'
            obtain ⟨i0', hi, hz0', hz1, hz2⟩ := info_parts infoInvoice
            go_wp2_with fail
            refine HPR.out.mono ?_
            rintro e w7 ⟨rfl, hto7⟩
            rw [← HW6.out] at hto7
            obtain ⟨F7, hst7, hfar7, _⟩ := HST6.out.yto hto7
            have HST7 := hide hst7
            have hbx7 := (hfar7 _ HS6.out HNF5.out).trans HBX6.out
            have q0 : w7.cell? ⟨wr.heap.size, 0, none⟩ = some (.int .i64 o.ten) := by unfold World.cell?; rw [hbx7]; rfl
            have q1 : w7.cell? ⟨wr.heap.size, 1, none⟩ = some (.int .i64 o.ref) := by unfold World.cell?; rw [hbx7]; rfl
            have HOUT : Hid (w7.ownsRow 0 88 3 (.slice oa no oc) no ((dueL m (m.bids.take k)).flatMap invCells)) := by have h := hst7.own; rw [← HNO.out] at h; exact h
            clear hto7 hst7 hfar7 hbx7 HPR g0 g1 g3 g4 g11
            go_wp2_with (first | (at_builtin; refine wpList_append_lies _ rfl (.tmp 75) (.tmp 82) 49 rfl 0 88 i0' (.agg #[.int .i64 0, .int .i64 0, .int .i64 0]) 3 24 Try.underlying49 hi hz0' hz1 hz2 rfl (by decide) (.slice oa no oc) no ((dueL m (m.bids.take k)).flatMap invCells) rfl (HOUT.out.alloc _) ⟨w7.heap.size, 0, none⟩ 1 1 (invCells ⟨o.ten, o.ref, P⟩) rfl rfl (World.news_of_block (heap_alloc_new w7 _)) (by simp [invCells, Value.oneCell']) (by decide) (by unfold maxLen; omega) (by omega) (Nat.zero_le _) _ rfl ?_; intro g capn w8 hown hgrow hat2 hlt; have HST8 := due_arm (x := ⟨o.ten, o.ref, P⟩) HY.out HST7.out HNO.out ((Chg.refl _ _).alloc _) hown hgrow hat2 (by simp); clear hown hgrow hat2 hlt))
            all_goals
              clear q0 q1
              go_wp2
              go_roundw
              case rel => first | exact ⟨k + 1, F7, by omega, by go_num, by rw [HE.out]; exact HST8.out, fun h => by rw [HE.out] at h; simp at h⟩ | exact ⟨k + 1, F7, by omega, by go_num, by rw [HE.out]; exact HST8.out.chg0 HY.out ((Chg.refl _ _).drew), fun h => by rw [HE.out] at h; simp at h⟩
              case measure => simp [intOf]; omega
    · have hd : decide ((k : Int) < (n : Int)) = false := by simp; omega
      have HE := hide (show dueL m (m.bids.take k) = dueL m m.bids by
        rw [List.take_of_length_le (by rw [← HN.out]; omega)])
      clear hbv0 hbkr
      go_wp2
      go_ret2
      exact ⟨_, F, rfl, by rw [← HE.out]; exact HST.out, by rw [← HE.out]; exact HNIL.out⟩
end Go.Proofs.Ytminceigjejipaa
