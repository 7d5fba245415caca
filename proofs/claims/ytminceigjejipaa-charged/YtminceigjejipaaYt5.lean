import Derived.Test.YtminceigjejipaaYt2
import Derived.Deep.RegionLaw
namespace Go.Proofs.Ytminceigjejipaa
open Go.RowKit

/-- the order, under way -/
structure OrdSt (w0 : World) (V : YV) (m : MkG) (l : List Nat) (v : Value) (wr : World) : Prop where
  row : wr.ownsRow 0 3 1 v l.length (ordCells l)
  chg : Chg (fun _ => False) w0 wr
  new : ∀ k, v.ownBlock = some k → w0.heap.size ≤ k

theorem OrdSt.chg0 {w0 wr w' : World} {V : YV} {m : MkG} {l : List Nat} {v : Value} (h : OrdSt w0 V m l v wr) (hc : Chg (fun _ => False) wr w') : OrdSt w0 V m l v w' :=
  ⟨ownsRow_keep h.row (fun k hk => hc.block k (h.row.lt k hk).2 (fun h => h)), h.chg.trans hc (fun _ _ h => h), h.new⟩
/-- two neighbours, swapped -/
theorem OrdSt.swap {w0 wr : World} {V : YV} {m : MkG} {A B : List Nat} {x i g : Nat} {v : Value} (h : OrdSt w0 V m (A ++ [x] ++ i :: B) v wr) (hg : v.ownBlock = some g) :
    OrdSt w0 V m (A ++ i :: x :: B) v ((wr.setCell ⟨g, A.length + 1, none⟩ (.int .i64 (x : Int))).setCell ⟨g, A.length, none⟩ (.int .i64 (i : Int))) := by
  have hn := h.new g hg
  refine ⟨?_, (h.chg.setCell (.inr hn) _).setCell (.inr hn) _, h.new⟩
  rw [← ordCells_swap]
  have hl : (A ++ i :: x :: B).length = (A ++ [x] ++ i :: B).length := by simp
  rw [hl]
  exact ownsRow_set (ownsRow_set h.row (by simp) hg _) (by simp) hg _
/-- one more -/
theorem OrdSt.more {w0 wr wa w3 : World} {V : YV} {m : MkG} {l : List Nat} {v : Value} {x g cap : Nat} (h : OrdSt w0 V m l v wr) (hc : Chg (fun _ => False) wr wa)
    (hown : w3.ownsRow 0 3 1 (.slice (some ⟨g, 0, none⟩) (l.length + 1) cap) (l.length + 1) (ordCells l ++ [.int .i64 (x : Int)])) (hgrow : wa.grownBy w3 v.ownBlock) (hat : v.ownBlock = some g ∨ wr.heap.size ≤ g) :
    OrdSt w0 V m (l ++ [x]) (.slice (some ⟨g, 0, none⟩) (l.length + 1) cap) w3 := by
  have hs := h.chg.size
  refine ⟨?_, ?_, ?_⟩
  · have e : ordCells (l ++ [x]) = ordCells l ++ [.int .i64 (x : Int)] := by simp [ordCells]
    rw [e, List.length_append]
    exact hown
  · have := (h.chg.trans hc (fun _ _ h => h)).grown hgrow (fun k hk => .inr (h.new k hk))
    exact this
  · intro k hk
    simp [Value.ownBlock] at hk
    subst hk
    rcases hat with e | e
    · exact h.new g e
    · omega
theorem ord_arm {w0 wr wa w3 : World} {V : YV} {m : MkG} {l : List Nat} {ao : Option Addr} {nn cap cap' g H x : Nat} (h : OrdSt w0 V m l (.slice ao nn cap) wr) (hn : nn = l.length) (hc : Chg (fun _ => False) wr wa)
    (hown : w3.ownsRow 0 3 1 (.slice (some ⟨g, 0, none⟩) (nn + 1) cap') (nn + 1) (ordCells l ++ [.int .i64 (x : Int)])) (hgrow : wa.grownBy w3 (Value.ownBlock (.slice ao nn cap))) (hat : Value.ownBlock (.slice ao nn cap) = some g ∨ g = H) (hH : wr.heap.size ≤ H) :
    Hid (OrdSt w0 V m (l ++ [x]) (.slice (some ⟨g, 0, none⟩) (nn + 1) cap') w3) := by
  subst hn
  exact h.more hc hown hgrow (by rcases hat with h | h; exact .inl h; exact .inr (by omega))
theorem OrdSt.form {w0 wr : World} {V : YV} {m : MkG} {l : List Nat} {v : Value} (h : OrdSt w0 V m l v wr) : ∃ ao cap, v = .slice ao l.length cap ∧ ∀ (i x : Nat), l[i]? = some x → ∃ g, ao = some ⟨g, 0, none⟩ ∧ v.ownBlock = some g ∧ w0.heap.size ≤ g ∧ wr.cell? ⟨g, i, none⟩ = some (.int .i64 (x : Int)) ∧ ∀ r, wr.frozen? ⟨g, r, none⟩ = false := by
  rcases h.row.2 with ⟨hv, h0⟩ | ⟨g, cap, cur, hv, hg, hh, r⟩
  · refine ⟨none, 0, by rw [hv, h0], fun i x hx => ?_⟩
    have := (List.getElem?_eq_some_iff.1 hx).1
    omega
  · refine ⟨some ⟨g, 0, none⟩, cap, hv, fun i x hx => ⟨g, rfl, by rw [hv]; rfl, h.new g (by rw [hv]; rfl), ?_, fun r => by unfold World.frozen?; rw [hh]; simp⟩⟩
    have := h.row.cells (g := g) (by rw [hv]; rfl) i (.int .i64 (x : Int)) (by simp [ordCells, hx])
    rwa [Addr.add_lit, Nat.zero_add] at this

set_option maxRecDepth 100000 in
set_option maxHeartbeats 16000000 in
theorem candidates_any (V : YV) (m : MkG) (w : World) (hm : YmAt w V m) (hok : MkOk m) (har : ArrOk m) (hgh : m.ghost = -1) :
    Calls Try.prog 77 #[.pointer (some ⟨V.q, 0, none⟩)] w fun e w' => ∃ l v, e = .returned v ∧ IsOrder m m.time l ∧ l.length ≤ m.bids.length ∧ OrdSt w V m l v w' := by
  obtain ⟨n, hn⟩ : ∃ n, n = m.bids.length := ⟨_, rfl⟩
  obtain ⟨ba, bc, hbv, _⟩ := hm.bid_form
  have c6 : w.cell? ⟨V.q, 6, none⟩ = some (.slice ba n bc) := by rw [hn, ← hbv]; exact hm.cell 6
  have hnb := hok.bl
  rw [← hn] at hnb
  have HM := hide hm
  have HOK := hide hok
  have HAR := hide har
  have HGH := hide hgh
  have HN := hide hn
  have HBV : Hid (V.bv = .slice ba n bc) := by rw [hn]; exact hbv
  clear hm hok har hgh hbv hn
  go_enter Try.func77, Try.ntmps77
  go_wp2
  go_loopw [3, 11] (fun v y wr => ∃ (k : Nat) (l : List Nat), k ≤ n ∧ y = .int .i64 k ∧ l.length ≤ k ∧ OrdTo m m.time k l ∧ OrdSt w V m l v wr) (fun _ y _ => n - (intOf y).toNat)
  case atStart => exact ⟨0, [], by omega, rfl, by simp, OrdTo.zero _ _, World.ownsRow_nil _ _ _ _, Chg.refl _ _, fun k hk => by simp [Value.ownBlock] at hk⟩
  case round =>
    obtain ⟨k, l, hk, rfl, hll, hord, hst⟩ := hrel
    clear c6
    have HORD := hide hord
    have HST := hide hst
    have HMR := hide (HM.out.chg0 hst.chg)
    clear hord
    by_cases hlt : k < n
    · obtain ⟨b, hb⟩ : ∃ b, m.bids[k]? = some b := ⟨_, List.getElem?_eq_getElem (by rw [← HN.out]; exact hlt)⟩
      have HB := hide hb
      have HIC := hide (isCandidate_any V m k b wr HMR.out HOK.out HAR.out hb)
      have hco := cand_open HOK.out HGH.out m.time (List.mem_of_getElem? hb)
      clear hb hst
      cases hop : b.openB m m.time
      · rw [hop] at HIC hco
        have HO2 := hide (HORD.out.skip HB.out hco)
        clear hco hop
        go_wp2_with (go_at_call 86; refine HIC.out.mono ?_; rintro e w2 ⟨rfl, hq⟩; have HQ := hide hq; clear hq)
        go_roundw
        case rel => exact ⟨k + 1, l, by omega, by go_num, by omega, HO2.out, HST.out.chg0 HQ.out⟩
        case measure => simp [intOf]; omega
      · rw [hop] at HIC hco
        have HCO := hide hco
        clear hco hop
        go_wp2_with fail
        refine HIC.out.mono ?_
        rintro e w2 ⟨rfl, hq⟩
        have HST2 := hide (HST.out.chg0 hq)
        clear hq HST
        obtain ⟨oa, oc, hov, _⟩ := HST2.out.form
        subst hov
        obtain ⟨no, hno⟩ : ∃ no, no = l.length := ⟨_, rfl⟩
        have HOUT : Hid (w2.ownsRow 0 3 1 (.slice oa no oc) no (ordCells l)) := by rw [hno]; exact HST2.out.row
        rw [← hno] at HST2 ⊢
        have HNO := hide hno
        have hol : no ≤ 300 := by rw [hno]; omega
        obtain ⟨i0', hi, hz0', hz1, hz2⟩ := info_parts infoInt
        clear hno
        go_wp2_with (first | (at_builtin; refine wpList_append_lies _ rfl (.tmp 18) (.tmp 20) 27 rfl 0 3 i0' (.int .i64 0) 1 8 Try.underlying27 hi hz0' hz1 hz2 rfl (by decide) (.slice oa no oc) no (ordCells l) rfl (HOUT.out.alloc _) ⟨w2.heap.size, 0, none⟩ 1 1 [.int .i64 (k : Int)] rfl rfl (World.news_of_block (heap_alloc_new w2 _)) (by simp [Value.oneCell']) (by decide) (by unfold maxLen; omega) (by omega) (Nat.zero_le _) _ rfl ?_; intro g capn w7 hown hgrow hat2 hlt; have HST8 := ord_arm HST2.out HNO.out ((Chg.refl _ _).alloc _) hown hgrow hat2 (by simp); clear hown hgrow hat2 hlt))
        go_loopw [5] (fun y wr => ∃ (A B : List Nat), A ++ B = l ∧ y = .int .i64 (A.length : Int) ∧ OrdSt w V m (A ++ k :: B) (.slice (some ⟨g, 0, none⟩) (no + 1) capn) wr ∧ ∀ i ∈ B, ∀ c, m.bids[i]? = some c → worthB b.job c.job = true) (fun y _ => (intOf y).toNat)
        case atStart => exact ⟨l, [], by simp, by rw [HNO.out], HST8.out, fun i hi => by simp at hi⟩
        case round =>
          clear HST8 HST2 HOUT HMR
          obtain ⟨A, B, hAB, rfl, hst, hB⟩ := hrel
          have HSTR := hide hst
          have HBB := hide hB
          have HAB := hide hAB
          have HMR := hide (HM.out.chg0 hst.chg)
          clear hB hAB
          rcases List.eq_nil_or_concat A with hA | ⟨A', x, hA⟩
          · subst hA
            have hd : decide ((0 : Int) < 0) = false := by decide
            have HO2 := hide (show OrdTo m m.time (k + 1) ([] ++ k :: B) from OrdTo.put HOK.out.sizes (by rw [HAB.out]; exact HORD.out) HB.out HCO.out HBB.out (fun i c h => by simp at h))
            have HLB := hide (show ([] ++ k :: B).length ≤ k + 1 by have := congrArg List.length HAB.out; simp at this ⊢; omega)
            clear hst
            go_wp2
            go_quiet (fail)
            go_wp2
            go_roundw
            case rel => exact ⟨k + 1, [] ++ k :: B, by omega, by go_num, HLB.out, HO2.out, HSTR.out.chg0 ((Chg.refl _ _).drewN _)⟩
            case measure => simp [intOf]; omega
          · rw [List.concat_eq_append] at hA
            subst hA
            obtain ⟨a, ha⟩ : ∃ a, a = A'.length := ⟨_, rfl⟩
            have hlen : (((A' ++ [x]).length : Nat) : Int) = (a : Int) + 1 := by simp [ha]
            have hlen2 : no + 1 = (A' ++ [x] ++ k :: B).length := by have := congrArg List.length HAB.out; have := HNO.out; simp at this ⊢; simp at *; omega
            obtain ⟨ga, gcap, hgv, hgel⟩ := HSTR.out.form
            obtain ⟨g1, hg1, hg2, hg3, hgc, hgf⟩ := hgel a x (by simp [ha])
            obtain ⟨g1', hg1', _, _, hgc', _⟩ := hgel (a + 1) k (by simp [ha])
            have hgg : g1 = g := by simp [Value.ownBlock] at hg2; exact hg2.symm
            subst hgg
            have hgg' : g1' = g1 := by rw [hg1] at hg1'; simp at hg1'; exact hg1'.symm
            subst hgg'
            have hxl : x ∈ l := by rw [← HAB.out]; simp
            obtain ⟨hxk, c, hxb, hxc⟩ := (HORD.out.mem x).1 hxl
            obtain ⟨gb, cap, hv, hown, hgbl, hbk, _⟩ := HMR.out.bidCell HB.out
            obtain ⟨gb', cap', hv', hown', hgbl', hbx, _⟩ := HMR.out.bidCell hxb
            have hgg2 : gb' = gb ∧ cap' = cap := by rw [hv] at hv'; simp at hv'; exact ⟨hv'.1.symm, hv'.2.symm⟩
            obtain ⟨rfl, rfl⟩ := hgg2
            have c6 : wr.cell? ⟨V.q, 6, none⟩ = some (.slice (some ⟨gb', 0, none⟩) n cap') := by rw [HN.out, ← hv]; exact HMR.out.cell 6
            have u2 : wr.cell? ⟨gb', k * 9 + 2, none⟩ = some (.int .i64 b.job.arr) := hbk 2 _ rfl
            have u3 : wr.cell? ⟨gb', k * 9 + 3, none⟩ = some (.int .i64 b.job.dl) := hbk 3 _ rfl
            have u4 : wr.cell? ⟨gb', k * 9 + 4, none⟩ = some (.int .i64 b.job.len) := hbk 4 _ rfl
            have u5 : wr.cell? ⟨gb', k * 9 + 5, none⟩ = some (.int .i64 b.job.units) := hbk 5 _ rfl
            have u6 : wr.cell? ⟨gb', k * 9 + 6, none⟩ = some (.int .i64 b.job.val) := hbk 6 _ rfl
            have v2 : wr.cell? ⟨gb', x * 9 + 2, none⟩ = some (.int .i64 c.job.arr) := hbx 2 _ rfl
            have v3 : wr.cell? ⟨gb', x * 9 + 3, none⟩ = some (.int .i64 c.job.dl) := hbx 3 _ rfl
            have v4 : wr.cell? ⟨gb', x * 9 + 4, none⟩ = some (.int .i64 c.job.len) := hbx 4 _ rfl
            have v5 : wr.cell? ⟨gb', x * 9 + 5, none⟩ = some (.int .i64 c.job.units) := hbx 5 _ rfl
            have v6 : wr.cell? ⟨gb', x * 9 + 6, none⟩ = some (.int .i64 c.job.val) := hbx 6 _ rfl
            have hcf := cfgOk_true HOK.out.ck
            have hjb := (HOK.out.bid b (List.mem_of_getElem? HB.out))
            have hjc := (HOK.out.bid c (List.mem_of_getElem? hxb))
            have HWM := hide (fun (w' : World) => worthMore_any b.job c.job w' (sizeJ_pos hjb.job hcf.1.2) (sizeJ_pos hjc.job hcf.1.2) (hjb.nums HOK.out).2.2.2.2 (hjc.nums HOK.out).2.2.2.2)
            have hxn : (x : Int) < (n : Int) := by omega
            have hx0 : (0 : Int) ≤ (x : Int) := by omega
            have hkn1 : (k : Int) < (n : Int) := by omega
            have hk0 : (0 : Int) ≤ (k : Int) := by omega
            have ha0 : (0 : Int) ≤ (a : Int) := by omega
            have ha1 : (a : Int) < ((no + 1 : Nat) : Int) := by rw [hlen2]; simp [ha]; omega
            have ha2 : (a : Int) + 1 < ((no + 1 : Nat) : Int) := by rw [hlen2]; simp [ha]; omega
            have ha3 : a < no + 1 := by omega
            have ha5 : (a : Int) ≤ 300 := by omega
            have hwk : IntKind.i64.wrap ((a : Int) + 1 - 1) = (a : Int) := by rw [IntKind.wrap_i64]; omega
            have hwk' : IntKind.i64.wrap (a : Int) = (a : Int) := by rw [IntKind.wrap_i64]; omega
            have ha4 : a + 1 < no + 1 := by omega
            have ha6 : (a : Int) < (no : Int) + 1 := by omega
            have ha7 : (a : Int) + 1 < (no : Int) + 1 := by omega
            have ha8 : a ≤ no := by omega
            have ha9 : a < no := by omega
            have ha10 : (a : Int) ≤ (no : Int) := by omega
            have ha11 : (a : Int) < (no : Int) := by omega
            have hd : decide ((0 : Int) < (a : Int) + 1) = true := by rw [decide_eq_true_eq]; omega
            have HXB := hide hxb
            have HGF := hide hgf
            have HLA := hide ha
            have HGL := hide (show g1' < wr.heap.size from (HSTR.out.row.lt g1' rfl).2)
            have HLEN := hide hlen
            rw [hlen]
            clear hst hgel hgv hg1 hg2 hg3 hgf hxl hxc hxb hv hv' hown hown' hbk hbx hcf hjb hjc hgbl' hlen2 ha hlen hg1'
            go_wp2
            go_region_held3 (fun w' => w'.cell? ⟨V.q, 6, none⟩ = some (.slice (some ⟨gb', 0, none⟩) n cap') ∧ w'.cell? ⟨gb', k * 9 + 2, none⟩ = some (.int .i64 b.job.arr) ∧ w'.cell? ⟨gb', k * 9 + 3, none⟩ = some (.int .i64 b.job.dl) ∧ w'.cell? ⟨gb', k * 9 + 4, none⟩ = some (.int .i64 b.job.len) ∧ w'.cell? ⟨gb', k * 9 + 5, none⟩ = some (.int .i64 b.job.units) ∧ w'.cell? ⟨gb', k * 9 + 6, none⟩ = some (.int .i64 b.job.val) ∧ w'.cell? ⟨gb', x * 9 + 2, none⟩ = some (.int .i64 c.job.arr) ∧ w'.cell? ⟨gb', x * 9 + 3, none⟩ = some (.int .i64 c.job.dl) ∧ w'.cell? ⟨gb', x * 9 + 4, none⟩ = some (.int .i64 c.job.len) ∧ w'.cell? ⟨gb', x * 9 + 5, none⟩ = some (.int .i64 c.job.units) ∧ w'.cell? ⟨gb', x * 9 + 6, none⟩ = some (.int .i64 c.job.val) ∧ w'.cell? ⟨g1', a, none⟩ = some (.int .i64 (x : Int))) (go_keep)
              (first | (go_at_call 87; refine (HWM.out _).mono ?_; rintro e w4 ⟨rfl, hq⟩; have hk4 := hq.keep; have HQ := hide hq; have x6 := hk4 _ _ c6; have y2 := hk4 _ _ u2; have y3 := hk4 _ _ u3; have y4 := hk4 _ _ u4; have y5 := hk4 _ _ u5; have y6 := hk4 _ _ u6; have z2 := hk4 _ _ v2; have z3 := hk4 _ _ v3; have z4 := hk4 _ _ v4; have z5 := hk4 _ _ v5; have z6 := hk4 _ _ v6; have t0 := hk4 _ _ hgc; have t1 := hk4 _ _ hgc'; have tf := (hq.frozen (p := ⟨g1', a, none⟩) HGL.out (fun h => h)).trans (HGF.out _); have tf1 := (hq.frozen (p := ⟨g1', a + 1, none⟩) HGL.out (fun h => h)).trans (HGF.out _); clear hk4 hq))
            all_goals
              have HC4 : Hid (Chg (fun _ => False) wr w4) := ⟨HQ.out.os, HQ.out.tape, HQ.out.output, HQ.out.size, HQ.out.block⟩
              have HST4 := hide (HSTR.out.chg0 HC4.out)
              clear HQ c6 u2 u3 u4 u5 u6 v2 v3 v4 v5 v6 hgc hgc' HWM x6 y2 y3 y4 y5 y6 z2 z3 z4 z5 z6
              cases hw : worthB b.job c.job
              · have HO2 := hide (show OrdTo m m.time (k + 1) ((A' ++ [x]) ++ k :: B) from OrdTo.put HOK.out.sizes (by rw [HAB.out]; exact HORD.out) HB.out HCO.out HBB.out (fun i c' h hc' => by
                  simp at h
                  subst h
                  rw [HXB.out] at hc'
                  obtain rfl := Option.some.inj hc'
                  exact hw))
                have HLB := hide (show ((A' ++ [x]) ++ k :: B).length ≤ k + 1 by have := congrArg List.length HAB.out; simp at this ⊢; omega)
                go_wp2
                go_roundw
                case rel => exact ⟨k + 1, (A' ++ [x]) ++ k :: B, by omega, by go_num, HLB.out, HO2.out, HST4.out⟩
                case measure => simp [intOf]; omega
              · have HSW := hide (HST4.out.swap (g := g1') rfl)
                rw [← HLA.out] at HSW
                have HB2 := hide (show ∀ i ∈ x :: B, ∀ c', m.bids[i]? = some c' → worthB b.job c'.job = true from fun i hi c' hc' => by
                  rcases List.mem_cons.1 hi with rfl | hi
                  · rw [HXB.out] at hc'
                    obtain rfl := Option.some.inj hc'
                    exact hw
                  · exact HBB.out i hi c' hc')
                go_wp2
                go_roundw
                case rel => exact ⟨A', x :: B, by rw [← HAB.out]; simp, by rw [← HLA.out], HSW.out, HB2.out⟩
                case measure => simp [intOf]
    · have hkn : k = n := by omega
      have HFIN := hide (show IsOrder m m.time l ∧ l.length ≤ m.bids.length from ⟨HORD.out.done (by rw [hkn]; exact HN.out), by rw [← HN.out]; omega⟩)
      clear hst hkn
      go_wp2
      go_ret
      exact ⟨l, _, rfl, HFIN.out.1, HFIN.out.2, HST.out⟩
end Go.Proofs.Ytminceigjejipaa
