import Derived.Test.YtminceigjejipaaYp6
import Derived.Test.YtminceigjejipaaYardIs
import Derived.Test.YtminceigjejipaaG9
/-
  BILLS IN THE PROGRAM: whether a bid is charged, whether it is due, an invoice more; a tenant's invoices, its balance.
-/
namespace Go.Proofs.Ytminceigjejipaa
open Go.RowKit

theorem hasInv_snoc {l : List InvG} {k : Nat} {c : InvG} {ten ref : Int} (h : l[k]? = some c) : hasInv (l.take (k + 1)) ten ref = (hasInv (l.take k) ten ref || ((c.ten == ten) && (c.ref == ref))) := by
  rw [take_snoc h, hasInv, List.any_append]
  simp [hasInv]

set_option maxRecDepth 100000 in
set_option maxHeartbeats 4000000 in
theorem isCharged_any (p : Nat) (V : YV) (L : LV) (m : MkG) (ten ref : Int) (w : World) (hy : YAtV w p V L m) (hcl : m.charges.length ≤ 300) :
    Calls Try.prog 81 #[.pointer (some ⟨p, 0, none⟩), .agg #[.int .i64 ten, .int .i64 ref]] w fun r w' => r = .returned (.bool (hasInv m.charges ten ref)) ∧ Chg (fun _ => False) w w' := by
  obtain ⟨ia, ic, hiv, hiel⟩ := hy.yb.invs_form
  obtain ⟨N, hN⟩ : ∃ N, N = m.charges.length := ⟨_, rfl⟩
  have hpl := hy.lt
  have c3 : w.cell? ⟨p, 3, none⟩ = some (.slice ia N ic) := by rw [hN, ← hiv]; exact hy.yb.cell 3
  have d3 : ∀ o, (w.alloc o).cell? ⟨p, 3, none⟩ = some (.slice ia N ic) := fun o => by rw [World.cell?_alloc_lt _ _ _ (by exact hpl)]; exact c3
  have HIEL := hide hiel
  have HN := hide hN
  have HGL := hide (fun g (hg : ia = some ⟨g, 0, none⟩) => show g < w.heap.size from hy.yb.foot_lt g (.inr (.inr (.inr (.inl (by rw [hiv, hg]; rfl))))))
  rw [← hN] at hcl
  clear hy hiv hiel hN c3
  go_enter Try.func81, Try.ntmps81
  go_wp2
  obtain ⟨w1, hw1⟩ : ∃ w1, w1 = w.alloc (.cells #[.int .i64 ten, .int .i64 ref] 90) := ⟨_, rfl⟩
  rw [← hw1]
  have HC1 : Hid (Chg (fun _ => False) w w1) := by rw [hw1]; exact (Chg.refl _ _).alloc _
  have hb1 : w1.heap[w.heap.size]? = some (.cells #[.int .i64 ten, .int .i64 ref] 90 (0, 0)) := by rw [hw1]; exact heap_alloc_new w _
  have hs1 : w.heap.size < w1.heap.size := (Array.getElem?_eq_some_iff.1 hb1).1
  have HB1 := hide hb1
  clear hw1 d3 hb1
  go_loopw [12] (fun y wr => ∃ k : Nat, k ≤ N ∧ y = .int .i64 k ∧ hasInv (m.charges.take k) ten ref = false ∧ Chg (fun _ => False) w1 wr) (fun y _ => N - (intOf y).toNat)
  case atStart => exact ⟨0, by omega, rfl, rfl, Chg.refl _ _⟩
  case round =>
    obtain ⟨k, hk, rfl, hno, hcr⟩ := hrel
    have HNO := hide hno
    have HCR := hide hcr
    have HCW := hide (HC1.out.trans hcr (fun _ _ h => h))
    have hbr : wr.heap[w.heap.size]? = some (.cells #[.int .i64 ten, .int .i64 ref] 90 (0, 0)) := (hcr.block _ hs1 (fun h => h)).trans HB1.out
    have hsr : w.heap.size < wr.heap.size := Nat.lt_of_lt_of_le hs1 hcr.size
    have n0 : wr.cell? ⟨w.heap.size, 0, none⟩ = some (.int .i64 ten) := by unfold World.cell?; rw [hbr]; rfl
    have n1 : wr.cell? ⟨w.heap.size, 1, none⟩ = some (.int .i64 ref) := by unfold World.cell?; rw [hbr]; rfl
    have n0' : ∀ o, (wr.alloc o).cell? ⟨w.heap.size, 0, none⟩ = some (.int .i64 ten) := fun o => by rw [World.cell?_alloc_lt _ _ _ (by exact hsr)]; exact n0
    have n1' : ∀ o, (wr.alloc o).cell? ⟨w.heap.size, 1, none⟩ = some (.int .i64 ref) := fun o => by rw [World.cell?_alloc_lt _ _ _ (by exact hsr)]; exact n1
    clear hno hcr hbr
    by_cases hlt : k < N
    · obtain ⟨c, hc⟩ : ∃ c, m.charges[k]? = some c := ⟨_, List.getElem?_eq_getElem (by rw [← HN.out]; exact hlt)⟩
      obtain ⟨g, hg, hcel⟩ := HIEL.out k c hc
      have hgl := HGL.out g hg
      subst hg
      have k0 : (0 : Int) ≤ (k : Int) := by omega
      have k1 : (k : Int) < (N : Int) := by omega
      have l0 : wr.cell? ⟨g, k * 3, none⟩ = some (.int .i64 c.ten) := by rw [HCW.out.cell (by exact hgl) (fun h => h)]; exact hcel 0 _ rfl
      have l1 : wr.cell? ⟨g, k * 3 + 1, none⟩ = some (.int .i64 c.ref) := by rw [HCW.out.cell (by exact hgl) (fun h => h)]; exact hcel 1 _ rfl
      have l2 : wr.cell? ⟨g, k * 3 + 2, none⟩ = some (.int .i64 c.cents) := by rw [HCW.out.cell (by exact hgl) (fun h => h)]; exact hcel 2 _ rfl
      have HS := hide (hasInv_snoc (ten := ten) (ref := ref) hc)
      have HMEM := hide (List.mem_of_getElem? hc)
      clear hcel hc
      cases h1 : c.ten == ten
      · have HE := hide (show hasInv (m.charges.take (k + 1)) ten ref = false by rw [HS.out, HNO.out, h1]; rfl)
        go_wp2
        go_roundw
        case rel => exact ⟨k + 1, by omega, by go_num, HE.out, HCR.out.alloc _⟩
        case measure => simp [intOf]; omega
      · cases h2 : c.ref == ref
        · have HE := hide (show hasInv (m.charges.take (k + 1)) ten ref = false by rw [HS.out, HNO.out, h1, h2]; rfl)
          go_wp2
          go_roundw
          case rel => exact ⟨k + 1, by omega, by go_num, HE.out, HCR.out.alloc _⟩
          case measure => simp [intOf]; omega
        · have HE := hide (show hasInv m.charges ten ref = true by
            rw [hasInv, List.any_eq_true]
            exact ⟨c, HMEM.out, by rw [h1, h2]; rfl⟩)
          go_wp2
          go_ret
          exact ⟨ret_bool HE.out.symm, HCW.out.alloc _⟩
    · have HE := hide (show hasInv m.charges ten ref = false by
        have := HNO.out
        rwa [List.take_of_length_le (by rw [← HN.out]; omega)] at this)
      go_wp2
      go_ret
      exact ⟨ret_bool HE.out.symm, HCW.out⟩

set_option maxRecDepth 100000 in
set_option maxHeartbeats 4000000 in
theorem invoicesOf_any (p : Nat) (V : YV) (L : LV) (m : MkG) (ten : Int) (w : World) (hy : YAtV w p V L m) (hcl : m.charges.length ≤ 300) :
    Calls Try.prog 62 #[.pointer (some ⟨p, 0, none⟩), .int .i64 ten] w fun e w' => ∃ lv, e = .returned lv ∧ InvSt w (ofTen m.charges ten) lv w' := by
  obtain ⟨ia, ic, hiv, hiel⟩ := hy.yb.invs_form
  obtain ⟨N, hN⟩ : ∃ N, N = m.charges.length := ⟨_, rfl⟩
  have c3 : w.cell? ⟨p, 3, none⟩ = some (.slice ia N ic) := by rw [hN, ← hiv]; exact hy.yb.cell 3
  have HIEL := hide hiel
  have HN := hide hN
  have HGL := hide (fun g (hg : ia = some ⟨g, 0, none⟩) => show g < w.heap.size from hy.yb.foot_lt g (.inr (.inr (.inr (.inl (by rw [hiv, hg]; rfl))))))
  rw [← hN] at hcl
  clear hy hiv hiel hN
  go_enter Try.func62, Try.ntmps62
  go_wp2
  clear c3
  go_loopw [5, 13] (fun lv y wr => ∃ k : Nat, k ≤ N ∧ y = .int .i64 k ∧ InvSt w (ofTen (m.charges.take k) ten) lv wr) (fun _ y _ => N - (intOf y).toNat)
  case atStart => exact ⟨0, by omega, rfl, InvSt.nil (Chg.refl _ _)⟩
  case round =>
    obtain ⟨k, hk, rfl, hst⟩ := hrel
    have HST := hide hst
    clear hst
    by_cases hlt : k < N
    · obtain ⟨c, hc⟩ : ∃ c, m.charges[k]? = some c := ⟨_, List.getElem?_eq_getElem (by rw [← HN.out]; exact hlt)⟩
      obtain ⟨g, hg, hcel⟩ := HIEL.out k c hc
      have hgl := HGL.out g hg
      subst hg
      have k0 : (0 : Int) ≤ (k : Int) := by omega
      have k1 : (k : Int) < (N : Int) := by omega
      have l0 : wr.cell? ⟨g, k * 3, none⟩ = some (.int .i64 c.ten) := by rw [HST.out.chg.cell (by exact hgl) (fun h => h)]; exact hcel 0 _ rfl
      have l1 : wr.cell? ⟨g, k * 3 + 1, none⟩ = some (.int .i64 c.ref) := by rw [HST.out.chg.cell (by exact hgl) (fun h => h)]; exact hcel 1 _ rfl
      have l2 : wr.cell? ⟨g, k * 3 + 2, none⟩ = some (.int .i64 c.cents) := by rw [HST.out.chg.cell (by exact hgl) (fun h => h)]; exact hcel 2 _ rfl
      have HS := hide (ofTen_snoc (ten := ten) hc)
      clear hcel hc
      cases hq : c.ten == ten
      · have HE := hide (show ofTen (m.charges.take (k + 1)) ten = ofTen (m.charges.take k) ten by rw [HS.out, hq]; simp)
        go_wp2
        go_roundw
        case rel => exact ⟨k + 1, by omega, by go_num, by rw [HE.out]; exact HST.out.chg0 ((Chg.refl _ _).alloc _)⟩
        case measure => simp [intOf]; omega
      · have HE := hide (show ofTen (m.charges.take (k + 1)) ten = ofTen (m.charges.take k) ten ++ [c] by rw [HS.out, hq]; simp)
        obtain ⟨oa, oc, hov⟩ := ownsRow_form HST.out.own
        subst hov
        obtain ⟨no, hno⟩ : ∃ no, no = (ofTen (m.charges.take k) ten).length := ⟨_, rfl⟩
        have HOUT : Hid (wr.ownsRow 0 88 3 (.slice oa no oc) no ((ofTen (m.charges.take k) ten).flatMap invCells)) := by rw [hno]; exact HST.out.own
        have hol : no ≤ k := by rw [hno]; have := List.length_filter_le (fun c : InvG => c.ten == ten) (m.charges.take k); simp at this; unfold ofTen; omega
        rw [← hno] at HST ⊢
        have HNO := hide hno
        clear hno
        obtain ⟨i0', hi, hz0', hz1, hz2⟩ := info_parts infoInvoice
        go_wp2_with (first | (at_builtin; refine wpList_append_lies _ rfl (.tmp 21) (.tmp 23) 49 rfl 0 88 i0' (.agg #[.int .i64 0, .int .i64 0, .int .i64 0]) 3 24 Try.underlying49 hi hz0' hz1 hz2 rfl (by decide) (.slice oa no oc) no ((ofTen (m.charges.take k) ten).flatMap invCells) rfl ((HOUT.out.alloc _).alloc _) ⟨wr.heap.size + 1, 0, none⟩ 1 1 (invCells c) rfl rfl (World.news_of_block (heap_at_new (by simp))) (by simp [invCells, Value.oneCell']) (by decide) (by unfold maxLen; omega) (by omega) (Nat.zero_le _) _ rfl ?_; intro g capn w7 hown hgrow hat2 hlt; have HST8 := inv_arm HST.out HNO.out (((Chg.refl _ _).alloc _).alloc _) hown hgrow hat2 (by simp; omega); clear hown hgrow hat2 hlt))
        all_goals
          clear l0 l1 l2
          go_wp2
          go_roundw
          case rel => first | exact ⟨k + 1, by omega, by go_num, by rw [HE.out]; exact HST8.out⟩ | exact ⟨k + 1, by omega, by go_num, by rw [HE.out]; exact HST8.out.chg0 ((Chg.refl _ _).drew)⟩
          case measure => simp [intOf]; omega
    · have hkN : k = N := by omega
      have HE := hide (show ofTen m.charges ten = ofTen (m.charges.take k) ten by rw [hkN, HN.out, List.take_length])
      clear hkN
      go_wp2
      go_ret
      exact ⟨_, rfl, by rw [HE.out]; exact HST.out⟩

set_option maxRecDepth 100000 in
set_option maxHeartbeats 4000000 in
theorem balanceOf_any (p : Nat) (V : YV) (L : LV) (m : MkG) (i : Nat) (w : World) (hy : YAtV w p V L m) (hok : MkOk m) (hpo : PaidOk m) (hco : ChgOk m) (hi : i < m.paid.length) :
    Calls Try.prog 63 #[.pointer (some ⟨p, 0, none⟩), .int .i64 i] w fun e w' => e = .returned (.int .i64 (m.paid.getD i 0 - sumC (ofTen m.charges i))) ∧ Chg (fun _ => False) w w' := by
  have hpn := hok.np
  have hcf := cfgOk_true hok.ck
  obtain ⟨pa, pc, hpv, hpel⟩ := hy.yb.paid_form
  obtain ⟨g, hg, _, hpcl, _⟩ := hpel i hi
  subst hg
  have c4 : w.cell? ⟨p, 4, none⟩ = some (.slice (some ⟨g, 0, none⟩) m.paid.length pc) := by rw [← hpv]; exact hy.yb.cell 4
  have i0 : (0 : Int) ≤ (i : Int) := by omega
  have i1 : (i : Int) < (m.paid.length : Int) := by omega
  have hx := hpo (m.paid.getD i 0) (by simp [List.getD, List.getElem?_eq_getElem hi])
  have hll := hok.nl
  have hx' : 0 ≤ m.paid.getD i 0 ∧ m.paid.getD i 0 ≤ 322122547200 := by omega
  have HINV := hide (invoicesOf_any p V L m i w hy hco.len)
  obtain ⟨l, hl⟩ : ∃ l, l = ofTen m.charges i := ⟨_, rfl⟩
  have hlc : ∀ c ∈ l, 0 ≤ c.cents ∧ c.cents ≤ 1048576 := fun c hc => hco.cents c (by rw [hl] at hc; exact (List.mem_filter.1 hc).1)
  have hll2 : l.length ≤ 300 := by
    have := hco.len
    have := List.length_filter_le (fun c : InvG => c.ten == i) m.charges
    rw [hl]; unfold ofTen; omega
  rw [← hl] at HINV ⊢
  have HLC := hide hlc
  obtain ⟨P0, hP0⟩ : ∃ P0, P0 = m.paid.getD i 0 := ⟨_, rfl⟩
  rw [← hP0] at hpcl hx' ⊢
  clear hy hok hpo hco hpv hpel hx hll hl hlc hP0 hpn hcf
  generalize m.paid.length = np at *
  go_enter Try.func63, Try.ntmps63
  go_wp2_with fail
  refine HINV.out.mono ?_
  rintro e w1 ⟨lv, rfl, hst⟩
  have HST := hide hst
  obtain ⟨la, lc, hlv⟩ := ownsRow_form hst.own
  subst hlv
  obtain ⟨N, hN⟩ : ∃ N, N = l.length := ⟨_, rfl⟩
  have HN := hide hN
  rw [← hN] at hll2 HST ⊢
  clear hst hN c4 hpcl HINV
  go_wp2
  go_loopw [5, 21] (fun x y wr => ∃ k : Nat, k ≤ N ∧ y = .int .i64 k ∧ x = .int .i64 (P0 - sumC (l.take k)) ∧ Chg (fun _ => False) w1 wr) (fun _ y _ => N - (intOf y).toNat)
  case atStart => exact ⟨0, by omega, rfl, by simp [sumC], Chg.refl _ _⟩
  case round =>
    obtain ⟨k, hk, rfl, rfl, hcr⟩ := hrel
    have HCR := hide hcr
    clear hcr
    by_cases hlt : k < N
    · obtain ⟨c, hc⟩ : ∃ c, l[k]? = some c := ⟨_, List.getElem?_eq_getElem (by rw [← HN.out]; exact hlt)⟩
      have hro : wr.ownsRow 0 88 3 (.slice la N lc) l.length (l.flatMap invCells) := (HST.out.chg0 HCR.out).own
      obtain ⟨gc, ccap, hv, _, _, hcel⟩ := invRow_cell hro hc
      have hla : la = some ⟨gc, 0, none⟩ := by
        simp at hv
        exact hv.1
      subst hla
      have k0 : (0 : Int) ≤ (k : Int) := by omega
      have k1 : (k : Int) < (N : Int) := by omega
      have l0 : wr.cell? ⟨gc, k * 3, none⟩ = some (.int .i64 c.ten) := hcel 0 _ rfl
      have l1 : wr.cell? ⟨gc, k * 3 + 1, none⟩ = some (.int .i64 c.ref) := hcel 1 _ rfl
      have l2 : wr.cell? ⟨gc, k * 3 + 2, none⟩ = some (.int .i64 c.cents) := hcel 2 _ rfl
      have hs := sumC_le (l.take k) (fun x hx => HLC.out x (List.mem_of_mem_take hx))
      have hcc := HLC.out c (List.mem_of_getElem? hc)
      have htk : (l.take k).length ≤ 300 := by rw [List.length_take]; omega
      have HE := hide (show sumC (l.take (k + 1)) = sumC (l.take k) + c.cents by rw [take_snoc hc, sumC_snoc])
      have hs2 : 0 ≤ sumC (l.take k) ∧ sumC (l.take k) ≤ 314572800 := by omega
      clear hs htk hcel hv hro
      generalize sumC (l.take k) = S at *
      have hww : IntKind.i64.wrap (P0 - S - c.cents) = P0 - S - c.cents := by rw [IntKind.wrap_i64]; omega
      go_wp2
      go_roundw
      case rel => exact ⟨k + 1, by omega, by go_num, by rw [HE.out]; congr 1; omega, HCR.out.alloc _⟩
      case measure => simp [intOf]; omega
    · have hkN : k = N := by omega
      have HE := hide (show P0 - sumC (l.take k) = P0 - sumC l by rw [hkN, HN.out, List.take_length])
      generalize P0 - sumC (l.take k) = X at *
      clear hkN
      go_wp2
      go_ret
      exact ⟨ret_int HE.out, HST.out.chg.trans HCR.out (fun _ _ h => h)⟩
end Go.Proofs.Ytminceigjejipaa
