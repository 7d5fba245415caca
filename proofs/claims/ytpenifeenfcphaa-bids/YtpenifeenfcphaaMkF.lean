import Derived.Test.YtpenifeenfcphaaMkE
namespace Go.Proofs.Ytpenifeenfcphaa
open Go.RowKit

theorem MkOk.bl {m : MkG} (h : MkOk m) : m.bids.length ≤ 300 := Nat.le_trans h.nb h.nl

theorem MktTo.after {w w1 w2 : World} {p : Nat} {V V1 : MV} {m2 : MkG} (hc : Chg (V.foot p) w w1) (hf : ∀ k, V1.foot p k → V.foot p k ∨ w.heap.size ≤ k) (h : MktTo w1 p V1 m2 w2) : MktTo w p V m2 w2 := by
  obtain ⟨V2, b1, b2, b3⟩ := h
  refine ⟨V2, b1, hc.trans b2 (fun x hx hxf => ?_), fun k hk => ?_⟩
  · rcases hf x hxf with h | h
    · exact h
    · omega
  · rcases b3 k hk with h | h
    · exact hf k h
    · exact .inr (Nat.le_trans hc.size h)

/-- the frame of a logged call that is answered ErrFull -/
theorem MktTo.full {w w' : World} {p : Nat} {V : MV} {m : MkG} (h : MktAt w p V m) (hc : Chg (fun _ => False) w w') : MktTo w p V m w' := (MktTo.refl h).chg0 hc

set_option maxHeartbeats 1000000 in
theorem cancel_full (p : Nat) (V : MV) (m : MkG) (ten ref : Int) (w : World) (hm : MktAt w p V m) (hl : m.log.length = 300) :
    Calls Try.prog 46 #[.pointer (some ⟨p, 0, none⟩), .int .i64 ten, .int .i64 ref] w fun e w' => e = .returned (.int .i64 2) ∧ MktTo w p V m w' := by
  have HM := hide hm
  have HL := hide hl
  clear hm hl
  go_enter Try.func46, Try.ntmps46
  go_wp2_with fail
  refine (logged_full p V m (callCancel ten ref) _ HM.out HL.out).mono ?_
  rintro e w1 ⟨rfl, h1⟩
  have H1 := hide h1
  clear h1
  go_wp2
  go_ret
  exact ⟨rfl, MktTo.full HM.out H1.out⟩

set_option maxHeartbeats 2000000 in
theorem cancel_ok (p : Nat) (V : MV) (m : MkG) (ten ref : Int) (w : World) (hm : MktAt w p V m) (hok : MkOk m) (hl : m.log.length < 300) :
    Calls Try.prog 46 #[.pointer (some ⟨p, 0, none⟩), .int .i64 ten, .int .i64 ref] w fun e w' => e = .returned (.int .i64 (cancelE m ten ref)) ∧ MktTo w p V (cancelM m ten ref) w' := by
  have HM := hide hm
  have HL := hide hl
  have HOK := hide hok
  clear hm hl hok
  go_enter Try.func46, Try.ntmps46
  go_wp2_with fail
  refine (logged_ok p V m (callCancel ten ref) _ HM.out HL.out).mono ?_
  rintro e w1 ⟨rfl, hto⟩
  obtain ⟨V1, hm1, hc1, hf1⟩ := hto
  have H1 := hide hm1
  have HTO := hide (show MktTo w p V (m.logs (callCancel ten ref)) w1 from ⟨V1, hm1, hc1, hf1⟩)
  have HAF := hide (fun m2 w2 (h : MktTo w1 p V1 m2 w2) => MktTo.after hc1 hf1 h)
  clear hm1 hc1 hf1
  go_wp2_with fail
  refine (tenant_any p V1 _ ten _ H1.out).mono ?_
  rintro e w2 ⟨rfl, hw⟩
  subst w2
  have et : (m.logs (callCancel ten ref)).tenB ten = m.tenB ten := rfl
  rw [et]
  clear et
  cases hT : m.tenB ten
  · have E1 := hide (show cancelE m ten ref = 3 by simp [cancelE, hT])
    clear hT
    go_wp2
    go_ret
    exact ⟨ret_int E1.out.symm, by rw [show cancelM m ten ref = m.logs (callCancel ten ref) by simp [cancelM, E1.out]]; exact HTO.out⟩
  · go_wp2_with fail
    refine (find_any p V1 _ ten ref _ H1.out HOK.out.bl).mono ?_
    rintro e w2 ⟨rfl, hw⟩
    subst w2
    have ef : findZ (m.logs (callCancel ten ref)).bids ten ref = findZ m.bids ten ref := rfl
    rw [ef]
    clear ef
    have hfl := findZ_lt m.bids ten ref
    have hbl := HOK.out.bl
    by_cases hf : findZ m.bids ten ref < 0
    · have E1 := hide (show cancelE m ten ref = 5 by simp [cancelE, hT, hf])
      clear hT hfl
      generalize findZ m.bids ten ref = z at *
      go_wp2
      go_ret
      exact ⟨ret_int E1.out.symm, by rw [show cancelM m ten ref = m.logs (callCancel ten ref) by simp [cancelM, E1.out]]; exact HTO.out⟩
    · obtain ⟨i, hi⟩ := Int.eq_ofNat_of_zero_le (show 0 ≤ findZ m.bids ten ref by omega)
      obtain ⟨b, hb⟩ : ∃ b, m.bids[i]? = some b := ⟨_, List.getElem?_eq_getElem (by omega)⟩
      obtain ⟨ao, cap, hv, hel⟩ := H1.out.bid_form
      obtain ⟨g, hao, hown, hcl, hfr⟩ := hel i b hb
      subst hao
      have hil : (i : Int) < (m.bids.length : Int) := by omega
      have c7 : w1.cell? ⟨p, 7, none⟩ = some (.slice (some ⟨g, 0, none⟩) m.bids.length cap) := by rw [← show V1.bv = .slice (some ⟨g, 0, none⟩) m.bids.length cap from hv]; exact H1.out.cell 7
      have c8 : w1.cell? ⟨g, i * 12 + 8, none⟩ = some (.int .i64 b.state) := hcl 8 _ rfl
      have f8 := hfr (i * 12 + 8)
      have HB := hide hb
      have HOW := hide hown
      have HF := hide (show ¬ findZ m.bids ten ref < 0 from hf)
      have HI := hide hi
      rw [hi]
      clear hcl hfr hel hv hb hown hfl hf hi
      cases hs : b.state == 1
      · have E1 := hide (show cancelE m ten ref = 8 by
          simp only [cancelE, hT, HI.out, stateAt, Int.toNat_natCast, HB.out]
          simp at hs
          simp [hs])
        clear hT
        generalize m.bids.length = n at *
        go_wp2
        go_ret
        exact ⟨ret_int E1.out.symm, by rw [show cancelM m ten ref = m.logs (callCancel ten ref) by simp [cancelM, E1.out]]; exact HTO.out⟩
      · have E1 := hide (show cancelE m ten ref = 0 by
          simp only [cancelE, hT, HI.out, stateAt, Int.toNat_natCast, HB.out]
          simp at hs
          simp [hs])
        have E2 := hide (show cancelM m ten ref = { m.logs (callCancel ten ref) with bids := m.bids.set i { b with state := 3 } } by
          simp only [cancelM, E1.out, if_true, HI.out, Int.toNat_natCast]
          have : (m.logs (callCancel ten ref)).bids = m.bids := rfl
          rw [this, setState, HB.out])
        have HFIN := hide (show MktTo w p V (cancelM m ten ref) (w1.setCell ⟨g, i * 12 + 8, none⟩ (.int .i64 3)) by
          rw [E2.out]
          exact HAF.out _ _ (H1.out.setState (i := i) (b := b) (s := 3) HB.out HOW.out))
        clear hT
        generalize m.bids.length = n at *
        go_wp2
        go_ret
        exact ⟨ret_int E1.out.symm, HFIN.out⟩

set_option maxHeartbeats 1000000 in
theorem suspend_full (p : Nat) (V : MV) (m : MkG) (ten : Int) (on : Bool) (w : World) (hm : MktAt w p V m) (hl : m.log.length = 300) :
    Calls Try.prog 48 #[.pointer (some ⟨p, 0, none⟩), .int .i64 ten, .bool on] w fun e w' => e = .returned (.int .i64 2) ∧ MktTo w p V m w' := by
  have HM := hide hm
  have HL := hide hl
  clear hm hl
  go_enter Try.func48, Try.ntmps48
  go_wp2_with fail
  refine (logged_full p V m (callSuspend ten on) _ HM.out HL.out).mono ?_
  rintro e w1 ⟨rfl, h1⟩
  have H1 := hide h1
  clear h1
  go_wp2
  go_ret
  exact ⟨rfl, MktTo.full HM.out H1.out⟩

theorem tenB_true {m : MkG} {k : Int} (h : m.tenB k = true) : 0 ≤ k ∧ k < m.c.ten := by simpa [MkG.tenB] using h

set_option maxHeartbeats 2000000 in
theorem suspend_ok (p : Nat) (V : MV) (m : MkG) (ten : Int) (on : Bool) (w : World) (hm : MktAt w p V m) (hok : MkOk m) (hl : m.log.length < 300) :
    Calls Try.prog 48 #[.pointer (some ⟨p, 0, none⟩), .int .i64 ten, .bool on] w fun e w' => e = .returned (.int .i64 (suspendE m ten)) ∧ MktTo w p V (suspendM m ten on) w' := by
  have HM := hide hm
  have HL := hide hl
  have HOK := hide hok
  clear hm hl hok
  go_enter Try.func48, Try.ntmps48
  go_wp2_with fail
  refine (logged_ok p V m (callSuspend ten on) _ HM.out HL.out).mono ?_
  rintro e w1 ⟨rfl, hto⟩
  obtain ⟨V1, hm1, hc1, hf1⟩ := hto
  have H1 := hide hm1
  have HTO := hide (show MktTo w p V (m.logs (callSuspend ten on)) w1 from ⟨V1, hm1, hc1, hf1⟩)
  have HAF := hide (fun m2 w2 (h : MktTo w1 p V1 m2 w2) => MktTo.after hc1 hf1 h)
  clear hm1 hc1 hf1
  go_wp2_with fail
  refine (tenant_any p V1 _ ten _ H1.out).mono ?_
  rintro e w2 ⟨rfl, hw⟩
  subst w2
  have et : (m.logs (callSuspend ten on)).tenB ten = m.tenB ten := rfl
  rw [et]
  clear et
  cases hT : m.tenB ten
  · have E1 := hide (show suspendE m ten = 3 by simp [suspendE, hT])
    clear hT
    go_wp2
    go_ret
    exact ⟨ret_int E1.out.symm, by rw [show suspendM m ten on = m.logs (callSuspend ten on) by simp [suspendM, E1.out]]; exact HTO.out⟩
  · obtain ⟨t0, t1⟩ := tenB_true hT
    have hns := HOK.out.ns
    have hcf := cfgOk_true HOK.out.ck
    obtain ⟨i, rfl⟩ := Int.eq_ofNat_of_zero_le t0
    obtain ⟨ao, cap, hv, hel⟩ := H1.out.susp_form
    obtain ⟨g, hao, hown, hcl, hfr⟩ := hel i (by show i < m.susp.length; omega)
    subst hao
    have hil : (i : Int) < (m.susp.length : Int) := by omega
    have hsl : m.susp.length ≤ 8 := by omega
    have c8 : w1.cell? ⟨p, 8, none⟩ = some (.slice (some ⟨g, 0, none⟩) m.susp.length cap) := by rw [← show V1.sv = .slice (some ⟨g, 0, none⟩) m.susp.length cap from hv]; exact H1.out.cell 8
    have E1 := hide (show suspendE m i = 0 by simp [suspendE, hT])
    have HFIN := hide (show MktTo w p V (suspendM m i on) (w1.setCell ⟨g, i, none⟩ (.bool on)) by
      rw [show suspendM m i on = { m.logs (callSuspend i on) with susp := m.susp.set i on } by simp [suspendM, E1.out, MkG.logs]]
      exact HAF.out _ _ (H1.out.setSusp (s := on) (by show i < m.susp.length; omega) hown))
    clear hT hel hv hown hns hcf t0 t1
    generalize m.susp.length = n at *
    go_wp2
    go_ret
    exact ⟨ret_int E1.out.symm, HFIN.out⟩
end Go.Proofs.Ytpenifeenfcphaa
