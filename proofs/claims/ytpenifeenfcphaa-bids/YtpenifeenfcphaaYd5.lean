import Derived.Test.YtpenifeenfcphaaYd2
import Derived.Test.YtpenifeenfcphaaRow5
import Derived.Test.YtpenifeenfcphaaMkI
namespace Go.Proofs.Ytpenifeenfcphaa
open Go.RowKit

theorem YmAt.calLen {w : World} {V : YV} {m : MkG} (h : YmAt w V m) : RowAt 57 w V.r V.g m.units.length V.cc (freeZ m) := h.cal

theorem within_tick {tk t : Int} : inB t 0 (tk - 1) = !(decide (t < 0) || decide (tk ≤ t)) := by
  rw [Bool.eq_iff_iff]
  simp [inB]
  omega

set_option maxRecDepth 100000 in
set_option maxHeartbeats 2000000 in
theorem freeAt_any (V : YV) (m : MkG) (t : Int) (w : World) (hm : YmAt w V m) (hok : MkOk m) :
    Calls Try.prog 84 #[.pointer (some ⟨V.q, 0, none⟩), .int .i64 t] w fun e w' => e = .returned (.tuple #[.int .i64 (freeV m t), .int .i64 (freeE m t)]) ∧ w' = w := by
  have HM := hide hm
  have HOK := hide hok
  have c0 : w.cell? ⟨V.q, 0, none⟩ = some (.int .i64 m.c.ticks) := hm.cell 0
  have c9 : w.cell? ⟨V.q, 9, none⟩ = some (.pointer (some ⟨V.r, 0, none⟩)) := hm.cell 9
  have hcf := cfgOk_true hok.ck
  have hnu := hok.nu
  clear hm hok
  have hw1 : IntKind.i64.wrap (m.c.ticks - 1) = m.c.ticks - 1 := by rw [IntKind.wrap_i64]; omega
  by_cases ht : t < 0 ∨ m.c.ticks ≤ t
  · have E1 := hide (show freeE m t = 9 ∧ freeV m t = 0 by simp [freeE, freeV, ht])
    have hb : inB t 0 (m.c.ticks - 1) = false := by rw [within_tick]; simp; omega
    clear ht hcf hnu
    generalize m.c.ticks = tk at *
    go_enter Try.func84, Try.ntmps84
    go_wp2_with (go_at_call 42; refine (within_any _ _ _ _).mono ?_; rintro e w' ⟨rfl, hw⟩; subst w')
    go_ret2
    exact ⟨ret_two E1.out.2.symm E1.out.1.symm, rfl⟩
  · obtain ⟨i, rfl⟩ := Int.eq_ofNat_of_zero_le (show 0 ≤ t by omega)
    have hb : inB (i : Int) 0 (m.c.ticks - 1) = true := by rw [within_tick]; simp; omega
    have E1 := hide (show freeE m i = 0 ∧ freeV m i = freeZ m i by
      constructor
      · rw [freeE, if_neg ht]
      · rw [freeV, if_neg ht]; simp [freeZ])
    have hiu : i < m.units.length := by omega
    have hul : m.units.length ≤ 64 := by omega
    have HMIN := hide (calMin_ok V.r V.g m.units.length V.cc i (i + 1) (freeZ m) w HM.out.cal.cellp (by omega) (by omega) (by omega) HM.out.cal.cellg)
    clear ht
    generalize m.c.ticks = tk at *
    go_enter Try.func84, Try.ntmps84
    go_wp2_with (first | (go_at_call 42; refine (within_any _ _ _ _).mono ?_; rintro e w' ⟨rfl, hw⟩; subst w') | (go_at_call 14; refine HMIN.out.mono ?_; rintro e w' ⟨rfl, hw⟩; subst w'))
    go_ret2
    exact ⟨ret_two (by rw [E1.out.2]; first | rfl | (rw [show i + 1 - 1 - i = 0 by omega]; rfl)) E1.out.1.symm, rfl⟩

set_option maxRecDepth 100000 in
set_option maxHeartbeats 2000000 in
theorem usedAt_any (V : YV) (m : MkG) (i : Nat) (w : World) (hm : YmAt w V m) (hok : MkOk m) (hi : i < m.units.length) :
    Calls Try.prog 97 #[.pointer (some ⟨V.q, 0, none⟩), .int .i64 i] w fun e w' => e = .returned (.int .i64 (usedL m.bids i)) ∧ w' = w := by
  have HM := hide hm
  have HF := hide (freeAt_any V m i w hm hok)
  have hcf := cfgOk_true hok.ck
  have hnu := hok.nu
  have E1 : freeV m i = m.units.getD i 0 - usedL m.bids i := by rw [freeV, if_neg (by omega)]; simp
  obtain ⟨ao, cap, hv, hel⟩ := hm.units_form
  obtain ⟨g, hao, hown, hcl, hfr⟩ := hel i hi
  subst hao
  have c8 : w.cell? ⟨V.q, 8, none⟩ = some (.slice (some ⟨g, 0, none⟩) m.units.length cap) := by rw [← hv]; exact hm.cell 8
  have hu0 := hok.un (m.units.getD i 0) (by simp [List.getD, List.getElem?_eq_getElem hi])
  have hus := usedL_le m.c i m.bids hok.bid
  have hbl := hok.bl
  have hus2 : 0 ≤ usedL m.bids i ∧ usedL m.bids i ≤ 300000 := by omega
  have hil : (i : Int) < (m.units.length : Int) := by omega
  rw [E1] at HF
  generalize freeE m i = fe at *
  clear hel hv hown hfr hus hm hok E1 HM
  generalize m.units.length = n at *
  generalize m.units.getD i 0 = u at *
  generalize usedL m.bids i = us at *
  obtain ⟨hu1, hu2⟩ := hu0
  obtain ⟨hu3, hu4⟩ := hus2
  go_enter Try.func97, Try.ntmps97
  go_wp2_with (go_at_call 84; refine HF.out.mono ?_; rintro e w' ⟨rfl, hw⟩; subst w')
  go_ret
  exact ⟨ret_int (by omega), rfl⟩

theorem freeZ_range {m : MkG} (hok : MkOk m) : InRange m.units.length (freeZ m) := by
  intro j hj
  have hu := hok.un (m.units.getD j 0) (by simp [List.getD, List.getElem?_eq_getElem hj])
  have hus := usedL_le m.c j m.bids hok.bid
  have hbl := hok.bl
  unfold freeZ
  omega
end Go.Proofs.Ytpenifeenfcphaa
