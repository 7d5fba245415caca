import Derived.Test.YtminceigjejipaaG6
namespace Go.Proofs.Ytminceigjejipaa
open Go.RowKit

/-- the code's own tests of a job -/
theorem jobB_split (tk tm : Int) (a dl ln un va : Int) (_ : 0 ≤ tm) (_ : tm ≤ tk) :
    (jobIn tk ⟨a, dl, ln, un, va⟩ && decide (atOf tm ⟨a, dl, ln, un, va⟩ + ln ≤ dl)) = (inB a 0 tk && inB dl 0 tk && inB ln 1 tk && inB un 1 1000 && inB va 1 1048576 && decide ((if a < tm then tm else a) + ln ≤ dl)) := by
  rw [Bool.eq_iff_iff]
  simp only [jobIn, atOf, inB, Bool.and_eq_true, decide_eq_true_eq]
  split <;> omega

set_option maxRecDepth 100000 in
set_option maxHeartbeats 8000000 in
theorem canRun_any (V : YV) (m : MkG) (j : JobG) (w : World) (hm : YmAt w V m) (hcf : cfgOk m.c = true) (ht0 : 0 ≤ m.time) (ht1 : m.time ≤ m.c.ticks) :
    Calls Try.prog 89 #[.pointer (some ⟨V.q, 0, none⟩), .agg #[.int .i64 j.arr, .int .i64 j.dl, .int .i64 j.len, .int .i64 j.units, .int .i64 j.val]] w fun e w' => e = .returned (.bool (m.jobB j)) ∧ Chg (fun _ => False) w w' := by
  have hpl := hm.lt
  have hc0 : w.cell? ⟨V.q, 0, none⟩ = some (.int .i64 m.c.ticks) := hm.cell 0
  have hc5 : w.cell? ⟨V.q, 5, none⟩ = some (.int .i64 m.time) := hm.cell 5
  have d0 : ∀ o, (w.alloc o).cell? ⟨V.q, 0, none⟩ = some (.int .i64 m.c.ticks) := fun o => by rw [World.cell?_alloc_lt _ _ _ (by exact hpl)]; exact hc0
  have d5 : ∀ o, (w.alloc o).cell? ⟨V.q, 5, none⟩ = some (.int .i64 m.time) := fun o => by rw [World.cell?_alloc_lt _ _ _ (by exact hpl)]; exact hc5
  obtain ⟨⟨k1, k2⟩, _⟩ := cfgOk_true hcf
  obtain ⟨a, dl, ln, un, va⟩ := j
  have HS := hide (jobB_split m.c.ticks m.time a dl ln un va ht0 ht1)
  obtain ⟨r, hr⟩ : ∃ r, r = m.jobB ⟨a, dl, ln, un, va⟩ := ⟨_, rfl⟩
  have HR : Hid (r = (inB a 0 m.c.ticks && inB dl 0 m.c.ticks && inB ln 1 m.c.ticks && inB un 1 1000 && inB va 1 1048576 && decide ((if a < m.time then m.time else a) + ln ≤ dl))) := by
    rw [← HS.out]; exact hr
  rw [← hr]
  clear hm hcf hc0 hc5 hr HS
  generalize m.c.ticks = tk at *
  generalize m.time = tm at *
  simp only at *
  cases h1 : inB a 0 tk
  · have hz : r = false := by rw [HR.out, h1]; rfl
    subst hz
    clear HR
    go_enter Try.func89, Try.ntmps89
    go_wp2_with (go_at_call 72; refine (within_any _ _ _ _).mono ?_; rintro e w' ⟨rfl, rfl⟩)
    go_ret
    exact ⟨rfl, (Chg.refl _ _).alloc _⟩
  cases h2 : inB dl 0 tk
  · have hz : r = false := by rw [HR.out, h1, h2]; rfl
    subst hz
    clear HR
    go_enter Try.func89, Try.ntmps89
    go_wp2_with (go_at_call 72; refine (within_any _ _ _ _).mono ?_; rintro e w' ⟨rfl, rfl⟩)
    go_ret
    exact ⟨rfl, (Chg.refl _ _).alloc _⟩
  cases h3 : inB ln 1 tk
  · have hz : r = false := by rw [HR.out, h1, h2, h3]; rfl
    subst hz
    clear HR
    go_enter Try.func89, Try.ntmps89
    go_wp2_with (go_at_call 72; refine (within_any _ _ _ _).mono ?_; rintro e w' ⟨rfl, rfl⟩)
    go_ret
    exact ⟨rfl, (Chg.refl _ _).alloc _⟩
  cases h4 : inB un 1 1000
  · have hz : r = false := by rw [HR.out, h1, h2, h3, h4]; rfl
    subst hz
    clear HR
    go_enter Try.func89, Try.ntmps89
    go_wp2_with (go_at_call 72; refine (within_any _ _ _ _).mono ?_; rintro e w' ⟨rfl, rfl⟩)
    go_ret
    exact ⟨rfl, (Chg.refl _ _).alloc _⟩
  cases h5 : inB va 1 1048576
  · have hz : r = false := by rw [HR.out, h1, h2, h3, h4, h5]; rfl
    subst hz
    clear HR
    go_enter Try.func89, Try.ntmps89
    go_wp2_with (go_at_call 72; refine (within_any _ _ _ _).mono ?_; rintro e w' ⟨rfl, rfl⟩)
    go_ret
    exact ⟨rfl, (Chg.refl _ _).alloc _⟩
  have HR2 : Hid (r = decide ((if a < tm then tm else a) + ln ≤ dl)) := by rw [HR.out, h1, h2, h3, h4, h5]; exact Bool.true_and _
  clear HR
  obtain ⟨q1, q2⟩ := inB_true h1
  obtain ⟨q3, q4⟩ := inB_true h2
  obtain ⟨q5, q6⟩ := inB_true h3
  by_cases h6 : a < tm
  · have HR3 := hide (show r = decide (tm + ln ≤ dl) by rw [HR2.out, if_pos h6])
    clear HR2
    go_enter Try.func89, Try.ntmps89
    go_wp2_with (go_at_call 72; refine (within_any _ _ _ _).mono ?_; rintro e w' ⟨rfl, rfl⟩)
    go_ret
    exact ⟨ret_bool HR3.out.symm, (Chg.refl _ _).alloc _⟩
  · have HR3 := hide (show r = decide (a + ln ≤ dl) by rw [HR2.out, if_neg h6])
    clear HR2
    go_enter Try.func89, Try.ntmps89
    go_wp2_with (go_at_call 72; refine (within_any _ _ _ _).mono ?_; rintro e w' ⟨rfl, rfl⟩)
    go_ret
    exact ⟨ret_bool HR3.out.symm, (Chg.refl _ _).alloc _⟩
end Go.Proofs.Ytminceigjejipaa
