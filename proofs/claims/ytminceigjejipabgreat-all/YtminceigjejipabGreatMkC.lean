import Derived.Test.YtminceigjejipabGreatMkB
namespace Go.Proofs.YtminceigjejipabGreat
open Go.RowKit

theorem jobIn_cases {tk : Int} {j : JobG} : (jobIn tk j = false ∧ (((j.arr < 0)) ∨ (¬ (j.arr < 0) ∧ (j.len < 1)) ∨ (¬ (j.arr < 0) ∧ ¬ (j.len < 1) ∧ (tk < j.len)) ∨ (¬ (j.arr < 0) ∧ ¬ (j.len < 1) ∧ ¬ (tk < j.len) ∧ (j.units < 1)) ∨ (¬ (j.arr < 0) ∧ ¬ (j.len < 1) ∧ ¬ (tk < j.len) ∧ ¬ (j.units < 1) ∧ (1000 < j.units)) ∨ (¬ (j.arr < 0) ∧ ¬ (j.len < 1) ∧ ¬ (tk < j.len) ∧ ¬ (j.units < 1) ∧ ¬ (1000 < j.units) ∧ (j.val < 1)) ∨ (¬ (j.arr < 0) ∧ ¬ (j.len < 1) ∧ ¬ (tk < j.len) ∧ ¬ (j.units < 1) ∧ ¬ (1000 < j.units) ∧ ¬ (j.val < 1) ∧ (1048576 < j.val)) ∨ (¬ (j.arr < 0) ∧ ¬ (j.len < 1) ∧ ¬ (tk < j.len) ∧ ¬ (j.units < 1) ∧ ¬ (1000 < j.units) ∧ ¬ (j.val < 1) ∧ ¬ (1048576 < j.val) ∧ (tk < j.dl)))) ∨ (jobIn tk j = true ∧ ¬ (j.arr < 0) ∧ ¬ (j.len < 1) ∧ ¬ (tk < j.len) ∧ ¬ (j.units < 1) ∧ ¬ (1000 < j.units) ∧ ¬ (j.val < 1) ∧ ¬ (1048576 < j.val) ∧ ¬ (tk < j.dl)) := by
  cases h : jobIn tk j
  · left
    refine ⟨rfl, ?_⟩
    simp [jobIn] at h
    omega
  · right
    refine ⟨rfl, ?_⟩
    have := jobIn_true h
    omega

set_option maxRecDepth 100000 in
set_option maxHeartbeats 8000000 in
theorem job_any (p : Nat) (V : MV) (m : MkG) (j : JobG) (w : World) (hm : MktAt w p V m) (hcf : cfgOk m.c = true) (ht0 : 0 ≤ m.time) (ht1 : m.time ≤ m.c.ticks) :
    Calls Tryz.prog 66 #[.pointer (some ⟨p, 0, none⟩), .agg #[.int .i64 j.arr, .int .i64 j.dl, .int .i64 j.len, .int .i64 j.units, .int .i64 j.val]] w fun e w' => e = .returned (.bool (m.jobB j)) ∧ Chg (fun _ => False) w w' := by
  have hpl := hm.lt
  have hc0 : w.cell? ⟨p, 0, none⟩ = some (.int .i64 m.c.ticks) := hm.cell 0
  have hc5 : w.cell? ⟨p, 5, none⟩ = some (.int .i64 m.time) := hm.cell 5
  have d0 : ∀ o, (w.alloc o).cell? ⟨p, 0, none⟩ = some (.int .i64 m.c.ticks) := fun o => by rw [World.cell?_alloc_lt _ _ _ (by exact hpl)]; exact hc0
  have d5 : ∀ o, (w.alloc o).cell? ⟨p, 5, none⟩ = some (.int .i64 m.time) := fun o => by rw [World.cell?_alloc_lt _ _ _ (by exact hpl)]; exact hc5
  obtain ⟨⟨k1, k2⟩, _⟩ := cfgOk_true hcf
  have hJ := @jobIn_cases m.c.ticks j
  obtain ⟨r, hr⟩ : ∃ r, r = m.jobB j := ⟨_, rfl⟩
  have hr' : r = (jobIn m.c.ticks j && decide (atOf m.time j + j.len ≤ j.dl)) := hr
  rw [← hr]
  have HR := hide hr'
  clear hm hcf hc0 hc5 hr hr'
  generalize m.c.ticks = tk at *
  generalize m.time = tm at *
  obtain ⟨a, dl, ln, un, va⟩ := j
  simp only at *
  rcases hJ with ⟨hf, hJ⟩ | ⟨hf, hJ⟩
  · have hr0 : r = false := by rw [HR.out, hf]; rfl
    subst hr0
    clear HR hf
    rcases hJ with g0 | ⟨g0, g1⟩ | ⟨g0, g1, g2⟩ | ⟨g0, g1, g2, g3⟩ | ⟨g0, g1, g2, g3, g4⟩ | ⟨g0, g1, g2, g3, g4, g5⟩ | ⟨g0, g1, g2, g3, g4, g5, g6⟩ | ⟨g0, g1, g2, g3, g4, g5, g6, g7⟩
    · have e0 : decide (a < 0) = true := by simpa using g0
      go_enter Tryz.func66, Tryz.ntmps66
      go_wp2
      go_quiet (fail)
      go_wp2
      go_ret
      exact ⟨rfl, ((Chg.refl _ _).alloc _).drewN _⟩
    · have e0 : decide (a < 0) = false := by simp; omega
      have e1 : decide (ln < 1) = true := by simpa using g1
      go_enter Tryz.func66, Tryz.ntmps66
      go_wp2
      go_quiet (fail)
      go_wp2
      go_ret
      exact ⟨rfl, ((Chg.refl _ _).alloc _).drewN _⟩
    · have e0 : decide (a < 0) = false := by simp; omega
      have e1 : decide (ln < 1) = false := by simp; omega
      have e2 : decide (tk < ln) = true := by simpa using g2
      go_enter Tryz.func66, Tryz.ntmps66
      go_wp2
      go_quiet (fail)
      go_wp2
      go_ret
      exact ⟨rfl, ((Chg.refl _ _).alloc _).drewN _⟩
    · have e0 : decide (a < 0) = false := by simp; omega
      have e1 : decide (ln < 1) = false := by simp; omega
      have e2 : decide (tk < ln) = false := by simp; omega
      have e3 : decide (un < 1) = true := by simpa using g3
      go_enter Tryz.func66, Tryz.ntmps66
      go_wp2
      go_quiet (fail)
      go_wp2
      go_ret
      exact ⟨rfl, ((Chg.refl _ _).alloc _).drewN _⟩
    · have e0 : decide (a < 0) = false := by simp; omega
      have e1 : decide (ln < 1) = false := by simp; omega
      have e2 : decide (tk < ln) = false := by simp; omega
      have e3 : decide (un < 1) = false := by simp; omega
      have e4 : decide (1000 < un) = true := by simpa using g4
      go_enter Tryz.func66, Tryz.ntmps66
      go_wp2
      go_quiet (fail)
      go_wp2
      go_ret
      exact ⟨rfl, ((Chg.refl _ _).alloc _).drewN _⟩
    · have e0 : decide (a < 0) = false := by simp; omega
      have e1 : decide (ln < 1) = false := by simp; omega
      have e2 : decide (tk < ln) = false := by simp; omega
      have e3 : decide (un < 1) = false := by simp; omega
      have e4 : decide (1000 < un) = false := by simp; omega
      have e5 : decide (va < 1) = true := by simpa using g5
      go_enter Tryz.func66, Tryz.ntmps66
      go_wp2
      go_quiet (fail)
      go_wp2
      go_ret
      exact ⟨rfl, ((Chg.refl _ _).alloc _).drewN _⟩
    · have e0 : decide (a < 0) = false := by simp; omega
      have e1 : decide (ln < 1) = false := by simp; omega
      have e2 : decide (tk < ln) = false := by simp; omega
      have e3 : decide (un < 1) = false := by simp; omega
      have e4 : decide (1000 < un) = false := by simp; omega
      have e5 : decide (va < 1) = false := by simp; omega
      have e6 : decide (1048576 < va) = true := by simpa using g6
      go_enter Tryz.func66, Tryz.ntmps66
      go_wp2
      go_quiet (fail)
      go_wp2
      go_ret
      exact ⟨rfl, ((Chg.refl _ _).alloc _).drewN _⟩
    · have e0 : decide (a < 0) = false := by simp; omega
      have e1 : decide (ln < 1) = false := by simp; omega
      have e2 : decide (tk < ln) = false := by simp; omega
      have e3 : decide (un < 1) = false := by simp; omega
      have e4 : decide (1000 < un) = false := by simp; omega
      have e5 : decide (va < 1) = false := by simp; omega
      have e6 : decide (1048576 < va) = false := by simp; omega
      have e7 : decide (tk < dl) = true := by simpa using g7
      go_enter Tryz.func66, Tryz.ntmps66
      go_wp2
      go_quiet (fail)
      go_wp2
      go_ret
      exact ⟨rfl, ((Chg.refl _ _).alloc _).drewN _⟩
  · obtain ⟨g0, g1, g2, g3, g4, g5, g6, g7⟩ := hJ
    have e0 : decide (a < 0) = false := by simp; omega
    have e1 : decide (ln < 1) = false := by simp; omega
    have e2 : decide (tk < ln) = false := by simp; omega
    have e3 : decide (un < 1) = false := by simp; omega
    have e4 : decide (1000 < un) = false := by simp; omega
    have e5 : decide (va < 1) = false := by simp; omega
    have e6 : decide (1048576 < va) = false := by simp; omega
    have e7 : decide (tk < dl) = false := by simp; omega
    have HR2 : Hid (r = decide (atOf tm ⟨a, dl, ln, un, va⟩ + ln ≤ dl)) := by rw [HR.out, hf]; exact Bool.true_and _
    clear HR hf
    go_enter Tryz.func66, Tryz.ntmps66
    go_wp2
    go_quiet (fail)
    go_wp2
    go_loop [5] (fun i => ∃ k : Int, tm ≤ k ∧ (k = tm ∨ k ≤ a) ∧ k ≤ 65 ∧ i = .int .i64 k) (fun i => (65 - intOf i).toNat)
    case atStart => exact ⟨tm, by omega, .inl rfl, by omega, rfl⟩
    case round =>
      obtain ⟨k, hk1, hk2, hk3, rfl⟩ := hrel
      have HK := hide hk2
      clear hk2
      by_cases hlt : k + ln ≤ dl
      · by_cases hge : a ≤ k
        · have hrt : r = true := by
            rw [HR2.out]
            unfold atOf
            simp only
            have := HK.out
            split <;> simp <;> omega
          subst hrt
          go_wp2
          go_ret
          exact ⟨rfl, ((Chg.refl _ _).alloc _).drewN _⟩
        · go_wp2
          go_round
          case rel => exact ⟨k + 1, by omega, .inr (by omega), by omega, by go_num⟩
          case measure => simp [intOf]; omega
      · have hrf : r = false := by
          rw [HR2.out]
          unfold atOf
          simp only
          have := HK.out
          split <;> simp <;> omega
        subst hrf
        go_wp2
        go_ret
        exact ⟨rfl, ((Chg.refl _ _).alloc _).drewN _⟩
end Go.Proofs.YtminceigjejipabGreat
