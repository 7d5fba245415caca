import Derived.Test.YtminceigjejipaaCell2
namespace Go.Proofs.Ytminceigjejipaa
open Go.RowKit

/-- the cells that 'fitted' reads, in whatever world behind -/
structure Fd (w : World) (q b n : Nat) (A B C : Int) (Z : Nat → Int) : Prop where
  fa : w.cell? ⟨q, 1, none⟩ = some (.int .i64 A)
  fb : w.cell? ⟨q, 2, none⟩ = some (.int .i64 B)
  fc : w.cell? ⟨q, 3, none⟩ = some (.int .i64 C)
  fwas : CellsAt w b n Z
theorem Fd.chg {w w' : World} {q b n : Nat} {A B C : Int} {Z : Nat → Int} (h : Fd w q b n A B C Z) (hc : Chg (fun _ => False) w w') : Fd w' q b n A B C Z :=
  ⟨by rw [hc.cell (World.block_lt_of_cell? w _ h.fa) (fun h => h)]; exact h.fa, by rw [hc.cell (World.block_lt_of_cell? w _ h.fb) (fun h => h)]; exact h.fb, by rw [hc.cell (World.block_lt_of_cell? w _ h.fc) (fun h => h)]; exact h.fc, h.fwas.chg hc (fun h => h)⟩

set_option maxRecDepth 100000 in
set_option maxHeartbeats 4000000 in
theorem fitted_any (p g n cap b cb : Nat) (Z : Nat → Int) (kd A B C : Int) (w : World) (hrow : RowAt 98 w p g n cap Z) (hcb : CellsAt w b n Z) (h2 : n ≤ 4096) (hA : A ≤ 9223372036854775807) :
    Calls Try.prog 14 #[.pointer (some ⟨p, 0, none⟩), .slice (some ⟨b, 0, none⟩) n cb, .agg #[.int .i64 kd, .int .i64 A, .int .i64 B, .int .i64 C]] w fun e w' => e = .returned (.bool true) ∧ Chg (fun _ => False) w w' := by
  have HROW := hide hrow
  have HCB := hide hcb
  clear hrow hcb
  go_enter Try.func14, Try.ntmps14
  go_wp2_with fail
  obtain ⟨w1, hw1⟩ : ∃ w1, w1 = w.alloc (.cells #[.int .i64 kd, .int .i64 A, .int .i64 B, .int .i64 C] 31) := ⟨_, rfl⟩
  rw [← hw1]
  obtain ⟨hc1, hsz, q1, q2, q3⟩ := boxC w kd A B C w1 hw1
  have HC1 := hide hc1
  have HFD : Hid (Fd w1 w.heap.size b n A B C Z) := ⟨q1, q2, q3, HCB.out.chg hc1 (fun h => h)⟩
  clear hw1 hc1 hsz
  refine (calFit_any p g n cap A B C Z _ (HROW.out.chg HC1.out (fun h => h) (fun h => h)) h2 hA).mono ?_
  rintro e w2 ⟨s, z, rfl, hres, hw⟩
  subst w2
  rcases hres with ⟨hb, rfl, rfl⟩ | ⟨hb, hfit, rfl⟩
  · rcases fitB_true hb with h | ⟨h, h'⟩ | ⟨h, h', h''⟩
    all_goals
      clear hb
      go_wp2
      go_ret
      exact ⟨rfl, HC1.out⟩
  · obtain ⟨p1, p2, p3⟩ := fitB_false hb
    obtain ⟨a, rfl⟩ := Int.eq_ofNat_of_zero_le p1
    obtain ⟨l, rfl⟩ := Int.eq_ofNat_of_zero_le (show 0 ≤ B by omega)
    rw [Int.toNat_natCast, Int.toNat_natCast] at hfit
    have HFIT := hide hfit
    have hl : 1 ≤ l := by omega
    have hal : a + l ≤ n := by omega
    have hs : (-1 = s) ∨ (0 ≤ s ∧ (a : Int) ≤ s ∧ s + l ≤ n) := by
      rcases hfit with ⟨k0, rfl, g1, g2, _⟩ | ⟨rfl, _⟩
      · right; omega
      · left; rfl
    have hs1 : -1 ≤ s ∧ s ≤ 100000 := by omega
    obtain ⟨hs1, hs2⟩ := hs1
    clear hb p1 p2 p3 hfit
    rcases hs with hs | ⟨g0, g1, g2⟩
    all_goals
      try have e0 : decide (0 ≤ s) = false := by simp; omega
      try have HSM := hide hs
      try clear hs
      go_wp2
      go_loopw [9, 10] (fun x i wr => ∃ k r : Nat, k ≤ n ∧ i = .int .i64 k ∧ x = .int .i64 r ∧ r ≤ 100000 ∧ Run Z a l C k r ∧ Chg (fun _ => False) w1 wr) (fun _ i _ => n - (intOf i).toNat)
      case atStart => exact ⟨a, 0, by omega, rfl, rfl, by omega, Run.start Z a l C (by omega), Chg.refl _ _⟩
      case round =>
        obtain ⟨k, r, hk, rfl, rfl, hr, hrun, hq⟩ := hrel
        have HR := hide hrun
        have hrn := hrun.2.1
        have FD := HFD.out.chg hq
        have HQ := hide hq
        have fb := FD.fb
        have fc := FD.fc
        clear hrun hq q1 q2 q3
        by_cases hlt : k < n
        · have f1 := FD.fwas.cell k hlt
          have i1 : (0 : Int) ≤ (k : Int) := by omega
          have i2 : (k : Int) < (n : Int) := by omega
          obtain ⟨z, hz⟩ : ∃ z, z = Z k := ⟨_, rfl⟩
          rw [← hz] at f1
          have HZ := hide hz
          clear hz FD
          by_cases hlow : z < C
          · go_wp2
            go_quiet (fail)
            go_wp2
            go_roundw
            case rel => exact ⟨k + 1, 0, by omega, by go_num, rfl, by omega, HR.out.low (by rw [← HZ.out]; exact hlow), HQ.out.drewN _⟩
            case measure => simp [intOf]; omega
          · by_cases hd : r + 1 = l
            · have hsv : Hid (s = (k : Int) + 1 - l) := HFIT.out.unique (HR.out.done (by rw [← HZ.out]; omega) hd hlt)
              have hd' : (l : Int) ≤ (r : Int) + 1 := by omega
              clear hd
              go_wp2
              go_quiet (fail)
              go_wp2
              go_ret
              exact ⟨ret_bool (by have := hsv.out; simp; omega), HC1.out.trans (HQ.out.drewN _) (fun _ _ h => h)⟩
            · have hd' : (r : Int) + 1 < (l : Int) := by omega
              go_wp2
              go_quiet (fail)
              go_wp2
              go_roundw
              case rel => exact ⟨k + 1, r + 1, by omega, by go_num, by go_num, by omega, HR.out.more (by rw [← HZ.out]; omega) (by omega), HQ.out.drewN _⟩
              case measure => simp [intOf]; omega
        · have hsv : Hid (s = -1) := HFIT.out.unique (Run.none (by have := HR.out; rw [show k = n by omega] at this; exact this))
          clear FD
          go_wp2
          go_ret
          exact ⟨ret_bool (by have := hsv.out; simp; omega), HC1.out.trans HQ.out (fun _ _ h => h)⟩
end Go.Proofs.Ytminceigjejipaa
