import Derived.Test.YtminceigjejipaaGreatAmong
namespace Go.Proofs.YtminceigjejipaaGreat
open Go.RowKit

def opAt (S : Nat → Int) (i : Nat) : Value := .agg #[.int .i64 (S (i * 10)), .int .i64 (S (i * 10 + 1)), .int .i64 (S (i * 10 + 2)), .int .i64 (S (i * 10 + 3)), .int .i64 (S (i * 10 + 4)), .int .i64 (S (i * 10 + 5)), .int .i64 (S (i * 10 + 6)), .int .i64 (S (i * 10 + 7)), .int .i64 (S (i * 10 + 8)), .int .i64 (S (i * 10 + 9))]

/-- what 'plays' asks of a step, of looks, and of what holds between -/
structure Plays (B slen : Nat) (S : Nat → Int) (play hold : List Int) (w : World) (Inv : Nat → (Nat → Prop) → World → Prop) : Prop where
  own : ∀ i O w1, Inv i O w1 → ∀ k, O k → B ≤ k ∧ k < w1.heap.size
  frame : ∀ i O w1 w2, Inv i O w1 → Chg (fun k => ¬ O k) w1 w2 → Inv i O w2
  skip : ∀ i O w1, Inv i O w1 → Inv (i + 1) O w1
  step : ∀ i, i < slen → play.contains (S (i * 10)) = true → ∀ O w1, Inv i O w1 → Below B w w1 →
    Calls Tryz.prog 11 #[.pointer (some ⟨B, 0, none⟩), opAt S i] w1 fun e w2 => ∃ b O', e = .returned (.bool b) ∧ Inv (i + 1) O' w2 ∧ Chg O w1 w2 ∧
      (b = false → hold.contains (S (i * 10)) = false ∧ S (i * 10) ≠ 2 ∧ S (i * 10) ≠ 6)
  looks : ∀ i O w1, Inv i O w1 → Calls Tryz.prog 12 #[.pointer (some ⟨B, 0, none⟩)] w1 fun e w2 => e = .returned (.bool true) ∧ Chg (fun _ => False) w1 w2

set_option maxHeartbeats 2000000 in
theorem plays_none (hv pv : Value) (ca ao : Option Addr) (cl cc scap : Nat) (w : World) :
    Calls Tryz.prog 9 #[.slice ca cl cc, .slice ao 0 scap, pv, hv] w fun e w' => e = .returned (.bool true) ∧ Below w.heap.size w w' := by
  go_enter Tryz.func9, Tryz.ntmps9
  go_wp2
  go_loopw [10] (fun i wr => i = .int .i64 0 ∧ Below w.heap.size w wr) (fun _ _ => 0)
  case atStart => exact ⟨rfl, (Below.refl _ _).alloc (Nat.le_refl _) _⟩
  case round =>
    obtain ⟨rfl, hbel⟩ := hrel
    go_wp2
    go_ret
    exact ⟨rfl, hbel⟩

set_option maxRecDepth 100000 in
set_option maxHeartbeats 2000000 in
theorem plays_some (ca : Option Addr) (cl cc bp bh np nh cp ch sb soff slen scap : Nat) (S : Nat → Int) (play hold : List Int) (w : World) (Inv : Nat → (Nat → Prop) → World → Prop)
    (hP : Plays w.heap.size slen S play hold w Inv)
    (hsl : slen < 1000000000000000) (hsb : sb < w.heap.size) (hS0 : ∀ t, t < slen * 10 → w.cell? ⟨sb, soff + t, none⟩ = some (.int .i64 (S t)))
    (hbp : bp < w.heap.size) (hbh : bh < w.heap.size) (hnp : play.length = np) (hnh : hold.length = nh) (hnp' : np ≤ 1000) (hnh' : nh ≤ 1000)
    (hp0 : ∀ j, j < np → w.cell? ⟨bp, j, none⟩ = some (.int .i64 (play.getD j 0))) (hh0 : ∀ j, j < nh → w.cell? ⟨bh, j, none⟩ = some (.int .i64 (hold.getD j 0)))
    (O0 : Nat → Prop) (hI : Inv 0 O0 (w.alloc (.cells #[.slice ca cl cc, .slice none 0 0, .slice none 0 0, .slice none 0 0, .slice none 0 0] 33))) :
    Calls Tryz.prog 9 #[.slice ca cl cc, .slice (some ⟨sb, soff, none⟩) slen scap, .slice (some ⟨bp, 0, none⟩) np cp, .slice (some ⟨bh, 0, none⟩) nh ch] w fun e w' => e = .returned (.bool true) ∧ Below w.heap.size w w' := by
  have hS : Hid (∀ t, t < slen * 10 → w.cell? ⟨sb, soff + t, none⟩ = some (.int .i64 (S t))) := hS0
  have hp : Hid (∀ j, j < np → w.cell? ⟨bp, j, none⟩ = some (.int .i64 (play.getD j 0))) := hp0
  have hh : Hid (∀ j, j < nh → w.cell? ⟨bh, j, none⟩ = some (.int .i64 (hold.getD j 0))) := hh0
  have HI : Hid (Inv 0 O0 (w.alloc (.cells #[.slice ca cl cc, .slice none 0 0, .slice none 0 0, .slice none 0 0, .slice none 0 0] 33))) := hI
  have HP : Hid (Plays w.heap.size slen S play hold w Inv) := hP
  have hnpl : Hid (play.length = np) := hnp
  have hnhl : Hid (hold.length = nh) := hnh
  clear hS0 hp0 hh0 hI hP hnp hnh
  go_enter Tryz.func9, Tryz.ntmps9
  go_wp2
  go_loopw [10] (fun i wr => ∃ (k : Nat) (O : Nat → Prop), k ≤ slen ∧ i = .int .i64 k ∧ Inv k O wr ∧ Below w.heap.size w wr) (fun i _ => slen - (intOf i).toNat)
  case atStart => exact ⟨0, O0, Nat.zero_le _, rfl, HI.out, (Below.refl _ _).alloc (Nat.le_refl _) _⟩
  case round =>
    obtain ⟨k, O, hk, rfl, hinv, hbel⟩ := hrel
    have HInv : Hid (Inv k O wr) := hinv
    clear hinv HI
    by_cases hlt : k < slen
    rotate_left
    · go_wp2
      go_ret
      exact ⟨rfl, hbel⟩
    have hszr := hbel.size
    have c0 : wr.cell? ⟨sb, soff + k * 10, none⟩ = some (.int .i64 (S (k * 10))) := by rw [hbel.cell (by exact hsb)]; simpa [Nat.add_assoc] using hS.out (k * 10) (by omega)
    have c1 : wr.cell? ⟨sb, soff + k * 10 + 1, none⟩ = some (.int .i64 (S (k * 10 + 1))) := by rw [hbel.cell (by exact hsb)]; simpa [Nat.add_assoc] using hS.out (k * 10 + 1) (by omega)
    have c2 : wr.cell? ⟨sb, soff + k * 10 + 2, none⟩ = some (.int .i64 (S (k * 10 + 2))) := by rw [hbel.cell (by exact hsb)]; simpa [Nat.add_assoc] using hS.out (k * 10 + 2) (by omega)
    have c3 : wr.cell? ⟨sb, soff + k * 10 + 3, none⟩ = some (.int .i64 (S (k * 10 + 3))) := by rw [hbel.cell (by exact hsb)]; simpa [Nat.add_assoc] using hS.out (k * 10 + 3) (by omega)
    have c4 : wr.cell? ⟨sb, soff + k * 10 + 4, none⟩ = some (.int .i64 (S (k * 10 + 4))) := by rw [hbel.cell (by exact hsb)]; simpa [Nat.add_assoc] using hS.out (k * 10 + 4) (by omega)
    have c5 : wr.cell? ⟨sb, soff + k * 10 + 5, none⟩ = some (.int .i64 (S (k * 10 + 5))) := by rw [hbel.cell (by exact hsb)]; simpa [Nat.add_assoc] using hS.out (k * 10 + 5) (by omega)
    have c6 : wr.cell? ⟨sb, soff + k * 10 + 6, none⟩ = some (.int .i64 (S (k * 10 + 6))) := by rw [hbel.cell (by exact hsb)]; simpa [Nat.add_assoc] using hS.out (k * 10 + 6) (by omega)
    have c7 : wr.cell? ⟨sb, soff + k * 10 + 7, none⟩ = some (.int .i64 (S (k * 10 + 7))) := by rw [hbel.cell (by exact hsb)]; simpa [Nat.add_assoc] using hS.out (k * 10 + 7) (by omega)
    have c8 : wr.cell? ⟨sb, soff + k * 10 + 8, none⟩ = some (.int .i64 (S (k * 10 + 8))) := by rw [hbel.cell (by exact hsb)]; simpa [Nat.add_assoc] using hS.out (k * 10 + 8) (by omega)
    have c9 : wr.cell? ⟨sb, soff + k * 10 + 9, none⟩ = some (.int .i64 (S (k * 10 + 9))) := by rw [hbel.cell (by exact hsb)]; simpa [Nat.add_assoc] using hS.out (k * 10 + 9) (by omega)
    have HO := HP.out.own k O wr HInv.out
    have HOh : Hid (∀ k, O k → w.heap.size ≤ k ∧ k < wr.heap.size) := HO
    clear HO
    have hpr : Hid (∀ (o : Obj) j, j < np → (wr.alloc o).cell? ⟨bp, j, none⟩ = some (.int .i64 (play.getD j 0))) := fun o j hj => by
      rw [World.cell?_alloc_lt _ _ _ (by show bp < _; omega), hbel.cell (by exact hbp)]; exact hp.out j hj
    have hmx : (k : Int) < 144115188075855872 := by omega
    have hmx' : decide ((k : Int) < 144115188075855872) = true := by simpa using hmx
    go_wp2_with fail
    refine (among_any bp np cp play (S (k * 10)) _ hnpl.out hnp' (hpr.out _)).mono ?_
    rintro e w1 ⟨rfl, rfl⟩
    clear hmx hmx'
    obtain ⟨kz, hkz⟩ : ∃ kz, kz = S (k * 10) := ⟨_, rfl⟩
    rw [← hkz] at c0 ⊢
    have HK : Hid (kz = S (k * 10)) := hkz
    clear hkz
    have hfr : Hid (∀ o, Inv k O (wr.alloc o)) := fun o => HP.out.frame _ _ _ _ HInv.out ((Chg.refl _ _).alloc _)
    have hbal : Hid (∀ o, Below w.heap.size w (wr.alloc o)) := fun o => hbel.alloc (by omega) _
    cases hin : play.contains kz
    · go_wp2
      go_roundw
      case rel => exact ⟨k + 1, O, by omega, by go_num, HP.out.skip _ _ _ (hfr.out _), hbal.out _⟩
      case measure => simp [intOf]; omega
    · go_wp2_with fail
      have hst := HP.out.step k hlt (by rw [← HK.out]; exact hin) O _ (hfr.out (.cells #[.int .i64 kz, .int .i64 (S (k * 10 + 1)), .int .i64 (S (k * 10 + 2)), .int .i64 (S (k * 10 + 3)), .int .i64 (S (k * 10 + 4)), .int .i64 (S (k * 10 + 5)), .int .i64 (S (k * 10 + 6)), .int .i64 (S (k * 10 + 7)), .int .i64 (S (k * 10 + 8)), .int .i64 (S (k * 10 + 9))] 37)) (hbal.out _)
      simp only [opAt, ← HK.out] at hst
      refine hst.mono ?_
      clear hst
      rintro e w2 ⟨b, O', rfl, hinv2, hchg, hb⟩
      have k0 : w2.cell? ⟨wr.heap.size, 0, none⟩ = some (.int .i64 kz) := by
        rw [hchg.cell (by simp) (fun h => by have := (HOh.out _ h).2; simp at this)]; simp
      have HI2 : Hid (Inv (k + 1) O' w2) := hinv2
      have HC2 := hchg.below (B := w.heap.size) (by simp; omega) (fun k h => (HOh.out k h).1)
      have HB : Hid (b = false → hold.contains kz = false ∧ kz ≠ 2 ∧ kz ≠ 6) := hb
      have hbel2 := (hbal.out _).trans HC2
      have hhr : Hid (∀ j, j < nh → w2.cell? ⟨bh, j, none⟩ = some (.int .i64 (hold.getD j 0))) := fun j hj => by rw [hbel2.cell (by exact hbh)]; exact hh.out j hj
      clear hb HC2 hchg hinv2 c0 c1 c2 c3 c4 c5 c6 c7 c8 c9
      go_wp2_with fail
      refine (among_any bh nh ch hold kz _ hnhl.out hnh' hhr.out).mono ?_
      rintro e w3 ⟨rfl, hw3⟩
      subst hw3
      cases b
      · obtain ⟨g1, g2, g3⟩ := HB.out rfl
        have g2' : (kz == 2) = false := by simpa using g2
        have g3' : (kz == 6) = false := by simpa using g3
        rw [g1]
        clear g1 g2 g3 HB
        go_wp2_with fail
        refine (HP.out.looks (k + 1) O' _ HI2.out).mono ?_
        rintro e w4 ⟨rfl, hq⟩
        go_wp2
        go_roundw
        case rel => exact ⟨k + 1, O', by omega, by go_num, HP.out.frame _ _ _ _ HI2.out (hq.mono (fun _ _ h => h.elim)), hbel2.trans (hq.below hbel2.size (fun _ h => h.elim))⟩
        case measure => simp [intOf]; omega
      · clear HB
        generalize hold.contains kz = hb'
        go_wp2_with fail
        refine (HP.out.looks (k + 1) O' _ HI2.out).mono ?_
        rintro e w4 ⟨rfl, hq⟩
        go_wp2
        go_roundw
        case rel => exact ⟨k + 1, O', by omega, by go_num, HP.out.frame _ _ _ _ HI2.out (hq.mono (fun _ _ h => h.elim)), hbel2.trans (hq.below hbel2.size (fun _ h => h.elim))⟩
        case measure => simp [intOf]; omega
end Go.Proofs.YtminceigjejipaaGreat
