import Derived.Test.YtminceigjejipaaCell1
namespace Go.Proofs.Ytminceigjejipaa
open Go.RowKit

theorem boxC (w : World) (k a b c : Int) (w1 : World) (hw1 : w1 = w.alloc (.cells #[.int .i64 k, .int .i64 a, .int .i64 b, .int .i64 c] 31)) :
    Chg (fun _ => False) w w1 ∧ w.heap.size < w1.heap.size ∧ w1.cell? ⟨w.heap.size, 1, none⟩ = some (.int .i64 a) ∧ w1.cell? ⟨w.heap.size, 2, none⟩ = some (.int .i64 b) ∧ w1.cell? ⟨w.heap.size, 3, none⟩ = some (.int .i64 c) := by
  subst hw1
  exact ⟨(Chg.refl _ _).alloc _, by simp, by simp, by simp, by simp⟩

/-- the cells that 'added' reads, in whatever world behind -/
structure Ad (w : World) (q b nb n : Nat) (A B C : Int) (Z Z' : Nat → Int) : Prop where
  fa : w.cell? ⟨q, 1, none⟩ = some (.int .i64 A)
  fb : w.cell? ⟨q, 2, none⟩ = some (.int .i64 B)
  fc : w.cell? ⟨q, 3, none⟩ = some (.int .i64 C)
  fwas : CellsAt w b n Z
  fnow : CellsAt w nb n Z'
theorem Ad.chg {w w' : World} {q b nb n : Nat} {A B C : Int} {Z Z' : Nat → Int} (h : Ad w q b nb n A B C Z Z') (hc : Chg (fun _ => False) w w') : Ad w' q b nb n A B C Z Z' :=
  ⟨by rw [hc.cell (World.block_lt_of_cell? w _ h.fa) (fun h => h)]; exact h.fa, by rw [hc.cell (World.block_lt_of_cell? w _ h.fb) (fun h => h)]; exact h.fb, by rw [hc.cell (World.block_lt_of_cell? w _ h.fc) (fun h => h)]; exact h.fc, h.fwas.chg hc (fun h => h), h.fnow.chg hc (fun h => h)⟩

set_option maxRecDepth 100000 in
set_option maxHeartbeats 4000000 in
theorem added_any (p g n cap b cb : Nat) (Z : Nat → Int) (kd A B C : Int) (w : World) (hrow : RowAt 98 w p g n cap Z) (hcb : CellsAt w b n Z) (hbg : b ≠ g) (h1 : 1 ≤ n) (h2 : n ≤ 4096) (hB : InRange n Z) :
    Calls Try.prog 11 #[.pointer (some ⟨p, 0, none⟩), .slice (some ⟨b, 0, none⟩) n cb, .agg #[.int .i64 kd, .int .i64 A, .int .i64 B, .int .i64 C]] w fun e w' => ∃ Z', e = .returned (.bool true) ∧ RowAt 98 w' p g n cap Z' ∧ InRange n Z' ∧ Chg (fun k => k = g) w w' := by
  have HROW := hide hrow
  have HCB := hide hcb
  have HBG := hide hbg
  have HB := hide hB
  clear hrow hcb hbg hB
  go_enter Try.func11, Try.ntmps11
  go_wp2_with fail
  obtain ⟨w1, hw1⟩ : ∃ w1, w1 = w.alloc (.cells #[.int .i64 kd, .int .i64 A, .int .i64 B, .int .i64 C] 31) := ⟨_, rfl⟩
  rw [← hw1]
  obtain ⟨hc1, hsz, q1, q2, q3⟩ := boxC w kd A B C w1 hw1
  have HC1 := hide hc1
  have HSZ := hide hsz
  have HQ := hide (show _ ∧ _ ∧ _ from ⟨q1, q2, q3⟩)
  clear hw1 hc1 hsz q1 q2 q3
  refine (calAdd_any p g n cap A B C Z _ (HROW.out.chg HC1.out (fun h => h) (fun h => h)) h2 HB.out).mono ?_
  rintro e w2 ⟨z, Z', rfl, hres, hrow2, hchg2⟩
  have HRES := hide hres
  have HROW2 := hide hrow2
  have HC2 := hide hchg2
  clear hres hrow2 hchg2
  go_wp2_with fail
  refine (cells_any p g n cap Z' _ HROW2.out h1 h2).mono ?_
  rintro e w3 ⟨nb, nc, rfl, hnb, hcells3, hchg3⟩
  have HAD : Hid (Ad w3 w.heap.size b nb n A B C Z Z') := by
    have hgl := HROW.out.ltg
    have hq : ¬ w.heap.size = g := by omega
    have hs1 := HSZ.out
    have hs2 := HC2.out.size
    refine ⟨?_, ?_, ?_, ((HCB.out.chg HC1.out (fun h => h)).chg HC2.out (fun e => HBG.out e)).chg hchg3 (fun h => h), hcells3⟩
    · rw [hchg3.cell (by show w.heap.size < _; omega) (fun h => h), HC2.out.cell (by exact hs1) (by exact hq)]; exact HQ.out.1
    · rw [hchg3.cell (by show w.heap.size < _; omega) (fun h => h), HC2.out.cell (by exact hs1) (by exact hq)]; exact HQ.out.2.1
    · rw [hchg3.cell (by show w.heap.size < _; omega) (fun h => h), HC2.out.cell (by exact hs1) (by exact hq)]; exact HQ.out.2.2
  have HFIN : Hid (∀ w4, Chg (fun _ => False) w3 w4 → RowAt 98 w4 p g n cap Z' ∧ InRange n Z' ∧ Chg (fun k => k = g) w w4) := fun w4 h4 =>
    ⟨(HROW2.out.chg hchg3 (fun h => h) (fun h => h)).chg h4 (fun h => h) (fun h => h), HRES.out.range HB.out,
      (((HC1.out.mono (O' := fun k => k = g) (fun _ _ h => h.elim)).trans HC2.out (fun _ _ h => h)).trans hchg3 (fun _ _ h => h.elim)).trans h4 (fun _ _ h => h.elim)⟩
  clear hnb hcells3 hchg3 HQ HSZ HC1 HC2 HROW HROW2 HCB HBG
  have hqa := HAD.out.fa
  have hqb := HAD.out.fb
  have hqc := HAD.out.fc
  rcases HRES.out with ⟨hbad, rfl, hz⟩ | ⟨hp, hd, hok, rfl, hz⟩ | ⟨hp, hd, hok, rfl, hz⟩
  · have hcases : (A < 0 ∨ (0 ≤ A ∧ B ≤ A) ∨ (0 ≤ A ∧ A < B ∧ (n : Int) < B)) ∨ ((0 ≤ A ∧ A < B ∧ B ≤ (n : Int)) ∧ (C < -2199023255552 ∨ (-2199023255552 ≤ C ∧ 2199023255552 < C))) := by
      cases hpc : pieceB n A B
      · exact .inl (pieceB_false hpc)
      · rcases hbad with h | h
        · rw [h] at hpc; cases hpc
        · exact .inr ⟨pieceB_true hpc, inB_false h⟩
    subst Z'
    clear hbad HRES
    rcases hcases with (h | ⟨h, h'⟩ | ⟨h, h', h''⟩) | ⟨⟨h, h', h''⟩, (h4 | ⟨h4, h5⟩)⟩
    all_goals
      go_wp2
      go_loopw [11, 12] (fun wt i wr => wt = .int .i64 9 ∧ i = .int .i64 A ∧ Chg (fun _ => False) w3 wr) (fun _ _ _ => 0)
      case atStart => exact ⟨rfl, rfl, Chg.refl _ _⟩
      case round =>
        obtain ⟨rfl, rfl, hq⟩ := hrel
        clear hqa hqb hqc
        go_wp2
        go_loopw [13] (fun i wr2 => ∃ k : Nat, k ≤ n ∧ i = .int .i64 k ∧ Chg (fun _ => False) w3 wr2) (fun i _ => n - (intOf i).toNat)
        case atStart => exact ⟨0, by omega, rfl, hq⟩
        case round =>
          clear hq
          obtain ⟨k, hk, rfl, hq⟩ := hrel
          have AD := HAD.out.chg hq
          have HQ := hide hq
          clear hq
          by_cases hlt : k < n
          · have f1 := AD.fwas.cell k hlt
            have f2 := AD.fnow.cell k hlt
            have i1 : (0 : Int) ≤ (k : Int) := by omega
            have i2 : (k : Int) < (n : Int) := by omega
            have bz := HB.out k hlt
            have HAD2 := hide AD
            clear AD
            generalize Z k = zk at *
            obtain ⟨bz1, bz2⟩ := bz
            go_wp2
            go_quiet (fail)
            go_wp2
            go_roundw
            case rel => exact ⟨k + 1, by omega, by go_num, HQ.out.drewN _⟩
            case measure => simp [intOf]; omega
          · clear AD
            go_wp2
            go_ret
            exact ⟨_, rfl, HFIN.out _ HQ.out⟩
  · obtain ⟨p1, p2, p3⟩ := pieceB_true hp
    obtain ⟨d1, d2⟩ := inB_true hd
    obtain ⟨a, rfl⟩ := Int.eq_ofNat_of_zero_le p1
    obtain ⟨b2, rfl⟩ := Int.eq_ofNat_of_zero_le (show 0 ≤ B by omega)
    rw [Int.toNat_natCast, Int.toNat_natCast] at hok
    subst Z'
    have HOK := hide hok
    have hab : a < b2 := by omega
    have hbn : b2 ≤ n := by omega
    clear hok HRES hp hd p1 p2 p3
    go_wp2
    go_loopw [11, 12] (fun wt i wr => ∃ k : Nat, a ≤ k ∧ k ≤ b2 ∧ i = .int .i64 k ∧ Chg (fun _ => False) w3 wr ∧ ((wt = .int .i64 0 ∧ addOk Z a k C) ∨ (wt = .int .i64 12 ∧ ¬ addOk Z a b2 C))) (fun _ i _ => b2 - (intOf i).toNat)
    case atStart => exact ⟨a, by omega, by omega, rfl, Chg.refl _ _, .inl ⟨rfl, fun j h1 h2 => by omega⟩⟩
    case round =>
      obtain ⟨k, hk1, hk2, rfl, hq, hor⟩ := hrel
      have AD := HAD.out.chg hq
      have HQ := hide hq
      clear hq hqa hqb hqc
      rcases hor with ⟨rfl, hao⟩ | ⟨rfl, hao⟩
      · have HAO := hide hao
        clear hao
        by_cases hlt : k < b2
        · have f1 := AD.fwas.cell k (by omega)
          have fb := AD.fb
          have fc := AD.fc
          obtain ⟨bz1, bz2⟩ := HB.out k (by omega)
          have i1 : (0 : Int) ≤ (k : Int) := by omega
          have i2 : (k : Int) < (n : Int) := by omega
          obtain ⟨z, hz⟩ : ∃ z, z = Z k := ⟨_, rfl⟩
          rw [← hz] at f1 bz1 bz2
          have HZ := hide hz
          clear hz AD
          cases hst : standB (z + C)
          · have hno : Hid (¬ addOk Z a b2 C) := fun h => by have := h k hk1 hlt; rw [← HZ.out, hst] at this; cases this
            rcases standB_false hst with q | ⟨q, q'⟩
            · clear hst
              have e1 : decide (z + C < -1099511627776) = true := by simpa using q
              go_wp2
              go_quiet (fail)
              go_wp2
              go_roundw
              case rel => exact ⟨k + 1, by omega, by omega, by go_num, HQ.out.drewN _, .inr ⟨rfl, hno.out⟩⟩
              case measure => simp [intOf]; omega
            · clear hst
              have e1 : decide (z + C < -1099511627776) = false := by simpa using q
              have e2 : decide (1099511627776 < z + C) = true := by simpa using q'
              go_wp2
              go_quiet (fail)
              go_wp2
              go_roundw
              case rel => exact ⟨k + 1, by omega, by omega, by go_num, HQ.out.drewN _, .inr ⟨rfl, hno.out⟩⟩
              case measure => simp [intOf]; omega
          · have hyes : Hid (addOk Z a (k + 1) C) := fun j g1 g2 => by
              by_cases e : j < k
              · exact HAO.out j g1 e
              · obtain rfl : j = k := by omega
                rw [← HZ.out]; exact hst
            obtain ⟨q, q'⟩ := standB_true hst
            clear hst
            have e1 : decide (z + C < -1099511627776) = false := by simpa using q
            have e2 : decide (1099511627776 < z + C) = false := by simpa using q'
            go_wp2
            go_quiet (fail)
            go_wp2
            go_roundw
            case rel => exact ⟨k + 1, by omega, by omega, by go_num, HQ.out.drewN _, .inl ⟨rfl, hyes.out⟩⟩
            case measure => simp [intOf]; omega
        · exact absurd HAO.out (by rw [show k = b2 by omega]; exact HOK.out)
      · clear AD hao
        go_wp2
        go_loopw [13] (fun i wr2 => ∃ k : Nat, k ≤ n ∧ i = .int .i64 k ∧ Chg (fun _ => False) w3 wr2) (fun i _ => n - (intOf i).toNat)
        case atStart => exact ⟨0, by omega, rfl, HQ.out⟩
        case round =>
          clear HQ
          obtain ⟨k2, hk2, rfl, hq2⟩ := hrel
          have AD := HAD.out.chg hq2
          have HQ := hide hq2
          clear hq2
          by_cases hlt : k2 < n
          · have f1 := AD.fwas.cell k2 hlt
            have f2 := AD.fnow.cell k2 hlt
            have fa := AD.fa
            have fb := AD.fb
            have fc := AD.fc
            have i1 : (0 : Int) ≤ (k2 : Int) := by omega
            have i2 : (k2 : Int) < (n : Int) := by omega
            have bz := HB.out k2 hlt
            clear AD
            generalize Z k2 = zk at *
            obtain ⟨bz1, bz2⟩ := bz
            go_wp2
            go_quiet (fail)
            go_wp2
            go_roundw
            case rel => exact ⟨k2 + 1, by omega, by go_num, HQ.out.drewN _⟩
            case measure => simp [intOf]; omega
          · clear AD
            go_wp2
            go_ret
            exact ⟨_, rfl, HFIN.out _ HQ.out⟩
  · obtain ⟨p1, p2, p3⟩ := pieceB_true hp
    obtain ⟨d1, d2⟩ := inB_true hd
    obtain ⟨a, rfl⟩ := Int.eq_ofNat_of_zero_le p1
    obtain ⟨b2, rfl⟩ := Int.eq_ofNat_of_zero_le (show 0 ≤ B by omega)
    rw [Int.toNat_natCast, Int.toNat_natCast] at hok hz
    subst Z'
    have HOK := hide hok
    have hab : a < b2 := by omega
    have hbn : b2 ≤ n := by omega
    clear hok HRES hp hd p1 p2 p3
    go_wp2
    go_loopw [11, 12] (fun wt i wr => ∃ k : Nat, a ≤ k ∧ k ≤ b2 ∧ i = .int .i64 k ∧ Chg (fun _ => False) w3 wr ∧ ((wt = .int .i64 0 ∧ addOk Z a k C) ∨ (wt = .int .i64 12 ∧ ¬ addOk Z a b2 C))) (fun _ i _ => b2 - (intOf i).toNat)
    case atStart => exact ⟨a, by omega, by omega, rfl, Chg.refl _ _, .inl ⟨rfl, fun j h1 h2 => by omega⟩⟩
    case round =>
      obtain ⟨k, hk1, hk2, rfl, hq, hor⟩ := hrel
      have AD := HAD.out.chg hq
      have HQ := hide hq
      clear hq hqa hqb hqc
      rcases hor with ⟨rfl, hao⟩ | ⟨rfl, hao⟩
      · have HAO := hide hao
        clear hao
        by_cases hlt : k < b2
        · have f1 := AD.fwas.cell k (by omega)
          have fb := AD.fb
          have fc := AD.fc
          obtain ⟨bz1, bz2⟩ := HB.out k (by omega)
          have i1 : (0 : Int) ≤ (k : Int) := by omega
          have i2 : (k : Int) < (n : Int) := by omega
          obtain ⟨z, hz⟩ : ∃ z, z = Z k := ⟨_, rfl⟩
          rw [← hz] at f1 bz1 bz2
          have HZ := hide hz
          clear hz AD
          cases hst : standB (z + C)
          · have hno : Hid (¬ addOk Z a b2 C) := fun h => by have := h k hk1 hlt; rw [← HZ.out, hst] at this; cases this
            rcases standB_false hst with q | ⟨q, q'⟩
            · clear hst
              have e1 : decide (z + C < -1099511627776) = true := by simpa using q
              go_wp2
              go_quiet (fail)
              go_wp2
              go_roundw
              case rel => exact ⟨k + 1, by omega, by omega, by go_num, HQ.out.drewN _, .inr ⟨rfl, hno.out⟩⟩
              case measure => simp [intOf]; omega
            · clear hst
              have e1 : decide (z + C < -1099511627776) = false := by simpa using q
              have e2 : decide (1099511627776 < z + C) = true := by simpa using q'
              go_wp2
              go_quiet (fail)
              go_wp2
              go_roundw
              case rel => exact ⟨k + 1, by omega, by omega, by go_num, HQ.out.drewN _, .inr ⟨rfl, hno.out⟩⟩
              case measure => simp [intOf]; omega
          · have hyes : Hid (addOk Z a (k + 1) C) := fun j g1 g2 => by
              by_cases e : j < k
              · exact HAO.out j g1 e
              · obtain rfl : j = k := by omega
                rw [← HZ.out]; exact hst
            obtain ⟨q, q'⟩ := standB_true hst
            clear hst
            have e1 : decide (z + C < -1099511627776) = false := by simpa using q
            have e2 : decide (1099511627776 < z + C) = false := by simpa using q'
            go_wp2
            go_quiet (fail)
            go_wp2
            go_roundw
            case rel => exact ⟨k + 1, by omega, by omega, by go_num, HQ.out.drewN _, .inl ⟨rfl, hyes.out⟩⟩
            case measure => simp [intOf]; omega
        · have fb := AD.fb
          clear AD
          go_wp2
          clear fb
          go_loopw [13] (fun i wr2 => ∃ k : Nat, k ≤ n ∧ i = .int .i64 k ∧ Chg (fun _ => False) w3 wr2) (fun i _ => n - (intOf i).toNat)
          case atStart => exact ⟨0, by omega, rfl, HQ.out⟩
          case round =>
            clear HQ
            obtain ⟨k2, hk2, rfl, hq2⟩ := hrel
            have AD := HAD.out.chg hq2
            have HQ := hide hq2
            clear hq2
            by_cases hlt : k2 < n
            · have f1 := AD.fwas.cell k2 hlt
              have f2 := AD.fnow.cell k2 hlt
              have fa := AD.fa
              have fb := AD.fb
              have fc := AD.fc
              have i1 : (0 : Int) ≤ (k2 : Int) := by omega
              have i2 : (k2 : Int) < (n : Int) := by omega
              have bz := HB.out k2 hlt
              clear AD
              have hZ' : addZ Z a b2 C k2 = if a ≤ k2 ∧ k2 < b2 then Z k2 + C else Z k2 := rfl
              rw [hZ'] at f2
              clear hZ'
              generalize Z k2 = zk at *
              obtain ⟨bz1, bz2⟩ := bz
              by_cases g1 : a ≤ k2
              · by_cases g2 : k2 < b2
                · rw [if_pos ⟨g1, g2⟩] at f2
                  go_wp2
                  go_quiet (fail)
                  go_wp2
                  go_roundw
                  case rel => exact ⟨k2 + 1, by omega, by go_num, HQ.out.drewN _⟩
                  case measure => simp [intOf]; omega
                · rw [if_neg (fun h => g2 h.2)] at f2
                  go_wp2
                  go_quiet (fail)
                  go_wp2
                  go_roundw
                  case rel => exact ⟨k2 + 1, by omega, by go_num, HQ.out.drewN _⟩
                  case measure => simp [intOf]; omega
              · rw [if_neg (fun h => g1 h.1)] at f2
                go_wp2
                go_quiet (fail)
                go_wp2
                go_roundw
                case rel => exact ⟨k2 + 1, by omega, by go_num, HQ.out.drewN _⟩
                case measure => simp [intOf]; omega
            · clear AD
              go_wp2
              go_ret
              exact ⟨_, rfl, HFIN.out _ HQ.out⟩
      · exact absurd HOK.out hao
end Go.Proofs.Ytminceigjejipaa
