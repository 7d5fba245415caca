import Derived.Test.YtminceigjejipaaG2
import Derived.Test.YtminceigjejipaaG3
namespace Go.Proofs.Ytminceigjejipaa
open Go.RowKit

set_option maxHeartbeats 1000000 in
theorem calAdd_bad (p g n cap : Nat) (f t d : Int) (w : World) (hc : w.cell? ⟨p, 0, none⟩ = some (.slice (some ⟨g, 0, none⟩) n cap)) (h : pieceB n f t = false ∨ inB d (-2199023255552) 2199023255552 = false) :
    Calls Try.prog 39 #[.pointer (some ⟨p, 0, none⟩), .int .i64 f, .int .i64 t, .int .i64 d] w fun e w' => e = .returned (.int .i64 9) ∧ w' = w := by
  cases hp : pieceB n f t
  · clear h
    go_enter Try.func39, Try.ntmps39
    go_wp2_with (go_at_call 40; refine (hasPiece_any p g n cap _ _ _ hc).mono ?_; rintro e w' ⟨rfl, hw⟩; subst w'; rw [hp])
    go_ret
    exact ⟨rfl, rfl⟩
  · have hd : inB d (-2199023255552) 2199023255552 = false := by rcases h with h | h; rw [hp] at h; cases h; exact h
    clear h
    rcases inB_false hd with h | ⟨h, h'⟩
    all_goals
      clear hd
      go_enter Try.func39, Try.ntmps39
      go_wp2_with (go_at_call 40; refine (hasPiece_any p g n cap _ _ _ hc).mono ?_; rintro e w' ⟨rfl, hw⟩; subst w'; rw [hp])
      go_ret
      exact ⟨rfl, rfl⟩

set_option maxHeartbeats 1000000 in
/-- a cell would leave the range -/
theorem calAdd_range (p g n cap a b : Nat) (d : Int) (Z : Nat → Int) (w : World) (hc : w.cell? ⟨p, 0, none⟩ = some (.slice (some ⟨g, 0, none⟩) n cap)) (hn : n ≤ 100000) (hab : a < b) (hbn : b ≤ n) (hd1 : -2199023255552 ≤ d) (hd2 : d ≤ 2199023255552)
    (hB0 : ∀ j, j < n → -1099511627776 ≤ Z j ∧ Z j ≤ 1099511627776) (hZ0 : ∀ j, j < n → w.cell? ⟨g, j, none⟩ = some (.int .i64 (Z j))) (hbad : ¬ addOk Z a b d) :
    Calls Try.prog 39 #[.pointer (some ⟨p, 0, none⟩), .int .i64 a, .int .i64 b, .int .i64 d] w fun e w' => e = .returned (.int .i64 12) ∧ w' = w := by
  have hZ : Hid (∀ j, j < n → w.cell? ⟨g, j, none⟩ = some (.int .i64 (Z j))) := hZ0
  have hB : Hid (∀ j, j < n → -1099511627776 ≤ Z j ∧ Z j ≤ 1099511627776) := hB0
  have HBAD : Hid (¬ addOk Z a b d) := hbad
  have hp := pieceB_mk hab hbn
  clear hZ0 hB0 hbad
  go_enter Try.func39, Try.ntmps39
  go_wp2_with (go_at_call 40; refine (hasPiece_any p g n cap _ _ _ hc).mono ?_; rintro e w' ⟨rfl, hw⟩; subst w'; rw [hp])
  clear hp
  go_loop [9] (fun i => ∃ k : Nat, a ≤ k ∧ k ≤ b ∧ i = .int .i64 k ∧ addOk Z a k d) (fun i => b - (intOf i).toNat)
  case atStart => exact ⟨a, by omega, by omega, rfl, fun j h1 h2 => by omega⟩
  case round =>
    obtain ⟨k, hk1, hk2, rfl, hok⟩ := hrel
    have HOK : Hid (addOk Z a k d) := hok
    clear hok
    by_cases hlt : k < b
    · have hck := hZ.out k (by omega)
      obtain ⟨hb1, hb2⟩ := hB.out k (by omega)
      obtain ⟨z, hz⟩ : ∃ z, z = Z k := ⟨_, rfl⟩
      rw [← hz] at hck hb1 hb2
      have HZ : Hid (z = Z k) := hz
      clear hz
      cases hst : standB (z + d)
      · clear HBAD
        go_wp2_with (go_at_call 38; refine (canStand_any _ _).mono ?_; rintro e w' ⟨rfl, hw⟩; subst w'; rw [hst])
        go_ret
        exact ⟨rfl, rfl⟩
      · have HST0 : Hid (standB (z + d) = true) := hst
        go_wp2_with (go_at_call 38; refine (canStand_any _ _).mono ?_; rintro e w' ⟨rfl, hw⟩; subst w'; rw [hst])
        go_round
        case rel =>
          refine ⟨k + 1, by omega, by omega, by go_num, fun j h1 h2 => ?_⟩
          by_cases e : j < k
          · exact HOK.out j h1 e
          · obtain rfl : j = k := by omega
            rw [← HZ.out]
            exact HST0.out
        case measure => simp [intOf]; omega
    · exact absurd HOK.out (by rw [show k = b by omega]; exact HBAD.out)

set_option maxHeartbeats 2000000 in
theorem calAdd_ok (p g n cap a b : Nat) (d : Int) (Z : Nat → Int) (w : World) (hrow : RowAt 98 w p g n cap Z) (hn : n ≤ 100000) (hab : a < b) (hbn : b ≤ n) (hd1 : -2199023255552 ≤ d) (hd2 : d ≤ 2199023255552)
    (hB0 : ∀ j, j < n → -1099511627776 ≤ Z j ∧ Z j ≤ 1099511627776) (hgood : addOk Z a b d) :
    Calls Try.prog 39 #[.pointer (some ⟨p, 0, none⟩), .int .i64 a, .int .i64 b, .int .i64 d] w fun e w' => e = .returned (.int .i64 0) ∧ RowAt 98 w' p g n cap (addZ Z a b d) ∧ Chg (fun k => k = g) w w' := by
  have hc := hrow.cellp
  have hZ : Hid (∀ j, j < n → w.cell? ⟨g, j, none⟩ = some (.int .i64 (Z j))) := hrow.cellg
  have hB : Hid (∀ j, j < n → -1099511627776 ≤ Z j ∧ Z j ≤ 1099511627776) := hB0
  have HG : Hid (addOk Z a b d) := hgood
  have HROW : Hid (RowAt 98 w p g n cap Z) := hrow
  have hp := pieceB_mk hab hbn
  clear hB0 hgood hrow
  go_enter Try.func39, Try.ntmps39
  go_wp2_with (go_at_call 40; refine (hasPiece_any p g n cap _ _ _ hc).mono ?_; rintro e w' ⟨rfl, hw⟩; subst w'; rw [hp])
  clear hp
  go_loop [9] (fun i => ∃ k : Nat, a ≤ k ∧ k ≤ b ∧ i = .int .i64 k) (fun i => b - (intOf i).toNat)
  case atStart => exact ⟨a, by omega, by omega, rfl⟩
  case round =>
    obtain ⟨k, hk1, hk2, rfl⟩ := hrel
    by_cases hlt : k < b
    · have hck := hZ.out k (by omega)
      obtain ⟨hb1, hb2⟩ := hB.out k (by omega)
      have hst := HG.out k hk1 hlt
      generalize Z k = z at *
      go_wp2_with (go_at_call 38; refine (canStand_any _ _).mono ?_; rintro e w' ⟨rfl, hw⟩; subst w'; rw [hst])
      go_round
      case rel => exact ⟨k + 1, by omega, by omega, by go_num⟩
      case measure => simp [intOf]; omega
    · clear hc
      go_wp2
      go_loopw [10] (fun i wr => ∃ k : Nat, a ≤ k ∧ k ≤ b ∧ i = .int .i64 k ∧ RowAt 98 wr p g n cap (addZ Z a k d) ∧ Chg (fun k => k = g) w wr) (fun i _ => b - (intOf i).toNat)
      case atStart => exact ⟨a, by omega, by omega, rfl, HROW.out.congr (fun j _ => by simp [addZ]; intro h1 h2; omega), Chg.refl _ _⟩
      case round =>
        obtain ⟨k2, hk3, hk4, rfl, hrow, hchg⟩ := hrel
        by_cases hlt2 : k2 < b
        · have hc := hrow.cellp
          have hck := hrow.cellg k2 (by omega)
          have hfk := hrow.freeg k2
          obtain ⟨hb1, hb2⟩ := hB.out k2 (by omega)
          have e1 : addZ Z a k2 d k2 = Z k2 := by simp [addZ]
          rw [e1] at hck
          have HS : Hid (RowAt 98 (wr.setCell ⟨g, k2, none⟩ (.int .i64 (Z k2 + d))) p g n cap (addZ Z a (k2 + 1) d)) := (hrow.set (by decide) k2 (Z k2 + d)).congr (fun j _ => by
            unfold addZ
            by_cases e : j = k2
            · subst e
              rw [if_pos rfl, if_pos ⟨hk3, by omega⟩]
            · rw [if_neg e]
              by_cases e2 : a ≤ j ∧ j < k2
              · rw [if_pos e2, if_pos ⟨e2.1, by omega⟩]
              · rw [if_neg e2, if_neg (by omega)])
          have HCH : Hid (Chg (fun k => k = g) w wr) := hchg
          clear hrow hchg e1
          generalize Z k2 = z at *
          go_wp2
          go_roundw
          case rel => exact ⟨k2 + 1, by omega, by omega, by go_num, HS.out, HCH.out.setCell (.inl rfl) _⟩
          case measure => simp [intOf]; omega
        · have HE : Hid (RowAt 98 wr p g n cap (addZ Z a b d)) := by rw [show k2 = b by omega] at hrow; exact hrow
          go_wp2
          go_ret
          exact ⟨rfl, HE.out, hchg⟩
end Go.Proofs.Ytminceigjejipaa
