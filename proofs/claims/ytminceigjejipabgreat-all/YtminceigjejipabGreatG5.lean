import Derived.Test.YtminceigjejipabGreatG2
import Derived.Test.YtminceigjejipabGreatRow3
import Derived.Test.YtminceigjejipabGreatRow6
import Derived.Deep.AppendLies
namespace Go.Proofs.YtminceigjejipabGreat
open Go.RowKit

set_option maxHeartbeats 1000000 in
theorem calAdd_bad (p g n cap : Nat) (f t d : Int) (w : World) (hc : w.cell? ⟨p, 0, none⟩ = some (.slice (some ⟨g, 0, none⟩) n cap)) (h : pieceB n f t = false ∨ inB d (-2199023255552) 2199023255552 = false) :
    Calls Tryz.prog 22 #[.pointer (some ⟨p, 0, none⟩), .int .i64 f, .int .i64 t, .int .i64 d] w fun e w' => e = .returned (.int .i64 9) ∧ w' = w := by
  cases hp : pieceB n f t
  · clear h
    go_enter Tryz.func22, Tryz.ntmps22
    go_wp2_with (go_at_call 59; refine (hasPiece_any p g n cap _ _ _ hc).mono ?_; rintro e w' ⟨rfl, hw⟩; subst w'; rw [hp])
    go_ret
    exact ⟨rfl, rfl⟩
  · have hd : inB d (-2199023255552) 2199023255552 = false := by rcases h with h | h; rw [hp] at h; cases h; exact h
    clear h
    rcases inB_false hd with h | ⟨h, h'⟩
    all_goals
      clear hd
      go_enter Tryz.func22, Tryz.ntmps22
      go_wp2_with (go_at_call 59; refine (hasPiece_any p g n cap _ _ _ hc).mono ?_; rintro e w' ⟨rfl, hw⟩; subst w'; rw [hp])
      go_ret
      exact ⟨rfl, rfl⟩

set_option maxHeartbeats 1000000 in
/-- a cell would leave the range -/
theorem calAdd_range (p g n cap a b : Nat) (d : Int) (Z : Nat → Int) (w : World) (hc : w.cell? ⟨p, 0, none⟩ = some (.slice (some ⟨g, 0, none⟩) n cap)) (hn : n ≤ 100000) (hab : a < b) (hbn : b ≤ n) (hd1 : -2199023255552 ≤ d) (hd2 : d ≤ 2199023255552)
    (hB0 : ∀ j, j < n → -1099511627776 ≤ Z j ∧ Z j ≤ 1099511627776) (hZ0 : ∀ j, j < n → w.cell? ⟨g, j, none⟩ = some (.int .i64 (Z j))) (hbad : ¬ addOk Z a b d) :
    Calls Tryz.prog 22 #[.pointer (some ⟨p, 0, none⟩), .int .i64 a, .int .i64 b, .int .i64 d] w fun e w' => e = .returned (.int .i64 12) ∧ w' = w := by
  have hZ : Hid (∀ j, j < n → w.cell? ⟨g, j, none⟩ = some (.int .i64 (Z j))) := hZ0
  have hB : Hid (∀ j, j < n → -1099511627776 ≤ Z j ∧ Z j ≤ 1099511627776) := hB0
  have HBAD : Hid (¬ addOk Z a b d) := hbad
  have hp := pieceB_mk hab hbn
  clear hZ0 hB0 hbad
  go_enter Tryz.func22, Tryz.ntmps22
  go_wp2_with (go_at_call 59; refine (hasPiece_any p g n cap _ _ _ hc).mono ?_; rintro e w' ⟨rfl, hw⟩; subst w'; rw [hp])
  clear hp
  go_loop [9] (fun i => ∃ k : Nat, a ≤ k ∧ k ≤ b ∧ i = .int .i64 k ∧ addOk Z a k d) (fun i => b - (intOf i).toNat)
  case atStart => exact ⟨a, by omega, by omega, rfl, fun j h1 h2 => by omega⟩
  case round =>
    obtain ⟨k, hk1, hk2, rfl, hok⟩ := hrel
    have HOK : Hid (addOk Z a k d) := hok
    clear hok
    by_cases hlt : k < b
    · have hck := hZ.out k (by omega)
      obtain ⟨hb1, hb2⟩ := hB.out k (by omega)
      obtain ⟨z, hz⟩ : ∃ z, z = Z k := ⟨_, rfl⟩
      rw [← hz] at hck hb1 hb2
      have HZ : Hid (z = Z k) := hz
      clear hz
      cases hst : standB (z + d)
      · clear HBAD
        go_wp2_with (go_at_call 58; refine (canStand_any _ _).mono ?_; rintro e w' ⟨rfl, hw⟩; subst w'; rw [hst])
        go_ret
        exact ⟨rfl, rfl⟩
      · have HST0 : Hid (standB (z + d) = true) := hst
        go_wp2_with (go_at_call 58; refine (canStand_any _ _).mono ?_; rintro e w' ⟨rfl, hw⟩; subst w'; rw [hst])
        go_round
        case rel =>
          refine ⟨k + 1, by omega, by omega, by go_num, fun j h1 h2 => ?_⟩
          by_cases e : j < k
          · exact HOK.out j h1 e
          · obtain rfl : j = k := by omega
            rw [← HZ.out]
            exact HST0.out
        case measure => simp [intOf]; omega
    · exact absurd HOK.out (by rw [show k = b by omega]; exact HBAD.out)

set_option maxHeartbeats 2000000 in
theorem calAdd_ok (p g n cap a b : Nat) (d : Int) (Z : Nat → Int) (w : World) (hrow : RowAt 101 w p g n cap Z) (hn : n ≤ 100000) (hab : a < b) (hbn : b ≤ n) (hd1 : -2199023255552 ≤ d) (hd2 : d ≤ 2199023255552)
    (hB0 : ∀ j, j < n → -1099511627776 ≤ Z j ∧ Z j ≤ 1099511627776) (hgood : addOk Z a b d) :
    Calls Tryz.prog 22 #[.pointer (some ⟨p, 0, none⟩), .int .i64 a, .int .i64 b, .int .i64 d] w fun e w' => e = .returned (.int .i64 0) ∧ RowAt 101 w' p g n cap (addZ Z a b d) ∧ Chg (fun k => k = g) w w' := by
  have hc := hrow.cellp
  have hZ : Hid (∀ j, j < n → w.cell? ⟨g, j, none⟩ = some (.int .i64 (Z j))) := hrow.cellg
  have hB : Hid (∀ j, j < n → -1099511627776 ≤ Z j ∧ Z j ≤ 1099511627776) := hB0
  have HG : Hid (addOk Z a b d) := hgood
  have HROW : Hid (RowAt 101 w p g n cap Z) := hrow
  have hp := pieceB_mk hab hbn
  clear hB0 hgood hrow
  go_enter Tryz.func22, Tryz.ntmps22
  go_wp2_with (go_at_call 59; refine (hasPiece_any p g n cap _ _ _ hc).mono ?_; rintro e w' ⟨rfl, hw⟩; subst w'; rw [hp])
  clear hp
  go_loop [9] (fun i => ∃ k : Nat, a ≤ k ∧ k ≤ b ∧ i = .int .i64 k) (fun i => b - (intOf i).toNat)
  case atStart => exact ⟨a, by omega, by omega, rfl⟩
  case round =>
    obtain ⟨k, hk1, hk2, rfl⟩ := hrel
    by_cases hlt : k < b
    · have hck := hZ.out k (by omega)
      obtain ⟨hb1, hb2⟩ := hB.out k (by omega)
      have hst := HG.out k hk1 hlt
      generalize Z k = z at *
      go_wp2_with (go_at_call 58; refine (canStand_any _ _).mono ?_; rintro e w' ⟨rfl, hw⟩; subst w'; rw [hst])
      go_round
      case rel => exact ⟨k + 1, by omega, by omega, by go_num⟩
      case measure => simp [intOf]; omega
    · clear hc
      go_wp2
      go_loopw [10] (fun i wr => ∃ k : Nat, a ≤ k ∧ k ≤ b ∧ i = .int .i64 k ∧ RowAt 101 wr p g n cap (addZ Z a k d) ∧ Chg (fun k => k = g) w wr) (fun i _ => b - (intOf i).toNat)
      case atStart => exact ⟨a, by omega, by omega, rfl, HROW.out.congr (fun j _ => by simp [addZ]; intro h1 h2; omega), Chg.refl _ _⟩
      case round =>
        obtain ⟨k2, hk3, hk4, rfl, hrow, hchg⟩ := hrel
        by_cases hlt2 : k2 < b
        · have hc := hrow.cellp
          have hck := hrow.cellg k2 (by omega)
          have hfk := hrow.freeg k2
          obtain ⟨hb1, hb2⟩ := hB.out k2 (by omega)
          have e1 : addZ Z a k2 d k2 = Z k2 := by simp [addZ]
          rw [e1] at hck
          have HS : Hid (RowAt 101 (wr.setCell ⟨g, k2, none⟩ (.int .i64 (Z k2 + d))) p g n cap (addZ Z a (k2 + 1) d)) := (hrow.set (by decide) k2 (Z k2 + d)).congr (fun j _ => by
            unfold addZ
            by_cases e : j = k2
            · subst e
              rw [if_pos rfl, if_pos ⟨hk3, by omega⟩]
            · rw [if_neg e]
              by_cases e2 : a ≤ j ∧ j < k2
              · rw [if_pos e2, if_pos ⟨e2.1, by omega⟩]
              · rw [if_neg e2, if_neg (by omega)])
          have HCH : Hid (Chg (fun k => k = g) w wr) := hchg
          clear hrow hchg e1
          generalize Z k2 = z at *
          go_wp2
          go_roundw
          case rel => exact ⟨k2 + 1, by omega, by omega, by go_num, HS.out, HCH.out.setCell (.inl rfl) _⟩
          case measure => simp [intOf]; omega
        · have HE : Hid (RowAt 101 wr p g n cap (addZ Z a b d)) := by rw [show k2 = b by omega] at hrow; exact hrow
          go_wp2
          go_ret
          exact ⟨rfl, HE.out, hchg⟩
end Go.Proofs.YtminceigjejipabGreat

namespace Go.Proofs.YtminceigjejipabGreat
open Go.RowKit

def InRange (n : Nat) (Z : Nat → Int) : Prop := ∀ j, j < n → -1099511627776 ≤ Z j ∧ Z j ≤ 1099511627776

def AddRes (Z : Nat → Int) (n : Nat) (f t d z : Int) (Z' : Nat → Int) : Prop :=
  ((pieceB n f t = false ∨ inB d (-2199023255552) 2199023255552 = false) ∧ z = 9 ∧ Z' = Z) ∨
  (pieceB n f t = true ∧ inB d (-2199023255552) 2199023255552 = true ∧ ¬ addOk Z f.toNat t.toNat d ∧ z = 12 ∧ Z' = Z) ∨
  (pieceB n f t = true ∧ inB d (-2199023255552) 2199023255552 = true ∧ addOk Z f.toNat t.toNat d ∧ z = 0 ∧ Z' = addZ Z f.toNat t.toNat d)

theorem AddRes.unique {Z : Nat → Int} {n : Nat} {f t d z z2 : Int} {Z' Z2 : Nat → Int} (h : AddRes Z n f t d z Z') (h2 : AddRes Z n f t d z2 Z2) : z = z2 ∧ Z' = Z2 := by
  rcases h with ⟨a, rfl, rfl⟩ | ⟨a, b, c, rfl, rfl⟩ | ⟨a, b, c, rfl, rfl⟩ <;> rcases h2 with ⟨a2, rfl, rfl⟩ | ⟨a2, b2, c2, rfl, rfl⟩ | ⟨a2, b2, c2, rfl, rfl⟩ <;> first | exact ⟨rfl, rfl⟩ | (exfalso; simp_all)

theorem AddRes.range {Z : Nat → Int} {n : Nat} {f t d z : Int} {Z' : Nat → Int} (h : AddRes Z n f t d z Z') (hB : InRange n Z) : InRange n Z' := by
  rcases h with ⟨a, rfl, rfl⟩ | ⟨a, b, c, rfl, rfl⟩ | ⟨a, b, c, rfl, rfl⟩
  · exact hB
  · exact hB
  · intro j hj
    unfold addZ
    split
    · rename_i h
      exact standB_true (c j h.1 h.2)
    · exact hB j hj

def MinRes (Z : Nat → Int) (n : Nat) (f t m z : Int) : Prop :=
  (pieceB n f t = false ∧ m = 0 ∧ z = 9) ∨ (pieceB n f t = true ∧ m = minZ Z f.toNat (t.toNat - 1 - f.toNat) ∧ z = 0)

theorem MinRes.unique {Z : Nat → Int} {n : Nat} {f t m z m2 z2 : Int} (h : MinRes Z n f t m z) (h2 : MinRes Z n f t m2 z2) : m = m2 ∧ z = z2 := by
  rcases h with ⟨a, rfl, rfl⟩ | ⟨a, rfl, rfl⟩ <;> rcases h2 with ⟨a2, rfl, rfl⟩ | ⟨a2, rfl, rfl⟩ <;> first | exact ⟨rfl, rfl⟩ | (exfalso; simp_all)

def FitRes (Z : Nat → Int) (n : Nat) (f l v s z : Int) : Prop :=
  (fitB n f l = true ∧ s = 0 ∧ z = 9) ∨ (fitB n f l = false ∧ IsFit Z n f.toNat l.toNat v s ∧ z = 0)

theorem FitRes.unique {Z : Nat → Int} {n : Nat} {f l v s z s2 z2 : Int} (h : FitRes Z n f l v s z) (h2 : FitRes Z n f l v s2 z2) : s = s2 ∧ z = z2 := by
  rcases h with ⟨a, rfl, rfl⟩ | ⟨a, hs, rfl⟩ <;> rcases h2 with ⟨a2, rfl, rfl⟩ | ⟨a2, hs2, rfl⟩
  · exact ⟨rfl, rfl⟩
  · simp_all
  · simp_all
  · exact ⟨hs.unique hs2, rfl⟩

theorem calAdd_any (p g n cap : Nat) (f t d : Int) (Z : Nat → Int) (w : World) (hrow : RowAt 101 w p g n cap Z) (hn : n ≤ 4096) (hB : InRange n Z) :
    Calls Tryz.prog 22 #[.pointer (some ⟨p, 0, none⟩), .int .i64 f, .int .i64 t, .int .i64 d] w fun e w' => ∃ z Z', e = .returned (.int .i64 z) ∧ AddRes Z n f t d z Z' ∧ RowAt 101 w' p g n cap Z' ∧ Chg (fun k => k = g) w w' := by
  by_cases hbad : pieceB n f t = false ∨ inB d (-2199023255552) 2199023255552 = false
  · refine (calAdd_bad p g n cap f t d w hrow.cellp hbad).mono ?_
    rintro e w' ⟨rfl, hw⟩
    subst w'
    exact ⟨9, Z, rfl, .inl ⟨hbad, rfl, rfl⟩, hrow, Chg.refl _ _⟩
  · have h1 : pieceB n f t = true := by cases h : pieceB n f t; exact absurd (.inl h) hbad; rfl
    have h2 : inB d (-2199023255552) 2199023255552 = true := by cases h : inB d (-2199023255552) 2199023255552; exact absurd (.inr h) hbad; rfl
    obtain ⟨p1, p2, p3⟩ := pieceB_true h1
    obtain ⟨q1, q2⟩ := inB_true h2
    obtain ⟨a, rfl⟩ := Int.eq_ofNat_of_zero_le p1
    obtain ⟨b, rfl⟩ := Int.eq_ofNat_of_zero_le (show 0 ≤ t by omega)
    by_cases hok : addOk Z a b d
    · refine (calAdd_ok p g n cap a b d Z w hrow (by omega) (by omega) (by omega) q1 q2 hB hok).mono ?_
      rintro e w' ⟨rfl, h3, h4⟩
      exact ⟨0, _, rfl, .inr (.inr ⟨h1, h2, hok, rfl, rfl⟩), h3, h4⟩
    · refine (calAdd_range p g n cap a b d Z w hrow.cellp (by omega) (by omega) (by omega) q1 q2 hB hrow.cellg hok).mono ?_
      rintro e w' ⟨rfl, hw⟩
      subst w'
      exact ⟨12, Z, rfl, .inr (.inl ⟨h1, h2, hok, rfl, rfl⟩), hrow, Chg.refl _ _⟩

theorem calMin_any (p g n cap : Nat) (f t : Int) (Z : Nat → Int) (w : World) (hrow : RowAt 101 w p g n cap Z) (hn : n ≤ 4096) :
    Calls Tryz.prog 24 #[.pointer (some ⟨p, 0, none⟩), .int .i64 f, .int .i64 t] w fun e w' => ∃ m z, e = .returned (.tuple #[.int .i64 m, .int .i64 z]) ∧ MinRes Z n f t m z ∧ w' = w := by
  cases h : pieceB n f t
  · refine (calMin_bad p g n cap f t w hrow.cellp h).mono ?_
    rintro e w' ⟨rfl, hw⟩
    exact ⟨0, 9, rfl, .inl ⟨h, rfl, rfl⟩, hw⟩
  · obtain ⟨p1, p2, p3⟩ := pieceB_true h
    obtain ⟨a, rfl⟩ := Int.eq_ofNat_of_zero_le p1
    obtain ⟨b, rfl⟩ := Int.eq_ofNat_of_zero_le (show 0 ≤ t by omega)
    refine (calMin_ok p g n cap a b Z w hrow.cellp (by omega) (by omega) (by omega) hrow.cellg).mono ?_
    rintro e w' ⟨rfl, hw⟩
    exact ⟨_, 0, rfl, .inr ⟨h, rfl, rfl⟩, hw⟩

theorem calFit_any (p g n cap : Nat) (f l v : Int) (Z : Nat → Int) (w : World) (hrow : RowAt 101 w p g n cap Z) (hn : n ≤ 4096) (hf : f ≤ 9223372036854775807) :
    Calls Tryz.prog 26 #[.pointer (some ⟨p, 0, none⟩), .int .i64 f, .int .i64 l, .int .i64 v] w fun e w' => ∃ s z, e = .returned (.tuple #[.int .i64 s, .int .i64 z]) ∧ FitRes Z n f l v s z ∧ w' = w := by
  cases h : fitB n f l
  · obtain ⟨p1, p2, p3⟩ := fitB_false h
    obtain ⟨a, rfl⟩ := Int.eq_ofNat_of_zero_le p1
    obtain ⟨b, rfl⟩ := Int.eq_ofNat_of_zero_le (show 0 ≤ l by omega)
    refine (calFit_ok p g n cap a b v Z w (by omega) hrow.cellp (by omega) (by omega) hrow.cellg).mono ?_
    rintro e w' ⟨s, rfl, hs, hw⟩
    exact ⟨s, 0, rfl, .inr ⟨h, hs, rfl⟩, hw⟩
  · refine (calFit_bad p g n cap f l v w (by omega) hf hrow.cellp h).mono ?_
    rintro e w' ⟨rfl, hw⟩
    exact ⟨0, 9, rfl, .inl ⟨h, rfl, rfl⟩, hw⟩

theorem refAdd_any (p g n cap : Nat) (f t d : Int) (Z : Nat → Int) (w : World) (hrow : RowAt 103 w p g n cap Z) (hn : n ≤ 4096) (hB : InRange n Z) :
    Calls Tryz.prog 23 #[.pointer (some ⟨p, 0, none⟩), .int .i64 f, .int .i64 t, .int .i64 d] w fun e w' => ∃ z Z', e = .returned (.int .i64 z) ∧ AddRes Z n f t d z Z' ∧ RowAt 103 w' p g n cap Z' ∧ Chg (fun k => k = g) w w' := by
  by_cases hbad : pieceB n f t = false ∨ inB d (-2199023255552) 2199023255552 = false
  · refine (refAdd_bad p g n cap f t d w hrow.cellp hbad).mono ?_
    rintro e w' ⟨rfl, hw⟩
    subst w'
    exact ⟨9, Z, rfl, .inl ⟨hbad, rfl, rfl⟩, hrow, Chg.refl _ _⟩
  · have h1 : pieceB n f t = true := by cases h : pieceB n f t; exact absurd (.inl h) hbad; rfl
    have h2 : inB d (-2199023255552) 2199023255552 = true := by cases h : inB d (-2199023255552) 2199023255552; exact absurd (.inr h) hbad; rfl
    obtain ⟨p1, p2, p3⟩ := pieceB_true h1
    obtain ⟨q1, q2⟩ := inB_true h2
    obtain ⟨a, rfl⟩ := Int.eq_ofNat_of_zero_le p1
    obtain ⟨b, rfl⟩ := Int.eq_ofNat_of_zero_le (show 0 ≤ t by omega)
    by_cases hok : addOk Z a b d
    · refine (refAdd_ok p g n cap a b d Z w hrow (by omega) (by omega) (by omega) q1 q2 hB hok).mono ?_
      rintro e w' ⟨rfl, h3, h4⟩
      exact ⟨0, _, rfl, .inr (.inr ⟨h1, h2, hok, rfl, rfl⟩), h3, h4⟩
    · refine (refAdd_range p g n cap a b d Z w hrow.cellp (by omega) (by omega) (by omega) q1 q2 hB hrow.cellg hok).mono ?_
      rintro e w' ⟨rfl, hw⟩
      subst w'
      exact ⟨12, Z, rfl, .inr (.inl ⟨h1, h2, hok, rfl, rfl⟩), hrow, Chg.refl _ _⟩

theorem refMin_any (p g n cap : Nat) (f t : Int) (Z : Nat → Int) (w : World) (hrow : RowAt 103 w p g n cap Z) (hn : n ≤ 4096) :
    Calls Tryz.prog 25 #[.pointer (some ⟨p, 0, none⟩), .int .i64 f, .int .i64 t] w fun e w' => ∃ m z, e = .returned (.tuple #[.int .i64 m, .int .i64 z]) ∧ MinRes Z n f t m z ∧ w' = w := by
  cases h : pieceB n f t
  · refine (refMin_bad p g n cap f t w hrow.cellp h).mono ?_
    rintro e w' ⟨rfl, hw⟩
    exact ⟨0, 9, rfl, .inl ⟨h, rfl, rfl⟩, hw⟩
  · obtain ⟨p1, p2, p3⟩ := pieceB_true h
    obtain ⟨a, rfl⟩ := Int.eq_ofNat_of_zero_le p1
    obtain ⟨b, rfl⟩ := Int.eq_ofNat_of_zero_le (show 0 ≤ t by omega)
    refine (refMin_ok p g n cap a b Z w hrow.cellp (by omega) (by omega) (by omega) hrow.cellg).mono ?_
    rintro e w' ⟨rfl, hw⟩
    exact ⟨_, 0, rfl, .inr ⟨h, rfl, rfl⟩, hw⟩

theorem refFit_any (p g n cap : Nat) (f l v : Int) (Z : Nat → Int) (w : World) (hrow : RowAt 103 w p g n cap Z) (hn : n ≤ 4096) (hf : f ≤ 9223372036854775807) :
    Calls Tryz.prog 27 #[.pointer (some ⟨p, 0, none⟩), .int .i64 f, .int .i64 l, .int .i64 v] w fun e w' => ∃ s z, e = .returned (.tuple #[.int .i64 s, .int .i64 z]) ∧ FitRes Z n f l v s z ∧ w' = w := by
  cases h : fitB n f l
  · obtain ⟨p1, p2, p3⟩ := fitB_false h
    obtain ⟨a, rfl⟩ := Int.eq_ofNat_of_zero_le p1
    obtain ⟨b, rfl⟩ := Int.eq_ofNat_of_zero_le (show 0 ≤ l by omega)
    refine (refFit_ok p g n cap a b v Z w (by omega) hrow.cellp (by omega) (by omega) hrow.cellg).mono ?_
    rintro e w' ⟨s, rfl, hs, hw⟩
    exact ⟨s, 0, rfl, .inr ⟨h, hs, rfl⟩, hw⟩
  · refine (refFit_bad p g n cap f l v w (by omega) hf hrow.cellp h).mono ?_
    rintro e w' ⟨rfl, hw⟩
    exact ⟨0, 9, rfl, .inl ⟨h, rfl, rfl⟩, hw⟩
end Go.Proofs.YtminceigjejipabGreat

namespace Go.Proofs.YtminceigjejipabGreat
open Go.RowKit

/-- a row of the program and the document's, which hold the same -/
structure PairAt (w : World) (pc gc pr gr n cc cr : Nat) (Z : Nat → Int) : Prop where
  c : RowAt 101 w pc gc n cc Z
  r : RowAt 103 w pr gr n cr Z
  ne : gc ≠ gr
  n1 : 1 ≤ n
  n2 : n ≤ 4096
  range : InRange n Z

section
variable {w : World} {pc gc pr gr n cc cr : Nat} {Z : Nat → Int}
theorem PairAt.frame {w' : World} (h : PairAt w pc gc pr gr n cc cr Z) (h1 : w'.heap[pc]? = w.heap[pc]?) (h2 : w'.heap[gc]? = w.heap[gc]?) (h3 : w'.heap[pr]? = w.heap[pr]?) (h4 : w'.heap[gr]? = w.heap[gr]?) : PairAt w' pc gc pr gr n cc cr Z :=
  ⟨h.c.frame h1 h2, h.r.frame h3 h4, h.ne, h.n1, h.n2, h.range⟩
theorem PairAt.chg {O : Nat → Prop} {w' : World} (h : PairAt w pc gc pr gr n cc cr Z) (hc : Chg O w w') (h1 : ¬ O pc) (h2 : ¬ O gc) (h3 : ¬ O pr) (h4 : ¬ O gr) : PairAt w' pc gc pr gr n cc cr Z :=
  h.frame (hc.block _ h.c.ltp h1) (hc.block _ h.c.ltg h2) (hc.block _ h.r.ltp h3) (hc.block _ h.r.ltg h4)
theorem RowAt.chg {T : TypeId} {p g cap : Nat} {O : Nat → Prop} {w' : World} (h : RowAt T w p g n cap Z) (hc : Chg O w w') (h1 : ¬ O p) (h2 : ¬ O g) : RowAt T w' p g n cap Z :=
  h.frame (hc.block _ h.ltp h1) (hc.block _ h.ltg h2)
/-- blocks of other types -/
theorem RowAt.apart {T T' : TypeId} {p g p' g' cap cap' n' : Nat} {Z' : Nat → Int} (h : RowAt T w p g n cap Z) (h' : RowAt T' w p' g' n' cap' Z') (hT : T ≠ 3) (hT' : T' ≠ 3) (hTT : T ≠ T') : p ≠ p' ∧ p ≠ g' ∧ g ≠ p' := by
  obtain ⟨cur, a1, _⟩ := h.hg
  obtain ⟨cur', a1', _⟩ := h'.hg
  refine ⟨?_, ?_, ?_⟩
  · rintro rfl
    have := h.hp
    rw [h'.hp] at this
    simp at this
    exact hTT this.2.symm
  · rintro rfl
    have := h.hp
    rw [a1'] at this
    simp at this
    exact hT this.2.symm
  · rintro rfl
    rw [h'.hp] at a1
    simp at a1
    exact hT' a1.2
end

theorem boxes (w : World) (pc pr : Nat) (k a b c d j1 j2 j3 j4 j5 : Int) (w2 : World)
    (hw2 : w2 = (w.alloc (.cells #[.pointer (some ⟨pc, 0, none⟩), .pointer (some ⟨pr, 0, none⟩)] 46)).alloc (.cells #[.int .i64 k, .int .i64 a, .int .i64 b, .int .i64 c, .int .i64 d, .int .i64 j1, .int .i64 j2, .int .i64 j3, .int .i64 j4, .int .i64 j5] 37)) :
    Chg (fun _ => False) w w2 ∧ w2.heap.size = w.heap.size + 2 ∧ w2.cell? ⟨w.heap.size, 0, none⟩ = some (.pointer (some ⟨pc, 0, none⟩)) ∧ w2.cell? ⟨w.heap.size, 1, none⟩ = some (.pointer (some ⟨pr, 0, none⟩)) ∧
      w2.cell? ⟨w.heap.size + 1, 2, none⟩ = some (.int .i64 b) ∧ w2.cell? ⟨w.heap.size + 1, 3, none⟩ = some (.int .i64 c) ∧ w2.cell? ⟨w.heap.size + 1, 4, none⟩ = some (.int .i64 d) := by
  subst hw2
  refine ⟨((Chg.refl _ _).alloc _).alloc _, by simp, ?_, ?_, by simp, by simp, by simp⟩
  · rw [World.cell?_alloc_lt _ _ _ (by simp)]; simp
  · rw [World.cell?_alloc_lt _ _ _ (by simp)]; simp

set_option maxRecDepth 100000 in
set_option maxHeartbeats 2000000 in
theorem onRow_add (pc gc pr gr n cc cr : Nat) (Z : Nat → Int) (a b c d j1 j2 j3 j4 j5 : Int) (w : World) (hP : PairAt w pc gc pr gr n cc cr Z) (_ : b ≤ 9223372036854775807) :
    Calls Tryz.prog 9 #[.agg #[.pointer (some ⟨pc, 0, none⟩), .pointer (some ⟨pr, 0, none⟩)], .agg #[.int .i64 3, .int .i64 a, .int .i64 b, .int .i64 c, .int .i64 d, .int .i64 j1, .int .i64 j2, .int .i64 j3, .int .i64 j4, .int .i64 j5]] w fun e w' => ∃ Z', e = .returned (.bool true) ∧ PairAt w' pc gc pr gr n cc cr Z' ∧ Chg (fun k => k = gc ∨ k = gr) w w' := by
  have HP := hide hP
  have HL := hide (show gc < w.heap.size ∧ gr < w.heap.size from ⟨hP.c.ltg, hP.r.ltg⟩)
  have HA := hide (hP.c.apart hP.r (by decide) (by decide) (by decide))
  have HNE := hide (show pr ≠ gr ∧ pc ≠ gc from ⟨hP.r.ne (by decide), hP.c.ne (by decide)⟩)
  clear hP
  go_enter Tryz.func9, Tryz.ntmps9
  go_wp2_with fail
  obtain ⟨w2, hw2⟩ : ∃ w2, w2 = (w.alloc (.cells #[.pointer (some ⟨pc, 0, none⟩), .pointer (some ⟨pr, 0, none⟩)] 46)).alloc (.cells #[.int .i64 3, .int .i64 a, .int .i64 b, .int .i64 c, .int .i64 d, .int .i64 j1, .int .i64 j2, .int .i64 j3, .int .i64 j4, .int .i64 j5] 37) := ⟨_, rfl⟩
  rw [← hw2]
  obtain ⟨hch, hsz, b0, b1, o2, o3, o4⟩ := boxes w pc pr 3 a b c d j1 j2 j3 j4 j5 w2 hw2
  have HCH := hide hch
  have HSZ := hide hsz
  have hrc : RowAt 101 w2 pc gc n cc Z := HP.out.c.chg hch (fun h => h) (fun h => h)
  have hrr : RowAt 103 w2 pr gr n cr Z := HP.out.r.chg hch (fun h => h) (fun h => h)
  clear hw2 hch hsz
  refine (calAdd_any pc gc n cc b c d Z _ hrc HP.out.n2 HP.out.range).mono ?_
  rintro e w3 ⟨z, Z', rfl, hres, hrc', hchg⟩
  have hlt := HL.out
  have hszv := HSZ.out
  have q1 : w3.cell? ⟨w.heap.size, 1, none⟩ = some (.pointer (some ⟨pr, 0, none⟩)) := by rw [hchg.cell (by show w.heap.size < _; omega) (by show ¬ w.heap.size = gc; omega)]; exact b1
  have q2 : w3.cell? ⟨w.heap.size + 1, 2, none⟩ = some (.int .i64 b) := by rw [hchg.cell (by show w.heap.size + 1 < _; omega) (by show ¬ w.heap.size + 1 = gc; omega)]; exact o2
  have q3 : w3.cell? ⟨w.heap.size + 1, 3, none⟩ = some (.int .i64 c) := by rw [hchg.cell (by show w.heap.size + 1 < _; omega) (by show ¬ w.heap.size + 1 = gc; omega)]; exact o3
  have q4 : w3.cell? ⟨w.heap.size + 1, 4, none⟩ = some (.int .i64 d) := by rw [hchg.cell (by show w.heap.size + 1 < _; omega) (by show ¬ w.heap.size + 1 = gc; omega)]; exact o4
  have hrr2 : RowAt 103 w3 pr gr n cr Z := hrr.chg hchg (fun h => HA.out.2.2 h.symm) (fun h => HP.out.ne h.symm)
  have HRES := hide hres
  have HRC := hide hrc'
  have HC3 := hide hchg
  clear hszv hlt b0 b1 o2 o3 o4 hrr hrc hres hrc' hchg
  go_wp2_with fail
  refine (refAdd_any pr gr n cr b c d Z _ hrr2 HP.out.n2 HP.out.range).mono ?_
  rintro e w4 ⟨z2, Z2, rfl, hres2, hrr', hchg2⟩
  obtain ⟨rfl, rfl⟩ := HRES.out.unique hres2
  have HF := hide (show PairAt w4 pc gc pr gr n cc cr Z' ∧ Chg (fun k => k = gc ∨ k = gr) w w4 from ⟨⟨HRC.out.chg hchg2 (fun h => HA.out.2.1 h) (fun h => HP.out.ne h), hrr', HP.out.ne, HP.out.n1, HP.out.n2, HRES.out.range HP.out.range⟩,
    ((HCH.out.mono (O' := fun k => k = gc ∨ k = gr) (fun _ _ h => h.elim)).trans HC3.out (fun _ _ h => .inl h)).trans hchg2 (fun _ _ h => .inr h)⟩)
  clear hres2 hrr' hchg2 hrr2 q1 q2 q3 q4
  go_wp2
  go_ret
  exact ⟨Z', ret_bool (by simp), HF.out.1, HF.out.2⟩

set_option maxRecDepth 100000 in
set_option maxHeartbeats 2000000 in
theorem onRow_min (pc gc pr gr n cc cr : Nat) (Z : Nat → Int) (a b c d j1 j2 j3 j4 j5 : Int) (w : World) (hP : PairAt w pc gc pr gr n cc cr Z) (_ : b ≤ 9223372036854775807) :
    Calls Tryz.prog 9 #[.agg #[.pointer (some ⟨pc, 0, none⟩), .pointer (some ⟨pr, 0, none⟩)], .agg #[.int .i64 4, .int .i64 a, .int .i64 b, .int .i64 c, .int .i64 d, .int .i64 j1, .int .i64 j2, .int .i64 j3, .int .i64 j4, .int .i64 j5]] w fun e w' => ∃ Z', e = .returned (.bool true) ∧ PairAt w' pc gc pr gr n cc cr Z' ∧ Chg (fun k => k = gc ∨ k = gr) w w' := by
  have HP := hide hP
  have HL := hide (show gc < w.heap.size ∧ gr < w.heap.size from ⟨hP.c.ltg, hP.r.ltg⟩)
  have HA := hide (hP.c.apart hP.r (by decide) (by decide) (by decide))
  have HNE := hide (show pr ≠ gr ∧ pc ≠ gc from ⟨hP.r.ne (by decide), hP.c.ne (by decide)⟩)
  clear hP
  go_enter Tryz.func9, Tryz.ntmps9
  go_wp2_with fail
  obtain ⟨w2, hw2⟩ : ∃ w2, w2 = (w.alloc (.cells #[.pointer (some ⟨pc, 0, none⟩), .pointer (some ⟨pr, 0, none⟩)] 46)).alloc (.cells #[.int .i64 4, .int .i64 a, .int .i64 b, .int .i64 c, .int .i64 d, .int .i64 j1, .int .i64 j2, .int .i64 j3, .int .i64 j4, .int .i64 j5] 37) := ⟨_, rfl⟩
  rw [← hw2]
  obtain ⟨hch, hsz, b0, b1, o2, o3, o4⟩ := boxes w pc pr 4 a b c d j1 j2 j3 j4 j5 w2 hw2
  have HCH := hide hch
  have HSZ := hide hsz
  have hrc : RowAt 101 w2 pc gc n cc Z := HP.out.c.chg hch (fun h => h) (fun h => h)
  have hrr : RowAt 103 w2 pr gr n cr Z := HP.out.r.chg hch (fun h => h) (fun h => h)
  clear hw2 hch hsz
  refine (calMin_any pc gc n cc b c Z _ hrc HP.out.n2).mono ?_
  rintro e w3 ⟨m, z, rfl, hres, hw⟩
  subst w3
  have hrr2 := hrr
  have HRES := hide hres
  clear hrr hrc hres
  go_wp2_with fail
  refine (refMin_any pr gr n cr b c Z _ hrr2 HP.out.n2).mono ?_
  rintro e w4 ⟨m2, z2, rfl, hres2, hw⟩
  subst w4
  obtain ⟨rfl, rfl⟩ := HRES.out.unique hres2
  clear hres2 hrr2
  go_wp2
  go_ret
  exact ⟨Z, ret_bool (by simp), HP.out.chg HCH.out (fun h => h) (fun h => h) (fun h => h) (fun h => h), HCH.out.mono (fun _ _ h => h.elim)⟩

set_option maxRecDepth 100000 in
set_option maxHeartbeats 2000000 in
theorem onRow_fit (pc gc pr gr n cc cr : Nat) (Z : Nat → Int) (a b c d j1 j2 j3 j4 j5 : Int) (w : World) (hP : PairAt w pc gc pr gr n cc cr Z) (hb2 : b ≤ 9223372036854775807) :
    Calls Tryz.prog 9 #[.agg #[.pointer (some ⟨pc, 0, none⟩), .pointer (some ⟨pr, 0, none⟩)], .agg #[.int .i64 5, .int .i64 a, .int .i64 b, .int .i64 c, .int .i64 d, .int .i64 j1, .int .i64 j2, .int .i64 j3, .int .i64 j4, .int .i64 j5]] w fun e w' => ∃ Z', e = .returned (.bool true) ∧ PairAt w' pc gc pr gr n cc cr Z' ∧ Chg (fun k => k = gc ∨ k = gr) w w' := by
  have HP := hide hP
  have HL := hide (show gc < w.heap.size ∧ gr < w.heap.size from ⟨hP.c.ltg, hP.r.ltg⟩)
  have HA := hide (hP.c.apart hP.r (by decide) (by decide) (by decide))
  have HNE := hide (show pr ≠ gr ∧ pc ≠ gc from ⟨hP.r.ne (by decide), hP.c.ne (by decide)⟩)
  clear hP
  go_enter Tryz.func9, Tryz.ntmps9
  go_wp2_with fail
  obtain ⟨w2, hw2⟩ : ∃ w2, w2 = (w.alloc (.cells #[.pointer (some ⟨pc, 0, none⟩), .pointer (some ⟨pr, 0, none⟩)] 46)).alloc (.cells #[.int .i64 5, .int .i64 a, .int .i64 b, .int .i64 c, .int .i64 d, .int .i64 j1, .int .i64 j2, .int .i64 j3, .int .i64 j4, .int .i64 j5] 37) := ⟨_, rfl⟩
  rw [← hw2]
  obtain ⟨hch, hsz, b0, b1, o2, o3, o4⟩ := boxes w pc pr 5 a b c d j1 j2 j3 j4 j5 w2 hw2
  have HCH := hide hch
  have HSZ := hide hsz
  have hrc : RowAt 101 w2 pc gc n cc Z := HP.out.c.chg hch (fun h => h) (fun h => h)
  have hrr : RowAt 103 w2 pr gr n cr Z := HP.out.r.chg hch (fun h => h) (fun h => h)
  clear hw2 hch hsz
  refine (calFit_any pc gc n cc b c d Z _ hrc HP.out.n2 hb2).mono ?_
  rintro e w3 ⟨m, z, rfl, hres, hw⟩
  subst w3
  have hrr2 := hrr
  have HRES := hide hres
  clear hrr hrc hres
  go_wp2_with fail
  refine (refFit_any pr gr n cr b c d Z _ hrr2 HP.out.n2 hb2).mono ?_
  rintro e w4 ⟨m2, z2, rfl, hres2, hw⟩
  subst w4
  obtain ⟨rfl, rfl⟩ := HRES.out.unique hres2
  clear hres2 hrr2
  go_wp2
  go_ret
  exact ⟨Z, ret_bool (by simp), HP.out.chg HCH.out (fun h => h) (fun h => h) (fun h => h) (fun h => h), HCH.out.mono (fun _ _ h => h.elim)⟩
end Go.Proofs.YtminceigjejipabGreat

namespace Go.Proofs.YtminceigjejipabGreat
open Go.RowKit

/-- the world's box -/
def BoxAt (w : World) (B : Nat) (v0 v1 v2 v3 v4 : Value) : Prop := w.heap[B]? = some (.cells #[v0, v1, v2, v3, v4] 33 (0, 0))
section
variable {w : World} {B : Nat} {v0 v1 v2 v3 v4 : Value}
theorem BoxAt.cell (h : BoxAt w B v0 v1 v2 v3 v4) (f : Nat) : w.cell? ⟨B, f, none⟩ = #[v0, v1, v2, v3, v4][f]? := by
  unfold World.cell?
  rw [show w.heap[B]? = _ from h]
  rfl
theorem BoxAt.free (h : BoxAt w B v0 v1 v2 v3 v4) (f : Nat) : w.frozen? ⟨B, f, none⟩ = false := by
  unfold World.frozen?
  rw [show w.heap[B]? = _ from h]
  simp
theorem BoxAt.lt (h : BoxAt w B v0 v1 v2 v3 v4) : B < w.heap.size := (Array.getElem?_eq_some_iff.1 h).1
theorem BoxAt.set1 (h : BoxAt w B v0 v1 v2 v3 v4) (u : Value) : BoxAt (w.setCell ⟨B, 1, none⟩ u) B v0 u v2 v3 v4 := by
  unfold BoxAt
  simp only [World.setCell, Array.getElem?_modify]
  rw [show w.heap[B]? = _ from h]
  simp
theorem BoxAt.chg {O : Nat → Prop} {w' : World} (h : BoxAt w B v0 v1 v2 v3 v4) (hc : Chg O w w') (hn : ¬ O B) : BoxAt w' B v0 v1 v2 v3 v4 := (hc.block _ h.lt hn).trans h
end

theorem infoRow : (Tryz.prog.info? 46).map (fun i => (i.zero, i.size, i.bytes)) = some (some (.agg #[.pointer none, .pointer none]), 2, 16) := by kernel_rfl

set_option maxHeartbeats 2000000 in
theorem rowed_bad (bw : Nat) (n v : Int) (w : World) (h : newB n v = true) :
    Calls Tryz.prog 8 #[.pointer (some ⟨bw, 0, none⟩), .int .i64 n, .int .i64 v] w fun e w' => e = .returned (.bool true) ∧ w' = w := by
  go_enter Tryz.func8, Tryz.ntmps8
  go_wp2_with fail
  refine (calNew_bad n v _ h).mono ?_
  rintro e w1 ⟨rfl, hw⟩
  subst w1
  go_wp2_with fail
  refine (refNew_bad n v _ h).mono ?_
  rintro e w1 ⟨rfl, hw⟩
  subst w1
  clear h
  go_wp2
  go_ret
  exact ⟨rfl, rfl⟩

/-- what 'rowed' makes -/
def Rowed (w : World) (B n m : Nat) (v : Int) (v0 rv v2 v3 v4 : Value) (xs : List Value) (w' : World) : Prop :=
  ∃ rv' p1 g1 p2 g2 c2, BoxAt w' B v0 rv' v2 v3 v4 ∧ w'.ownsRow (B + 1) 46 2 rv' (m + 1) (xs ++ [.pointer (some ⟨p1, 0, none⟩), .pointer (some ⟨p2, 0, none⟩)]) ∧ PairAt w' p1 g1 p2 g2 n n c2 (fun _ => v) ∧
    w.heap.size ≤ p1 ∧ w.heap.size ≤ g1 ∧ w.heap.size ≤ p2 ∧ w.heap.size ≤ g2 ∧ Chg (fun k => k = B ∨ rv.ownBlock = some k) w w' ∧ ∀ k, rv'.ownBlock = some k → rv.ownBlock = some k ∨ w.heap.size ≤ k

theorem rowed_step {w w1 w2 w3 : World} {o : Obj} {B n m p1 g2 c2 : Nat} {v : Int} {v0 rv v2 v3 v4 rv' : Value} {xs : List Value} (hn1 : 1 ≤ n) (hn2 : n ≤ 4096) (hv : standB v = true)
    (hbox : BoxAt w B v0 rv v2 v3 v4) (hown : w.ownsRow (B + 1) 46 2 rv m xs)
    (hp1 : w.heap.size ≤ p1) (hr1 : RowAt 101 w1 p1 w.heap.size n n (fun _ => v)) (hc1 : Chg (fun _ => False) w w1)
    (hg2 : w1.heap.size ≤ g2) (hr2 : RowAt 103 w2 w1.heap.size g2 n c2 (fun _ => v)) (hc2 : Chg (fun _ => False) w1 w2)
    (hown' : w3.ownsRow (B + 1) 46 2 rv' (m + 1) (xs ++ [.pointer (some ⟨p1, 0, none⟩), .pointer (some ⟨w1.heap.size, 0, none⟩)])) (hg : (w2.alloc o).grownBy w3 rv.ownBlock) (hat : ∀ k, rv'.ownBlock = some k → rv.ownBlock = some k ∨ w2.heap.size ≤ k) :
    w3.cell? ⟨B, 1, none⟩ = some rv ∧ w3.frozen? ⟨B, 1, none⟩ = false ∧ (∃ sa sl sc, rv' = .slice sa sl sc) ∧ Rowed w B n m v v0 rv v2 v3 v4 xs (w3.setCell ⟨B, 1, none⟩ rv') := by
  have hl : ∀ k, rv.ownBlock = some k → B + 1 ≤ k ∧ k < w.heap.size := hown.lt
  have hBl := hbox.lt
  have hs1 := hc1.size
  have hs2 := hc2.size
  have hc3 : Chg (fun k => rv.ownBlock = some k) w w3 :=
    ((((hc1.trans hc2 (fun _ _ h => h)).alloc o).mono (O' := fun k => rv.ownBlock = some k) (fun _ _ h => h.elim))).grown hg (fun k hk => .inl hk)
  have hb3 : BoxAt w3 B v0 rv v2 v3 v4 := hbox.chg hc3 (fun h => by have := hl _ h; omega)
  have e1 := hb3.cell 1
  simp at e1
  refine ⟨e1, hb3.free 1, ?_, ?_⟩
  · rcases hown'.2 with ⟨rfl, _⟩ | ⟨_, _, _, rfl, _⟩
    · exact ⟨_, _, _, rfl⟩
    · exact ⟨_, _, _, rfl⟩
  have hcc : Chg (fun k => rv.ownBlock = some k ∨ k = B) w2 (w3.setCell ⟨B, 1, none⟩ rv') :=
    ((((Chg.refl (fun k => rv.ownBlock = some k ∨ k = B) w2).alloc o)).grown hg (fun k hk => .inl (.inl hk))).setCell (.inl (.inr rfl)) _
  have no : ∀ k, w.heap.size ≤ k → ¬ (rv.ownBlock = some k ∨ k = B) := fun k hk h => by
    rcases h with h | h
    · have := hl _ h; omega
    · omega
  refine ⟨rv', p1, w.heap.size, w1.heap.size, g2, c2, hb3.set1 rv', ownsRow_setCell_below hown' (by show B < _; omega) _, ⟨?_, ?_, ?_, hn1, hn2, ?_⟩, hp1, Nat.le_refl _, hs1, by omega, ?_, ?_⟩
  · exact (hr1.chg hc2 (fun h => h) (fun h => h)).chg hcc (no _ hp1) (no _ (Nat.le_refl _))
  · exact hr2.chg hcc (no _ hs1) (no _ (by omega))
  · have := hr1.ltg; omega
  · intro j _
    exact standB_true hv
  · exact (hc3.mono (O' := fun k => k = B ∨ rv.ownBlock = some k) (fun _ _ h => .inr h)).setCell (.inl (.inl rfl)) _
  · intro k hk
    rcases hat k hk with h | h
    · exact .inl h
    · exact .inr (by omega)

set_option maxRecDepth 100000 in
set_option maxHeartbeats 2000000 in
theorem rowed_ok (B n m : Nat) (v : Int) (ra : Option Addr) (rc : Nat) (v0 v2 v3 v4 : Value) (xs : List Value) (w : World) (hn1 : 1 ≤ n) (hn2 : n ≤ 4096) (hv : standB v = true) (hm : m < 5000000000000)
    (hbox : BoxAt w B v0 (.slice ra m rc) v2 v3 v4) (hown : w.ownsRow (B + 1) 46 2 (.slice ra m rc) m xs) :
    Calls Tryz.prog 8 #[.pointer (some ⟨B, 0, none⟩), .int .i64 n, .int .i64 v] w fun e w' => e = .returned (.bool true) ∧ Rowed w B n m v v0 (.slice ra m rc) v2 v3 v4 xs w' := by
  obtain ⟨i0, hi, hz0, hz1, hz2⟩ := info_parts infoRow
  have HBOX := hide hbox
  have HOWN := hide hown
  have HV := hide hv
  have hBl := hbox.lt
  clear hbox hown hv
  go_enter Tryz.func8, Tryz.ntmps8
  go_wp2_with fail
  refine (calNew_ok n v _ hn1 hn2 HV.out).mono ?_
  rintro e w1 ⟨p1, rfl, hp1, hr1, hc1⟩
  have HR1 := hide hr1
  have HC1 := hide hc1
  clear hr1 hc1
  go_wp2_with fail
  refine (refNew_ok n v _ hn1 hn2 HV.out).mono ?_
  rintro e w2 ⟨g2, c2, rfl, hg2, hr2, hc2⟩
  have HR2 := hide hr2
  have HC2 := hide hc2
  have hb2 : BoxAt w2 B v0 (.slice ra m rc) v2 v3 v4 := (HBOX.out.chg HC1.out (fun h => h)).chg HC2.out (fun h => h)
  have hcell : w2.cell? ⟨B, 1, none⟩ = some (.slice ra m rc) := by have := hb2.cell 1; simpa using this
  have hlt2 : B < w2.heap.size := hb2.lt
  have HO2 := hide (show w2.ownsRow (B + 1) 46 2 (.slice ra m rc) m xs from by
    have hg : w.grownBy w2 none := ⟨HC2.out.os.trans HC1.out.os, HC2.out.tape.trans HC1.out.tape, HC2.out.output.trans HC1.out.output, Nat.le_trans HC1.out.size HC2.out.size, fun k hk _ => (HC2.out.block k (Nat.lt_of_lt_of_le hk HC1.out.size) (fun h => h)).trans (HC1.out.block k hk (fun h => h))⟩
    exact HOWN.out.kept hg (by cases ra <;> simp [Value.ownBlock]))
  clear hr2 hc2 hb2
  go_wp2_with (first | (at_builtin; refine wpList_append_lies _ rfl _ _ 28 rfl (B + 1) 46 i0 (.agg #[.pointer none, .pointer none]) 2 16 Tryz.underlying28 hi hz0 hz1 hz2 rfl (by decide) _ _ _ rfl (HO2.out.alloc _) ⟨w2.heap.size, 0, none⟩ 1 1 [.pointer (some ⟨p1, 0, none⟩), .pointer (some ⟨w1.heap.size, 0, none⟩)] rfl rfl (World.news_of_block (heap_alloc_new w2 _)) (by simp [Value.oneCell']) (by decide) (by unfold maxLen; omega) (by omega) (by simp; omega) _ rfl ?_))
  · intro g cap w3 hown' hgrow hat _
    obtain ⟨s1, s2, _, s3⟩ := rowed_step hn1 hn2 HV.out HBOX.out HOWN.out hp1 HR1.out HC1.out hg2 HR2.out HC2.out hown' hgrow (fun k hk => by
      simp [Value.ownBlock] at hk
      subst hk
      rcases hat with h | h
      · exact .inl h
      · exact .inr (by omega))
    have S3 := hide s3
    clear s3 hown' hgrow hcell hat
    go_wp2
    go_ret
    exact ⟨rfl, S3.out⟩
end Go.Proofs.YtminceigjejipabGreat
