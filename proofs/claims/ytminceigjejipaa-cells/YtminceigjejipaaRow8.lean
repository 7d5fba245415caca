import Derived.Test.YtminceigjejipaaRow3
import Derived.Test.YtminceigjejipaaRow5
import Derived.Test.YtminceigjejipaaRow6
namespace Go.Proofs.Ytminceigjejipaa
open Go.RowKit

def InRange (n : Nat) (Z : Nat → Int) : Prop := ∀ j, j < n → -1099511627776 ≤ Z j ∧ Z j ≤ 1099511627776

def AddRes (Z : Nat → Int) (n : Nat) (f t d z : Int) (Z' : Nat → Int) : Prop :=
  ((pieceB n f t = false ∨ inB d (-2199023255552) 2199023255552 = false) ∧ z = 9 ∧ Z' = Z) ∨
  (pieceB n f t = true ∧ inB d (-2199023255552) 2199023255552 = true ∧ ¬ addOk Z f.toNat t.toNat d ∧ z = 12 ∧ Z' = Z) ∨
  (pieceB n f t = true ∧ inB d (-2199023255552) 2199023255552 = true ∧ addOk Z f.toNat t.toNat d ∧ z = 0 ∧ Z' = addZ Z f.toNat t.toNat d)

theorem AddRes.unique {Z : Nat → Int} {n : Nat} {f t d z z2 : Int} {Z' Z2 : Nat → Int} (h : AddRes Z n f t d z Z') (h2 : AddRes Z n f t d z2 Z2) : z = z2 ∧ Z' = Z2 := by
  rcases h with ⟨a, rfl, rfl⟩ | ⟨a, b, c, rfl, rfl⟩ | ⟨a, b, c, rfl, rfl⟩ <;> rcases h2 with ⟨a2, rfl, rfl⟩ | ⟨a2, b2, c2, rfl, rfl⟩ | ⟨a2, b2, c2, rfl, rfl⟩ <;> first | exact ⟨rfl, rfl⟩ | (exfalso; simp_all)

theorem AddRes.range {Z : Nat → Int} {n : Nat} {f t d z : Int} {Z' : Nat → Int} (h : AddRes Z n f t d z Z') (hB : InRange n Z) : InRange n Z' := by
  rcases h with ⟨a, rfl, rfl⟩ | ⟨a, b, c, rfl, rfl⟩ | ⟨a, b, c, rfl, rfl⟩
  · exact hB
  · exact hB
  · intro j hj
    unfold addZ
    split
    · rename_i h
      exact standB_true (c j h.1 h.2)
    · exact hB j hj

def MinRes (Z : Nat → Int) (n : Nat) (f t m z : Int) : Prop :=
  (pieceB n f t = false ∧ m = 0 ∧ z = 9) ∨ (pieceB n f t = true ∧ m = minZ Z f.toNat (t.toNat - 1 - f.toNat) ∧ z = 0)

theorem MinRes.unique {Z : Nat → Int} {n : Nat} {f t m z m2 z2 : Int} (h : MinRes Z n f t m z) (h2 : MinRes Z n f t m2 z2) : m = m2 ∧ z = z2 := by
  rcases h with ⟨a, rfl, rfl⟩ | ⟨a, rfl, rfl⟩ <;> rcases h2 with ⟨a2, rfl, rfl⟩ | ⟨a2, rfl, rfl⟩ <;> first | exact ⟨rfl, rfl⟩ | (exfalso; simp_all)

def FitRes (Z : Nat → Int) (n : Nat) (f l v s z : Int) : Prop :=
  (fitB n f l = true ∧ s = 0 ∧ z = 9) ∨ (fitB n f l = false ∧ IsFit Z n f.toNat l.toNat v s ∧ z = 0)

theorem FitRes.unique {Z : Nat → Int} {n : Nat} {f l v s z s2 z2 : Int} (h : FitRes Z n f l v s z) (h2 : FitRes Z n f l v s2 z2) : s = s2 ∧ z = z2 := by
  rcases h with ⟨a, rfl, rfl⟩ | ⟨a, hs, rfl⟩ <;> rcases h2 with ⟨a2, rfl, rfl⟩ | ⟨a2, hs2, rfl⟩
  · exact ⟨rfl, rfl⟩
  · simp_all
  · simp_all
  · exact ⟨hs.unique hs2, rfl⟩

theorem calAdd_any (p g n cap : Nat) (f t d : Int) (Z : Nat → Int) (w : World) (hrow : RowAt 98 w p g n cap Z) (hn : n ≤ 4096) (hB : InRange n Z) :
    Calls Try.prog 39 #[.pointer (some ⟨p, 0, none⟩), .int .i64 f, .int .i64 t, .int .i64 d] w fun e w' => ∃ z Z', e = .returned (.int .i64 z) ∧ AddRes Z n f t d z Z' ∧ RowAt 98 w' p g n cap Z' ∧ Chg (fun k => k = g) w w' := by
  by_cases hbad : pieceB n f t = false ∨ inB d (-2199023255552) 2199023255552 = false
  · refine (calAdd_bad p g n cap f t d w hrow.cellp hbad).mono ?_
    rintro e w' ⟨rfl, hw⟩
    subst w'
    exact ⟨9, Z, rfl, .inl ⟨hbad, rfl, rfl⟩, hrow, Chg.refl _ _⟩
  · have h1 : pieceB n f t = true := by cases h : pieceB n f t; exact absurd (.inl h) hbad; rfl
    have h2 : inB d (-2199023255552) 2199023255552 = true := by cases h : inB d (-2199023255552) 2199023255552; exact absurd (.inr h) hbad; rfl
    obtain ⟨p1, p2, p3⟩ := pieceB_true h1
    obtain ⟨q1, q2⟩ := inB_true h2
    obtain ⟨a, rfl⟩ := Int.eq_ofNat_of_zero_le p1
    obtain ⟨b, rfl⟩ := Int.eq_ofNat_of_zero_le (show 0 ≤ t by omega)
    by_cases hok : addOk Z a b d
    · refine (calAdd_ok p g n cap a b d Z w hrow (by omega) (by omega) (by omega) q1 q2 hB hok).mono ?_
      rintro e w' ⟨rfl, h3, h4⟩
      exact ⟨0, _, rfl, .inr (.inr ⟨h1, h2, hok, rfl, rfl⟩), h3, h4⟩
    · refine (calAdd_range p g n cap a b d Z w hrow.cellp (by omega) (by omega) (by omega) q1 q2 hB hrow.cellg hok).mono ?_
      rintro e w' ⟨rfl, hw⟩
      subst w'
      exact ⟨12, Z, rfl, .inr (.inl ⟨h1, h2, hok, rfl, rfl⟩), hrow, Chg.refl _ _⟩

theorem calMin_any (p g n cap : Nat) (f t : Int) (Z : Nat → Int) (w : World) (hrow : RowAt 98 w p g n cap Z) (hn : n ≤ 4096) :
    Calls Try.prog 12 #[.pointer (some ⟨p, 0, none⟩), .int .i64 f, .int .i64 t] w fun e w' => ∃ m z, e = .returned (.tuple #[.int .i64 m, .int .i64 z]) ∧ MinRes Z n f t m z ∧ w' = w := by
  cases h : pieceB n f t
  · refine (calMin_bad p g n cap f t w hrow.cellp h).mono ?_
    rintro e w' ⟨rfl, hw⟩
    exact ⟨0, 9, rfl, .inl ⟨h, rfl, rfl⟩, hw⟩
  · obtain ⟨p1, p2, p3⟩ := pieceB_true h
    obtain ⟨a, rfl⟩ := Int.eq_ofNat_of_zero_le p1
    obtain ⟨b, rfl⟩ := Int.eq_ofNat_of_zero_le (show 0 ≤ t by omega)
    refine (calMin_ok p g n cap a b Z w hrow.cellp (by omega) (by omega) (by omega) hrow.cellg).mono ?_
    rintro e w' ⟨rfl, hw⟩
    exact ⟨_, 0, rfl, .inr ⟨h, rfl, rfl⟩, hw⟩

theorem calFit_any (p g n cap : Nat) (f l v : Int) (Z : Nat → Int) (w : World) (hrow : RowAt 98 w p g n cap Z) (hn : n ≤ 4096) (hf : f ≤ 9223372036854775807) :
    Calls Try.prog 41 #[.pointer (some ⟨p, 0, none⟩), .int .i64 f, .int .i64 l, .int .i64 v] w fun e w' => ∃ s z, e = .returned (.tuple #[.int .i64 s, .int .i64 z]) ∧ FitRes Z n f l v s z ∧ w' = w := by
  cases h : fitB n f l
  · obtain ⟨p1, p2, p3⟩ := fitB_false h
    obtain ⟨a, rfl⟩ := Int.eq_ofNat_of_zero_le p1
    obtain ⟨b, rfl⟩ := Int.eq_ofNat_of_zero_le (show 0 ≤ l by omega)
    refine (calFit_ok p g n cap a b v Z w (by omega) hrow.cellp (by omega) (by omega) hrow.cellg).mono ?_
    rintro e w' ⟨s, rfl, hs, hw⟩
    exact ⟨s, 0, rfl, .inr ⟨h, hs, rfl⟩, hw⟩
  · refine (calFit_bad p g n cap f l v w (by omega) hf hrow.cellp h).mono ?_
    rintro e w' ⟨rfl, hw⟩
    exact ⟨0, 9, rfl, .inl ⟨h, rfl, rfl⟩, hw⟩

end Go.Proofs.Ytminceigjejipaa
