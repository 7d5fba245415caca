import Derived.Test.YtminceigjejipaaG1
namespace Go.Proofs.Ytminceigjejipaa
open Go.RowKit

/-- Check -/
def ckB (a b c d e : Int) : Bool := inB a 1 64 && inB b 0 100000 && inB c 0 1000 && inB d 1 8 && inB e 1 16
def ckZ (a b c d e : Int) : Int := if ckB a b c d e then 0 else 1

theorem bcases (p : Bool → Prop) (b : Bool) (h0 : b = false → p false) (h1 : b = true → p true) : p b := by cases b; exact h0 rfl; exact h1 rfl

set_option maxHeartbeats 1000000 in
theorem check_any (a b c d f : Int) (w : World) :
    Calls Try.prog 64 #[.agg #[.int .i64 a, .int .i64 b, .int .i64 c, .int .i64 d, .int .i64 f]] w fun e w' => e = .returned (.int .i64 (ckZ a b c d f)) ∧ Chg (fun _ => False) w w' := by
  cases h1 : inB a 1 64
  rotate_left
  cases h2 : inB b 0 100000
  rotate_left
  cases h3 : inB c 0 1000
  rotate_left
  cases h4 : inB d 1 8
  rotate_left
  cases h5 : inB f 1 16
  all_goals
    go_enter Try.func64, Try.ntmps64
    go_wp2_with (go_at_call 72; refine (within_any _ _ _ _).mono ?_; rintro e w' ⟨rfl, rfl⟩)
    go_ret
    exact ⟨ret_int (by simp [ckZ, ckB, *]), (Chg.refl _ _).alloc _⟩

set_option maxHeartbeats 2000000 in
theorem refCheck_any (a b c d f : Int) (w : World) :
    Calls Try.prog 66 #[.agg #[.int .i64 a, .int .i64 b, .int .i64 c, .int .i64 d, .int .i64 f]] w fun e w' => e = .returned (.int .i64 (ckZ a b c d f)) ∧ Chg (fun _ => False) w w' := by
  obtain ⟨r, hr⟩ : ∃ r, r = ckZ a b c d f := ⟨_, rfl⟩
  rw [← hr]
  cases h1 : inB a 1 64
  · have hz : r = 1 := by simp [hr, ckZ, ckB, h1]
    subst hz
    clear hr
    rcases inB_false h1 with g | g
    all_goals
      clear h1
      go_enter Try.func66, Try.ntmps66
      go_wp2
      go_ret
      exact ⟨rfl, (Chg.refl _ _).alloc _⟩
  have g1 := inB_true h1
  cases h2 : inB b 0 100000
  · have hz : r = 1 := by simp [hr, ckZ, ckB, h1, h2]
    subst hz
    clear hr
    rcases inB_false h2 with g | g
    all_goals
      clear h1 h2
      go_enter Try.func66, Try.ntmps66
      go_wp2
      go_ret
      exact ⟨rfl, (Chg.refl _ _).alloc _⟩
  have g2 := inB_true h2
  cases h3 : inB c 0 1000
  · have hz : r = 1 := by simp [hr, ckZ, ckB, h1, h2, h3]
    subst hz
    clear hr
    rcases inB_false h3 with g | g
    all_goals
      clear h1 h2 h3
      go_enter Try.func66, Try.ntmps66
      go_wp2
      go_ret
      exact ⟨rfl, (Chg.refl _ _).alloc _⟩
  have g3 := inB_true h3
  cases h4 : inB d 1 8
  · have hz : r = 1 := by simp [hr, ckZ, ckB, h1, h2, h3, h4]
    subst hz
    clear hr
    rcases inB_false h4 with g | g
    all_goals
      clear h1 h2 h3 h4
      go_enter Try.func66, Try.ntmps66
      go_wp2
      go_ret
      exact ⟨rfl, (Chg.refl _ _).alloc _⟩
  have g4 := inB_true h4
  cases h5 : inB f 1 16
  · have hz : r = 1 := by simp [hr, ckZ, ckB, h1, h2, h3, h4, h5]
    subst hz
    clear hr
    rcases inB_false h5 with g | g
    all_goals
      clear h1 h2 h3 h4 h5
      go_enter Try.func66, Try.ntmps66
      go_wp2
      go_ret
      exact ⟨rfl, (Chg.refl _ _).alloc _⟩
  have g5 := inB_true h5
  have hz : r = 0 := by simp [hr, ckZ, ckB, h1, h2, h3, h4, h5]
  subst hz
  clear hr h1 h2 h3 h4 h5
  go_enter Try.func66, Try.ntmps66
  go_wp2
  go_ret
  exact ⟨rfl, (Chg.refl _ _).alloc _⟩
end Go.Proofs.Ytminceigjejipaa
