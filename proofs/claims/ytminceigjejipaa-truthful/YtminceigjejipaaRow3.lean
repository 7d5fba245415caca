import Derived.Test.YtminceigjejipaaG3
namespace Go.Proofs.Ytminceigjejipaa
open Go.RowKit

def fitB (len f n : Int) : Bool := decide (f < 0) || decide (n < 1) || decide (len - f < n)
theorem fitB_true {len f n : Int} (h : fitB len f n = true) : f < 0 ∨ (0 ≤ f ∧ n < 1) ∨ (0 ≤ f ∧ 1 ≤ n ∧ len - f < n) := by
  simp [fitB] at h
  omega
theorem fitB_false {len f n : Int} (h : fitB len f n = false) : 0 ≤ f ∧ 1 ≤ n ∧ n ≤ len - f := by
  simp [fitB] at h
  omega

set_option maxHeartbeats 1000000 in
theorem calFit_bad (p g len cap : Nat) (f n v : Int) (w : World) (hl : len ≤ 100000) (h2 : f ≤ 9223372036854775807) (hc : w.cell? ⟨p, 0, none⟩ = some (.slice (some ⟨g, 0, none⟩) len cap)) (hp : fitB len f n = true) :
    Calls Try.prog 41 #[.pointer (some ⟨p, 0, none⟩), .int .i64 f, .int .i64 n, .int .i64 v] w fun e w' => e = .returned (.tuple #[.int .i64 0, .int .i64 9]) ∧ w' = w := by
  rcases fitB_true hp with h | ⟨h, h'⟩ | ⟨h, h', h''⟩
  all_goals
    clear hp
    go_enter Try.func41, Try.ntmps41
    go_wp2
    go_ret2
    exact ⟨rfl, rfl⟩

set_option maxHeartbeats 1000000 in
theorem calFit_ok (p g len cap a n : Nat) (v : Int) (Z : Nat → Int) (w : World) (hl : len ≤ 100000) (hc : w.cell? ⟨p, 0, none⟩ = some (.slice (some ⟨g, 0, none⟩) len cap)) (hn : 1 ≤ n) (han : a + n ≤ len)
    (hZ0 : ∀ j, j < len → w.cell? ⟨g, j, none⟩ = some (.int .i64 (Z j))) :
    Calls Try.prog 41 #[.pointer (some ⟨p, 0, none⟩), .int .i64 a, .int .i64 n, .int .i64 v] w fun e w' => ∃ s, e = .returned (.tuple #[.int .i64 s, .int .i64 0]) ∧ IsFit Z len a n v s ∧ w' = w := by
  have hZ : Hid (∀ j, j < len → w.cell? ⟨g, j, none⟩ = some (.int .i64 (Z j))) := hZ0
  clear hZ0
  go_enter Try.func41, Try.ntmps41
  go_wp2
  go_loop [10, 11] (fun x i => ∃ k r : Nat, k ≤ len ∧ i = .int .i64 k ∧ x = .int .i64 r ∧ r ≤ 100000 ∧ Run Z a n v k r) (fun _ i => len - (intOf i).toNat)
  case atStart => exact ⟨a, 0, by omega, rfl, rfl, by omega, Run.start Z a n v (by omega)⟩
  case round =>
    obtain ⟨k, r, hk, rfl, rfl, hr, hrun⟩ := hrel
    have HR : Hid (Run Z a n v k r) := hrun
    have hrn := hrun.2.1
    clear hrun
    by_cases hlt : k < len
    · have hck := hZ.out k hlt
      obtain ⟨z, hz⟩ : ∃ z, z = Z k := ⟨_, rfl⟩
      rw [← hz] at hck
      have HZ : Hid (z = Z k) := hz
      clear hz
      by_cases hlow : z < v
      · go_wp2
        go_round
        case rel => exact ⟨k + 1, 0, by omega, by go_num, rfl, by omega, HR.out.low (by rw [← HZ.out]; exact hlow)⟩
        case measure => simp [intOf]; omega
      · by_cases hd : r + 1 = n
        · have hd' : ((r : Int) + 1 == (n : Int)) = true := by simp; omega
          have HD : Hid (r + 1 = n) := hd
          clear hd
          go_wp2
          go_ret2
          exact ⟨_, rfl, HR.out.done (by rw [← HZ.out]; omega) HD.out hlt, rfl⟩
        · have hd' : ((r : Int) + 1 == (n : Int)) = false := by simp; omega
          go_wp2
          go_round
          case rel => exact ⟨k + 1, r + 1, by omega, by go_num, by go_num, by omega, HR.out.more (by rw [← HZ.out]; omega) (by omega)⟩
          case measure => simp [intOf]; omega
    · have HK : Hid (k = len) := by unfold Hid; omega
      go_wp2
      go_ret2
      exact ⟨_, rfl, Run.none (by have := HR.out; rw [HK.out] at this; exact this), rfl⟩

end Go.Proofs.Ytminceigjejipaa
