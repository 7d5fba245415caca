import Derived.Test.YtminceigjejipaaRowM
namespace Go.Proofs.Ytminceigjejipaa
open Go.RowKit

set_option maxHeartbeats 400000 in
theorem canStand_any (v : Int) (w : World) :
    Calls Try.prog 38 #[.int .i64 v] w fun e w' => e = .returned (.bool (standB v)) ∧ w' = w := by
  obtain ⟨r, hr⟩ : ∃ r, r = standB v := ⟨_, rfl⟩
  rw [← hr]
  cases r
  · rcases standB_false hr.symm with h | ⟨h, h'⟩
    · clear hr
      go_enter Try.func38, Try.ntmps38
      go_wp2
      go_ret
      first | exact ⟨rfl, rfl⟩ | exact ⟨ret_bool (by simp; omega), rfl⟩
    · clear hr
      go_enter Try.func38, Try.ntmps38
      go_wp2
      go_ret
      first | exact ⟨rfl, rfl⟩ | exact ⟨ret_bool (by simp; omega), rfl⟩
  · obtain ⟨h, h'⟩ := standB_true hr.symm
    clear hr
    go_enter Try.func38, Try.ntmps38
    go_wp2
    go_ret
    first | exact ⟨rfl, rfl⟩ | exact ⟨ret_bool (by simp; omega), rfl⟩

set_option maxHeartbeats 400000 in
theorem hasPiece_any (p g n cap : Nat) (f t : Int) (w : World) (hc : w.cell? ⟨p, 0, none⟩ = some (.slice (some ⟨g, 0, none⟩) n cap)) :
    Calls Try.prog 40 #[.pointer (some ⟨p, 0, none⟩), .int .i64 f, .int .i64 t] w fun e w' => e = .returned (.bool (pieceB n f t)) ∧ w' = w := by
  obtain ⟨r, hr⟩ : ∃ r, r = pieceB n f t := ⟨_, rfl⟩
  rw [← hr]
  cases r
  · rcases pieceB_false hr.symm with h | ⟨h, h'⟩ | ⟨h, h', h''⟩
    all_goals
      clear hr
      go_enter Try.func40, Try.ntmps40
      go_wp2
      go_ret
      first | exact ⟨rfl, rfl⟩ | exact ⟨ret_bool (by simp; omega), rfl⟩
  · obtain ⟨h, h', h''⟩ := pieceB_true hr.symm
    clear hr
    go_enter Try.func40, Try.ntmps40
    go_wp2
    go_ret
    first | exact ⟨rfl, rfl⟩ | exact ⟨ret_bool (by simp; omega), rfl⟩

end Go.Proofs.Ytminceigjejipaa
