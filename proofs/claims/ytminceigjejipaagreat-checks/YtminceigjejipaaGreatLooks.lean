import Derived.Test.YtminceigjejipaaGreatBase
namespace Go.Proofs.YtminceigjejipaaGreat
open Go.RowKit

set_option maxHeartbeats 400000 in
/-- nothing has come out yet -/
theorem looks_nil (bw : Nat) (w : World) (h3 : w.cell? ⟨bw, 3, none⟩ = some (.slice none 0 0)) (h4 : w.cell? ⟨bw, 4, none⟩ = some (.slice none 0 0)) :
    Calls Tryz.prog 12 #[.pointer (some ⟨bw, 0, none⟩)] w fun e w' => e = .returned (.bool true) ∧ w' = w := by
  go_enter Tryz.func12, Tryz.ntmps12
  go_wp2
  go_loop [3] (fun i => i = .int .i64 0) (fun _ => 0)
  case atStart => rfl
  case round =>
    subst hrel
    go_wp2
    go_loop [5] (fun i => i = .int .i64 0) (fun _ => 0)
    case atStart => rfl
    case round =>
      subst hrel
      go_wp2
      go_ret
      exact ⟨rfl, rfl⟩
end Go.Proofs.YtminceigjejipaaGreat
