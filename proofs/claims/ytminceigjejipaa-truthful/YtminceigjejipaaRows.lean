/-
  No cell of these rows narrows 'for every input' (looked for: loops, veiled, ifaces, maps, wideKeys, modest, calm, conditions, laid).
  DERIVED. THE GIVEN ROWS OF THIS SEAT. 6 by the template 'for every input the law returns true; each argument reads behind the call as it read before'; 0 by the template 'total and deterministic' (their statements: YtminceigjejipaaTotals.lean).
  GIVEN WITH THE SEED: the statements are not yours to turn. If you find one false, say at which input.
  Laid BY PROGRAM, IN A SANDBOX (cutbox-rows.mjs): the forced cells as the released guide's own fill.sh prints them over the translation 171814271cf413cd… (all of the seat's roots in one cut). By AI agents, Wed Nov 11 2026. No macro, syntax, notation, axiom, sorry.
-/
import Derived.Test.YtminceigjejipaaChecked
import GoSem.Claim
import GoSem.ClaimJoined
import GoSem.ClaimMapViews
import Derived.JoinedTies
import Derived.KernelRfl
namespace Go.Proofs.Ytminceigjejipaa
/- THE CELL 'sum', in the pinned program and in every row, IS THE sha256 OF THE DUMP (.gsa) THAT YtminceigjejipaaProg.lean LOADS. Nothing in Lean hashes anything: it is a label: what it is worth is what the hold of that sum in a sandbox is worth. -/
noncomputable def Try.pinned : Pinned := { name := "ytminceigjejipaa", sum := "171814271cf413cdc7400c80fd96e8ba5e4401188517a54d5d513a10fdc423a0", checked := Try.checked }
namespace Rows
def none {H : Type} : Left H := { results := [], args := [] }

/-- 'yardkeep.Cells': WHATEVER THE INPUT: true; the input reads as it did. -/
def cellsSpec : ChangeSpec := { name := "cells", fn := fun _ => fun
  | [d1, d2, d3] => { results := [.lit (.bool true)], args := [d1, d2, d3] }
  | _ => none }
def cellsRow : OpenClaim := { program := "ytminceigjejipaa", sum := "171814271cf413cdc7400c80fd96e8ba5e4401188517a54d5d513a10fdc423a0", func := "yard/yardkeep.Cells", spec := "cells", apart := false }
def CellsSaid : Prop := cellsRow.holds Try.pinned (OpenSpec.ofChange cellsSpec)

/-- ITS FALSE NEIGHBOUR: 'it returns false'. Refute it at one input. -/
def cellsWrong : ChangeSpec := { name := "cells", fn := fun _ => fun
  | [d1, d2, d3] => { results := [.lit (.bool false)], args := [d1, d2, d3] }
  | _ => none }
def CellsWrongFalsely : Prop := cellsRow.holds Try.pinned (OpenSpec.ofChange cellsWrong)

/-- 'yardkeep.Sound': WHATEVER THE INPUT: true; the input reads as it did. -/
def soundSpec : ChangeSpec := { name := "sound", fn := fun _ => fun
  | [d] => { results := [.lit (.bool true)], args := [d] }
  | _ => none }
def soundRow : OpenClaim := { program := "ytminceigjejipaa", sum := "171814271cf413cdc7400c80fd96e8ba5e4401188517a54d5d513a10fdc423a0", func := "yard/yardkeep.Sound", spec := "sound", apart := false }
def SoundSaid : Prop := soundRow.holds Try.pinned (OpenSpec.ofChange soundSpec)

/-- ITS FALSE NEIGHBOUR: 'it returns false'. Refute it at one input. -/
def soundWrong : ChangeSpec := { name := "sound", fn := fun _ => fun
  | [d] => { results := [.lit (.bool false)], args := [d] }
  | _ => none }
def SoundWrongFalsely : Prop := soundRow.holds Try.pinned (OpenSpec.ofChange soundWrong)

/-- 'yardkeep.Packed': WHATEVER THE INPUT: true; the input reads as it did. -/
def packedSpec : ChangeSpec := { name := "packed", fn := fun _ => fun
  | [d] => { results := [.lit (.bool true)], args := [d] }
  | _ => none }
def packedRow : OpenClaim := { program := "ytminceigjejipaa", sum := "171814271cf413cdc7400c80fd96e8ba5e4401188517a54d5d513a10fdc423a0", func := "yard/yardkeep.Packed", spec := "packed", apart := false }
def PackedSaid : Prop := packedRow.holds Try.pinned (OpenSpec.ofChange packedSpec)

/-- ITS FALSE NEIGHBOUR: 'it returns false'. Refute it at one input. -/
def packedWrong : ChangeSpec := { name := "packed", fn := fun _ => fun
  | [d] => { results := [.lit (.bool false)], args := [d] }
  | _ => none }
def PackedWrongFalsely : Prop := packedRow.holds Try.pinned (OpenSpec.ofChange packedWrong)

/-- 'yardkeep.Threshold': WHATEVER THE INPUT: true; the input reads as it did. -/
def thresholdSpec : ChangeSpec := { name := "threshold", fn := fun _ => fun
  | [d1, d2, d3] => { results := [.lit (.bool true)], args := [d1, d2, d3] }
  | _ => none }
def thresholdRow : OpenClaim := { program := "ytminceigjejipaa", sum := "171814271cf413cdc7400c80fd96e8ba5e4401188517a54d5d513a10fdc423a0", func := "yard/yardkeep.Threshold", spec := "threshold", apart := false }
def ThresholdSaid : Prop := thresholdRow.holds Try.pinned (OpenSpec.ofChange thresholdSpec)

/-- ITS FALSE NEIGHBOUR: 'it returns false'. Refute it at one input. -/
def thresholdWrong : ChangeSpec := { name := "threshold", fn := fun _ => fun
  | [d1, d2, d3] => { results := [.lit (.bool false)], args := [d1, d2, d3] }
  | _ => none }
def ThresholdWrongFalsely : Prop := thresholdRow.holds Try.pinned (OpenSpec.ofChange thresholdWrong)

/-- 'yardkeep.Truthful': WHATEVER THE INPUT: true; the input reads as it did. -/
def truthfulSpec : ChangeSpec := { name := "truthful", fn := fun _ => fun
  | [d1, d2, d3, d4, d5, d6] => { results := [.lit (.bool true)], args := [d1, d2, d3, d4, d5, d6] }
  | _ => none }
def truthfulRow : OpenClaim := { program := "ytminceigjejipaa", sum := "171814271cf413cdc7400c80fd96e8ba5e4401188517a54d5d513a10fdc423a0", func := "yard/yardkeep.Truthful", spec := "truthful", apart := false }
def TruthfulSaid : Prop := truthfulRow.holds Try.pinned (OpenSpec.ofChange truthfulSpec)

/-- ITS FALSE NEIGHBOUR: 'it returns false'. Refute it at one input. -/
def truthfulWrong : ChangeSpec := { name := "truthful", fn := fun _ => fun
  | [d1, d2, d3, d4, d5, d6] => { results := [.lit (.bool false)], args := [d1, d2, d3, d4, d5, d6] }
  | _ => none }
def TruthfulWrongFalsely : Prop := truthfulRow.holds Try.pinned (OpenSpec.ofChange truthfulWrong)

/-- 'yardkeep.Charged': WHATEVER THE INPUT: true; the input reads as it did. -/
def chargedSpec : ChangeSpec := { name := "charged", fn := fun _ => fun
  | [d] => { results := [.lit (.bool true)], args := [d] }
  | _ => none }
def chargedRow : OpenClaim := { program := "ytminceigjejipaa", sum := "171814271cf413cdc7400c80fd96e8ba5e4401188517a54d5d513a10fdc423a0", func := "yard/yardkeep.Charged", spec := "charged", apart := false }
def ChargedSaid : Prop := chargedRow.holds Try.pinned (OpenSpec.ofChange chargedSpec)

/-- ITS FALSE NEIGHBOUR: 'it returns false'. Refute it at one input. -/
def chargedWrong : ChangeSpec := { name := "charged", fn := fun _ => fun
  | [d] => { results := [.lit (.bool false)], args := [d] }
  | _ => none }
def ChargedWrongFalsely : Prop := chargedRow.holds Try.pinned (OpenSpec.ofChange chargedWrong)

/- THE SECOND FORM. 'bulk': how many values and letters a reading holds, each counted each time it is reached (what is shared counts as often as it is met; a slice's spare places count too). A statement '..UptoSaid' is the law's where the arguments, and the package variables that the reading takes, are together of bulk at most 1048576: NARROWER than '..Said'. Prove '..Said' where nothing that the law and all that it calls make is longer than what came in: it says more and counts as full. Else prove '..UptoSaid'. A law counts once. -/
mutual
def uptoBulk {H : Type} : DataW H → Nat
  | .lit (.string bytes) => bytes.length + 1
  | .lit _ => 1
  | .nil => 1
  | .ptr d => uptoBulk d + 1
  | .slice elems spare => uptoBulkAll elems + uptoBulkAll spare + 1
  | .agg parts => uptoBulkAll parts + 1
  | .iface _ d => uptoBulk d + 1
  | .map entries => uptoBulkEntries entries + 1
  | .held _ => 1
def uptoBulkAll {H : Type} : List (DataW H) → Nat
  | [] => 0
  | d :: r => uptoBulk d + uptoBulkAll r
def uptoBulkEntries {H : Type} : List (Lit × DataW H) → Nat
  | [] => 0
  | x :: r => uptoBulkEntry x + uptoBulkEntries r
def uptoBulkEntry {H : Type} : Lit × DataW H → Nat
  | (.string bytes, d) => bytes.length + uptoBulk d + 1
  | (_, d) => uptoBulk d + 1
 end
def uptoSmall : (H : Type) → List (DataW H) → Bool := fun _ ds => decide (uptoBulkAll ds ≤ 1048576)
def OpenSpec.upto (s : _root_.Go.ChangeSpec) : _root_.Go.OpenSpec := { _root_.Go.OpenSpec.ofChange s with cond := some uptoSmall }

/-- 'yardkeep.Cells', WHERE WHAT IT READS IS OF BULK AT MOST 1048576: true; the input reads as it did. -/
def cellsUptoRow : OpenClaim := { program := "ytminceigjejipaa", sum := "171814271cf413cdc7400c80fd96e8ba5e4401188517a54d5d513a10fdc423a0", func := "yard/yardkeep.Cells", spec := "cells", apart := false, narrowed := true }
def CellsUptoSaid : Prop := cellsUptoRow.holds Try.pinned (OpenSpec.upto cellsSpec)

/-- 'yardkeep.Sound', WHERE WHAT IT READS IS OF BULK AT MOST 1048576: true; the input reads as it did. -/
def soundUptoRow : OpenClaim := { program := "ytminceigjejipaa", sum := "171814271cf413cdc7400c80fd96e8ba5e4401188517a54d5d513a10fdc423a0", func := "yard/yardkeep.Sound", spec := "sound", apart := false, narrowed := true }
def SoundUptoSaid : Prop := soundUptoRow.holds Try.pinned (OpenSpec.upto soundSpec)

/-- 'yardkeep.Packed', WHERE WHAT IT READS IS OF BULK AT MOST 1048576: true; the input reads as it did. -/
def packedUptoRow : OpenClaim := { program := "ytminceigjejipaa", sum := "171814271cf413cdc7400c80fd96e8ba5e4401188517a54d5d513a10fdc423a0", func := "yard/yardkeep.Packed", spec := "packed", apart := false, narrowed := true }
def PackedUptoSaid : Prop := packedUptoRow.holds Try.pinned (OpenSpec.upto packedSpec)

/-- 'yardkeep.Threshold', WHERE WHAT IT READS IS OF BULK AT MOST 1048576: true; the input reads as it did. -/
def thresholdUptoRow : OpenClaim := { program := "ytminceigjejipaa", sum := "171814271cf413cdc7400c80fd96e8ba5e4401188517a54d5d513a10fdc423a0", func := "yard/yardkeep.Threshold", spec := "threshold", apart := false, narrowed := true }
def ThresholdUptoSaid : Prop := thresholdUptoRow.holds Try.pinned (OpenSpec.upto thresholdSpec)

/-- 'yardkeep.Truthful', WHERE WHAT IT READS IS OF BULK AT MOST 1048576: true; the input reads as it did. -/
def truthfulUptoRow : OpenClaim := { program := "ytminceigjejipaa", sum := "171814271cf413cdc7400c80fd96e8ba5e4401188517a54d5d513a10fdc423a0", func := "yard/yardkeep.Truthful", spec := "truthful", apart := false, narrowed := true }
def TruthfulUptoSaid : Prop := truthfulUptoRow.holds Try.pinned (OpenSpec.upto truthfulSpec)

/-- 'yardkeep.Charged', WHERE WHAT IT READS IS OF BULK AT MOST 1048576: true; the input reads as it did. -/
def chargedUptoRow : OpenClaim := { program := "ytminceigjejipaa", sum := "171814271cf413cdc7400c80fd96e8ba5e4401188517a54d5d513a10fdc423a0", func := "yard/yardkeep.Charged", spec := "charged", apart := false, narrowed := true }
def ChargedUptoSaid : Prop := chargedUptoRow.holds Try.pinned (OpenSpec.upto chargedSpec)

end Rows
end Go.Proofs.Ytminceigjejipaa
