/-
  No cell of these rows narrows 'for every input' (looked for: loops, veiled, ifaces, maps, wideKeys, modest, calm, conditions, laid).
  DERIVED. THE GIVEN ROWS OF THIS SEAT. 10 by the template 'for every input the law returns true; each argument reads behind the call as it read before'; 0 by the template 'total and deterministic' (their statements: YtccfademkgjeiaaTotals.lean).
  GIVEN WITH THE SEED: the statements are not yours to turn. If you find one false, say at which input.
  Laid BY PROGRAM, IN A SANDBOX (cutbox-rows.mjs): the forced cells as the released guide's own fill.sh prints them over the translation 3bb1af04a360d8ad… (all of the seat's roots in one cut). By AI agents, Wed Nov 11 2026. No macro, syntax, notation, axiom, sorry.
-/
import Derived.Test.YtccfademkgjeiaaChecked
import GoSem.Claim
import GoSem.ClaimJoined
import GoSem.ClaimMapViews
import Derived.JoinedTies
import Derived.KernelRfl
namespace Go.Proofs.Ytccfademkgjeiaa
/- THE CELL 'sum', in the pinned program and in every row, IS THE sha256 OF THE DUMP (.gsa) THAT YtccfademkgjeiaaProg.lean LOADS. Nothing in Lean hashes anything: it is a label: what it is worth is what the hold of that sum in a sandbox is worth. -/
noncomputable def Try.pinned : Pinned := { name := "ytccfademkgjeiaa", sum := "3bb1af04a360d8adc0d5340b6273803d4fc977dabaa519fe1b64c21288183905", checked := Try.checked }
namespace Rows
def none {H : Type} : Left H := { results := [], args := [] }

/-- 'yardlaw.Checks': WHATEVER THE INPUT: true; the input reads as it did. -/
def checksSpec : ChangeSpec := { name := "checks", fn := fun _ => fun
  | [d1, d2] => { results := [.lit (.bool true)], args := [d1, d2] }
  | _ => none }
def checksRow : OpenClaim := { program := "ytccfademkgjeiaa", sum := "3bb1af04a360d8adc0d5340b6273803d4fc977dabaa519fe1b64c21288183905", func := "yard/yardlaw.Checks", spec := "checks", apart := false }
def ChecksSaid : Prop := checksRow.holds Try.pinned (OpenSpec.ofChange checksSpec)

/-- ITS FALSE NEIGHBOUR: 'it returns false'. Refute it at one input. -/
def checksWrong : ChangeSpec := { name := "checks", fn := fun _ => fun
  | [d1, d2] => { results := [.lit (.bool false)], args := [d1, d2] }
  | _ => none }
def ChecksWrongFalsely : Prop := checksRow.holds Try.pinned (OpenSpec.ofChange checksWrong)

/-- 'yardlaw.Rows': WHATEVER THE INPUT: true; the input reads as it did. -/
def rowsSpec : ChangeSpec := { name := "rows", fn := fun _ => fun
  | [d1, d2] => { results := [.lit (.bool true)], args := [d1, d2] }
  | _ => none }
def rowsRow : OpenClaim := { program := "ytccfademkgjeiaa", sum := "3bb1af04a360d8adc0d5340b6273803d4fc977dabaa519fe1b64c21288183905", func := "yard/yardlaw.Rows", spec := "rows", apart := false }
def RowsSaid : Prop := rowsRow.holds Try.pinned (OpenSpec.ofChange rowsSpec)

/-- ITS FALSE NEIGHBOUR: 'it returns false'. Refute it at one input. -/
def rowsWrong : ChangeSpec := { name := "rows", fn := fun _ => fun
  | [d1, d2] => { results := [.lit (.bool false)], args := [d1, d2] }
  | _ => none }
def RowsWrongFalsely : Prop := rowsRow.holds Try.pinned (OpenSpec.ofChange rowsWrong)

/-- 'yardkeep.Cells': WHATEVER THE INPUT: true; the input reads as it did. -/
def cellsSpec : ChangeSpec := { name := "cells", fn := fun _ => fun
  | [d1, d2, d3] => { results := [.lit (.bool true)], args := [d1, d2, d3] }
  | _ => none }
def cellsRow : OpenClaim := { program := "ytccfademkgjeiaa", sum := "3bb1af04a360d8adc0d5340b6273803d4fc977dabaa519fe1b64c21288183905", func := "yard/yardkeep.Cells", spec := "cells", apart := false }
def CellsSaid : Prop := cellsRow.holds Try.pinned (OpenSpec.ofChange cellsSpec)

/-- ITS FALSE NEIGHBOUR: 'it returns false'. Refute it at one input. -/
def cellsWrong : ChangeSpec := { name := "cells", fn := fun _ => fun
  | [d1, d2, d3] => { results := [.lit (.bool false)], args := [d1, d2, d3] }
  | _ => none }
def CellsWrongFalsely : Prop := cellsRow.holds Try.pinned (OpenSpec.ofChange cellsWrong)

/-- 'yardlaw.Bids': WHATEVER THE INPUT: true; the input reads as it did. -/
def bidsSpec : ChangeSpec := { name := "bids", fn := fun _ => fun
  | [d1, d2] => { results := [.lit (.bool true)], args := [d1, d2] }
  | _ => none }
def bidsRow : OpenClaim := { program := "ytccfademkgjeiaa", sum := "3bb1af04a360d8adc0d5340b6273803d4fc977dabaa519fe1b64c21288183905", func := "yard/yardlaw.Bids", spec := "bids", apart := false }
def BidsSaid : Prop := bidsRow.holds Try.pinned (OpenSpec.ofChange bidsSpec)

/-- ITS FALSE NEIGHBOUR: 'it returns false'. Refute it at one input. -/
def bidsWrong : ChangeSpec := { name := "bids", fn := fun _ => fun
  | [d1, d2] => { results := [.lit (.bool false)], args := [d1, d2] }
  | _ => none }
def BidsWrongFalsely : Prop := bidsRow.holds Try.pinned (OpenSpec.ofChange bidsWrong)

/-- 'yardlaw.Ticks': WHATEVER THE INPUT: true; the input reads as it did. -/
def ticksSpec : ChangeSpec := { name := "ticks", fn := fun _ => fun
  | [d1, d2] => { results := [.lit (.bool true)], args := [d1, d2] }
  | _ => none }
def ticksRow : OpenClaim := { program := "ytccfademkgjeiaa", sum := "3bb1af04a360d8adc0d5340b6273803d4fc977dabaa519fe1b64c21288183905", func := "yard/yardlaw.Ticks", spec := "ticks", apart := false }
def TicksSaid : Prop := ticksRow.holds Try.pinned (OpenSpec.ofChange ticksSpec)

/-- ITS FALSE NEIGHBOUR: 'it returns false'. Refute it at one input. -/
def ticksWrong : ChangeSpec := { name := "ticks", fn := fun _ => fun
  | [d1, d2] => { results := [.lit (.bool false)], args := [d1, d2] }
  | _ => none }
def TicksWrongFalsely : Prop := ticksRow.holds Try.pinned (OpenSpec.ofChange ticksWrong)

/-- 'yardlaw.Prices': WHATEVER THE INPUT: true; the input reads as it did. -/
def pricesSpec : ChangeSpec := { name := "prices", fn := fun _ => fun
  | [d1, d2] => { results := [.lit (.bool true)], args := [d1, d2] }
  | _ => none }
def pricesRow : OpenClaim := { program := "ytccfademkgjeiaa", sum := "3bb1af04a360d8adc0d5340b6273803d4fc977dabaa519fe1b64c21288183905", func := "yard/yardlaw.Prices", spec := "prices", apart := false }
def PricesSaid : Prop := pricesRow.holds Try.pinned (OpenSpec.ofChange pricesSpec)

/-- ITS FALSE NEIGHBOUR: 'it returns false'. Refute it at one input. -/
def pricesWrong : ChangeSpec := { name := "prices", fn := fun _ => fun
  | [d1, d2] => { results := [.lit (.bool false)], args := [d1, d2] }
  | _ => none }
def PricesWrongFalsely : Prop := pricesRow.holds Try.pinned (OpenSpec.ofChange pricesWrong)

/-- 'yardlaw.Bills': WHATEVER THE INPUT: true; the input reads as it did. -/
def billsSpec : ChangeSpec := { name := "bills", fn := fun _ => fun
  | [d1, d2] => { results := [.lit (.bool true)], args := [d1, d2] }
  | _ => none }
def billsRow : OpenClaim := { program := "ytccfademkgjeiaa", sum := "3bb1af04a360d8adc0d5340b6273803d4fc977dabaa519fe1b64c21288183905", func := "yard/yardlaw.Bills", spec := "bills", apart := false }
def BillsSaid : Prop := billsRow.holds Try.pinned (OpenSpec.ofChange billsSpec)

/-- ITS FALSE NEIGHBOUR: 'it returns false'. Refute it at one input. -/
def billsWrong : ChangeSpec := { name := "bills", fn := fun _ => fun
  | [d1, d2] => { results := [.lit (.bool false)], args := [d1, d2] }
  | _ => none }
def BillsWrongFalsely : Prop := billsRow.holds Try.pinned (OpenSpec.ofChange billsWrong)

/-- 'yardkeep.Sound': WHATEVER THE INPUT: true; the input reads as it did. -/
def soundSpec : ChangeSpec := { name := "sound", fn := fun _ => fun
  | [d] => { results := [.lit (.bool true)], args := [d] }
  | _ => none }
def soundRow : OpenClaim := { program := "ytccfademkgjeiaa", sum := "3bb1af04a360d8adc0d5340b6273803d4fc977dabaa519fe1b64c21288183905", func := "yard/yardkeep.Sound", spec := "sound", apart := false }
def SoundSaid : Prop := soundRow.holds Try.pinned (OpenSpec.ofChange soundSpec)

/-- ITS FALSE NEIGHBOUR: 'it returns false'. Refute it at one input. -/
def soundWrong : ChangeSpec := { name := "sound", fn := fun _ => fun
  | [d] => { results := [.lit (.bool false)], args := [d] }
  | _ => none }
def SoundWrongFalsely : Prop := soundRow.holds Try.pinned (OpenSpec.ofChange soundWrong)

/-- 'yardkeep.Packed': WHATEVER THE INPUT: true; the input reads as it did. -/
def packedSpec : ChangeSpec := { name := "packed", fn := fun _ => fun
  | [d] => { results := [.lit (.bool true)], args := [d] }
  | _ => none }
def packedRow : OpenClaim := { program := "ytccfademkgjeiaa", sum := "3bb1af04a360d8adc0d5340b6273803d4fc977dabaa519fe1b64c21288183905", func := "yard/yardkeep.Packed", spec := "packed", apart := false }
def PackedSaid : Prop := packedRow.holds Try.pinned (OpenSpec.ofChange packedSpec)

/-- ITS FALSE NEIGHBOUR: 'it returns false'. Refute it at one input. -/
def packedWrong : ChangeSpec := { name := "packed", fn := fun _ => fun
  | [d] => { results := [.lit (.bool false)], args := [d] }
  | _ => none }
def PackedWrongFalsely : Prop := packedRow.holds Try.pinned (OpenSpec.ofChange packedWrong)

/-- 'yardkeep.Truthful': WHATEVER THE INPUT: true; the input reads as it did. -/
def truthfulSpec : ChangeSpec := { name := "truthful", fn := fun _ => fun
  | [d1, d2, d3, d4, d5, d6] => { results := [.lit (.bool true)], args := [d1, d2, d3, d4, d5, d6] }
  | _ => none }
def truthfulRow : OpenClaim := { program := "ytccfademkgjeiaa", sum := "3bb1af04a360d8adc0d5340b6273803d4fc977dabaa519fe1b64c21288183905", func := "yard/yardkeep.Truthful", spec := "truthful", apart := false }
def TruthfulSaid : Prop := truthfulRow.holds Try.pinned (OpenSpec.ofChange truthfulSpec)

/-- ITS FALSE NEIGHBOUR: 'it returns false'. Refute it at one input. -/
def truthfulWrong : ChangeSpec := { name := "truthful", fn := fun _ => fun
  | [d1, d2, d3, d4, d5, d6] => { results := [.lit (.bool false)], args := [d1, d2, d3, d4, d5, d6] }
  | _ => none }
def TruthfulWrongFalsely : Prop := truthfulRow.holds Try.pinned (OpenSpec.ofChange truthfulWrong)

/- THE SECOND FORM. 'bulk': how many values and letters a reading holds, each counted each time it is reached (what is shared counts as often as it is met; a slice's spare places count too). A statement '..UptoSaid' is the law's where the arguments, and the package variables that the reading takes, are together of bulk at most 1048576: NARROWER than '..Said'. Prove '..Said' where nothing that the law and all that it calls make is longer than what came in: it says more and counts as full. Else prove '..UptoSaid'. A law counts once. -/
mutual
def uptoBulk {H : Type} : DataW H → Nat
  | .lit (.string bytes) => bytes.length + 1
  | .lit _ => 1
  | .nil => 1
  | .ptr d => uptoBulk d + 1
  | .slice elems spare => uptoBulkAll elems + uptoBulkAll spare + 1
  | .agg parts => uptoBulkAll parts + 1
  | .iface _ d => uptoBulk d + 1
  | .map entries => uptoBulkEntries entries + 1
  | .held _ => 1
def uptoBulkAll {H : Type} : List (DataW H) → Nat
  | [] => 0
  | d :: r => uptoBulk d + uptoBulkAll r
def uptoBulkEntries {H : Type} : List (Lit × DataW H) → Nat
  | [] => 0
  | x :: r => uptoBulkEntry x + uptoBulkEntries r
def uptoBulkEntry {H : Type} : Lit × DataW H → Nat
  | (.string bytes, d) => bytes.length + uptoBulk d + 1
  | (_, d) => uptoBulk d + 1
 end
def uptoSmall : (H : Type) → List (DataW H) → Bool := fun _ ds => decide (uptoBulkAll ds ≤ 1048576)
def OpenSpec.upto (s : _root_.Go.ChangeSpec) : _root_.Go.OpenSpec := { _root_.Go.OpenSpec.ofChange s with cond := some uptoSmall }

/-- 'yardlaw.Checks', WHERE WHAT IT READS IS OF BULK AT MOST 1048576: true; the input reads as it did. -/
def checksUptoRow : OpenClaim := { program := "ytccfademkgjeiaa", sum := "3bb1af04a360d8adc0d5340b6273803d4fc977dabaa519fe1b64c21288183905", func := "yard/yardlaw.Checks", spec := "checks", apart := false, narrowed := true }
def ChecksUptoSaid : Prop := checksUptoRow.holds Try.pinned (OpenSpec.upto checksSpec)

/-- 'yardlaw.Rows', WHERE WHAT IT READS IS OF BULK AT MOST 1048576: true; the input reads as it did. -/
def rowsUptoRow : OpenClaim := { program := "ytccfademkgjeiaa", sum := "3bb1af04a360d8adc0d5340b6273803d4fc977dabaa519fe1b64c21288183905", func := "yard/yardlaw.Rows", spec := "rows", apart := false, narrowed := true }
def RowsUptoSaid : Prop := rowsUptoRow.holds Try.pinned (OpenSpec.upto rowsSpec)

/-- 'yardkeep.Cells', WHERE WHAT IT READS IS OF BULK AT MOST 1048576: true; the input reads as it did. -/
def cellsUptoRow : OpenClaim := { program := "ytccfademkgjeiaa", sum := "3bb1af04a360d8adc0d5340b6273803d4fc977dabaa519fe1b64c21288183905", func := "yard/yardkeep.Cells", spec := "cells", apart := false, narrowed := true }
def CellsUptoSaid : Prop := cellsUptoRow.holds Try.pinned (OpenSpec.upto cellsSpec)

/-- 'yardlaw.Bids', WHERE WHAT IT READS IS OF BULK AT MOST 1048576: true; the input reads as it did. -/
def bidsUptoRow : OpenClaim := { program := "ytccfademkgjeiaa", sum := "3bb1af04a360d8adc0d5340b6273803d4fc977dabaa519fe1b64c21288183905", func := "yard/yardlaw.Bids", spec := "bids", apart := false, narrowed := true }
def BidsUptoSaid : Prop := bidsUptoRow.holds Try.pinned (OpenSpec.upto bidsSpec)

/-- 'yardlaw.Ticks', WHERE WHAT IT READS IS OF BULK AT MOST 1048576: true; the input reads as it did. -/
def ticksUptoRow : OpenClaim := { program := "ytccfademkgjeiaa", sum := "3bb1af04a360d8adc0d5340b6273803d4fc977dabaa519fe1b64c21288183905", func := "yard/yardlaw.Ticks", spec := "ticks", apart := false, narrowed := true }
def TicksUptoSaid : Prop := ticksUptoRow.holds Try.pinned (OpenSpec.upto ticksSpec)

/-- 'yardlaw.Prices', WHERE WHAT IT READS IS OF BULK AT MOST 1048576: true; the input reads as it did. -/
def pricesUptoRow : OpenClaim := { program := "ytccfademkgjeiaa", sum := "3bb1af04a360d8adc0d5340b6273803d4fc977dabaa519fe1b64c21288183905", func := "yard/yardlaw.Prices", spec := "prices", apart := false, narrowed := true }
def PricesUptoSaid : Prop := pricesUptoRow.holds Try.pinned (OpenSpec.upto pricesSpec)

/-- 'yardlaw.Bills', WHERE WHAT IT READS IS OF BULK AT MOST 1048576: true; the input reads as it did. -/
def billsUptoRow : OpenClaim := { program := "ytccfademkgjeiaa", sum := "3bb1af04a360d8adc0d5340b6273803d4fc977dabaa519fe1b64c21288183905", func := "yard/yardlaw.Bills", spec := "bills", apart := false, narrowed := true }
def BillsUptoSaid : Prop := billsUptoRow.holds Try.pinned (OpenSpec.upto billsSpec)

/-- 'yardkeep.Sound', WHERE WHAT IT READS IS OF BULK AT MOST 1048576: true; the input reads as it did. -/
def soundUptoRow : OpenClaim := { program := "ytccfademkgjeiaa", sum := "3bb1af04a360d8adc0d5340b6273803d4fc977dabaa519fe1b64c21288183905", func := "yard/yardkeep.Sound", spec := "sound", apart := false, narrowed := true }
def SoundUptoSaid : Prop := soundUptoRow.holds Try.pinned (OpenSpec.upto soundSpec)

/-- 'yardkeep.Packed', WHERE WHAT IT READS IS OF BULK AT MOST 1048576: true; the input reads as it did. -/
def packedUptoRow : OpenClaim := { program := "ytccfademkgjeiaa", sum := "3bb1af04a360d8adc0d5340b6273803d4fc977dabaa519fe1b64c21288183905", func := "yard/yardkeep.Packed", spec := "packed", apart := false, narrowed := true }
def PackedUptoSaid : Prop := packedUptoRow.holds Try.pinned (OpenSpec.upto packedSpec)

/-- 'yardkeep.Truthful', WHERE WHAT IT READS IS OF BULK AT MOST 1048576: true; the input reads as it did. -/
def truthfulUptoRow : OpenClaim := { program := "ytccfademkgjeiaa", sum := "3bb1af04a360d8adc0d5340b6273803d4fc977dabaa519fe1b64c21288183905", func := "yard/yardkeep.Truthful", spec := "truthful", apart := false, narrowed := true }
def TruthfulUptoSaid : Prop := truthfulUptoRow.holds Try.pinned (OpenSpec.upto truthfulSpec)

end Rows
end Go.Proofs.Ytccfademkgjeiaa
