/-
  No cell of these rows narrows 'for every input' (looked for: loops, veiled, ifaces, maps, wideKeys, modest, calm, conditions, laid).
  DERIVED. THE GIVEN ROWS OF THIS SEAT. 6 by the template 'for every input the law returns true; each argument reads behind the call as it read before'; 0 by the template 'total and deterministic' (their statements: YtminceigjejipaaGreatTotals.lean).
  GIVEN WITH THE SEED: the statements are not yours to turn. If you find one false, say at which input.
  Laid BY PROGRAM, IN A SANDBOX (cutbox-rows.mjs): the forced cells as the released guide's own fill.sh prints them over the translation 598b621baa503625… (all of the seat's roots in one cut). By AI agents, Wed Nov 11 2026. No macro, syntax, notation, axiom, sorry.
-/
import Derived.Test.YtminceigjejipaaGreatChecked
import GoSem.Claim
import GoSem.ClaimJoined
import GoSem.ClaimMapViews
import Derived.JoinedTies
import Derived.KernelRfl
namespace Go.Proofs.YtminceigjejipaaGreat
/- THE CELL 'sum', in the pinned program and in every row, IS THE sha256 OF THE DUMP (.gsa) THAT YtminceigjejipaaGreatProg.lean LOADS. Nothing in Lean hashes anything: it is a label: what it is worth is what the hold of that sum in a sandbox is worth. -/
noncomputable def Tryz.pinned : Pinned := { name := "ytminceigjejipaagreat", sum := "598b621baa5036259d27cddcf863dba7bc1e43db61cf152850a3c98ef356c818", checked := Tryz.checked }
namespace Rows
def none {H : Type} : Left H := { results := [], args := [] }

/-- 'yardlaw.Checks': WHATEVER THE INPUT: true; the input reads as it did. -/
def checksSpec : ChangeSpec := { name := "checks", fn := fun _ => fun
  | [d1, d2] => { results := [.lit (.bool true)], args := [d1, d2] }
  | _ => none }
def checksRow : OpenClaim := { program := "ytminceigjejipaagreat", sum := "598b621baa5036259d27cddcf863dba7bc1e43db61cf152850a3c98ef356c818", func := "yard/yardlaw.Checks", spec := "checks", apart := false }
def ChecksSaid : Prop := checksRow.holds Tryz.pinned (OpenSpec.ofChange checksSpec)

/-- ITS FALSE NEIGHBOUR: 'it returns false'. Refute it at one input. -/
def checksWrong : ChangeSpec := { name := "checks", fn := fun _ => fun
  | [d1, d2] => { results := [.lit (.bool false)], args := [d1, d2] }
  | _ => none }
def ChecksWrongFalsely : Prop := checksRow.holds Tryz.pinned (OpenSpec.ofChange checksWrong)

/-- 'yardlaw.Rows': WHATEVER THE INPUT: true; the input reads as it did. -/
def rowsSpec : ChangeSpec := { name := "rows", fn := fun _ => fun
  | [d1, d2] => { results := [.lit (.bool true)], args := [d1, d2] }
  | _ => none }
def rowsRow : OpenClaim := { program := "ytminceigjejipaagreat", sum := "598b621baa5036259d27cddcf863dba7bc1e43db61cf152850a3c98ef356c818", func := "yard/yardlaw.Rows", spec := "rows", apart := false }
def RowsSaid : Prop := rowsRow.holds Tryz.pinned (OpenSpec.ofChange rowsSpec)

/-- ITS FALSE NEIGHBOUR: 'it returns false'. Refute it at one input. -/
def rowsWrong : ChangeSpec := { name := "rows", fn := fun _ => fun
  | [d1, d2] => { results := [.lit (.bool false)], args := [d1, d2] }
  | _ => none }
def RowsWrongFalsely : Prop := rowsRow.holds Tryz.pinned (OpenSpec.ofChange rowsWrong)

/-- 'yardlaw.Bids': WHATEVER THE INPUT: true; the input reads as it did. -/
def bidsSpec : ChangeSpec := { name := "bids", fn := fun _ => fun
  | [d1, d2] => { results := [.lit (.bool true)], args := [d1, d2] }
  | _ => none }
def bidsRow : OpenClaim := { program := "ytminceigjejipaagreat", sum := "598b621baa5036259d27cddcf863dba7bc1e43db61cf152850a3c98ef356c818", func := "yard/yardlaw.Bids", spec := "bids", apart := false }
def BidsSaid : Prop := bidsRow.holds Tryz.pinned (OpenSpec.ofChange bidsSpec)

/-- ITS FALSE NEIGHBOUR: 'it returns false'. Refute it at one input. -/
def bidsWrong : ChangeSpec := { name := "bids", fn := fun _ => fun
  | [d1, d2] => { results := [.lit (.bool false)], args := [d1, d2] }
  | _ => none }
def BidsWrongFalsely : Prop := bidsRow.holds Tryz.pinned (OpenSpec.ofChange bidsWrong)

/-- 'yardlaw.Ticks': WHATEVER THE INPUT: true; the input reads as it did. -/
def ticksSpec : ChangeSpec := { name := "ticks", fn := fun _ => fun
  | [d1, d2] => { results := [.lit (.bool true)], args := [d1, d2] }
  | _ => none }
def ticksRow : OpenClaim := { program := "ytminceigjejipaagreat", sum := "598b621baa5036259d27cddcf863dba7bc1e43db61cf152850a3c98ef356c818", func := "yard/yardlaw.Ticks", spec := "ticks", apart := false }
def TicksSaid : Prop := ticksRow.holds Tryz.pinned (OpenSpec.ofChange ticksSpec)

/-- ITS FALSE NEIGHBOUR: 'it returns false'. Refute it at one input. -/
def ticksWrong : ChangeSpec := { name := "ticks", fn := fun _ => fun
  | [d1, d2] => { results := [.lit (.bool false)], args := [d1, d2] }
  | _ => none }
def TicksWrongFalsely : Prop := ticksRow.holds Tryz.pinned (OpenSpec.ofChange ticksWrong)

/-- 'yardlaw.Prices': WHATEVER THE INPUT: true; the input reads as it did. -/
def pricesSpec : ChangeSpec := { name := "prices", fn := fun _ => fun
  | [d1, d2] => { results := [.lit (.bool true)], args := [d1, d2] }
  | _ => none }
def pricesRow : OpenClaim := { program := "ytminceigjejipaagreat", sum := "598b621baa5036259d27cddcf863dba7bc1e43db61cf152850a3c98ef356c818", func := "yard/yardlaw.Prices", spec := "prices", apart := false }
def PricesSaid : Prop := pricesRow.holds Tryz.pinned (OpenSpec.ofChange pricesSpec)

/-- ITS FALSE NEIGHBOUR: 'it returns false'. Refute it at one input. -/
def pricesWrong : ChangeSpec := { name := "prices", fn := fun _ => fun
  | [d1, d2] => { results := [.lit (.bool false)], args := [d1, d2] }
  | _ => none }
def PricesWrongFalsely : Prop := pricesRow.holds Tryz.pinned (OpenSpec.ofChange pricesWrong)

/-- 'yardlaw.Bills': WHATEVER THE INPUT: true; the input reads as it did. -/
def billsSpec : ChangeSpec := { name := "bills", fn := fun _ => fun
  | [d1, d2] => { results := [.lit (.bool true)], args := [d1, d2] }
  | _ => none }
def billsRow : OpenClaim := { program := "ytminceigjejipaagreat", sum := "598b621baa5036259d27cddcf863dba7bc1e43db61cf152850a3c98ef356c818", func := "yard/yardlaw.Bills", spec := "bills", apart := false }
def BillsSaid : Prop := billsRow.holds Tryz.pinned (OpenSpec.ofChange billsSpec)

/-- ITS FALSE NEIGHBOUR: 'it returns false'. Refute it at one input. -/
def billsWrong : ChangeSpec := { name := "bills", fn := fun _ => fun
  | [d1, d2] => { results := [.lit (.bool false)], args := [d1, d2] }
  | _ => none }
def BillsWrongFalsely : Prop := billsRow.holds Tryz.pinned (OpenSpec.ofChange billsWrong)

/- THE SECOND FORM. 'bulk': how many values and letters a reading holds, each counted each time it is reached (what is shared counts as often as it is met; a slice's spare places count too). A statement '..UptoSaid' is the law's where the arguments, and the package variables that the reading takes, are together of bulk at most 1048576: NARROWER than '..Said'. Prove '..Said' where nothing that the law and all that it calls make is longer than what came in: it says more and counts as full. Else prove '..UptoSaid'. A law counts once. -/
mutual
def uptoBulk {H : Type} : DataW H → Nat
  | .lit (.string bytes) => bytes.length + 1
  | .lit _ => 1
  | .nil => 1
  | .ptr d => uptoBulk d + 1
  | .slice elems spare => uptoBulkAll elems + uptoBulkAll spare + 1
  | .agg parts => uptoBulkAll parts + 1
  | .iface _ d => uptoBulk d + 1
  | .map entries => uptoBulkEntries entries + 1
  | .held _ => 1
def uptoBulkAll {H : Type} : List (DataW H) → Nat
  | [] => 0
  | d :: r => uptoBulk d + uptoBulkAll r
def uptoBulkEntries {H : Type} : List (Lit × DataW H) → Nat
  | [] => 0
  | x :: r => uptoBulkEntry x + uptoBulkEntries r
def uptoBulkEntry {H : Type} : Lit × DataW H → Nat
  | (.string bytes, d) => bytes.length + uptoBulk d + 1
  | (_, d) => uptoBulk d + 1
 end
def uptoSmall : (H : Type) → List (DataW H) → Bool := fun _ ds => decide (uptoBulkAll ds ≤ 1048576)
def OpenSpec.upto (s : _root_.Go.ChangeSpec) : _root_.Go.OpenSpec := { _root_.Go.OpenSpec.ofChange s with cond := some uptoSmall }

/-- 'yardlaw.Checks', WHERE WHAT IT READS IS OF BULK AT MOST 1048576: true; the input reads as it did. -/
def checksUptoRow : OpenClaim := { program := "ytminceigjejipaagreat", sum := "598b621baa5036259d27cddcf863dba7bc1e43db61cf152850a3c98ef356c818", func := "yard/yardlaw.Checks", spec := "checks", apart := false, narrowed := true }
def ChecksUptoSaid : Prop := checksUptoRow.holds Tryz.pinned (OpenSpec.upto checksSpec)

/-- 'yardlaw.Rows', WHERE WHAT IT READS IS OF BULK AT MOST 1048576: true; the input reads as it did. -/
def rowsUptoRow : OpenClaim := { program := "ytminceigjejipaagreat", sum := "598b621baa5036259d27cddcf863dba7bc1e43db61cf152850a3c98ef356c818", func := "yard/yardlaw.Rows", spec := "rows", apart := false, narrowed := true }
def RowsUptoSaid : Prop := rowsUptoRow.holds Tryz.pinned (OpenSpec.upto rowsSpec)

/-- 'yardlaw.Bids', WHERE WHAT IT READS IS OF BULK AT MOST 1048576: true; the input reads as it did. -/
def bidsUptoRow : OpenClaim := { program := "ytminceigjejipaagreat", sum := "598b621baa5036259d27cddcf863dba7bc1e43db61cf152850a3c98ef356c818", func := "yard/yardlaw.Bids", spec := "bids", apart := false, narrowed := true }
def BidsUptoSaid : Prop := bidsUptoRow.holds Tryz.pinned (OpenSpec.upto bidsSpec)

/-- 'yardlaw.Ticks', WHERE WHAT IT READS IS OF BULK AT MOST 1048576: true; the input reads as it did. -/
def ticksUptoRow : OpenClaim := { program := "ytminceigjejipaagreat", sum := "598b621baa5036259d27cddcf863dba7bc1e43db61cf152850a3c98ef356c818", func := "yard/yardlaw.Ticks", spec := "ticks", apart := false, narrowed := true }
def TicksUptoSaid : Prop := ticksUptoRow.holds Tryz.pinned (OpenSpec.upto ticksSpec)

/-- 'yardlaw.Prices', WHERE WHAT IT READS IS OF BULK AT MOST 1048576: true; the input reads as it did. -/
def pricesUptoRow : OpenClaim := { program := "ytminceigjejipaagreat", sum := "598b621baa5036259d27cddcf863dba7bc1e43db61cf152850a3c98ef356c818", func := "yard/yardlaw.Prices", spec := "prices", apart := false, narrowed := true }
def PricesUptoSaid : Prop := pricesUptoRow.holds Tryz.pinned (OpenSpec.upto pricesSpec)

/-- 'yardlaw.Bills', WHERE WHAT IT READS IS OF BULK AT MOST 1048576: true; the input reads as it did. -/
def billsUptoRow : OpenClaim := { program := "ytminceigjejipaagreat", sum := "598b621baa5036259d27cddcf863dba7bc1e43db61cf152850a3c98ef356c818", func := "yard/yardlaw.Bills", spec := "bills", apart := false, narrowed := true }
def BillsUptoSaid : Prop := billsUptoRow.holds Tryz.pinned (OpenSpec.upto billsSpec)

end Rows
end Go.Proofs.YtminceigjejipaaGreat
