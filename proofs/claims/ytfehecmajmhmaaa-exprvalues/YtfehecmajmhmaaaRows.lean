/-
  No cell of these rows narrows 'for every input' (looked for: loops, veiled, ifaces, maps, wideKeys, modest, calm, conditions, laid).
  DERIVED. THE GIVEN ROWS OF THIS SEAT. 4 by the template 'for every input the law returns true; each argument reads behind the call as it read before'; 0 by the template 'total and deterministic' (their statements: YtfehecmajmhmaaaTotals.lean).
  GIVEN WITH THE SEED: the statements are not yours to turn. If you find one false, say at which input.
  Laid BY PROGRAM, IN A SANDBOX (cutbox-rows.mjs): the forced cells as the released guide's own fill.sh prints them over the translation d724a7705e6fc4b3… (all of the seat's roots in one cut). By AI agents, Wed Nov 11 2026. No macro, syntax, notation, axiom, sorry.
-/
import Derived.Test.YtfehecmajmhmaaaChecked
import GoSem.Claim
import GoSem.ClaimJoined
import GoSem.ClaimMapViews
import Derived.JoinedTies
import Derived.KernelRfl
namespace Go.Proofs.Ytfehecmajmhmaaa
/- THE CELL 'sum', in the pinned program and in every row, IS THE sha256 OF THE DUMP (.gsa) THAT YtfehecmajmhmaaaProg.lean LOADS. Nothing in Lean hashes anything: it is a label: what it is worth is what the hold of that sum in a sandbox is worth. -/
noncomputable def Try.pinned : Pinned := { name := "ytfehecmajmhmaaa", sum := "d724a7705e6fc4b3facc3becc16f50c15fe56455cda3abcabeab6a1eb47e887d", checked := Try.checked }
namespace Rows
def none {H : Type} : Left H := { results := [], args := [] }

/-- 'steeplelaw16.ExprChecks': WHATEVER THE INPUT: true; the input reads as it did. -/
def exprChecksSpec : ChangeSpec := { name := "exprChecks", fn := fun _ => fun
  | [d1, d2, d3] => { results := [.lit (.bool true)], args := [d1, d2, d3] }
  | _ => none }
def exprChecksRow : OpenClaim := { program := "ytfehecmajmhmaaa", sum := "d724a7705e6fc4b3facc3becc16f50c15fe56455cda3abcabeab6a1eb47e887d", func := "steeple/steeplelaw16.ExprChecks", spec := "exprChecks", recurses := true, apart := false }
def ExprChecksSaid : Prop := exprChecksRow.holds Try.pinned (OpenSpec.ofChange exprChecksSpec)

/-- ITS FALSE NEIGHBOUR: 'it returns false'. Refute it at one input. -/
def exprChecksWrong : ChangeSpec := { name := "exprChecks", fn := fun _ => fun
  | [d1, d2, d3] => { results := [.lit (.bool false)], args := [d1, d2, d3] }
  | _ => none }
def ExprChecksWrongFalsely : Prop := exprChecksRow.holds Try.pinned (OpenSpec.ofChange exprChecksWrong)

/-- 'steeplelaw16.ExprValues': WHATEVER THE INPUT: true; the input reads as it did. -/
def exprValuesSpec : ChangeSpec := { name := "exprValues", fn := fun _ => fun
  | [d1, d2, d3] => { results := [.lit (.bool true)], args := [d1, d2, d3] }
  | _ => none }
def exprValuesRow : OpenClaim := { program := "ytfehecmajmhmaaa", sum := "d724a7705e6fc4b3facc3becc16f50c15fe56455cda3abcabeab6a1eb47e887d", func := "steeple/steeplelaw16.ExprValues", spec := "exprValues", recurses := true, apart := false }
def ExprValuesSaid : Prop := exprValuesRow.holds Try.pinned (OpenSpec.ofChange exprValuesSpec)

/-- ITS FALSE NEIGHBOUR: 'it returns false'. Refute it at one input. -/
def exprValuesWrong : ChangeSpec := { name := "exprValues", fn := fun _ => fun
  | [d1, d2, d3] => { results := [.lit (.bool false)], args := [d1, d2, d3] }
  | _ => none }
def ExprValuesWrongFalsely : Prop := exprValuesRow.holds Try.pinned (OpenSpec.ofChange exprValuesWrong)

/-- 'steeplelaw16.ExprTrees': WHATEVER THE INPUT: true; the input reads as it did. -/
def exprTreesSpec : ChangeSpec := { name := "exprTrees", fn := fun _ => fun
  | [d1, d2, d3] => { results := [.lit (.bool true)], args := [d1, d2, d3] }
  | _ => none }
def exprTreesRow : OpenClaim := { program := "ytfehecmajmhmaaa", sum := "d724a7705e6fc4b3facc3becc16f50c15fe56455cda3abcabeab6a1eb47e887d", func := "steeple/steeplelaw16.ExprTrees", spec := "exprTrees", recurses := true, apart := false }
def ExprTreesSaid : Prop := exprTreesRow.holds Try.pinned (OpenSpec.ofChange exprTreesSpec)

/-- ITS FALSE NEIGHBOUR: 'it returns false'. Refute it at one input. -/
def exprTreesWrong : ChangeSpec := { name := "exprTrees", fn := fun _ => fun
  | [d1, d2, d3] => { results := [.lit (.bool false)], args := [d1, d2, d3] }
  | _ => none }
def ExprTreesWrongFalsely : Prop := exprTreesRow.holds Try.pinned (OpenSpec.ofChange exprTreesWrong)

/-- 'steeplelaw16.ExprOdd': WHATEVER THE INPUT: true; the input reads as it did. -/
def exprOddSpec : ChangeSpec := { name := "exprOdd", fn := fun _ => fun
  | [d1, d2] => { results := [.lit (.bool true)], args := [d1, d2] }
  | _ => none }
def exprOddRow : OpenClaim := { program := "ytfehecmajmhmaaa", sum := "d724a7705e6fc4b3facc3becc16f50c15fe56455cda3abcabeab6a1eb47e887d", func := "steeple/steeplelaw16.ExprOdd", spec := "exprOdd", recurses := true, apart := false }
def ExprOddSaid : Prop := exprOddRow.holds Try.pinned (OpenSpec.ofChange exprOddSpec)

/-- ITS FALSE NEIGHBOUR: 'it returns false'. Refute it at one input. -/
def exprOddWrong : ChangeSpec := { name := "exprOdd", fn := fun _ => fun
  | [d1, d2] => { results := [.lit (.bool false)], args := [d1, d2] }
  | _ => none }
def ExprOddWrongFalsely : Prop := exprOddRow.holds Try.pinned (OpenSpec.ofChange exprOddWrong)

/- THE SECOND FORM. 'bulk': how many values and letters a reading holds, each counted each time it is reached (what is shared counts as often as it is met; a slice's spare places count too). A statement '..UptoSaid' is the law's where the arguments, and the package variables that the reading takes, are together of bulk at most 1048576: NARROWER than '..Said'. Prove '..Said' where nothing that the law and all that it calls make is longer than what came in: it says more and counts as full. Else prove '..UptoSaid'. A law counts once. -/
mutual
def uptoBulk {H : Type} : DataW H → Nat
  | .lit (.string bytes) => bytes.length + 1
  | .lit _ => 1
  | .nil => 1
  | .ptr d => uptoBulk d + 1
  | .slice elems spare => uptoBulkAll elems + uptoBulkAll spare + 1
  | .agg parts => uptoBulkAll parts + 1
  | .iface _ d => uptoBulk d + 1
  | .map entries => uptoBulkEntries entries + 1
  | .held _ => 1
def uptoBulkAll {H : Type} : List (DataW H) → Nat
  | [] => 0
  | d :: r => uptoBulk d + uptoBulkAll r
def uptoBulkEntries {H : Type} : List (Lit × DataW H) → Nat
  | [] => 0
  | x :: r => uptoBulkEntry x + uptoBulkEntries r
def uptoBulkEntry {H : Type} : Lit × DataW H → Nat
  | (.string bytes, d) => bytes.length + uptoBulk d + 1
  | (_, d) => uptoBulk d + 1
 end
def uptoSmall : (H : Type) → List (DataW H) → Bool := fun _ ds => decide (uptoBulkAll ds ≤ 1048576)
def OpenSpec.upto (s : _root_.Go.ChangeSpec) : _root_.Go.OpenSpec := { _root_.Go.OpenSpec.ofChange s with cond := some uptoSmall }

/-- 'steeplelaw16.ExprChecks', WHERE WHAT IT READS IS OF BULK AT MOST 1048576: true; the input reads as it did. -/
def exprChecksUptoRow : OpenClaim := { program := "ytfehecmajmhmaaa", sum := "d724a7705e6fc4b3facc3becc16f50c15fe56455cda3abcabeab6a1eb47e887d", func := "steeple/steeplelaw16.ExprChecks", spec := "exprChecks", recurses := true, apart := false, narrowed := true }
def ExprChecksUptoSaid : Prop := exprChecksUptoRow.holds Try.pinned (OpenSpec.upto exprChecksSpec)

/-- 'steeplelaw16.ExprValues', WHERE WHAT IT READS IS OF BULK AT MOST 1048576: true; the input reads as it did. -/
def exprValuesUptoRow : OpenClaim := { program := "ytfehecmajmhmaaa", sum := "d724a7705e6fc4b3facc3becc16f50c15fe56455cda3abcabeab6a1eb47e887d", func := "steeple/steeplelaw16.ExprValues", spec := "exprValues", recurses := true, apart := false, narrowed := true }
def ExprValuesUptoSaid : Prop := exprValuesUptoRow.holds Try.pinned (OpenSpec.upto exprValuesSpec)

/-- 'steeplelaw16.ExprTrees', WHERE WHAT IT READS IS OF BULK AT MOST 1048576: true; the input reads as it did. -/
def exprTreesUptoRow : OpenClaim := { program := "ytfehecmajmhmaaa", sum := "d724a7705e6fc4b3facc3becc16f50c15fe56455cda3abcabeab6a1eb47e887d", func := "steeple/steeplelaw16.ExprTrees", spec := "exprTrees", recurses := true, apart := false, narrowed := true }
def ExprTreesUptoSaid : Prop := exprTreesUptoRow.holds Try.pinned (OpenSpec.upto exprTreesSpec)

/-- 'steeplelaw16.ExprOdd', WHERE WHAT IT READS IS OF BULK AT MOST 1048576: true; the input reads as it did. -/
def exprOddUptoRow : OpenClaim := { program := "ytfehecmajmhmaaa", sum := "d724a7705e6fc4b3facc3becc16f50c15fe56455cda3abcabeab6a1eb47e887d", func := "steeple/steeplelaw16.ExprOdd", spec := "exprOdd", recurses := true, apart := false, narrowed := true }
def ExprOddUptoSaid : Prop := exprOddUptoRow.holds Try.pinned (OpenSpec.upto exprOddSpec)

end Rows
end Go.Proofs.Ytfehecmajmhmaaa
