/-
  No cell of these rows narrows 'for every input' (looked for: loops, veiled, ifaces, maps, wideKeys, modest, calm, conditions, laid).
  DERIVED. THE GIVEN ROWS OF THIS SEAT. 5 by the template 'for every input the law returns true; each argument reads behind the call as it read before'; 0 by the template 'total and deterministic' (their statements: YtfhojakhoobnhaaTotals.lean).
  GIVEN WITH THE SEED: the statements are not yours to turn. If you find one false, say at which input.
  Laid BY PROGRAM, IN A SANDBOX (cutbox-rows.mjs): the forced cells as the released guide's own fill.sh prints them over the translation 0d5eef31011901f4… (all of the seat's roots in one cut). By AI agents, Wed Nov 11 2026. No macro, syntax, notation, axiom, sorry.
-/
import Derived.Test.YtfhojakhoobnhaaChecked
import GoSem.Claim
import GoSem.ClaimJoined
import GoSem.ClaimMapViews
import Derived.JoinedTies
import Derived.KernelRfl
namespace Go.Proofs.Ytfhojakhoobnhaa
/- THE CELL 'sum', in the pinned program and in every row, IS THE sha256 OF THE DUMP (.gsa) THAT YtfhojakhoobnhaaProg.lean LOADS. Nothing in Lean hashes anything: it is a label: what it is worth is what the hold of that sum in a sandbox is worth. -/
noncomputable def Try.pinned : Pinned := { name := "ytfhojakhoobnhaa", sum := "0d5eef31011901f407194c5f2da5568926429d1aecafc974027456635f59536b", checked := Try.checked }
namespace Rows
def none {H : Type} : Left H := { results := [], args := [] }

/-- 'steeplelaw20.SumcheckVerifies': WHATEVER THE INPUT: true; the input reads as it did. -/
def sumcheckVerifiesSpec : ChangeSpec := { name := "sumcheckVerifies", fn := fun _ => fun
  | [d1, d2, d3] => { results := [.lit (.bool true)], args := [d1, d2, d3] }
  | _ => none }
def sumcheckVerifiesRow : OpenClaim := { program := "ytfhojakhoobnhaa", sum := "0d5eef31011901f407194c5f2da5568926429d1aecafc974027456635f59536b", func := "steeple/steeplelaw20.SumcheckVerifies", spec := "sumcheckVerifies", recurses := true, apart := false }
def SumcheckVerifiesSaid : Prop := sumcheckVerifiesRow.holds Try.pinned (OpenSpec.ofChange sumcheckVerifiesSpec)

/-- ITS FALSE NEIGHBOUR: 'it returns false'. Refute it at one input. -/
def sumcheckVerifiesWrong : ChangeSpec := { name := "sumcheckVerifies", fn := fun _ => fun
  | [d1, d2, d3] => { results := [.lit (.bool false)], args := [d1, d2, d3] }
  | _ => none }
def SumcheckVerifiesWrongFalsely : Prop := sumcheckVerifiesRow.holds Try.pinned (OpenSpec.ofChange sumcheckVerifiesWrong)

/-- 'steeplelaw20.SumcheckProves': WHATEVER THE INPUT: true; the input reads as it did. -/
def sumcheckProvesSpec : ChangeSpec := { name := "sumcheckProves", fn := fun _ => fun
  | [d1, d2, d3] => { results := [.lit (.bool true)], args := [d1, d2, d3] }
  | _ => none }
def sumcheckProvesRow : OpenClaim := { program := "ytfhojakhoobnhaa", sum := "0d5eef31011901f407194c5f2da5568926429d1aecafc974027456635f59536b", func := "steeple/steeplelaw20.SumcheckProves", spec := "sumcheckProves", recurses := true, apart := false }
def SumcheckProvesSaid : Prop := sumcheckProvesRow.holds Try.pinned (OpenSpec.ofChange sumcheckProvesSpec)

/-- ITS FALSE NEIGHBOUR: 'it returns false'. Refute it at one input. -/
def sumcheckProvesWrong : ChangeSpec := { name := "sumcheckProves", fn := fun _ => fun
  | [d1, d2, d3] => { results := [.lit (.bool false)], args := [d1, d2, d3] }
  | _ => none }
def SumcheckProvesWrongFalsely : Prop := sumcheckProvesRow.holds Try.pinned (OpenSpec.ofChange sumcheckProvesWrong)

/-- 'steeplelaw20.SumcheckCounts': WHATEVER THE INPUT: true; the input reads as it did. -/
def sumcheckCountsSpec : ChangeSpec := { name := "sumcheckCounts", fn := fun _ => fun
  | [d1, d2, d3] => { results := [.lit (.bool true)], args := [d1, d2, d3] }
  | _ => none }
def sumcheckCountsRow : OpenClaim := { program := "ytfhojakhoobnhaa", sum := "0d5eef31011901f407194c5f2da5568926429d1aecafc974027456635f59536b", func := "steeple/steeplelaw20.SumcheckCounts", spec := "sumcheckCounts", recurses := true, apart := false }
def SumcheckCountsSaid : Prop := sumcheckCountsRow.holds Try.pinned (OpenSpec.ofChange sumcheckCountsSpec)

/-- ITS FALSE NEIGHBOUR: 'it returns false'. Refute it at one input. -/
def sumcheckCountsWrong : ChangeSpec := { name := "sumcheckCounts", fn := fun _ => fun
  | [d1, d2, d3] => { results := [.lit (.bool false)], args := [d1, d2, d3] }
  | _ => none }
def SumcheckCountsWrongFalsely : Prop := sumcheckCountsRow.holds Try.pinned (OpenSpec.ofChange sumcheckCountsWrong)

/-- 'steeplelaw20.SumcheckSplits': WHATEVER THE INPUT: true; the input reads as it did. -/
def sumcheckSplitsSpec : ChangeSpec := { name := "sumcheckSplits", fn := fun _ => fun
  | [d1, d2, d3] => { results := [.lit (.bool true)], args := [d1, d2, d3] }
  | _ => none }
def sumcheckSplitsRow : OpenClaim := { program := "ytfhojakhoobnhaa", sum := "0d5eef31011901f407194c5f2da5568926429d1aecafc974027456635f59536b", func := "steeple/steeplelaw20.SumcheckSplits", spec := "sumcheckSplits", recurses := true, apart := false }
def SumcheckSplitsSaid : Prop := sumcheckSplitsRow.holds Try.pinned (OpenSpec.ofChange sumcheckSplitsSpec)

/-- ITS FALSE NEIGHBOUR: 'it returns false'. Refute it at one input. -/
def sumcheckSplitsWrong : ChangeSpec := { name := "sumcheckSplits", fn := fun _ => fun
  | [d1, d2, d3] => { results := [.lit (.bool false)], args := [d1, d2, d3] }
  | _ => none }
def SumcheckSplitsWrongFalsely : Prop := sumcheckSplitsRow.holds Try.pinned (OpenSpec.ofChange sumcheckSplitsWrong)

/-- 'steeplelaw21.ZeroMixes': WHATEVER THE INPUT: true; the input reads as it did. -/
def zeroMixesSpec : ChangeSpec := { name := "zeroMixes", fn := fun _ => fun
  | [d1, d2, d3] => { results := [.lit (.bool true)], args := [d1, d2, d3] }
  | _ => none }
def zeroMixesRow : OpenClaim := { program := "ytfhojakhoobnhaa", sum := "0d5eef31011901f407194c5f2da5568926429d1aecafc974027456635f59536b", func := "steeple/steeplelaw21.ZeroMixes", spec := "zeroMixes", recurses := true, apart := false }
def ZeroMixesSaid : Prop := zeroMixesRow.holds Try.pinned (OpenSpec.ofChange zeroMixesSpec)

/-- ITS FALSE NEIGHBOUR: 'it returns false'. Refute it at one input. -/
def zeroMixesWrong : ChangeSpec := { name := "zeroMixes", fn := fun _ => fun
  | [d1, d2, d3] => { results := [.lit (.bool false)], args := [d1, d2, d3] }
  | _ => none }
def ZeroMixesWrongFalsely : Prop := zeroMixesRow.holds Try.pinned (OpenSpec.ofChange zeroMixesWrong)

/- THE SECOND FORM. 'bulk': how many values and letters a reading holds, each counted each time it is reached (what is shared counts as often as it is met; a slice's spare places count too). A statement '..UptoSaid' is the law's where the arguments, and the package variables that the reading takes, are together of bulk at most 1048576: NARROWER than '..Said'. Prove '..Said' where nothing that the law and all that it calls make is longer than what came in: it says more and counts as full. Else prove '..UptoSaid'. A law counts once. -/
mutual
def uptoBulk {H : Type} : DataW H → Nat
  | .lit (.string bytes) => bytes.length + 1
  | .lit _ => 1
  | .nil => 1
  | .ptr d => uptoBulk d + 1
  | .slice elems spare => uptoBulkAll elems + uptoBulkAll spare + 1
  | .agg parts => uptoBulkAll parts + 1
  | .iface _ d => uptoBulk d + 1
  | .map entries => uptoBulkEntries entries + 1
  | .held _ => 1
def uptoBulkAll {H : Type} : List (DataW H) → Nat
  | [] => 0
  | d :: r => uptoBulk d + uptoBulkAll r
def uptoBulkEntries {H : Type} : List (Lit × DataW H) → Nat
  | [] => 0
  | x :: r => uptoBulkEntry x + uptoBulkEntries r
def uptoBulkEntry {H : Type} : Lit × DataW H → Nat
  | (.string bytes, d) => bytes.length + uptoBulk d + 1
  | (_, d) => uptoBulk d + 1
 end
def uptoSmall : (H : Type) → List (DataW H) → Bool := fun _ ds => decide (uptoBulkAll ds ≤ 1048576)
def OpenSpec.upto (s : _root_.Go.ChangeSpec) : _root_.Go.OpenSpec := { _root_.Go.OpenSpec.ofChange s with cond := some uptoSmall }

/-- 'steeplelaw20.SumcheckVerifies', WHERE WHAT IT READS IS OF BULK AT MOST 1048576: true; the input reads as it did. -/
def sumcheckVerifiesUptoRow : OpenClaim := { program := "ytfhojakhoobnhaa", sum := "0d5eef31011901f407194c5f2da5568926429d1aecafc974027456635f59536b", func := "steeple/steeplelaw20.SumcheckVerifies", spec := "sumcheckVerifies", recurses := true, apart := false, narrowed := true }
def SumcheckVerifiesUptoSaid : Prop := sumcheckVerifiesUptoRow.holds Try.pinned (OpenSpec.upto sumcheckVerifiesSpec)

/-- 'steeplelaw20.SumcheckProves', WHERE WHAT IT READS IS OF BULK AT MOST 1048576: true; the input reads as it did. -/
def sumcheckProvesUptoRow : OpenClaim := { program := "ytfhojakhoobnhaa", sum := "0d5eef31011901f407194c5f2da5568926429d1aecafc974027456635f59536b", func := "steeple/steeplelaw20.SumcheckProves", spec := "sumcheckProves", recurses := true, apart := false, narrowed := true }
def SumcheckProvesUptoSaid : Prop := sumcheckProvesUptoRow.holds Try.pinned (OpenSpec.upto sumcheckProvesSpec)

/-- 'steeplelaw20.SumcheckCounts', WHERE WHAT IT READS IS OF BULK AT MOST 1048576: true; the input reads as it did. -/
def sumcheckCountsUptoRow : OpenClaim := { program := "ytfhojakhoobnhaa", sum := "0d5eef31011901f407194c5f2da5568926429d1aecafc974027456635f59536b", func := "steeple/steeplelaw20.SumcheckCounts", spec := "sumcheckCounts", recurses := true, apart := false, narrowed := true }
def SumcheckCountsUptoSaid : Prop := sumcheckCountsUptoRow.holds Try.pinned (OpenSpec.upto sumcheckCountsSpec)

/-- 'steeplelaw20.SumcheckSplits', WHERE WHAT IT READS IS OF BULK AT MOST 1048576: true; the input reads as it did. -/
def sumcheckSplitsUptoRow : OpenClaim := { program := "ytfhojakhoobnhaa", sum := "0d5eef31011901f407194c5f2da5568926429d1aecafc974027456635f59536b", func := "steeple/steeplelaw20.SumcheckSplits", spec := "sumcheckSplits", recurses := true, apart := false, narrowed := true }
def SumcheckSplitsUptoSaid : Prop := sumcheckSplitsUptoRow.holds Try.pinned (OpenSpec.upto sumcheckSplitsSpec)

/-- 'steeplelaw21.ZeroMixes', WHERE WHAT IT READS IS OF BULK AT MOST 1048576: true; the input reads as it did. -/
def zeroMixesUptoRow : OpenClaim := { program := "ytfhojakhoobnhaa", sum := "0d5eef31011901f407194c5f2da5568926429d1aecafc974027456635f59536b", func := "steeple/steeplelaw21.ZeroMixes", spec := "zeroMixes", recurses := true, apart := false, narrowed := true }
def ZeroMixesUptoSaid : Prop := zeroMixesUptoRow.holds Try.pinned (OpenSpec.upto zeroMixesSpec)

end Rows
end Go.Proofs.Ytfhojakhoobnhaa
