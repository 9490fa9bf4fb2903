/-
  No cell of these rows narrows 'for every input' (looked for: loops, veiled, ifaces, maps, wideKeys, modest, calm, conditions, laid).
  DERIVED. THE GIVEN ROWS OF THIS SEAT. 4 by the template 'for every input the law returns true; each argument reads behind the call as it read before'; 0 by the template 'total and deterministic' (their statements: YtflkchhdgiojgaaTotals.lean).
  GIVEN WITH THE SEED: the statements are not yours to turn. If you find one false, say at which input.
  Laid BY PROGRAM, IN A SANDBOX (cutbox-rows.mjs): the forced cells as the released guide's own fill.sh prints them over the translation 90b43560a3e3606a… (all of the seat's roots in one cut). By AI agents, Wed Nov 11 2026. No macro, syntax, notation, axiom, sorry.
-/
import Derived.Test.YtflkchhdgiojgaaChecked
import GoSem.Claim
import GoSem.ClaimJoined
import GoSem.ClaimMapViews
import Derived.JoinedTies
import Derived.KernelRfl
namespace Go.Proofs.Ytflkchhdgiojgaa
/- THE CELL 'sum', in the pinned program and in every row, IS THE sha256 OF THE DUMP (.gsa) THAT YtflkchhdgiojgaaProg.lean LOADS. Nothing in Lean hashes anything: it is a label: what it is worth is what the hold of that sum in a sandbox is worth. -/
noncomputable def Try.pinned : Pinned := { name := "ytflkchhdgiojgaa", sum := "90b43560a3e3606ad852a8e3cd72c918b62514b781c6c1045e9c972fe4398581", checked := Try.checked }
namespace Rows
def none {H : Type} : Left H := { results := [], args := [] }

/-- 'steeplelaw09.WeaveCuts': WHATEVER THE INPUT: true; the input reads as it did. -/
def weaveCutsSpec : ChangeSpec := { name := "weaveCuts", fn := fun _ => fun
  | [d1, d2] => { results := [.lit (.bool true)], args := [d1, d2] }
  | _ => none }
def weaveCutsRow : OpenClaim := { program := "ytflkchhdgiojgaa", sum := "90b43560a3e3606ad852a8e3cd72c918b62514b781c6c1045e9c972fe4398581", func := "steeple/steeplelaw09.WeaveCuts", spec := "weaveCuts", recurses := true, apart := false }
def WeaveCutsSaid : Prop := weaveCutsRow.holds Try.pinned (OpenSpec.ofChange weaveCutsSpec)

/-- ITS FALSE NEIGHBOUR: 'it returns false'. Refute it at one input. -/
def weaveCutsWrong : ChangeSpec := { name := "weaveCuts", fn := fun _ => fun
  | [d1, d2] => { results := [.lit (.bool false)], args := [d1, d2] }
  | _ => none }
def WeaveCutsWrongFalsely : Prop := weaveCutsRow.holds Try.pinned (OpenSpec.ofChange weaveCutsWrong)

/-- 'steeplelaw09.WeaveColumns': WHATEVER THE INPUT: true; the input reads as it did. -/
def weaveColumnsSpec : ChangeSpec := { name := "weaveColumns", fn := fun _ => fun
  | [d1, d2, d3] => { results := [.lit (.bool true)], args := [d1, d2, d3] }
  | _ => none }
def weaveColumnsRow : OpenClaim := { program := "ytflkchhdgiojgaa", sum := "90b43560a3e3606ad852a8e3cd72c918b62514b781c6c1045e9c972fe4398581", func := "steeple/steeplelaw09.WeaveColumns", spec := "weaveColumns", recurses := true, apart := false }
def WeaveColumnsSaid : Prop := weaveColumnsRow.holds Try.pinned (OpenSpec.ofChange weaveColumnsSpec)

/-- ITS FALSE NEIGHBOUR: 'it returns false'. Refute it at one input. -/
def weaveColumnsWrong : ChangeSpec := { name := "weaveColumns", fn := fun _ => fun
  | [d1, d2, d3] => { results := [.lit (.bool false)], args := [d1, d2, d3] }
  | _ => none }
def WeaveColumnsWrongFalsely : Prop := weaveColumnsRow.holds Try.pinned (OpenSpec.ofChange weaveColumnsWrong)

/-- 'steeplelaw09.WeaveGathers': WHATEVER THE INPUT: true; the input reads as it did. -/
def weaveGathersSpec : ChangeSpec := { name := "weaveGathers", fn := fun _ => fun
  | [d1, d2, d3] => { results := [.lit (.bool true)], args := [d1, d2, d3] }
  | _ => none }
def weaveGathersRow : OpenClaim := { program := "ytflkchhdgiojgaa", sum := "90b43560a3e3606ad852a8e3cd72c918b62514b781c6c1045e9c972fe4398581", func := "steeple/steeplelaw09.WeaveGathers", spec := "weaveGathers", recurses := true, apart := false }
def WeaveGathersSaid : Prop := weaveGathersRow.holds Try.pinned (OpenSpec.ofChange weaveGathersSpec)

/-- ITS FALSE NEIGHBOUR: 'it returns false'. Refute it at one input. -/
def weaveGathersWrong : ChangeSpec := { name := "weaveGathers", fn := fun _ => fun
  | [d1, d2, d3] => { results := [.lit (.bool false)], args := [d1, d2, d3] }
  | _ => none }
def WeaveGathersWrongFalsely : Prop := weaveGathersRow.holds Try.pinned (OpenSpec.ofChange weaveGathersWrong)

/-- 'steeplelaw09.WeaveBits': WHATEVER THE INPUT: true; the input reads as it did. -/
def weaveBitsSpec : ChangeSpec := { name := "weaveBits", fn := fun _ => fun
  | [d1, d2] => { results := [.lit (.bool true)], args := [d1, d2] }
  | _ => none }
def weaveBitsRow : OpenClaim := { program := "ytflkchhdgiojgaa", sum := "90b43560a3e3606ad852a8e3cd72c918b62514b781c6c1045e9c972fe4398581", func := "steeple/steeplelaw09.WeaveBits", spec := "weaveBits", recurses := true, apart := false }
def WeaveBitsSaid : Prop := weaveBitsRow.holds Try.pinned (OpenSpec.ofChange weaveBitsSpec)

/-- ITS FALSE NEIGHBOUR: 'it returns false'. Refute it at one input. -/
def weaveBitsWrong : ChangeSpec := { name := "weaveBits", fn := fun _ => fun
  | [d1, d2] => { results := [.lit (.bool false)], args := [d1, d2] }
  | _ => none }
def WeaveBitsWrongFalsely : Prop := weaveBitsRow.holds Try.pinned (OpenSpec.ofChange weaveBitsWrong)

/- THE SECOND FORM. 'bulk': how many values and letters a reading holds, each counted each time it is reached (what is shared counts as often as it is met; a slice's spare places count too). A statement '..UptoSaid' is the law's where the arguments, and the package variables that the reading takes, are together of bulk at most 1048576: NARROWER than '..Said'. Prove '..Said' where nothing that the law and all that it calls make is longer than what came in: it says more and counts as full. Else prove '..UptoSaid'. A law counts once. -/
mutual
def uptoBulk {H : Type} : DataW H → Nat
  | .lit (.string bytes) => bytes.length + 1
  | .lit _ => 1
  | .nil => 1
  | .ptr d => uptoBulk d + 1
  | .slice elems spare => uptoBulkAll elems + uptoBulkAll spare + 1
  | .agg parts => uptoBulkAll parts + 1
  | .iface _ d => uptoBulk d + 1
  | .map entries => uptoBulkEntries entries + 1
  | .held _ => 1
def uptoBulkAll {H : Type} : List (DataW H) → Nat
  | [] => 0
  | d :: r => uptoBulk d + uptoBulkAll r
def uptoBulkEntries {H : Type} : List (Lit × DataW H) → Nat
  | [] => 0
  | x :: r => uptoBulkEntry x + uptoBulkEntries r
def uptoBulkEntry {H : Type} : Lit × DataW H → Nat
  | (.string bytes, d) => bytes.length + uptoBulk d + 1
  | (_, d) => uptoBulk d + 1
 end
def uptoSmall : (H : Type) → List (DataW H) → Bool := fun _ ds => decide (uptoBulkAll ds ≤ 1048576)
def OpenSpec.upto (s : _root_.Go.ChangeSpec) : _root_.Go.OpenSpec := { _root_.Go.OpenSpec.ofChange s with cond := some uptoSmall }

/-- 'steeplelaw09.WeaveCuts', WHERE WHAT IT READS IS OF BULK AT MOST 1048576: true; the input reads as it did. -/
def weaveCutsUptoRow : OpenClaim := { program := "ytflkchhdgiojgaa", sum := "90b43560a3e3606ad852a8e3cd72c918b62514b781c6c1045e9c972fe4398581", func := "steeple/steeplelaw09.WeaveCuts", spec := "weaveCuts", recurses := true, apart := false, narrowed := true }
def WeaveCutsUptoSaid : Prop := weaveCutsUptoRow.holds Try.pinned (OpenSpec.upto weaveCutsSpec)

/-- 'steeplelaw09.WeaveColumns', WHERE WHAT IT READS IS OF BULK AT MOST 1048576: true; the input reads as it did. -/
def weaveColumnsUptoRow : OpenClaim := { program := "ytflkchhdgiojgaa", sum := "90b43560a3e3606ad852a8e3cd72c918b62514b781c6c1045e9c972fe4398581", func := "steeple/steeplelaw09.WeaveColumns", spec := "weaveColumns", recurses := true, apart := false, narrowed := true }
def WeaveColumnsUptoSaid : Prop := weaveColumnsUptoRow.holds Try.pinned (OpenSpec.upto weaveColumnsSpec)

/-- 'steeplelaw09.WeaveGathers', WHERE WHAT IT READS IS OF BULK AT MOST 1048576: true; the input reads as it did. -/
def weaveGathersUptoRow : OpenClaim := { program := "ytflkchhdgiojgaa", sum := "90b43560a3e3606ad852a8e3cd72c918b62514b781c6c1045e9c972fe4398581", func := "steeple/steeplelaw09.WeaveGathers", spec := "weaveGathers", recurses := true, apart := false, narrowed := true }
def WeaveGathersUptoSaid : Prop := weaveGathersUptoRow.holds Try.pinned (OpenSpec.upto weaveGathersSpec)

/-- 'steeplelaw09.WeaveBits', WHERE WHAT IT READS IS OF BULK AT MOST 1048576: true; the input reads as it did. -/
def weaveBitsUptoRow : OpenClaim := { program := "ytflkchhdgiojgaa", sum := "90b43560a3e3606ad852a8e3cd72c918b62514b781c6c1045e9c972fe4398581", func := "steeple/steeplelaw09.WeaveBits", spec := "weaveBits", recurses := true, apart := false, narrowed := true }
def WeaveBitsUptoSaid : Prop := weaveBitsUptoRow.holds Try.pinned (OpenSpec.upto weaveBitsSpec)

end Rows
end Go.Proofs.Ytflkchhdgiojgaa
