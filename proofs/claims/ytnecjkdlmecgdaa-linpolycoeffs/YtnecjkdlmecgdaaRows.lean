/-
  No cell of these rows narrows 'for every input' (looked for: loops, veiled, ifaces, maps, wideKeys, modest, calm, conditions, laid).
  DERIVED. THE GIVEN ROWS OF THIS SEAT. 6 by the template 'for every input the law returns true; each argument reads behind the call as it read before'; 0 by the template 'total and deterministic' (their statements: YtnecjkdlmecgdaaTotals.lean).
  GIVEN WITH THE SEED: the statements are not yours to turn. If you find one false, say at which input.
  Laid BY PROGRAM, IN A SANDBOX (cutbox-rows.mjs): the forced cells as the released guide's own fill.sh prints them over the translation fd5b3aa2a867a0c7… (all of the seat's roots in one cut). By AI agents, Wed Nov 11 2026. No macro, syntax, notation, axiom, sorry.
-/
import Derived.Test.YtnecjkdlmecgdaaChecked
import GoSem.Claim
import GoSem.ClaimJoined
import GoSem.ClaimMapViews
import Derived.JoinedTies
import Derived.KernelRfl
namespace Go.Proofs.Ytnecjkdlmecgdaa
/- THE CELL 'sum', in the pinned program and in every row, IS THE sha256 OF THE DUMP (.gsa) THAT YtnecjkdlmecgdaaProg.lean LOADS. Nothing in Lean hashes anything: it is a label: what it is worth is what the hold of that sum in a sandbox is worth. -/
noncomputable def Try.pinned : Pinned := { name := "ytnecjkdlmecgdaa", sum := "fd5b3aa2a867a0c7f05517cbce369f57a88fe096d1ae70c35c4a9ec20b36c38b", checked := Try.checked }
namespace Rows
def none {H : Type} : Left H := { results := [], args := [] }

/-- 'steeplelaw05.LinpolyMakes': WHATEVER THE INPUT: true; the input reads as it did. -/
def linpolyMakesSpec : ChangeSpec := { name := "linpolyMakes", fn := fun _ => fun
  | [d1, d2, d3] => { results := [.lit (.bool true)], args := [d1, d2, d3] }
  | _ => none }
def linpolyMakesRow : OpenClaim := { program := "ytnecjkdlmecgdaa", sum := "fd5b3aa2a867a0c7f05517cbce369f57a88fe096d1ae70c35c4a9ec20b36c38b", func := "steeple/steeplelaw05.LinpolyMakes", spec := "linpolyMakes", recurses := true, apart := false }
def LinpolyMakesSaid : Prop := linpolyMakesRow.holds Try.pinned (OpenSpec.ofChange linpolyMakesSpec)

/-- ITS FALSE NEIGHBOUR: 'it returns false'. Refute it at one input. -/
def linpolyMakesWrong : ChangeSpec := { name := "linpolyMakes", fn := fun _ => fun
  | [d1, d2, d3] => { results := [.lit (.bool false)], args := [d1, d2, d3] }
  | _ => none }
def LinpolyMakesWrongFalsely : Prop := linpolyMakesRow.holds Try.pinned (OpenSpec.ofChange linpolyMakesWrong)

/-- 'steeplelaw05.LinpolyValues': WHATEVER THE INPUT: true; the input reads as it did. -/
def linpolyValuesSpec : ChangeSpec := { name := "linpolyValues", fn := fun _ => fun
  | [d1, d2, d3] => { results := [.lit (.bool true)], args := [d1, d2, d3] }
  | _ => none }
def linpolyValuesRow : OpenClaim := { program := "ytnecjkdlmecgdaa", sum := "fd5b3aa2a867a0c7f05517cbce369f57a88fe096d1ae70c35c4a9ec20b36c38b", func := "steeple/steeplelaw05.LinpolyValues", spec := "linpolyValues", recurses := true, apart := false }
def LinpolyValuesSaid : Prop := linpolyValuesRow.holds Try.pinned (OpenSpec.ofChange linpolyValuesSpec)

/-- ITS FALSE NEIGHBOUR: 'it returns false'. Refute it at one input. -/
def linpolyValuesWrong : ChangeSpec := { name := "linpolyValues", fn := fun _ => fun
  | [d1, d2, d3] => { results := [.lit (.bool false)], args := [d1, d2, d3] }
  | _ => none }
def LinpolyValuesWrongFalsely : Prop := linpolyValuesRow.holds Try.pinned (OpenSpec.ofChange linpolyValuesWrong)

/-- 'steeplelaw05.LinpolyCoeffs': WHATEVER THE INPUT: true; the input reads as it did. -/
def linpolyCoeffsSpec : ChangeSpec := { name := "linpolyCoeffs", fn := fun _ => fun
  | [d1, d2, d3] => { results := [.lit (.bool true)], args := [d1, d2, d3] }
  | _ => none }
def linpolyCoeffsRow : OpenClaim := { program := "ytnecjkdlmecgdaa", sum := "fd5b3aa2a867a0c7f05517cbce369f57a88fe096d1ae70c35c4a9ec20b36c38b", func := "steeple/steeplelaw05.LinpolyCoeffs", spec := "linpolyCoeffs", recurses := true, apart := false }
def LinpolyCoeffsSaid : Prop := linpolyCoeffsRow.holds Try.pinned (OpenSpec.ofChange linpolyCoeffsSpec)

/-- ITS FALSE NEIGHBOUR: 'it returns false'. Refute it at one input. -/
def linpolyCoeffsWrong : ChangeSpec := { name := "linpolyCoeffs", fn := fun _ => fun
  | [d1, d2, d3] => { results := [.lit (.bool false)], args := [d1, d2, d3] }
  | _ => none }
def LinpolyCoeffsWrongFalsely : Prop := linpolyCoeffsRow.holds Try.pinned (OpenSpec.ofChange linpolyCoeffsWrong)

/-- 'steeplelaw05.LinpolyZeros': WHATEVER THE INPUT: true; the input reads as it did. -/
def linpolyZerosSpec : ChangeSpec := { name := "linpolyZeros", fn := fun _ => fun
  | [d1, d2, d3] => { results := [.lit (.bool true)], args := [d1, d2, d3] }
  | _ => none }
def linpolyZerosRow : OpenClaim := { program := "ytnecjkdlmecgdaa", sum := "fd5b3aa2a867a0c7f05517cbce369f57a88fe096d1ae70c35c4a9ec20b36c38b", func := "steeple/steeplelaw05.LinpolyZeros", spec := "linpolyZeros", recurses := true, apart := false }
def LinpolyZerosSaid : Prop := linpolyZerosRow.holds Try.pinned (OpenSpec.ofChange linpolyZerosSpec)

/-- ITS FALSE NEIGHBOUR: 'it returns false'. Refute it at one input. -/
def linpolyZerosWrong : ChangeSpec := { name := "linpolyZeros", fn := fun _ => fun
  | [d1, d2, d3] => { results := [.lit (.bool false)], args := [d1, d2, d3] }
  | _ => none }
def LinpolyZerosWrongFalsely : Prop := linpolyZerosRow.holds Try.pinned (OpenSpec.ofChange linpolyZerosWrong)

/-- 'steeplelaw06.NovelValues': WHATEVER THE INPUT: true; the input reads as it did. -/
def novelValuesSpec : ChangeSpec := { name := "novelValues", fn := fun _ => fun
  | [d1, d2] => { results := [.lit (.bool true)], args := [d1, d2] }
  | _ => none }
def novelValuesRow : OpenClaim := { program := "ytnecjkdlmecgdaa", sum := "fd5b3aa2a867a0c7f05517cbce369f57a88fe096d1ae70c35c4a9ec20b36c38b", func := "steeple/steeplelaw06.NovelValues", spec := "novelValues", recurses := true, apart := false }
def NovelValuesSaid : Prop := novelValuesRow.holds Try.pinned (OpenSpec.ofChange novelValuesSpec)

/-- ITS FALSE NEIGHBOUR: 'it returns false'. Refute it at one input. -/
def novelValuesWrong : ChangeSpec := { name := "novelValues", fn := fun _ => fun
  | [d1, d2] => { results := [.lit (.bool false)], args := [d1, d2] }
  | _ => none }
def NovelValuesWrongFalsely : Prop := novelValuesRow.holds Try.pinned (OpenSpec.ofChange novelValuesWrong)

/-- 'steeplelaw06.NovelErrs': WHATEVER THE INPUT: true; the input reads as it did. -/
def novelErrsSpec : ChangeSpec := { name := "novelErrs", fn := fun _ => fun
  | [d] => { results := [.lit (.bool true)], args := [d] }
  | _ => none }
def novelErrsRow : OpenClaim := { program := "ytnecjkdlmecgdaa", sum := "fd5b3aa2a867a0c7f05517cbce369f57a88fe096d1ae70c35c4a9ec20b36c38b", func := "steeple/steeplelaw06.NovelErrs", spec := "novelErrs", recurses := true, apart := false }
def NovelErrsSaid : Prop := novelErrsRow.holds Try.pinned (OpenSpec.ofChange novelErrsSpec)

/-- ITS FALSE NEIGHBOUR: 'it returns false'. Refute it at one input. -/
def novelErrsWrong : ChangeSpec := { name := "novelErrs", fn := fun _ => fun
  | [d] => { results := [.lit (.bool false)], args := [d] }
  | _ => none }
def NovelErrsWrongFalsely : Prop := novelErrsRow.holds Try.pinned (OpenSpec.ofChange novelErrsWrong)

/- THE SECOND FORM. 'bulk': how many values and letters a reading holds, each counted each time it is reached (what is shared counts as often as it is met; a slice's spare places count too). A statement '..UptoSaid' is the law's where the arguments, and the package variables that the reading takes, are together of bulk at most 1048576: NARROWER than '..Said'. Prove '..Said' where nothing that the law and all that it calls make is longer than what came in: it says more and counts as full. Else prove '..UptoSaid'. A law counts once. -/
mutual
def uptoBulk {H : Type} : DataW H → Nat
  | .lit (.string bytes) => bytes.length + 1
  | .lit _ => 1
  | .nil => 1
  | .ptr d => uptoBulk d + 1
  | .slice elems spare => uptoBulkAll elems + uptoBulkAll spare + 1
  | .agg parts => uptoBulkAll parts + 1
  | .iface _ d => uptoBulk d + 1
  | .map entries => uptoBulkEntries entries + 1
  | .held _ => 1
def uptoBulkAll {H : Type} : List (DataW H) → Nat
  | [] => 0
  | d :: r => uptoBulk d + uptoBulkAll r
def uptoBulkEntries {H : Type} : List (Lit × DataW H) → Nat
  | [] => 0
  | x :: r => uptoBulkEntry x + uptoBulkEntries r
def uptoBulkEntry {H : Type} : Lit × DataW H → Nat
  | (.string bytes, d) => bytes.length + uptoBulk d + 1
  | (_, d) => uptoBulk d + 1
 end
def uptoSmall : (H : Type) → List (DataW H) → Bool := fun _ ds => decide (uptoBulkAll ds ≤ 1048576)
def OpenSpec.upto (s : _root_.Go.ChangeSpec) : _root_.Go.OpenSpec := { _root_.Go.OpenSpec.ofChange s with cond := some uptoSmall }

/-- 'steeplelaw05.LinpolyMakes', WHERE WHAT IT READS IS OF BULK AT MOST 1048576: true; the input reads as it did. -/
def linpolyMakesUptoRow : OpenClaim := { program := "ytnecjkdlmecgdaa", sum := "fd5b3aa2a867a0c7f05517cbce369f57a88fe096d1ae70c35c4a9ec20b36c38b", func := "steeple/steeplelaw05.LinpolyMakes", spec := "linpolyMakes", recurses := true, apart := false, narrowed := true }
def LinpolyMakesUptoSaid : Prop := linpolyMakesUptoRow.holds Try.pinned (OpenSpec.upto linpolyMakesSpec)

/-- 'steeplelaw05.LinpolyValues', WHERE WHAT IT READS IS OF BULK AT MOST 1048576: true; the input reads as it did. -/
def linpolyValuesUptoRow : OpenClaim := { program := "ytnecjkdlmecgdaa", sum := "fd5b3aa2a867a0c7f05517cbce369f57a88fe096d1ae70c35c4a9ec20b36c38b", func := "steeple/steeplelaw05.LinpolyValues", spec := "linpolyValues", recurses := true, apart := false, narrowed := true }
def LinpolyValuesUptoSaid : Prop := linpolyValuesUptoRow.holds Try.pinned (OpenSpec.upto linpolyValuesSpec)

/-- 'steeplelaw05.LinpolyCoeffs', WHERE WHAT IT READS IS OF BULK AT MOST 1048576: true; the input reads as it did. -/
def linpolyCoeffsUptoRow : OpenClaim := { program := "ytnecjkdlmecgdaa", sum := "fd5b3aa2a867a0c7f05517cbce369f57a88fe096d1ae70c35c4a9ec20b36c38b", func := "steeple/steeplelaw05.LinpolyCoeffs", spec := "linpolyCoeffs", recurses := true, apart := false, narrowed := true }
def LinpolyCoeffsUptoSaid : Prop := linpolyCoeffsUptoRow.holds Try.pinned (OpenSpec.upto linpolyCoeffsSpec)

/-- 'steeplelaw05.LinpolyZeros', WHERE WHAT IT READS IS OF BULK AT MOST 1048576: true; the input reads as it did. -/
def linpolyZerosUptoRow : OpenClaim := { program := "ytnecjkdlmecgdaa", sum := "fd5b3aa2a867a0c7f05517cbce369f57a88fe096d1ae70c35c4a9ec20b36c38b", func := "steeple/steeplelaw05.LinpolyZeros", spec := "linpolyZeros", recurses := true, apart := false, narrowed := true }
def LinpolyZerosUptoSaid : Prop := linpolyZerosUptoRow.holds Try.pinned (OpenSpec.upto linpolyZerosSpec)

/-- 'steeplelaw06.NovelValues', WHERE WHAT IT READS IS OF BULK AT MOST 1048576: true; the input reads as it did. -/
def novelValuesUptoRow : OpenClaim := { program := "ytnecjkdlmecgdaa", sum := "fd5b3aa2a867a0c7f05517cbce369f57a88fe096d1ae70c35c4a9ec20b36c38b", func := "steeple/steeplelaw06.NovelValues", spec := "novelValues", recurses := true, apart := false, narrowed := true }
def NovelValuesUptoSaid : Prop := novelValuesUptoRow.holds Try.pinned (OpenSpec.upto novelValuesSpec)

/-- 'steeplelaw06.NovelErrs', WHERE WHAT IT READS IS OF BULK AT MOST 1048576: true; the input reads as it did. -/
def novelErrsUptoRow : OpenClaim := { program := "ytnecjkdlmecgdaa", sum := "fd5b3aa2a867a0c7f05517cbce369f57a88fe096d1ae70c35c4a9ec20b36c38b", func := "steeple/steeplelaw06.NovelErrs", spec := "novelErrs", recurses := true, apart := false, narrowed := true }
def NovelErrsUptoSaid : Prop := novelErrsUptoRow.holds Try.pinned (OpenSpec.upto novelErrsSpec)

end Rows
end Go.Proofs.Ytnecjkdlmecgdaa
