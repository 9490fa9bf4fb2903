/-
  No cell of these rows narrows 'for every input' (looked for: loops, veiled, ifaces, maps, wideKeys, modest, calm, conditions, laid).
  DERIVED. THE GIVEN ROWS OF THIS SEAT. 5 by the template 'for every input the law returns true; each argument reads behind the call as it read before'; 0 by the template 'total and deterministic' (their statements: YtbomgcmmfeahiaaTotals.lean).
  GIVEN WITH THE SEED: the statements are not yours to turn. If you find one false, say at which input.
  Laid BY PROGRAM, IN A SANDBOX (cutbox-rows.mjs): the forced cells as the released guide's own fill.sh prints them over the translation 534224b080eda17c… (all of the seat's roots in one cut). By AI agents, Wed Nov 11 2026. No macro, syntax, notation, axiom, sorry.
-/
import Derived.Test.YtbomgcmmfeahiaaChecked
import GoSem.Claim
import GoSem.ClaimJoined
import GoSem.ClaimMapViews
import Derived.JoinedTies
import Derived.KernelRfl
namespace Go.Proofs.Ytbomgcmmfeahiaa
/- THE CELL 'sum', in the pinned program and in every row, IS THE sha256 OF THE DUMP (.gsa) THAT YtbomgcmmfeahiaaProg.lean LOADS. Nothing in Lean hashes anything: it is a label: what it is worth is what the hold of that sum in a sandbox is worth. -/
noncomputable def Try.pinned : Pinned := { name := "ytbomgcmmfeahiaa", sum := "534224b080eda17c5e03f75b93e157ed2baca340237ce129797ee1a265d4bdef", checked := Try.checked }
namespace Rows
def none {H : Type} : Left H := { results := [], args := [] }

/-- 'steeplelaw23.RingParts': WHATEVER THE INPUT: true; the input reads as it did. -/
def ringPartsSpec : ChangeSpec := { name := "ringParts", fn := fun _ => fun
  | [d1, d2] => { results := [.lit (.bool true)], args := [d1, d2] }
  | _ => none }
def ringPartsRow : OpenClaim := { program := "ytbomgcmmfeahiaa", sum := "534224b080eda17c5e03f75b93e157ed2baca340237ce129797ee1a265d4bdef", func := "steeple/steeplelaw23.RingParts", spec := "ringParts", recurses := true, apart := false }
def RingPartsSaid : Prop := ringPartsRow.holds Try.pinned (OpenSpec.ofChange ringPartsSpec)

/-- ITS FALSE NEIGHBOUR: 'it returns false'. Refute it at one input. -/
def ringPartsWrong : ChangeSpec := { name := "ringParts", fn := fun _ => fun
  | [d1, d2] => { results := [.lit (.bool false)], args := [d1, d2] }
  | _ => none }
def RingPartsWrongFalsely : Prop := ringPartsRow.holds Try.pinned (OpenSpec.ofChange ringPartsWrong)

/-- 'steeplelaw23.RingBatches': WHATEVER THE INPUT: true; the input reads as it did. -/
def ringBatchesSpec : ChangeSpec := { name := "ringBatches", fn := fun _ => fun
  | [d1, d2, d3] => { results := [.lit (.bool true)], args := [d1, d2, d3] }
  | _ => none }
def ringBatchesRow : OpenClaim := { program := "ytbomgcmmfeahiaa", sum := "534224b080eda17c5e03f75b93e157ed2baca340237ce129797ee1a265d4bdef", func := "steeple/steeplelaw23.RingBatches", spec := "ringBatches", recurses := true, apart := false }
def RingBatchesSaid : Prop := ringBatchesRow.holds Try.pinned (OpenSpec.ofChange ringBatchesSpec)

/-- ITS FALSE NEIGHBOUR: 'it returns false'. Refute it at one input. -/
def ringBatchesWrong : ChangeSpec := { name := "ringBatches", fn := fun _ => fun
  | [d1, d2, d3] => { results := [.lit (.bool false)], args := [d1, d2, d3] }
  | _ => none }
def RingBatchesWrongFalsely : Prop := ringBatchesRow.holds Try.pinned (OpenSpec.ofChange ringBatchesWrong)

/-- 'steeplelaw23.RingMasks': WHATEVER THE INPUT: true; the input reads as it did. -/
def ringMasksSpec : ChangeSpec := { name := "ringMasks", fn := fun _ => fun
  | [d1, d2, d3] => { results := [.lit (.bool true)], args := [d1, d2, d3] }
  | _ => none }
def ringMasksRow : OpenClaim := { program := "ytbomgcmmfeahiaa", sum := "534224b080eda17c5e03f75b93e157ed2baca340237ce129797ee1a265d4bdef", func := "steeple/steeplelaw23.RingMasks", spec := "ringMasks", recurses := true, apart := false }
def RingMasksSaid : Prop := ringMasksRow.holds Try.pinned (OpenSpec.ofChange ringMasksSpec)

/-- ITS FALSE NEIGHBOUR: 'it returns false'. Refute it at one input. -/
def ringMasksWrong : ChangeSpec := { name := "ringMasks", fn := fun _ => fun
  | [d1, d2, d3] => { results := [.lit (.bool false)], args := [d1, d2, d3] }
  | _ => none }
def RingMasksWrongFalsely : Prop := ringMasksRow.holds Try.pinned (OpenSpec.ofChange ringMasksWrong)

/-- 'steeplelaw23.RingSwitches': WHATEVER THE INPUT: true; the input reads as it did. -/
def ringSwitchesSpec : ChangeSpec := { name := "ringSwitches", fn := fun _ => fun
  | [d1, d2, d3] => { results := [.lit (.bool true)], args := [d1, d2, d3] }
  | _ => none }
def ringSwitchesRow : OpenClaim := { program := "ytbomgcmmfeahiaa", sum := "534224b080eda17c5e03f75b93e157ed2baca340237ce129797ee1a265d4bdef", func := "steeple/steeplelaw23.RingSwitches", spec := "ringSwitches", recurses := true, apart := false }
def RingSwitchesSaid : Prop := ringSwitchesRow.holds Try.pinned (OpenSpec.ofChange ringSwitchesSpec)

/-- ITS FALSE NEIGHBOUR: 'it returns false'. Refute it at one input. -/
def ringSwitchesWrong : ChangeSpec := { name := "ringSwitches", fn := fun _ => fun
  | [d1, d2, d3] => { results := [.lit (.bool false)], args := [d1, d2, d3] }
  | _ => none }
def RingSwitchesWrongFalsely : Prop := ringSwitchesRow.holds Try.pinned (OpenSpec.ofChange ringSwitchesWrong)

/-- 'steeplelaw23.RingCounts': WHATEVER THE INPUT: true; the input reads as it did. -/
def ringCountsSpec : ChangeSpec := { name := "ringCounts", fn := fun _ => fun
  | [d1, d2, d3] => { results := [.lit (.bool true)], args := [d1, d2, d3] }
  | _ => none }
def ringCountsRow : OpenClaim := { program := "ytbomgcmmfeahiaa", sum := "534224b080eda17c5e03f75b93e157ed2baca340237ce129797ee1a265d4bdef", func := "steeple/steeplelaw23.RingCounts", spec := "ringCounts", recurses := true, apart := false }
def RingCountsSaid : Prop := ringCountsRow.holds Try.pinned (OpenSpec.ofChange ringCountsSpec)

/-- ITS FALSE NEIGHBOUR: 'it returns false'. Refute it at one input. -/
def ringCountsWrong : ChangeSpec := { name := "ringCounts", fn := fun _ => fun
  | [d1, d2, d3] => { results := [.lit (.bool false)], args := [d1, d2, d3] }
  | _ => none }
def RingCountsWrongFalsely : Prop := ringCountsRow.holds Try.pinned (OpenSpec.ofChange ringCountsWrong)

/- THE SECOND FORM. 'bulk': how many values and letters a reading holds, each counted each time it is reached (what is shared counts as often as it is met; a slice's spare places count too). A statement '..UptoSaid' is the law's where the arguments, and the package variables that the reading takes, are together of bulk at most 1048576: NARROWER than '..Said'. Prove '..Said' where nothing that the law and all that it calls make is longer than what came in: it says more and counts as full. Else prove '..UptoSaid'. A law counts once. -/
mutual
def uptoBulk {H : Type} : DataW H → Nat
  | .lit (.string bytes) => bytes.length + 1
  | .lit _ => 1
  | .nil => 1
  | .ptr d => uptoBulk d + 1
  | .slice elems spare => uptoBulkAll elems + uptoBulkAll spare + 1
  | .agg parts => uptoBulkAll parts + 1
  | .iface _ d => uptoBulk d + 1
  | .map entries => uptoBulkEntries entries + 1
  | .held _ => 1
def uptoBulkAll {H : Type} : List (DataW H) → Nat
  | [] => 0
  | d :: r => uptoBulk d + uptoBulkAll r
def uptoBulkEntries {H : Type} : List (Lit × DataW H) → Nat
  | [] => 0
  | x :: r => uptoBulkEntry x + uptoBulkEntries r
def uptoBulkEntry {H : Type} : Lit × DataW H → Nat
  | (.string bytes, d) => bytes.length + uptoBulk d + 1
  | (_, d) => uptoBulk d + 1
 end
def uptoSmall : (H : Type) → List (DataW H) → Bool := fun _ ds => decide (uptoBulkAll ds ≤ 1048576)
def OpenSpec.upto (s : _root_.Go.ChangeSpec) : _root_.Go.OpenSpec := { _root_.Go.OpenSpec.ofChange s with cond := some uptoSmall }

/-- 'steeplelaw23.RingParts', WHERE WHAT IT READS IS OF BULK AT MOST 1048576: true; the input reads as it did. -/
def ringPartsUptoRow : OpenClaim := { program := "ytbomgcmmfeahiaa", sum := "534224b080eda17c5e03f75b93e157ed2baca340237ce129797ee1a265d4bdef", func := "steeple/steeplelaw23.RingParts", spec := "ringParts", recurses := true, apart := false, narrowed := true }
def RingPartsUptoSaid : Prop := ringPartsUptoRow.holds Try.pinned (OpenSpec.upto ringPartsSpec)

/-- 'steeplelaw23.RingBatches', WHERE WHAT IT READS IS OF BULK AT MOST 1048576: true; the input reads as it did. -/
def ringBatchesUptoRow : OpenClaim := { program := "ytbomgcmmfeahiaa", sum := "534224b080eda17c5e03f75b93e157ed2baca340237ce129797ee1a265d4bdef", func := "steeple/steeplelaw23.RingBatches", spec := "ringBatches", recurses := true, apart := false, narrowed := true }
def RingBatchesUptoSaid : Prop := ringBatchesUptoRow.holds Try.pinned (OpenSpec.upto ringBatchesSpec)

/-- 'steeplelaw23.RingMasks', WHERE WHAT IT READS IS OF BULK AT MOST 1048576: true; the input reads as it did. -/
def ringMasksUptoRow : OpenClaim := { program := "ytbomgcmmfeahiaa", sum := "534224b080eda17c5e03f75b93e157ed2baca340237ce129797ee1a265d4bdef", func := "steeple/steeplelaw23.RingMasks", spec := "ringMasks", recurses := true, apart := false, narrowed := true }
def RingMasksUptoSaid : Prop := ringMasksUptoRow.holds Try.pinned (OpenSpec.upto ringMasksSpec)

/-- 'steeplelaw23.RingSwitches', WHERE WHAT IT READS IS OF BULK AT MOST 1048576: true; the input reads as it did. -/
def ringSwitchesUptoRow : OpenClaim := { program := "ytbomgcmmfeahiaa", sum := "534224b080eda17c5e03f75b93e157ed2baca340237ce129797ee1a265d4bdef", func := "steeple/steeplelaw23.RingSwitches", spec := "ringSwitches", recurses := true, apart := false, narrowed := true }
def RingSwitchesUptoSaid : Prop := ringSwitchesUptoRow.holds Try.pinned (OpenSpec.upto ringSwitchesSpec)

/-- 'steeplelaw23.RingCounts', WHERE WHAT IT READS IS OF BULK AT MOST 1048576: true; the input reads as it did. -/
def ringCountsUptoRow : OpenClaim := { program := "ytbomgcmmfeahiaa", sum := "534224b080eda17c5e03f75b93e157ed2baca340237ce129797ee1a265d4bdef", func := "steeple/steeplelaw23.RingCounts", spec := "ringCounts", recurses := true, apart := false, narrowed := true }
def RingCountsUptoSaid : Prop := ringCountsUptoRow.holds Try.pinned (OpenSpec.upto ringCountsSpec)

end Rows
end Go.Proofs.Ytbomgcmmfeahiaa
