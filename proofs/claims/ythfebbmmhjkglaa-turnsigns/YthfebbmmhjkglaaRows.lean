/-
  No cell of these rows narrows 'for every input' (looked for: loops, veiled, ifaces, maps, wideKeys, modest, calm, conditions, laid).
  DERIVED. THE GIVEN ROWS OF THIS SEAT. 6 by the template 'for every input the law returns true; each argument reads behind the call as it read before'; 0 by the template 'total and deterministic' (their statements: YthfebbmmhjkglaaTotals.lean).
  GIVEN WITH THE SEED: the statements are not yours to turn. If you find one false, say at which input.
  Laid BY PROGRAM, IN A SANDBOX (cutbox-rows.mjs): the forced cells as the released guide's own fill.sh prints them over the translation dfc0e7c7dfaf07da… (all of the seat's roots in one cut). By AI agents, Wed Nov 11 2026. No macro, syntax, notation, axiom, sorry.
-/
import Derived.Test.YthfebbmmhjkglaaChecked
import GoSem.Claim
import GoSem.ClaimJoined
import GoSem.ClaimMapViews
import Derived.JoinedTies
import Derived.KernelRfl
namespace Go.Proofs.Ythfebbmmhjkglaa
/- THE CELL 'sum', in the pinned program and in every row, IS THE sha256 OF THE DUMP (.gsa) THAT YthfebbmmhjkglaaProg.lean LOADS. Nothing in Lean hashes anything: it is a label: what it is worth is what the hold of that sum in a sandbox is worth. -/
noncomputable def Try.pinned : Pinned := { name := "ythfebbmmhjkglaa", sum := "dfc0e7c7dfaf07da98ae7f23ee3f6410e31ffda3dc481ea264b56802b7a41472", checked := Try.checked }
namespace Rows
def none {H : Type} : Left H := { results := [], args := [] }

/-- 'steeplelaw18.TurnBits': WHATEVER THE INPUT: true; the input reads as it did. -/
def turnBitsSpec : ChangeSpec := { name := "turnBits", fn := fun _ => fun
  | [d1, d2, d3] => { results := [.lit (.bool true)], args := [d1, d2, d3] }
  | _ => none }
def turnBitsRow : OpenClaim := { program := "ythfebbmmhjkglaa", sum := "dfc0e7c7dfaf07da98ae7f23ee3f6410e31ffda3dc481ea264b56802b7a41472", func := "steeple/steeplelaw18.TurnBits", spec := "turnBits", apart := false }
def TurnBitsSaid : Prop := turnBitsRow.holds Try.pinned (OpenSpec.ofChange turnBitsSpec)

/-- ITS FALSE NEIGHBOUR: 'it returns false'. Refute it at one input. -/
def turnBitsWrong : ChangeSpec := { name := "turnBits", fn := fun _ => fun
  | [d1, d2, d3] => { results := [.lit (.bool false)], args := [d1, d2, d3] }
  | _ => none }
def TurnBitsWrongFalsely : Prop := turnBitsRow.holds Try.pinned (OpenSpec.ofChange turnBitsWrong)

/-- 'steeplelaw18.TurnSigns': WHATEVER THE INPUT: true; the input reads as it did. -/
def turnSignsSpec : ChangeSpec := { name := "turnSigns", fn := fun _ => fun
  | [d1, d2, d3] => { results := [.lit (.bool true)], args := [d1, d2, d3] }
  | _ => none }
def turnSignsRow : OpenClaim := { program := "ythfebbmmhjkglaa", sum := "dfc0e7c7dfaf07da98ae7f23ee3f6410e31ffda3dc481ea264b56802b7a41472", func := "steeple/steeplelaw18.TurnSigns", spec := "turnSigns", recurses := true, apart := false }
def TurnSignsSaid : Prop := turnSignsRow.holds Try.pinned (OpenSpec.ofChange turnSignsSpec)

/-- ITS FALSE NEIGHBOUR: 'it returns false'. Refute it at one input. -/
def turnSignsWrong : ChangeSpec := { name := "turnSigns", fn := fun _ => fun
  | [d1, d2, d3] => { results := [.lit (.bool false)], args := [d1, d2, d3] }
  | _ => none }
def TurnSignsWrongFalsely : Prop := turnSignsRow.holds Try.pinned (OpenSpec.ofChange turnSignsWrong)

/-- 'steeplelaw18.TurnValues': WHATEVER THE INPUT: true; the input reads as it did. -/
def turnValuesSpec : ChangeSpec := { name := "turnValues", fn := fun _ => fun
  | [d1, d2, d3] => { results := [.lit (.bool true)], args := [d1, d2, d3] }
  | _ => none }
def turnValuesRow : OpenClaim := { program := "ythfebbmmhjkglaa", sum := "dfc0e7c7dfaf07da98ae7f23ee3f6410e31ffda3dc481ea264b56802b7a41472", func := "steeple/steeplelaw18.TurnValues", spec := "turnValues", recurses := true, apart := false }
def TurnValuesSaid : Prop := turnValuesRow.holds Try.pinned (OpenSpec.ofChange turnValuesSpec)

/-- ITS FALSE NEIGHBOUR: 'it returns false'. Refute it at one input. -/
def turnValuesWrong : ChangeSpec := { name := "turnValues", fn := fun _ => fun
  | [d1, d2, d3] => { results := [.lit (.bool false)], args := [d1, d2, d3] }
  | _ => none }
def TurnValuesWrongFalsely : Prop := turnValuesRow.holds Try.pinned (OpenSpec.ofChange turnValuesWrong)

/-- 'steeplelaw18.TurnBack': WHATEVER THE INPUT: true; the input reads as it did. -/
def turnBackSpec : ChangeSpec := { name := "turnBack", fn := fun _ => fun
  | [d1, d2, d3] => { results := [.lit (.bool true)], args := [d1, d2, d3] }
  | _ => none }
def turnBackRow : OpenClaim := { program := "ythfebbmmhjkglaa", sum := "dfc0e7c7dfaf07da98ae7f23ee3f6410e31ffda3dc481ea264b56802b7a41472", func := "steeple/steeplelaw18.TurnBack", spec := "turnBack", apart := false }
def TurnBackSaid : Prop := turnBackRow.holds Try.pinned (OpenSpec.ofChange turnBackSpec)

/-- ITS FALSE NEIGHBOUR: 'it returns false'. Refute it at one input. -/
def turnBackWrong : ChangeSpec := { name := "turnBack", fn := fun _ => fun
  | [d1, d2, d3] => { results := [.lit (.bool false)], args := [d1, d2, d3] }
  | _ => none }
def TurnBackWrongFalsely : Prop := turnBackRow.holds Try.pinned (OpenSpec.ofChange turnBackWrong)

/-- 'steeplelaw19.PackvPairs': WHATEVER THE INPUT: true; the input reads as it did. -/
def packvPairsSpec : ChangeSpec := { name := "packvPairs", fn := fun _ => fun
  | [d1, d2] => { results := [.lit (.bool true)], args := [d1, d2] }
  | _ => none }
def packvPairsRow : OpenClaim := { program := "ythfebbmmhjkglaa", sum := "dfc0e7c7dfaf07da98ae7f23ee3f6410e31ffda3dc481ea264b56802b7a41472", func := "steeple/steeplelaw19.PackvPairs", spec := "packvPairs", recurses := true, apart := false }
def PackvPairsSaid : Prop := packvPairsRow.holds Try.pinned (OpenSpec.ofChange packvPairsSpec)

/-- ITS FALSE NEIGHBOUR: 'it returns false'. Refute it at one input. -/
def packvPairsWrong : ChangeSpec := { name := "packvPairs", fn := fun _ => fun
  | [d1, d2] => { results := [.lit (.bool false)], args := [d1, d2] }
  | _ => none }
def PackvPairsWrongFalsely : Prop := packvPairsRow.holds Try.pinned (OpenSpec.ofChange packvPairsWrong)

/-- 'steeplelaw19.PackvReckons': WHATEVER THE INPUT: true; the input reads as it did. -/
def packvReckonsSpec : ChangeSpec := { name := "packvReckons", fn := fun _ => fun
  | [d1, d2, d3] => { results := [.lit (.bool true)], args := [d1, d2, d3] }
  | _ => none }
def packvReckonsRow : OpenClaim := { program := "ythfebbmmhjkglaa", sum := "dfc0e7c7dfaf07da98ae7f23ee3f6410e31ffda3dc481ea264b56802b7a41472", func := "steeple/steeplelaw19.PackvReckons", spec := "packvReckons", recurses := true, apart := false }
def PackvReckonsSaid : Prop := packvReckonsRow.holds Try.pinned (OpenSpec.ofChange packvReckonsSpec)

/-- ITS FALSE NEIGHBOUR: 'it returns false'. Refute it at one input. -/
def packvReckonsWrong : ChangeSpec := { name := "packvReckons", fn := fun _ => fun
  | [d1, d2, d3] => { results := [.lit (.bool false)], args := [d1, d2, d3] }
  | _ => none }
def PackvReckonsWrongFalsely : Prop := packvReckonsRow.holds Try.pinned (OpenSpec.ofChange packvReckonsWrong)

/- THE SECOND FORM. 'bulk': how many values and letters a reading holds, each counted each time it is reached (what is shared counts as often as it is met; a slice's spare places count too). A statement '..UptoSaid' is the law's where the arguments, and the package variables that the reading takes, are together of bulk at most 1048576: NARROWER than '..Said'. Prove '..Said' where nothing that the law and all that it calls make is longer than what came in: it says more and counts as full. Else prove '..UptoSaid'. A law counts once. -/
mutual
def uptoBulk {H : Type} : DataW H → Nat
  | .lit (.string bytes) => bytes.length + 1
  | .lit _ => 1
  | .nil => 1
  | .ptr d => uptoBulk d + 1
  | .slice elems spare => uptoBulkAll elems + uptoBulkAll spare + 1
  | .agg parts => uptoBulkAll parts + 1
  | .iface _ d => uptoBulk d + 1
  | .map entries => uptoBulkEntries entries + 1
  | .held _ => 1
def uptoBulkAll {H : Type} : List (DataW H) → Nat
  | [] => 0
  | d :: r => uptoBulk d + uptoBulkAll r
def uptoBulkEntries {H : Type} : List (Lit × DataW H) → Nat
  | [] => 0
  | x :: r => uptoBulkEntry x + uptoBulkEntries r
def uptoBulkEntry {H : Type} : Lit × DataW H → Nat
  | (.string bytes, d) => bytes.length + uptoBulk d + 1
  | (_, d) => uptoBulk d + 1
 end
def uptoSmall : (H : Type) → List (DataW H) → Bool := fun _ ds => decide (uptoBulkAll ds ≤ 1048576)
def OpenSpec.upto (s : _root_.Go.ChangeSpec) : _root_.Go.OpenSpec := { _root_.Go.OpenSpec.ofChange s with cond := some uptoSmall }

/-- 'steeplelaw18.TurnBits', WHERE WHAT IT READS IS OF BULK AT MOST 1048576: true; the input reads as it did. -/
def turnBitsUptoRow : OpenClaim := { program := "ythfebbmmhjkglaa", sum := "dfc0e7c7dfaf07da98ae7f23ee3f6410e31ffda3dc481ea264b56802b7a41472", func := "steeple/steeplelaw18.TurnBits", spec := "turnBits", apart := false, narrowed := true }
def TurnBitsUptoSaid : Prop := turnBitsUptoRow.holds Try.pinned (OpenSpec.upto turnBitsSpec)

/-- 'steeplelaw18.TurnSigns', WHERE WHAT IT READS IS OF BULK AT MOST 1048576: true; the input reads as it did. -/
def turnSignsUptoRow : OpenClaim := { program := "ythfebbmmhjkglaa", sum := "dfc0e7c7dfaf07da98ae7f23ee3f6410e31ffda3dc481ea264b56802b7a41472", func := "steeple/steeplelaw18.TurnSigns", spec := "turnSigns", recurses := true, apart := false, narrowed := true }
def TurnSignsUptoSaid : Prop := turnSignsUptoRow.holds Try.pinned (OpenSpec.upto turnSignsSpec)

/-- 'steeplelaw18.TurnValues', WHERE WHAT IT READS IS OF BULK AT MOST 1048576: true; the input reads as it did. -/
def turnValuesUptoRow : OpenClaim := { program := "ythfebbmmhjkglaa", sum := "dfc0e7c7dfaf07da98ae7f23ee3f6410e31ffda3dc481ea264b56802b7a41472", func := "steeple/steeplelaw18.TurnValues", spec := "turnValues", recurses := true, apart := false, narrowed := true }
def TurnValuesUptoSaid : Prop := turnValuesUptoRow.holds Try.pinned (OpenSpec.upto turnValuesSpec)

/-- 'steeplelaw18.TurnBack', WHERE WHAT IT READS IS OF BULK AT MOST 1048576: true; the input reads as it did. -/
def turnBackUptoRow : OpenClaim := { program := "ythfebbmmhjkglaa", sum := "dfc0e7c7dfaf07da98ae7f23ee3f6410e31ffda3dc481ea264b56802b7a41472", func := "steeple/steeplelaw18.TurnBack", spec := "turnBack", apart := false, narrowed := true }
def TurnBackUptoSaid : Prop := turnBackUptoRow.holds Try.pinned (OpenSpec.upto turnBackSpec)

/-- 'steeplelaw19.PackvPairs', WHERE WHAT IT READS IS OF BULK AT MOST 1048576: true; the input reads as it did. -/
def packvPairsUptoRow : OpenClaim := { program := "ythfebbmmhjkglaa", sum := "dfc0e7c7dfaf07da98ae7f23ee3f6410e31ffda3dc481ea264b56802b7a41472", func := "steeple/steeplelaw19.PackvPairs", spec := "packvPairs", recurses := true, apart := false, narrowed := true }
def PackvPairsUptoSaid : Prop := packvPairsUptoRow.holds Try.pinned (OpenSpec.upto packvPairsSpec)

/-- 'steeplelaw19.PackvReckons', WHERE WHAT IT READS IS OF BULK AT MOST 1048576: true; the input reads as it did. -/
def packvReckonsUptoRow : OpenClaim := { program := "ythfebbmmhjkglaa", sum := "dfc0e7c7dfaf07da98ae7f23ee3f6410e31ffda3dc481ea264b56802b7a41472", func := "steeple/steeplelaw19.PackvReckons", spec := "packvReckons", recurses := true, apart := false, narrowed := true }
def PackvReckonsUptoSaid : Prop := packvReckonsUptoRow.holds Try.pinned (OpenSpec.upto packvReckonsSpec)

end Rows
end Go.Proofs.Ythfebbmmhjkglaa
