/-
  No cell of these rows narrows 'for every input' (looked for: loops, veiled, ifaces, maps, wideKeys, modest, calm, conditions, laid).
  DERIVED. THE GIVEN ROWS OF THIS SEAT. 3 by the template 'for every input the law returns true; each argument reads behind the call as it read before'; 0 by the template 'total and deterministic' (their statements: YtogecppdeoinhabTotals.lean).
  GIVEN WITH THE SEED: the statements are not yours to turn. If you find one false, say at which input.
  Laid BY PROGRAM, IN A SANDBOX (cutbox-rows.mjs): the forced cells as the released guide's own fill.sh prints them over the translation 07d6c243c9648b89… (all of the seat's roots in one cut). By AI agents, Wed Nov 11 2026. No macro, syntax, notation, axiom, sorry.
-/
import Derived.Test.YtogecppdeoinhabChecked
import GoSem.Claim
import GoSem.ClaimJoined
import GoSem.ClaimMapViews
import Derived.JoinedTies
import Derived.KernelRfl
namespace Go.Proofs.Ytogecppdeoinhab
/- THE CELL 'sum', in the pinned program and in every row, IS THE sha256 OF THE DUMP (.gsa) THAT YtogecppdeoinhabProg.lean LOADS. Nothing in Lean hashes anything: it is a label: what it is worth is what the hold of that sum in a sandbox is worth. -/
noncomputable def Try.pinned : Pinned := { name := "ytogecppdeoinhab", sum := "07d6c243c9648b8995be2ef479fbf3b070a6985b782ec3e71aef2140df7596ae", checked := Try.checked }
namespace Rows
def none {H : Type} : Left H := { results := [], args := [] }

/-- 'steeplelaw02.TowerSquares': WHATEVER THE INPUT: true; the input reads as it did. -/
def towerSquaresSpec : ChangeSpec := { name := "towerSquares", fn := fun _ => fun
  | [d1, d2, d3] => { results := [.lit (.bool true)], args := [d1, d2, d3] }
  | _ => none }
def towerSquaresRow : OpenClaim := { program := "ytogecppdeoinhab", sum := "07d6c243c9648b8995be2ef479fbf3b070a6985b782ec3e71aef2140df7596ae", func := "steeple/steeplelaw02.TowerSquares", spec := "towerSquares", recurses := true, apart := false }
def TowerSquaresSaid : Prop := towerSquaresRow.holds Try.pinned (OpenSpec.ofChange towerSquaresSpec)

/-- ITS FALSE NEIGHBOUR: 'it returns false'. Refute it at one input. -/
def towerSquaresWrong : ChangeSpec := { name := "towerSquares", fn := fun _ => fun
  | [d1, d2, d3] => { results := [.lit (.bool false)], args := [d1, d2, d3] }
  | _ => none }
def TowerSquaresWrongFalsely : Prop := towerSquaresRow.holds Try.pinned (OpenSpec.ofChange towerSquaresWrong)

/-- 'steeplelaw02.TowerSums': WHATEVER THE INPUT: true; the input reads as it did. -/
def towerSumsSpec : ChangeSpec := { name := "towerSums", fn := fun _ => fun
  | [d1, d2, d3] => { results := [.lit (.bool true)], args := [d1, d2, d3] }
  | _ => none }
def towerSumsRow : OpenClaim := { program := "ytogecppdeoinhab", sum := "07d6c243c9648b8995be2ef479fbf3b070a6985b782ec3e71aef2140df7596ae", func := "steeple/steeplelaw02.TowerSums", spec := "towerSums", recurses := true, apart := false }
def TowerSumsSaid : Prop := towerSumsRow.holds Try.pinned (OpenSpec.ofChange towerSumsSpec)

/-- ITS FALSE NEIGHBOUR: 'it returns false'. Refute it at one input. -/
def towerSumsWrong : ChangeSpec := { name := "towerSums", fn := fun _ => fun
  | [d1, d2, d3] => { results := [.lit (.bool false)], args := [d1, d2, d3] }
  | _ => none }
def TowerSumsWrongFalsely : Prop := towerSumsRow.holds Try.pinned (OpenSpec.ofChange towerSumsWrong)

/-- 'steeplelaw02.TowerPowers': WHATEVER THE INPUT: true; the input reads as it did. -/
def towerPowersSpec : ChangeSpec := { name := "towerPowers", fn := fun _ => fun
  | [d1, d2, d3] => { results := [.lit (.bool true)], args := [d1, d2, d3] }
  | _ => none }
def towerPowersRow : OpenClaim := { program := "ytogecppdeoinhab", sum := "07d6c243c9648b8995be2ef479fbf3b070a6985b782ec3e71aef2140df7596ae", func := "steeple/steeplelaw02.TowerPowers", spec := "towerPowers", recurses := true, apart := false }
def TowerPowersSaid : Prop := towerPowersRow.holds Try.pinned (OpenSpec.ofChange towerPowersSpec)

/-- ITS FALSE NEIGHBOUR: 'it returns false'. Refute it at one input. -/
def towerPowersWrong : ChangeSpec := { name := "towerPowers", fn := fun _ => fun
  | [d1, d2, d3] => { results := [.lit (.bool false)], args := [d1, d2, d3] }
  | _ => none }
def TowerPowersWrongFalsely : Prop := towerPowersRow.holds Try.pinned (OpenSpec.ofChange towerPowersWrong)

/- THE SECOND FORM. 'bulk': how many values and letters a reading holds, each counted each time it is reached (what is shared counts as often as it is met; a slice's spare places count too). A statement '..UptoSaid' is the law's where the arguments, and the package variables that the reading takes, are together of bulk at most 1048576: NARROWER than '..Said'. Prove '..Said' where nothing that the law and all that it calls make is longer than what came in: it says more and counts as full. Else prove '..UptoSaid'. A law counts once. -/
mutual
def uptoBulk {H : Type} : DataW H → Nat
  | .lit (.string bytes) => bytes.length + 1
  | .lit _ => 1
  | .nil => 1
  | .ptr d => uptoBulk d + 1
  | .slice elems spare => uptoBulkAll elems + uptoBulkAll spare + 1
  | .agg parts => uptoBulkAll parts + 1
  | .iface _ d => uptoBulk d + 1
  | .map entries => uptoBulkEntries entries + 1
  | .held _ => 1
def uptoBulkAll {H : Type} : List (DataW H) → Nat
  | [] => 0
  | d :: r => uptoBulk d + uptoBulkAll r
def uptoBulkEntries {H : Type} : List (Lit × DataW H) → Nat
  | [] => 0
  | x :: r => uptoBulkEntry x + uptoBulkEntries r
def uptoBulkEntry {H : Type} : Lit × DataW H → Nat
  | (.string bytes, d) => bytes.length + uptoBulk d + 1
  | (_, d) => uptoBulk d + 1
 end
def uptoSmall : (H : Type) → List (DataW H) → Bool := fun _ ds => decide (uptoBulkAll ds ≤ 1048576)
def OpenSpec.upto (s : _root_.Go.ChangeSpec) : _root_.Go.OpenSpec := { _root_.Go.OpenSpec.ofChange s with cond := some uptoSmall }

/-- 'steeplelaw02.TowerSquares', WHERE WHAT IT READS IS OF BULK AT MOST 1048576: true; the input reads as it did. -/
def towerSquaresUptoRow : OpenClaim := { program := "ytogecppdeoinhab", sum := "07d6c243c9648b8995be2ef479fbf3b070a6985b782ec3e71aef2140df7596ae", func := "steeple/steeplelaw02.TowerSquares", spec := "towerSquares", recurses := true, apart := false, narrowed := true }
def TowerSquaresUptoSaid : Prop := towerSquaresUptoRow.holds Try.pinned (OpenSpec.upto towerSquaresSpec)

/-- 'steeplelaw02.TowerSums', WHERE WHAT IT READS IS OF BULK AT MOST 1048576: true; the input reads as it did. -/
def towerSumsUptoRow : OpenClaim := { program := "ytogecppdeoinhab", sum := "07d6c243c9648b8995be2ef479fbf3b070a6985b782ec3e71aef2140df7596ae", func := "steeple/steeplelaw02.TowerSums", spec := "towerSums", recurses := true, apart := false, narrowed := true }
def TowerSumsUptoSaid : Prop := towerSumsUptoRow.holds Try.pinned (OpenSpec.upto towerSumsSpec)

/-- 'steeplelaw02.TowerPowers', WHERE WHAT IT READS IS OF BULK AT MOST 1048576: true; the input reads as it did. -/
def towerPowersUptoRow : OpenClaim := { program := "ytogecppdeoinhab", sum := "07d6c243c9648b8995be2ef479fbf3b070a6985b782ec3e71aef2140df7596ae", func := "steeple/steeplelaw02.TowerPowers", spec := "towerPowers", recurses := true, apart := false, narrowed := true }
def TowerPowersUptoSaid : Prop := towerPowersUptoRow.holds Try.pinned (OpenSpec.upto towerPowersSpec)

end Rows
end Go.Proofs.Ytogecppdeoinhab
