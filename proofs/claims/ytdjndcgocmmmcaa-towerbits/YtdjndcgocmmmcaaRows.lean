/-
  No cell of these rows narrows 'for every input' (looked for: loops, veiled, ifaces, maps, wideKeys, modest, calm, conditions, laid).
  DERIVED. THE GIVEN ROWS OF THIS SEAT. 5 by the template 'for every input the law returns true; each argument reads behind the call as it read before'; 0 by the template 'total and deterministic' (their statements: YtdjndcgocmmmcaaTotals.lean).
  GIVEN WITH THE SEED: the statements are not yours to turn. If you find one false, say at which input.
  Laid BY PROGRAM, IN A SANDBOX (cutbox-rows.mjs): the forced cells as the released guide's own fill.sh prints them over the translation 7778471e33cd8a58… (all of the seat's roots in one cut). By AI agents, Wed Nov 11 2026. No macro, syntax, notation, axiom, sorry.
-/
import Derived.Test.YtdjndcgocmmmcaaChecked
import GoSem.Claim
import GoSem.ClaimJoined
import GoSem.ClaimMapViews
import Derived.JoinedTies
import Derived.KernelRfl
namespace Go.Proofs.Ytdjndcgocmmmcaa
/- THE CELL 'sum', in the pinned program and in every row, IS THE sha256 OF THE DUMP (.gsa) THAT YtdjndcgocmmmcaaProg.lean LOADS. Nothing in Lean hashes anything: it is a label: what it is worth is what the hold of that sum in a sandbox is worth. -/
noncomputable def Try.pinned : Pinned := { name := "ytdjndcgocmmmcaa", sum := "7778471e33cd8a581db785023a9f39ec77a6f47d29a8e24c70400d1e31dafdf0", checked := Try.checked }
namespace Rows
def none {H : Type} : Left H := { results := [], args := [] }

/-- 'steeplelaw02.TowerMuls': WHATEVER THE INPUT: true; the input reads as it did. -/
def towerMulsSpec : ChangeSpec := { name := "towerMuls", fn := fun _ => fun
  | [d1, d2, d3] => { results := [.lit (.bool true)], args := [d1, d2, d3] }
  | _ => none }
def towerMulsRow : OpenClaim := { program := "ytdjndcgocmmmcaa", sum := "7778471e33cd8a581db785023a9f39ec77a6f47d29a8e24c70400d1e31dafdf0", func := "steeple/steeplelaw02.TowerMuls", spec := "towerMuls", recurses := true, apart := false }
def TowerMulsSaid : Prop := towerMulsRow.holds Try.pinned (OpenSpec.ofChange towerMulsSpec)

/-- ITS FALSE NEIGHBOUR: 'it returns false'. Refute it at one input. -/
def towerMulsWrong : ChangeSpec := { name := "towerMuls", fn := fun _ => fun
  | [d1, d2, d3] => { results := [.lit (.bool false)], args := [d1, d2, d3] }
  | _ => none }
def TowerMulsWrongFalsely : Prop := towerMulsRow.holds Try.pinned (OpenSpec.ofChange towerMulsWrong)

/-- 'steeplelaw02.TowerBits': WHATEVER THE INPUT: true; the input reads as it did. -/
def towerBitsSpec : ChangeSpec := { name := "towerBits", fn := fun _ => fun
  | [d1, d2, d3] => { results := [.lit (.bool true)], args := [d1, d2, d3] }
  | _ => none }
def towerBitsRow : OpenClaim := { program := "ytdjndcgocmmmcaa", sum := "7778471e33cd8a581db785023a9f39ec77a6f47d29a8e24c70400d1e31dafdf0", func := "steeple/steeplelaw02.TowerBits", spec := "towerBits", recurses := true, apart := false }
def TowerBitsSaid : Prop := towerBitsRow.holds Try.pinned (OpenSpec.ofChange towerBitsSpec)

/-- ITS FALSE NEIGHBOUR: 'it returns false'. Refute it at one input. -/
def towerBitsWrong : ChangeSpec := { name := "towerBits", fn := fun _ => fun
  | [d1, d2, d3] => { results := [.lit (.bool false)], args := [d1, d2, d3] }
  | _ => none }
def TowerBitsWrongFalsely : Prop := towerBitsRow.holds Try.pinned (OpenSpec.ofChange towerBitsWrong)

/-- 'steeplelaw02.TowerInvs': WHATEVER THE INPUT: true; the input reads as it did. -/
def towerInvsSpec : ChangeSpec := { name := "towerInvs", fn := fun _ => fun
  | [d1, d2, d3] => { results := [.lit (.bool true)], args := [d1, d2, d3] }
  | _ => none }
def towerInvsRow : OpenClaim := { program := "ytdjndcgocmmmcaa", sum := "7778471e33cd8a581db785023a9f39ec77a6f47d29a8e24c70400d1e31dafdf0", func := "steeple/steeplelaw02.TowerInvs", spec := "towerInvs", recurses := true, apart := false }
def TowerInvsSaid : Prop := towerInvsRow.holds Try.pinned (OpenSpec.ofChange towerInvsSpec)

/-- ITS FALSE NEIGHBOUR: 'it returns false'. Refute it at one input. -/
def towerInvsWrong : ChangeSpec := { name := "towerInvs", fn := fun _ => fun
  | [d1, d2, d3] => { results := [.lit (.bool false)], args := [d1, d2, d3] }
  | _ => none }
def TowerInvsWrongFalsely : Prop := towerInvsRow.holds Try.pinned (OpenSpec.ofChange towerInvsWrong)

/-- 'steeplelaw02.TowerSums': WHATEVER THE INPUT: true; the input reads as it did. -/
def towerSumsSpec : ChangeSpec := { name := "towerSums", fn := fun _ => fun
  | [d1, d2, d3] => { results := [.lit (.bool true)], args := [d1, d2, d3] }
  | _ => none }
def towerSumsRow : OpenClaim := { program := "ytdjndcgocmmmcaa", sum := "7778471e33cd8a581db785023a9f39ec77a6f47d29a8e24c70400d1e31dafdf0", func := "steeple/steeplelaw02.TowerSums", spec := "towerSums", recurses := true, apart := false }
def TowerSumsSaid : Prop := towerSumsRow.holds Try.pinned (OpenSpec.ofChange towerSumsSpec)

/-- ITS FALSE NEIGHBOUR: 'it returns false'. Refute it at one input. -/
def towerSumsWrong : ChangeSpec := { name := "towerSums", fn := fun _ => fun
  | [d1, d2, d3] => { results := [.lit (.bool false)], args := [d1, d2, d3] }
  | _ => none }
def TowerSumsWrongFalsely : Prop := towerSumsRow.holds Try.pinned (OpenSpec.ofChange towerSumsWrong)

/-- 'steeplelaw02.TowerPowers': WHATEVER THE INPUT: true; the input reads as it did. -/
def towerPowersSpec : ChangeSpec := { name := "towerPowers", fn := fun _ => fun
  | [d1, d2, d3] => { results := [.lit (.bool true)], args := [d1, d2, d3] }
  | _ => none }
def towerPowersRow : OpenClaim := { program := "ytdjndcgocmmmcaa", sum := "7778471e33cd8a581db785023a9f39ec77a6f47d29a8e24c70400d1e31dafdf0", func := "steeple/steeplelaw02.TowerPowers", spec := "towerPowers", recurses := true, apart := false }
def TowerPowersSaid : Prop := towerPowersRow.holds Try.pinned (OpenSpec.ofChange towerPowersSpec)

/-- ITS FALSE NEIGHBOUR: 'it returns false'. Refute it at one input. -/
def towerPowersWrong : ChangeSpec := { name := "towerPowers", fn := fun _ => fun
  | [d1, d2, d3] => { results := [.lit (.bool false)], args := [d1, d2, d3] }
  | _ => none }
def TowerPowersWrongFalsely : Prop := towerPowersRow.holds Try.pinned (OpenSpec.ofChange towerPowersWrong)

/- THE SECOND FORM. 'bulk': how many values and letters a reading holds, each counted each time it is reached (what is shared counts as often as it is met; a slice's spare places count too). A statement '..UptoSaid' is the law's where the arguments, and the package variables that the reading takes, are together of bulk at most 1048576: NARROWER than '..Said'. Prove '..Said' where nothing that the law and all that it calls make is longer than what came in: it says more and counts as full. Else prove '..UptoSaid'. A law counts once. -/
mutual
def uptoBulk {H : Type} : DataW H → Nat
  | .lit (.string bytes) => bytes.length + 1
  | .lit _ => 1
  | .nil => 1
  | .ptr d => uptoBulk d + 1
  | .slice elems spare => uptoBulkAll elems + uptoBulkAll spare + 1
  | .agg parts => uptoBulkAll parts + 1
  | .iface _ d => uptoBulk d + 1
  | .map entries => uptoBulkEntries entries + 1
  | .held _ => 1
def uptoBulkAll {H : Type} : List (DataW H) → Nat
  | [] => 0
  | d :: r => uptoBulk d + uptoBulkAll r
def uptoBulkEntries {H : Type} : List (Lit × DataW H) → Nat
  | [] => 0
  | x :: r => uptoBulkEntry x + uptoBulkEntries r
def uptoBulkEntry {H : Type} : Lit × DataW H → Nat
  | (.string bytes, d) => bytes.length + uptoBulk d + 1
  | (_, d) => uptoBulk d + 1
 end
def uptoSmall : (H : Type) → List (DataW H) → Bool := fun _ ds => decide (uptoBulkAll ds ≤ 1048576)
def OpenSpec.upto (s : _root_.Go.ChangeSpec) : _root_.Go.OpenSpec := { _root_.Go.OpenSpec.ofChange s with cond := some uptoSmall }

/-- 'steeplelaw02.TowerMuls', WHERE WHAT IT READS IS OF BULK AT MOST 1048576: true; the input reads as it did. -/
def towerMulsUptoRow : OpenClaim := { program := "ytdjndcgocmmmcaa", sum := "7778471e33cd8a581db785023a9f39ec77a6f47d29a8e24c70400d1e31dafdf0", func := "steeple/steeplelaw02.TowerMuls", spec := "towerMuls", recurses := true, apart := false, narrowed := true }
def TowerMulsUptoSaid : Prop := towerMulsUptoRow.holds Try.pinned (OpenSpec.upto towerMulsSpec)

/-- 'steeplelaw02.TowerBits', WHERE WHAT IT READS IS OF BULK AT MOST 1048576: true; the input reads as it did. -/
def towerBitsUptoRow : OpenClaim := { program := "ytdjndcgocmmmcaa", sum := "7778471e33cd8a581db785023a9f39ec77a6f47d29a8e24c70400d1e31dafdf0", func := "steeple/steeplelaw02.TowerBits", spec := "towerBits", recurses := true, apart := false, narrowed := true }
def TowerBitsUptoSaid : Prop := towerBitsUptoRow.holds Try.pinned (OpenSpec.upto towerBitsSpec)

/-- 'steeplelaw02.TowerInvs', WHERE WHAT IT READS IS OF BULK AT MOST 1048576: true; the input reads as it did. -/
def towerInvsUptoRow : OpenClaim := { program := "ytdjndcgocmmmcaa", sum := "7778471e33cd8a581db785023a9f39ec77a6f47d29a8e24c70400d1e31dafdf0", func := "steeple/steeplelaw02.TowerInvs", spec := "towerInvs", recurses := true, apart := false, narrowed := true }
def TowerInvsUptoSaid : Prop := towerInvsUptoRow.holds Try.pinned (OpenSpec.upto towerInvsSpec)

/-- 'steeplelaw02.TowerSums', WHERE WHAT IT READS IS OF BULK AT MOST 1048576: true; the input reads as it did. -/
def towerSumsUptoRow : OpenClaim := { program := "ytdjndcgocmmmcaa", sum := "7778471e33cd8a581db785023a9f39ec77a6f47d29a8e24c70400d1e31dafdf0", func := "steeple/steeplelaw02.TowerSums", spec := "towerSums", recurses := true, apart := false, narrowed := true }
def TowerSumsUptoSaid : Prop := towerSumsUptoRow.holds Try.pinned (OpenSpec.upto towerSumsSpec)

/-- 'steeplelaw02.TowerPowers', WHERE WHAT IT READS IS OF BULK AT MOST 1048576: true; the input reads as it did. -/
def towerPowersUptoRow : OpenClaim := { program := "ytdjndcgocmmmcaa", sum := "7778471e33cd8a581db785023a9f39ec77a6f47d29a8e24c70400d1e31dafdf0", func := "steeple/steeplelaw02.TowerPowers", spec := "towerPowers", recurses := true, apart := false, narrowed := true }
def TowerPowersUptoSaid : Prop := towerPowersUptoRow.holds Try.pinned (OpenSpec.upto towerPowersSpec)

end Rows
end Go.Proofs.Ytdjndcgocmmmcaa
