/-
  No cell of these rows narrows 'for every input' (looked for: loops, veiled, ifaces, maps, wideKeys, modest, calm, conditions, laid).
  DERIVED. THE GIVEN ROWS OF THIS SEAT. 5 by the template 'for every input the law returns true; each argument reads behind the call as it read before'; 0 by the template 'total and deterministic' (their statements: YtcejppibcemdeaaTotals.lean).
  GIVEN WITH THE SEED: the statements are not yours to turn. If you find one false, say at which input.
  Laid BY PROGRAM, IN A SANDBOX (cutbox-rows.mjs): the forced cells as the released guide's own fill.sh prints them over the translation 0a5be67ac832cdc2… (all of the seat's roots in one cut). By AI agents, Wed Nov 11 2026. No macro, syntax, notation, axiom, sorry.
-/
import Derived.Test.YtcejppibcemdeaaChecked
import GoSem.Claim
import GoSem.ClaimJoined
import GoSem.ClaimMapViews
import Derived.JoinedTies
import Derived.KernelRfl
namespace Go.Proofs.Ytcejppibcemdeaa
/- THE CELL 'sum', in the pinned program and in every row, IS THE sha256 OF THE DUMP (.gsa) THAT YtcejppibcemdeaaProg.lean LOADS. Nothing in Lean hashes anything: it is a label: what it is worth is what the hold of that sum in a sandbox is worth. -/
noncomputable def Try.pinned : Pinned := { name := "ytcejppibcemdeaa", sum := "0a5be67ac832cdc264a91b169eaa3a5997ed12f74a6e9531ab202833a73c4a5c", checked := Try.checked }
namespace Rows
def none {H : Type} : Left H := { results := [], args := [] }

/-- 'steeplelaw19.PackvPairs': WHATEVER THE INPUT: true; the input reads as it did. -/
def packvPairsSpec : ChangeSpec := { name := "packvPairs", fn := fun _ => fun
  | [d1, d2] => { results := [.lit (.bool true)], args := [d1, d2] }
  | _ => none }
def packvPairsRow : OpenClaim := { program := "ytcejppibcemdeaa", sum := "0a5be67ac832cdc264a91b169eaa3a5997ed12f74a6e9531ab202833a73c4a5c", func := "steeple/steeplelaw19.PackvPairs", spec := "packvPairs", recurses := true, apart := false }
def PackvPairsSaid : Prop := packvPairsRow.holds Try.pinned (OpenSpec.ofChange packvPairsSpec)

/-- ITS FALSE NEIGHBOUR: 'it returns false'. Refute it at one input. -/
def packvPairsWrong : ChangeSpec := { name := "packvPairs", fn := fun _ => fun
  | [d1, d2] => { results := [.lit (.bool false)], args := [d1, d2] }
  | _ => none }
def PackvPairsWrongFalsely : Prop := packvPairsRow.holds Try.pinned (OpenSpec.ofChange packvPairsWrong)

/-- 'steeplelaw19.PackvReckons': WHATEVER THE INPUT: true; the input reads as it did. -/
def packvReckonsSpec : ChangeSpec := { name := "packvReckons", fn := fun _ => fun
  | [d1, d2, d3] => { results := [.lit (.bool true)], args := [d1, d2, d3] }
  | _ => none }
def packvReckonsRow : OpenClaim := { program := "ytcejppibcemdeaa", sum := "0a5be67ac832cdc264a91b169eaa3a5997ed12f74a6e9531ab202833a73c4a5c", func := "steeple/steeplelaw19.PackvReckons", spec := "packvReckons", recurses := true, apart := false }
def PackvReckonsSaid : Prop := packvReckonsRow.holds Try.pinned (OpenSpec.ofChange packvReckonsSpec)

/-- ITS FALSE NEIGHBOUR: 'it returns false'. Refute it at one input. -/
def packvReckonsWrong : ChangeSpec := { name := "packvReckons", fn := fun _ => fun
  | [d1, d2, d3] => { results := [.lit (.bool false)], args := [d1, d2, d3] }
  | _ => none }
def PackvReckonsWrongFalsely : Prop := packvReckonsRow.holds Try.pinned (OpenSpec.ofChange packvReckonsWrong)

/-- 'steeplelaw19.PackvSides': WHATEVER THE INPUT: true; the input reads as it did. -/
def packvSidesSpec : ChangeSpec := { name := "packvSides", fn := fun _ => fun
  | [d1, d2, d3] => { results := [.lit (.bool true)], args := [d1, d2, d3] }
  | _ => none }
def packvSidesRow : OpenClaim := { program := "ytcejppibcemdeaa", sum := "0a5be67ac832cdc264a91b169eaa3a5997ed12f74a6e9531ab202833a73c4a5c", func := "steeple/steeplelaw19.PackvSides", spec := "packvSides", recurses := true, apart := false }
def PackvSidesSaid : Prop := packvSidesRow.holds Try.pinned (OpenSpec.ofChange packvSidesSpec)

/-- ITS FALSE NEIGHBOUR: 'it returns false'. Refute it at one input. -/
def packvSidesWrong : ChangeSpec := { name := "packvSides", fn := fun _ => fun
  | [d1, d2, d3] => { results := [.lit (.bool false)], args := [d1, d2, d3] }
  | _ => none }
def PackvSidesWrongFalsely : Prop := packvSidesRow.holds Try.pinned (OpenSpec.ofChange packvSidesWrong)

/-- 'steeplelaw19.PackvRing': WHATEVER THE INPUT: true; the input reads as it did. -/
def packvRingSpec : ChangeSpec := { name := "packvRing", fn := fun _ => fun
  | [d1, d2] => { results := [.lit (.bool true)], args := [d1, d2] }
  | _ => none }
def packvRingRow : OpenClaim := { program := "ytcejppibcemdeaa", sum := "0a5be67ac832cdc264a91b169eaa3a5997ed12f74a6e9531ab202833a73c4a5c", func := "steeple/steeplelaw19.PackvRing", spec := "packvRing", recurses := true, apart := false }
def PackvRingSaid : Prop := packvRingRow.holds Try.pinned (OpenSpec.ofChange packvRingSpec)

/-- ITS FALSE NEIGHBOUR: 'it returns false'. Refute it at one input. -/
def packvRingWrong : ChangeSpec := { name := "packvRing", fn := fun _ => fun
  | [d1, d2] => { results := [.lit (.bool false)], args := [d1, d2] }
  | _ => none }
def PackvRingWrongFalsely : Prop := packvRingRow.holds Try.pinned (OpenSpec.ofChange packvRingWrong)

/-- 'steeplelaw19.PackvAlike': WHATEVER THE INPUT: true; the input reads as it did. -/
def packvAlikeSpec : ChangeSpec := { name := "packvAlike", fn := fun _ => fun
  | [d1, d2, d3] => { results := [.lit (.bool true)], args := [d1, d2, d3] }
  | _ => none }
def packvAlikeRow : OpenClaim := { program := "ytcejppibcemdeaa", sum := "0a5be67ac832cdc264a91b169eaa3a5997ed12f74a6e9531ab202833a73c4a5c", func := "steeple/steeplelaw19.PackvAlike", spec := "packvAlike", recurses := true, apart := false }
def PackvAlikeSaid : Prop := packvAlikeRow.holds Try.pinned (OpenSpec.ofChange packvAlikeSpec)

/-- ITS FALSE NEIGHBOUR: 'it returns false'. Refute it at one input. -/
def packvAlikeWrong : ChangeSpec := { name := "packvAlike", fn := fun _ => fun
  | [d1, d2, d3] => { results := [.lit (.bool false)], args := [d1, d2, d3] }
  | _ => none }
def PackvAlikeWrongFalsely : Prop := packvAlikeRow.holds Try.pinned (OpenSpec.ofChange packvAlikeWrong)

/- THE SECOND FORM. 'bulk': how many values and letters a reading holds, each counted each time it is reached (what is shared counts as often as it is met; a slice's spare places count too). A statement '..UptoSaid' is the law's where the arguments, and the package variables that the reading takes, are together of bulk at most 1048576: NARROWER than '..Said'. Prove '..Said' where nothing that the law and all that it calls make is longer than what came in: it says more and counts as full. Else prove '..UptoSaid'. A law counts once. -/
mutual
def uptoBulk {H : Type} : DataW H → Nat
  | .lit (.string bytes) => bytes.length + 1
  | .lit _ => 1
  | .nil => 1
  | .ptr d => uptoBulk d + 1
  | .slice elems spare => uptoBulkAll elems + uptoBulkAll spare + 1
  | .agg parts => uptoBulkAll parts + 1
  | .iface _ d => uptoBulk d + 1
  | .map entries => uptoBulkEntries entries + 1
  | .held _ => 1
def uptoBulkAll {H : Type} : List (DataW H) → Nat
  | [] => 0
  | d :: r => uptoBulk d + uptoBulkAll r
def uptoBulkEntries {H : Type} : List (Lit × DataW H) → Nat
  | [] => 0
  | x :: r => uptoBulkEntry x + uptoBulkEntries r
def uptoBulkEntry {H : Type} : Lit × DataW H → Nat
  | (.string bytes, d) => bytes.length + uptoBulk d + 1
  | (_, d) => uptoBulk d + 1
 end
def uptoSmall : (H : Type) → List (DataW H) → Bool := fun _ ds => decide (uptoBulkAll ds ≤ 1048576)
def OpenSpec.upto (s : _root_.Go.ChangeSpec) : _root_.Go.OpenSpec := { _root_.Go.OpenSpec.ofChange s with cond := some uptoSmall }

/-- 'steeplelaw19.PackvPairs', WHERE WHAT IT READS IS OF BULK AT MOST 1048576: true; the input reads as it did. -/
def packvPairsUptoRow : OpenClaim := { program := "ytcejppibcemdeaa", sum := "0a5be67ac832cdc264a91b169eaa3a5997ed12f74a6e9531ab202833a73c4a5c", func := "steeple/steeplelaw19.PackvPairs", spec := "packvPairs", recurses := true, apart := false, narrowed := true }
def PackvPairsUptoSaid : Prop := packvPairsUptoRow.holds Try.pinned (OpenSpec.upto packvPairsSpec)

/-- 'steeplelaw19.PackvReckons', WHERE WHAT IT READS IS OF BULK AT MOST 1048576: true; the input reads as it did. -/
def packvReckonsUptoRow : OpenClaim := { program := "ytcejppibcemdeaa", sum := "0a5be67ac832cdc264a91b169eaa3a5997ed12f74a6e9531ab202833a73c4a5c", func := "steeple/steeplelaw19.PackvReckons", spec := "packvReckons", recurses := true, apart := false, narrowed := true }
def PackvReckonsUptoSaid : Prop := packvReckonsUptoRow.holds Try.pinned (OpenSpec.upto packvReckonsSpec)

/-- 'steeplelaw19.PackvSides', WHERE WHAT IT READS IS OF BULK AT MOST 1048576: true; the input reads as it did. -/
def packvSidesUptoRow : OpenClaim := { program := "ytcejppibcemdeaa", sum := "0a5be67ac832cdc264a91b169eaa3a5997ed12f74a6e9531ab202833a73c4a5c", func := "steeple/steeplelaw19.PackvSides", spec := "packvSides", recurses := true, apart := false, narrowed := true }
def PackvSidesUptoSaid : Prop := packvSidesUptoRow.holds Try.pinned (OpenSpec.upto packvSidesSpec)

/-- 'steeplelaw19.PackvRing', WHERE WHAT IT READS IS OF BULK AT MOST 1048576: true; the input reads as it did. -/
def packvRingUptoRow : OpenClaim := { program := "ytcejppibcemdeaa", sum := "0a5be67ac832cdc264a91b169eaa3a5997ed12f74a6e9531ab202833a73c4a5c", func := "steeple/steeplelaw19.PackvRing", spec := "packvRing", recurses := true, apart := false, narrowed := true }
def PackvRingUptoSaid : Prop := packvRingUptoRow.holds Try.pinned (OpenSpec.upto packvRingSpec)

/-- 'steeplelaw19.PackvAlike', WHERE WHAT IT READS IS OF BULK AT MOST 1048576: true; the input reads as it did. -/
def packvAlikeUptoRow : OpenClaim := { program := "ytcejppibcemdeaa", sum := "0a5be67ac832cdc264a91b169eaa3a5997ed12f74a6e9531ab202833a73c4a5c", func := "steeple/steeplelaw19.PackvAlike", spec := "packvAlike", recurses := true, apart := false, narrowed := true }
def PackvAlikeUptoSaid : Prop := packvAlikeUptoRow.holds Try.pinned (OpenSpec.upto packvAlikeSpec)

end Rows
end Go.Proofs.Ytcejppibcemdeaa
