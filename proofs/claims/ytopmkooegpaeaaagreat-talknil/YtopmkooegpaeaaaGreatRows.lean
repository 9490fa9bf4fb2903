/-
  No cell of these rows narrows 'for every input' (looked for: loops, veiled, ifaces, maps, wideKeys, modest, calm, conditions, laid).
  DERIVED. THE GIVEN ROWS OF THIS SEAT. 4 by the template 'for every input the law returns true; each argument reads behind the call as it read before'; 0 by the template 'total and deterministic' (their statements: YtopmkooegpaeaaaGreatTotals.lean).
  GIVEN WITH THE SEED: the statements are not yours to turn. If you find one false, say at which input.
  Laid BY PROGRAM, IN A SANDBOX (cutbox-rows.mjs): the forced cells as the released guide's own fill.sh prints them over the translation bdee73e32c58ac07… (all of the seat's roots in one cut). By AI agents, Wed Nov 11 2026. No macro, syntax, notation, axiom, sorry.
-/
import Derived.Test.YtopmkooegpaeaaaGreatChecked
import GoSem.Claim
import GoSem.ClaimJoined
import GoSem.ClaimMapViews
import Derived.JoinedTies
import Derived.KernelRfl
namespace Go.Proofs.YtopmkooegpaeaaaGreat
/- THE CELL 'sum', in the pinned program and in every row, IS THE sha256 OF THE DUMP (.gsa) THAT YtopmkooegpaeaaaGreatProg.lean LOADS. Nothing in Lean hashes anything: it is a label: what it is worth is what the hold of that sum in a sandbox is worth. -/
noncomputable def Tryz.pinned : Pinned := { name := "ytopmkooegpaeaaagreat", sum := "bdee73e32c58ac07696a2bf5752e4eddb5dd1b48c4de546f84031bc4418a8db7", checked := Tryz.checked }
namespace Rows
def none {H : Type} : Left H := { results := [], args := [] }

/-- 'steeplelaw14.TalkPlays': WHATEVER THE INPUT: true; the input reads as it did. -/
def talkPlaysSpec : ChangeSpec := { name := "talkPlays", fn := fun _ => fun
  | [d1, d2] => { results := [.lit (.bool true)], args := [d1, d2] }
  | _ => none }
def talkPlaysRow : OpenClaim := { program := "ytopmkooegpaeaaagreat", sum := "bdee73e32c58ac07696a2bf5752e4eddb5dd1b48c4de546f84031bc4418a8db7", func := "steeple/steeplelaw14.TalkPlays", spec := "talkPlays", inPlace := ["internal/abi.NoEscape", "internal/bytealg.MakeNoZero"], unfollowed := true, recurses := true, apart := false }
def TalkPlaysSaid : Prop := talkPlaysRow.holds Tryz.pinned (OpenSpec.ofChange talkPlaysSpec)

/-- ITS FALSE NEIGHBOUR: 'it returns false'. Refute it at one input. -/
def talkPlaysWrong : ChangeSpec := { name := "talkPlays", fn := fun _ => fun
  | [d1, d2] => { results := [.lit (.bool false)], args := [d1, d2] }
  | _ => none }
def TalkPlaysWrongFalsely : Prop := talkPlaysRow.holds Tryz.pinned (OpenSpec.ofChange talkPlaysWrong)

/-- 'steeplelaw14.TalkBounds': WHATEVER THE INPUT: true; the input reads as it did. -/
def talkBoundsSpec : ChangeSpec := { name := "talkBounds", fn := fun _ => fun
  | [d1, d2] => { results := [.lit (.bool true)], args := [d1, d2] }
  | _ => none }
def talkBoundsRow : OpenClaim := { program := "ytopmkooegpaeaaagreat", sum := "bdee73e32c58ac07696a2bf5752e4eddb5dd1b48c4de546f84031bc4418a8db7", func := "steeple/steeplelaw14.TalkBounds", spec := "talkBounds", inPlace := ["internal/abi.NoEscape", "internal/bytealg.MakeNoZero"], unfollowed := true, recurses := true, apart := false }
def TalkBoundsSaid : Prop := talkBoundsRow.holds Tryz.pinned (OpenSpec.ofChange talkBoundsSpec)

/-- ITS FALSE NEIGHBOUR: 'it returns false'. Refute it at one input. -/
def talkBoundsWrong : ChangeSpec := { name := "talkBounds", fn := fun _ => fun
  | [d1, d2] => { results := [.lit (.bool false)], args := [d1, d2] }
  | _ => none }
def TalkBoundsWrongFalsely : Prop := talkBoundsRow.holds Tryz.pinned (OpenSpec.ofChange talkBoundsWrong)

/-- 'steeplelaw14.TalkSame': WHATEVER THE INPUT: true; the input reads as it did. -/
def talkSameSpec : ChangeSpec := { name := "talkSame", fn := fun _ => fun
  | [d1, d2, d3] => { results := [.lit (.bool true)], args := [d1, d2, d3] }
  | _ => none }
def talkSameRow : OpenClaim := { program := "ytopmkooegpaeaaagreat", sum := "bdee73e32c58ac07696a2bf5752e4eddb5dd1b48c4de546f84031bc4418a8db7", func := "steeple/steeplelaw14.TalkSame", spec := "talkSame", inPlace := ["internal/abi.NoEscape", "internal/bytealg.MakeNoZero"], unfollowed := true, recurses := true, apart := false }
def TalkSameSaid : Prop := talkSameRow.holds Tryz.pinned (OpenSpec.ofChange talkSameSpec)

/-- ITS FALSE NEIGHBOUR: 'it returns false'. Refute it at one input. -/
def talkSameWrong : ChangeSpec := { name := "talkSame", fn := fun _ => fun
  | [d1, d2, d3] => { results := [.lit (.bool false)], args := [d1, d2, d3] }
  | _ => none }
def TalkSameWrongFalsely : Prop := talkSameRow.holds Tryz.pinned (OpenSpec.ofChange talkSameWrong)

/-- 'steeplelaw14.TalkNil': WHATEVER THE INPUT: true; the input reads as it did. -/
def talkNilSpec : ChangeSpec := { name := "talkNil", fn := fun _ => fun
  | [d] => { results := [.lit (.bool true)], args := [d] }
  | _ => none }
def talkNilRow : OpenClaim := { program := "ytopmkooegpaeaaagreat", sum := "bdee73e32c58ac07696a2bf5752e4eddb5dd1b48c4de546f84031bc4418a8db7", func := "steeple/steeplelaw14.TalkNil", spec := "talkNil", inPlace := ["internal/abi.NoEscape", "internal/bytealg.MakeNoZero"], unfollowed := true, recurses := true, apart := false }
def TalkNilSaid : Prop := talkNilRow.holds Tryz.pinned (OpenSpec.ofChange talkNilSpec)

/-- ITS FALSE NEIGHBOUR: 'it returns false'. Refute it at one input. -/
def talkNilWrong : ChangeSpec := { name := "talkNil", fn := fun _ => fun
  | [d] => { results := [.lit (.bool false)], args := [d] }
  | _ => none }
def TalkNilWrongFalsely : Prop := talkNilRow.holds Tryz.pinned (OpenSpec.ofChange talkNilWrong)

/- THE SECOND FORM. 'bulk': how many values and letters a reading holds, each counted each time it is reached (what is shared counts as often as it is met; a slice's spare places count too). A statement '..UptoSaid' is the law's where the arguments, and the package variables that the reading takes, are together of bulk at most 1048576: NARROWER than '..Said'. Prove '..Said' where nothing that the law and all that it calls make is longer than what came in: it says more and counts as full. Else prove '..UptoSaid'. A law counts once. -/
mutual
def uptoBulk {H : Type} : DataW H → Nat
  | .lit (.string bytes) => bytes.length + 1
  | .lit _ => 1
  | .nil => 1
  | .ptr d => uptoBulk d + 1
  | .slice elems spare => uptoBulkAll elems + uptoBulkAll spare + 1
  | .agg parts => uptoBulkAll parts + 1
  | .iface _ d => uptoBulk d + 1
  | .map entries => uptoBulkEntries entries + 1
  | .held _ => 1
def uptoBulkAll {H : Type} : List (DataW H) → Nat
  | [] => 0
  | d :: r => uptoBulk d + uptoBulkAll r
def uptoBulkEntries {H : Type} : List (Lit × DataW H) → Nat
  | [] => 0
  | x :: r => uptoBulkEntry x + uptoBulkEntries r
def uptoBulkEntry {H : Type} : Lit × DataW H → Nat
  | (.string bytes, d) => bytes.length + uptoBulk d + 1
  | (_, d) => uptoBulk d + 1
 end
def uptoSmall : (H : Type) → List (DataW H) → Bool := fun _ ds => decide (uptoBulkAll ds ≤ 1048576)
def OpenSpec.upto (s : _root_.Go.ChangeSpec) : _root_.Go.OpenSpec := { _root_.Go.OpenSpec.ofChange s with cond := some uptoSmall }

/-- 'steeplelaw14.TalkPlays', WHERE WHAT IT READS IS OF BULK AT MOST 1048576: true; the input reads as it did. -/
def talkPlaysUptoRow : OpenClaim := { program := "ytopmkooegpaeaaagreat", sum := "bdee73e32c58ac07696a2bf5752e4eddb5dd1b48c4de546f84031bc4418a8db7", func := "steeple/steeplelaw14.TalkPlays", spec := "talkPlays", inPlace := ["internal/abi.NoEscape", "internal/bytealg.MakeNoZero"], unfollowed := true, recurses := true, apart := false, narrowed := true }
def TalkPlaysUptoSaid : Prop := talkPlaysUptoRow.holds Tryz.pinned (OpenSpec.upto talkPlaysSpec)

/-- 'steeplelaw14.TalkBounds', WHERE WHAT IT READS IS OF BULK AT MOST 1048576: true; the input reads as it did. -/
def talkBoundsUptoRow : OpenClaim := { program := "ytopmkooegpaeaaagreat", sum := "bdee73e32c58ac07696a2bf5752e4eddb5dd1b48c4de546f84031bc4418a8db7", func := "steeple/steeplelaw14.TalkBounds", spec := "talkBounds", inPlace := ["internal/abi.NoEscape", "internal/bytealg.MakeNoZero"], unfollowed := true, recurses := true, apart := false, narrowed := true }
def TalkBoundsUptoSaid : Prop := talkBoundsUptoRow.holds Tryz.pinned (OpenSpec.upto talkBoundsSpec)

/-- 'steeplelaw14.TalkSame', WHERE WHAT IT READS IS OF BULK AT MOST 1048576: true; the input reads as it did. -/
def talkSameUptoRow : OpenClaim := { program := "ytopmkooegpaeaaagreat", sum := "bdee73e32c58ac07696a2bf5752e4eddb5dd1b48c4de546f84031bc4418a8db7", func := "steeple/steeplelaw14.TalkSame", spec := "talkSame", inPlace := ["internal/abi.NoEscape", "internal/bytealg.MakeNoZero"], unfollowed := true, recurses := true, apart := false, narrowed := true }
def TalkSameUptoSaid : Prop := talkSameUptoRow.holds Tryz.pinned (OpenSpec.upto talkSameSpec)

/-- 'steeplelaw14.TalkNil', WHERE WHAT IT READS IS OF BULK AT MOST 1048576: true; the input reads as it did. -/
def talkNilUptoRow : OpenClaim := { program := "ytopmkooegpaeaaagreat", sum := "bdee73e32c58ac07696a2bf5752e4eddb5dd1b48c4de546f84031bc4418a8db7", func := "steeple/steeplelaw14.TalkNil", spec := "talkNil", inPlace := ["internal/abi.NoEscape", "internal/bytealg.MakeNoZero"], unfollowed := true, recurses := true, apart := false, narrowed := true }
def TalkNilUptoSaid : Prop := talkNilUptoRow.holds Tryz.pinned (OpenSpec.upto talkNilSpec)

end Rows
end Go.Proofs.YtopmkooegpaeaaaGreat
