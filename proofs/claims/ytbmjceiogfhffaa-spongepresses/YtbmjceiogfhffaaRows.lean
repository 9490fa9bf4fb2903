/-
  No cell of these rows narrows 'for every input' (looked for: loops, veiled, ifaces, maps, wideKeys, modest, calm, conditions, laid).
  DERIVED. THE GIVEN ROWS OF THIS SEAT. 6 by the template 'for every input the law returns true; each argument reads behind the call as it read before'; 0 by the template 'total and deterministic' (their statements: YtbmjceiogfhffaaTotals.lean).
  GIVEN WITH THE SEED: the statements are not yours to turn. If you find one false, say at which input.
  Laid BY PROGRAM, IN A SANDBOX (cutbox-rows.mjs): the forced cells as the released guide's own fill.sh prints them over the translation fdfb8ae55742299c… (all of the seat's roots in one cut). By AI agents, Wed Nov 11 2026. No macro, syntax, notation, axiom, sorry.
-/
import Derived.Test.YtbmjceiogfhffaaChecked
import GoSem.Claim
import GoSem.ClaimJoined
import GoSem.ClaimMapViews
import Derived.JoinedTies
import Derived.KernelRfl
namespace Go.Proofs.Ytbmjceiogfhffaa
/- THE CELL 'sum', in the pinned program and in every row, IS THE sha256 OF THE DUMP (.gsa) THAT YtbmjceiogfhffaaProg.lean LOADS. Nothing in Lean hashes anything: it is a label: what it is worth is what the hold of that sum in a sandbox is worth. -/
noncomputable def Try.pinned : Pinned := { name := "ytbmjceiogfhffaa", sum := "fdfb8ae55742299c6b0df46a6eda0d35b8e242ae72a26a737b24f9297be6e996", checked := Try.checked }
namespace Rows
def none {H : Type} : Left H := { results := [], args := [] }

/-- 'steeplelaw10.PermTables': WHATEVER THE INPUT: true; the input reads as it did. -/
def permTablesSpec : ChangeSpec := { name := "permTables", fn := fun _ => fun
  | [d1, d2] => { results := [.lit (.bool true)], args := [d1, d2] }
  | _ => none }
def permTablesRow : OpenClaim := { program := "ytbmjceiogfhffaa", sum := "fdfb8ae55742299c6b0df46a6eda0d35b8e242ae72a26a737b24f9297be6e996", func := "steeple/steeplelaw10.PermTables", spec := "permTables", recurses := true, apart := false }
def PermTablesSaid : Prop := permTablesRow.holds Try.pinned (OpenSpec.ofChange permTablesSpec)

/-- ITS FALSE NEIGHBOUR: 'it returns false'. Refute it at one input. -/
def permTablesWrong : ChangeSpec := { name := "permTables", fn := fun _ => fun
  | [d1, d2] => { results := [.lit (.bool false)], args := [d1, d2] }
  | _ => none }
def PermTablesWrongFalsely : Prop := permTablesRow.holds Try.pinned (OpenSpec.ofChange permTablesWrong)

/-- 'steeplelaw10.PermWays': WHATEVER THE INPUT: true; the input reads as it did. -/
def permWaysSpec : ChangeSpec := { name := "permWays", fn := fun _ => fun
  | [d] => { results := [.lit (.bool true)], args := [d] }
  | _ => none }
def permWaysRow : OpenClaim := { program := "ytbmjceiogfhffaa", sum := "fdfb8ae55742299c6b0df46a6eda0d35b8e242ae72a26a737b24f9297be6e996", func := "steeple/steeplelaw10.PermWays", spec := "permWays", unfollowed := true, recurses := true, apart := false }
def PermWaysSaid : Prop := permWaysRow.holds Try.pinned (OpenSpec.ofChange permWaysSpec)

/-- ITS FALSE NEIGHBOUR: 'it returns false'. Refute it at one input. -/
def permWaysWrong : ChangeSpec := { name := "permWays", fn := fun _ => fun
  | [d] => { results := [.lit (.bool false)], args := [d] }
  | _ => none }
def PermWaysWrongFalsely : Prop := permWaysRow.holds Try.pinned (OpenSpec.ofChange permWaysWrong)

/-- 'steeplelaw10.PermBack': WHATEVER THE INPUT: true; the input reads as it did. -/
def permBackSpec : ChangeSpec := { name := "permBack", fn := fun _ => fun
  | [d] => { results := [.lit (.bool true)], args := [d] }
  | _ => none }
def permBackRow : OpenClaim := { program := "ytbmjceiogfhffaa", sum := "fdfb8ae55742299c6b0df46a6eda0d35b8e242ae72a26a737b24f9297be6e996", func := "steeple/steeplelaw10.PermBack", spec := "permBack", unfollowed := true, recurses := true, apart := false }
def PermBackSaid : Prop := permBackRow.holds Try.pinned (OpenSpec.ofChange permBackSpec)

/-- ITS FALSE NEIGHBOUR: 'it returns false'. Refute it at one input. -/
def permBackWrong : ChangeSpec := { name := "permBack", fn := fun _ => fun
  | [d] => { results := [.lit (.bool false)], args := [d] }
  | _ => none }
def PermBackWrongFalsely : Prop := permBackRow.holds Try.pinned (OpenSpec.ofChange permBackWrong)

/-- 'steeplelaw10.PermOne': WHATEVER THE INPUT: true; the input reads as it did. -/
def permOneSpec : ChangeSpec := { name := "permOne", fn := fun _ => fun
  | [d1, d2] => { results := [.lit (.bool true)], args := [d1, d2] }
  | _ => none }
def permOneRow : OpenClaim := { program := "ytbmjceiogfhffaa", sum := "fdfb8ae55742299c6b0df46a6eda0d35b8e242ae72a26a737b24f9297be6e996", func := "steeple/steeplelaw10.PermOne", spec := "permOne", recurses := true, apart := false }
def PermOneSaid : Prop := permOneRow.holds Try.pinned (OpenSpec.ofChange permOneSpec)

/-- ITS FALSE NEIGHBOUR: 'it returns false'. Refute it at one input. -/
def permOneWrong : ChangeSpec := { name := "permOne", fn := fun _ => fun
  | [d1, d2] => { results := [.lit (.bool false)], args := [d1, d2] }
  | _ => none }
def PermOneWrongFalsely : Prop := permOneRow.holds Try.pinned (OpenSpec.ofChange permOneWrong)

/-- 'steeplelaw10.PermNil': WHATEVER THE INPUT: true; the input reads as it did. -/
def permNilSpec : ChangeSpec := { name := "permNil", fn := fun _ => fun
  | [d1, d2, d3] => { results := [.lit (.bool true)], args := [d1, d2, d3] }
  | _ => none }
def permNilRow : OpenClaim := { program := "ytbmjceiogfhffaa", sum := "fdfb8ae55742299c6b0df46a6eda0d35b8e242ae72a26a737b24f9297be6e996", func := "steeple/steeplelaw10.PermNil", spec := "permNil", unfollowed := true, recurses := true, apart := false }
def PermNilSaid : Prop := permNilRow.holds Try.pinned (OpenSpec.ofChange permNilSpec)

/-- ITS FALSE NEIGHBOUR: 'it returns false'. Refute it at one input. -/
def permNilWrong : ChangeSpec := { name := "permNil", fn := fun _ => fun
  | [d1, d2, d3] => { results := [.lit (.bool false)], args := [d1, d2, d3] }
  | _ => none }
def PermNilWrongFalsely : Prop := permNilRow.holds Try.pinned (OpenSpec.ofChange permNilWrong)

/-- 'steeplelaw11.SpongePresses': WHATEVER THE INPUT: true; the input reads as it did. -/
def spongePressesSpec : ChangeSpec := { name := "spongePresses", fn := fun _ => fun
  | [d1, d2] => { results := [.lit (.bool true)], args := [d1, d2] }
  | _ => none }
def spongePressesRow : OpenClaim := { program := "ytbmjceiogfhffaa", sum := "fdfb8ae55742299c6b0df46a6eda0d35b8e242ae72a26a737b24f9297be6e996", func := "steeple/steeplelaw11.SpongePresses", spec := "spongePresses", inPlace := ["internal/abi.NoEscape", "internal/bytealg.MakeNoZero"], unfollowed := true, recurses := true, apart := false }
def SpongePressesSaid : Prop := spongePressesRow.holds Try.pinned (OpenSpec.ofChange spongePressesSpec)

/-- ITS FALSE NEIGHBOUR: 'it returns false'. Refute it at one input. -/
def spongePressesWrong : ChangeSpec := { name := "spongePresses", fn := fun _ => fun
  | [d1, d2] => { results := [.lit (.bool false)], args := [d1, d2] }
  | _ => none }
def SpongePressesWrongFalsely : Prop := spongePressesRow.holds Try.pinned (OpenSpec.ofChange spongePressesWrong)

/- THE SECOND FORM. 'bulk': how many values and letters a reading holds, each counted each time it is reached (what is shared counts as often as it is met; a slice's spare places count too). A statement '..UptoSaid' is the law's where the arguments, and the package variables that the reading takes, are together of bulk at most 1048576: NARROWER than '..Said'. Prove '..Said' where nothing that the law and all that it calls make is longer than what came in: it says more and counts as full. Else prove '..UptoSaid'. A law counts once. -/
mutual
def uptoBulk {H : Type} : DataW H → Nat
  | .lit (.string bytes) => bytes.length + 1
  | .lit _ => 1
  | .nil => 1
  | .ptr d => uptoBulk d + 1
  | .slice elems spare => uptoBulkAll elems + uptoBulkAll spare + 1
  | .agg parts => uptoBulkAll parts + 1
  | .iface _ d => uptoBulk d + 1
  | .map entries => uptoBulkEntries entries + 1
  | .held _ => 1
def uptoBulkAll {H : Type} : List (DataW H) → Nat
  | [] => 0
  | d :: r => uptoBulk d + uptoBulkAll r
def uptoBulkEntries {H : Type} : List (Lit × DataW H) → Nat
  | [] => 0
  | x :: r => uptoBulkEntry x + uptoBulkEntries r
def uptoBulkEntry {H : Type} : Lit × DataW H → Nat
  | (.string bytes, d) => bytes.length + uptoBulk d + 1
  | (_, d) => uptoBulk d + 1
 end
def uptoSmall : (H : Type) → List (DataW H) → Bool := fun _ ds => decide (uptoBulkAll ds ≤ 1048576)
def OpenSpec.upto (s : _root_.Go.ChangeSpec) : _root_.Go.OpenSpec := { _root_.Go.OpenSpec.ofChange s with cond := some uptoSmall }

/-- 'steeplelaw10.PermTables', WHERE WHAT IT READS IS OF BULK AT MOST 1048576: true; the input reads as it did. -/
def permTablesUptoRow : OpenClaim := { program := "ytbmjceiogfhffaa", sum := "fdfb8ae55742299c6b0df46a6eda0d35b8e242ae72a26a737b24f9297be6e996", func := "steeple/steeplelaw10.PermTables", spec := "permTables", recurses := true, apart := false, narrowed := true }
def PermTablesUptoSaid : Prop := permTablesUptoRow.holds Try.pinned (OpenSpec.upto permTablesSpec)

/-- 'steeplelaw10.PermWays', WHERE WHAT IT READS IS OF BULK AT MOST 1048576: true; the input reads as it did. -/
def permWaysUptoRow : OpenClaim := { program := "ytbmjceiogfhffaa", sum := "fdfb8ae55742299c6b0df46a6eda0d35b8e242ae72a26a737b24f9297be6e996", func := "steeple/steeplelaw10.PermWays", spec := "permWays", unfollowed := true, recurses := true, apart := false, narrowed := true }
def PermWaysUptoSaid : Prop := permWaysUptoRow.holds Try.pinned (OpenSpec.upto permWaysSpec)

/-- 'steeplelaw10.PermBack', WHERE WHAT IT READS IS OF BULK AT MOST 1048576: true; the input reads as it did. -/
def permBackUptoRow : OpenClaim := { program := "ytbmjceiogfhffaa", sum := "fdfb8ae55742299c6b0df46a6eda0d35b8e242ae72a26a737b24f9297be6e996", func := "steeple/steeplelaw10.PermBack", spec := "permBack", unfollowed := true, recurses := true, apart := false, narrowed := true }
def PermBackUptoSaid : Prop := permBackUptoRow.holds Try.pinned (OpenSpec.upto permBackSpec)

/-- 'steeplelaw10.PermOne', WHERE WHAT IT READS IS OF BULK AT MOST 1048576: true; the input reads as it did. -/
def permOneUptoRow : OpenClaim := { program := "ytbmjceiogfhffaa", sum := "fdfb8ae55742299c6b0df46a6eda0d35b8e242ae72a26a737b24f9297be6e996", func := "steeple/steeplelaw10.PermOne", spec := "permOne", recurses := true, apart := false, narrowed := true }
def PermOneUptoSaid : Prop := permOneUptoRow.holds Try.pinned (OpenSpec.upto permOneSpec)

/-- 'steeplelaw10.PermNil', WHERE WHAT IT READS IS OF BULK AT MOST 1048576: true; the input reads as it did. -/
def permNilUptoRow : OpenClaim := { program := "ytbmjceiogfhffaa", sum := "fdfb8ae55742299c6b0df46a6eda0d35b8e242ae72a26a737b24f9297be6e996", func := "steeple/steeplelaw10.PermNil", spec := "permNil", unfollowed := true, recurses := true, apart := false, narrowed := true }
def PermNilUptoSaid : Prop := permNilUptoRow.holds Try.pinned (OpenSpec.upto permNilSpec)

/-- 'steeplelaw11.SpongePresses', WHERE WHAT IT READS IS OF BULK AT MOST 1048576: true; the input reads as it did. -/
def spongePressesUptoRow : OpenClaim := { program := "ytbmjceiogfhffaa", sum := "fdfb8ae55742299c6b0df46a6eda0d35b8e242ae72a26a737b24f9297be6e996", func := "steeple/steeplelaw11.SpongePresses", spec := "spongePresses", inPlace := ["internal/abi.NoEscape", "internal/bytealg.MakeNoZero"], unfollowed := true, recurses := true, apart := false, narrowed := true }
def SpongePressesUptoSaid : Prop := spongePressesUptoRow.holds Try.pinned (OpenSpec.upto spongePressesSpec)

end Rows
end Go.Proofs.Ytbmjceiogfhffaa
