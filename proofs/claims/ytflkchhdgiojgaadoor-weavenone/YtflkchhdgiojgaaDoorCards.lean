/-
  DERIVED. GIVEN WITH THE SEED: THE CARDS: each row of YtflkchhdgiojgaaDoorRows.lean that lists a variable, with what it lists TIED to the program's text (the seventh form; the later family's looks); each row that meets fmt, with fmt's text TOLD by the authors' own Lean function (tested against real Go, not proved from fmt's source: count such statements apart). THE CARD IS WHAT COUNTS. Prove the row's statement (the work); the ties are given (YtflkchhdgiojgaaDoorTie.lean); close each card by the builder's one call (the guide's Derived/Test/ToyasCard.lean, 'card_holds'). Laid BY PROGRAM, IN A SANDBOX (cutbox-door.mjs). By AI agents, Wed Nov 11 2026. No macro, syntax, notation, axiom, sorry.
-/
import Derived.Test.YtflkchhdgiojgaaDoorRows
import GoSem.ClaimSeven
namespace Go.Proofs.YtflkchhdgiojgaaDoor
namespace Rows

/-- THE TIED CARD OF 'steeplelaw09.WeaveEncodes'. -/
def weaveEncodesCard : Claim7 := { stood := { row := weaveEncodesRow, standIns := [], harness := (true, "6c33f005de0b3177c16e987cf7b44bf88d2e10365877ebce77165138b9fc6063"), looks := false }, kinds := [], alts := [], laidByText := true, laidKinds := [.data, .data], laidTests := true, laidLooks := .later }
def WeaveEncodesCardSaid : Prop := Claim7.holds Tryd.pinned (.plain (OpenSpec.ofChange weaveEncodesSpec)) weaveEncodesCard

/-- THE TIED CARD OF 'steeplelaw09.WeaveNone'. -/
def weaveNoneCard : Claim7 := { stood := { row := weaveNoneRow, standIns := [], harness := (true, "6c33f005de0b3177c16e987cf7b44bf88d2e10365877ebce77165138b9fc6063"), looks := false }, kinds := [], alts := [], laidByText := true, laidKinds := [.data, .data], laidTests := true, laidLooks := .later }
def WeaveNoneCardSaid : Prop := Claim7.holds Tryd.pinned (.plain (OpenSpec.ofChange weaveNoneSpec)) weaveNoneCard

/-- THE SECOND FORM's CARD OF 'steeplelaw09.WeaveEncodes'. -/
def weaveEncodesUptoCard : Claim7 := { stood := { row := weaveEncodesUptoRow, standIns := [], harness := (true, "6c33f005de0b3177c16e987cf7b44bf88d2e10365877ebce77165138b9fc6063"), looks := false }, kinds := [], alts := [], laidByText := true, laidKinds := [.data, .data], laidTests := true, laidLooks := .later }
def WeaveEncodesUptoCardSaid : Prop := Claim7.holds Tryd.pinned (.plain (OpenSpec.upto weaveEncodesSpec)) weaveEncodesUptoCard

/-- THE SECOND FORM's CARD OF 'steeplelaw09.WeaveNone'. -/
def weaveNoneUptoCard : Claim7 := { stood := { row := weaveNoneUptoRow, standIns := [], harness := (true, "6c33f005de0b3177c16e987cf7b44bf88d2e10365877ebce77165138b9fc6063"), looks := false }, kinds := [], alts := [], laidByText := true, laidKinds := [.data, .data], laidTests := true, laidLooks := .later }
def WeaveNoneUptoCardSaid : Prop := Claim7.holds Tryd.pinned (.plain (OpenSpec.upto weaveNoneSpec)) weaveNoneUptoCard
end Rows
end Go.Proofs.YtflkchhdgiojgaaDoor
