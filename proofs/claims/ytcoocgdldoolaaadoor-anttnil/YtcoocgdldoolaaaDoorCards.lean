/-
  DERIVED. GIVEN WITH THE SEED: THE CARDS: each row of YtcoocgdldoolaaaDoorRows.lean that lists a variable, with what it lists TIED to the program's text (the seventh form; the later family's looks); each row that meets fmt, with fmt's text TOLD by the authors' own Lean function (tested against real Go, not proved from fmt's source: count such statements apart). THE CARD IS WHAT COUNTS. Prove the row's statement (the work); the ties are given (YtcoocgdldoolaaaDoorTie.lean); close each card by the builder's one call (the guide's Derived/Test/ToyasCard.lean, 'card_holds'). Laid BY PROGRAM, IN A SANDBOX (cutbox-door.mjs). By AI agents, Wed Nov 11 2026. No macro, syntax, notation, axiom, sorry.
-/
import Derived.Test.YtcoocgdldoolaaaDoorRows
import GoSem.ClaimSeven
namespace Go.Proofs.YtcoocgdldoolaaaDoor
namespace Rows

/-- THE TIED CARD OF 'steeplelaw07.AnttNil'. -/
def anttNilCard : Claim7 := { stood := { row := anttNilRow, standIns := [], harness := (true, "23ee0054ecbd7c98421c320945f7d76eecf719bc38c261ddf847c6ae01e56048"), looks := false }, kinds := [], alts := [], laidByText := true, laidKinds := [.data, .data], laidTests := true, laidLooks := .later }
def AnttNilCardSaid : Prop := Claim7.holds Tryd.pinned (.plain (OpenSpec.ofChange anttNilSpec)) anttNilCard

/-- THE SECOND FORM's CARD OF 'steeplelaw07.AnttNil'. -/
def anttNilUptoCard : Claim7 := { stood := { row := anttNilUptoRow, standIns := [], harness := (true, "23ee0054ecbd7c98421c320945f7d76eecf719bc38c261ddf847c6ae01e56048"), looks := false }, kinds := [], alts := [], laidByText := true, laidKinds := [.data, .data], laidTests := true, laidLooks := .later }
def AnttNilUptoCardSaid : Prop := Claim7.holds Tryd.pinned (.plain (OpenSpec.upto anttNilSpec)) anttNilUptoCard
end Rows
end Go.Proofs.YtcoocgdldoolaaaDoor
