/-
  DERIVED. GIVEN WITH THE SEED: THE CARDS: each row of YtacnmaeaabekgabDoorRows.lean that lists a variable, with what it lists TIED to the program's text (the seventh form; the later family's looks); each row that meets fmt, with fmt's text TOLD by the authors' own Lean function (tested against real Go, not proved from fmt's source: count such statements apart). THE CARD IS WHAT COUNTS. Prove the row's statement (the work); the ties are given (YtacnmaeaabekgabDoorTie.lean); close each card by the builder's one call (the guide's Derived/Test/ToyasCard.lean, 'card_holds'). Laid BY PROGRAM, IN A SANDBOX (cutbox-door.mjs). By AI agents, Wed Nov 11 2026. No macro, syntax, notation, axiom, sorry.
-/
import Derived.Test.YtacnmaeaabekgabDoorRows
import GoSem.ClaimSeven
namespace Go.Proofs.YtacnmaeaabekgabDoor
namespace Rows

/-- THE TIED CARD OF 'steeplelaw08.CodeFills'. -/
def codeFillsCard : Claim7 := { stood := { row := codeFillsRow, standIns := [], harness := (true, "00ae0dcc1e27605713c0c1f7b3478d505b4075861db2e9b241404570b9637530"), looks := false }, kinds := [], alts := [], laidByText := true, laidKinds := [.data, .data], laidTests := true, laidLooks := .later }
def CodeFillsCardSaid : Prop := Claim7.holds Tryd.pinned (.plain (OpenSpec.ofChange codeFillsSpec)) codeFillsCard

/-- THE TIED CARD OF 'steeplelaw08.CodeNil'. -/
def codeNilCard : Claim7 := { stood := { row := codeNilRow, standIns := [], harness := (true, "00ae0dcc1e27605713c0c1f7b3478d505b4075861db2e9b241404570b9637530"), looks := false }, kinds := [], alts := [], laidByText := true, laidKinds := [.data, .data], laidTests := true, laidLooks := .later }
def CodeNilCardSaid : Prop := Claim7.holds Tryd.pinned (.plain (OpenSpec.ofChange codeNilSpec)) codeNilCard

/-- THE TIED CARD OF 'steepletop.TopSpaces'. -/
def topSpacesCard : Claim7 := { stood := { row := topSpacesRow, standIns := [], harness := (true, "00ae0dcc1e27605713c0c1f7b3478d505b4075861db2e9b241404570b9637530"), looks := false }, kinds := [], alts := [], laidByText := true, laidKinds := [.data, .data], laidTests := true, laidLooks := .later }
def TopSpacesCardSaid : Prop := Claim7.holds Tryd.pinned (.plain (OpenSpec.ofChange topSpacesSpec)) topSpacesCard

/-- THE TIED CARD OF 'steepletop.TopWhole'. -/
def topWholeCard : Claim7 := { stood := { row := topWholeRow, standIns := [], harness := (true, "00ae0dcc1e27605713c0c1f7b3478d505b4075861db2e9b241404570b9637530"), looks := false }, kinds := [], alts := [], laidByText := true, laidKinds := [.data, .data], laidTests := true, laidLooks := .later }
def TopWholeCardSaid : Prop := Claim7.holds Tryd.pinned (.plain (OpenSpec.ofChange topWholeSpec)) topWholeCard

/-- THE TIED CARD OF 'steepletop.TopPairs'. -/
def topPairsCard : Claim7 := { stood := { row := topPairsRow, standIns := [], harness := (true, "00ae0dcc1e27605713c0c1f7b3478d505b4075861db2e9b241404570b9637530"), looks := false }, kinds := [], alts := [], laidByText := true, laidKinds := [.data, .data], laidTests := true, laidLooks := .later }
def TopPairsCardSaid : Prop := Claim7.holds Tryd.pinned (.plain (OpenSpec.ofChange topPairsSpec)) topPairsCard

/-- THE SECOND FORM's CARD OF 'steeplelaw08.CodeFills'. -/
def codeFillsUptoCard : Claim7 := { stood := { row := codeFillsUptoRow, standIns := [], harness := (true, "00ae0dcc1e27605713c0c1f7b3478d505b4075861db2e9b241404570b9637530"), looks := false }, kinds := [], alts := [], laidByText := true, laidKinds := [.data, .data], laidTests := true, laidLooks := .later }
def CodeFillsUptoCardSaid : Prop := Claim7.holds Tryd.pinned (.plain (OpenSpec.upto codeFillsSpec)) codeFillsUptoCard

/-- THE SECOND FORM's CARD OF 'steeplelaw08.CodeNil'. -/
def codeNilUptoCard : Claim7 := { stood := { row := codeNilUptoRow, standIns := [], harness := (true, "00ae0dcc1e27605713c0c1f7b3478d505b4075861db2e9b241404570b9637530"), looks := false }, kinds := [], alts := [], laidByText := true, laidKinds := [.data, .data], laidTests := true, laidLooks := .later }
def CodeNilUptoCardSaid : Prop := Claim7.holds Tryd.pinned (.plain (OpenSpec.upto codeNilSpec)) codeNilUptoCard

/-- THE SECOND FORM's CARD OF 'steepletop.TopSpaces'. -/
def topSpacesUptoCard : Claim7 := { stood := { row := topSpacesUptoRow, standIns := [], harness := (true, "00ae0dcc1e27605713c0c1f7b3478d505b4075861db2e9b241404570b9637530"), looks := false }, kinds := [], alts := [], laidByText := true, laidKinds := [.data, .data], laidTests := true, laidLooks := .later }
def TopSpacesUptoCardSaid : Prop := Claim7.holds Tryd.pinned (.plain (OpenSpec.upto topSpacesSpec)) topSpacesUptoCard

/-- THE SECOND FORM's CARD OF 'steepletop.TopWhole'. -/
def topWholeUptoCard : Claim7 := { stood := { row := topWholeUptoRow, standIns := [], harness := (true, "00ae0dcc1e27605713c0c1f7b3478d505b4075861db2e9b241404570b9637530"), looks := false }, kinds := [], alts := [], laidByText := true, laidKinds := [.data, .data], laidTests := true, laidLooks := .later }
def TopWholeUptoCardSaid : Prop := Claim7.holds Tryd.pinned (.plain (OpenSpec.upto topWholeSpec)) topWholeUptoCard

/-- THE SECOND FORM's CARD OF 'steepletop.TopPairs'. -/
def topPairsUptoCard : Claim7 := { stood := { row := topPairsUptoRow, standIns := [], harness := (true, "00ae0dcc1e27605713c0c1f7b3478d505b4075861db2e9b241404570b9637530"), looks := false }, kinds := [], alts := [], laidByText := true, laidKinds := [.data, .data], laidTests := true, laidLooks := .later }
def TopPairsUptoCardSaid : Prop := Claim7.holds Tryd.pinned (.plain (OpenSpec.upto topPairsSpec)) topPairsUptoCard
end Rows
end Go.Proofs.YtacnmaeaabekgabDoor
