/-
  DERIVED. GIVEN WITH THE SEED: THE CARDS: each row of YtkianldkbfjehaaGreatDoorRows.lean that lists a variable, with what it lists TIED to the program's text (the seventh form; the later family's looks); each row that meets fmt, with fmt's text TOLD by the authors' own Lean function (tested against real Go, not proved from fmt's source: count such statements apart). THE CARD IS WHAT COUNTS. Prove the row's statement (the work); the ties are given (YtkianldkbfjehaaGreatDoorTie.lean); close each card by the builder's one call (the guide's Derived/Test/ToyasCard.lean, 'card_holds'). Laid BY PROGRAM, IN A SANDBOX (cutbox-door.mjs). By AI agents, Wed Nov 11 2026. No macro, syntax, notation, axiom, sorry.
-/
import Derived.Test.YtkianldkbfjehaaGreatDoorRows
import GoSem.ClaimSeven
namespace Go.Proofs.YtkianldkbfjehaaGreatDoor
namespace Rows

/-- THE TIED CARD OF 'switchyardlaw06.ObjectMakes'. -/
def objectMakesCard : Claim7 := { stood := { row := objectMakesRow, standIns := [], harness := (true, "5551790191fc35caf49c0b456ededfb42aff28cad172b66302d2068e756e3990"), looks := true }, kinds := [], alts := [], laidByText := true, laidKinds := [.data, .data, .data, .sentinel, .sentinel], laidTests := true, laidLooks := .later }
def ObjectMakesCardSaid : Prop := Claim7.holds Tryz.pinned (.plain (OpenSpec.ofChange objectMakesSpec)) objectMakesCard

/-- THE TIED CARD OF 'switchyardlaw06.ObjectRight'. -/
def objectRightCard : Claim7 := { stood := { row := objectRightRow, standIns := [], harness := (true, "5551790191fc35caf49c0b456ededfb42aff28cad172b66302d2068e756e3990"), looks := true }, kinds := [], alts := [], laidByText := true, laidKinds := [.data, .data, .data, .sentinel, .sentinel], laidTests := true, laidLooks := .later }
def ObjectRightCardSaid : Prop := Claim7.holds Tryz.pinned (.plain (OpenSpec.ofChange objectRightSpec)) objectRightCard

/-- THE TIED CARD OF 'switchyardlaw06.ObjectStands'. -/
def objectStandsCard : Claim7 := { stood := { row := objectStandsRow, standIns := [], harness := (true, "5551790191fc35caf49c0b456ededfb42aff28cad172b66302d2068e756e3990"), looks := true }, kinds := [], alts := [], laidByText := true, laidKinds := [.data, .data, .data, .sentinel, .sentinel], laidTests := true, laidLooks := .later }
def ObjectStandsCardSaid : Prop := Claim7.holds Tryz.pinned (.plain (OpenSpec.ofChange objectStandsSpec)) objectStandsCard

/-- THE TIED CARD OF 'switchyardlaw06.ObjectJoins'. -/
def objectJoinsCard : Claim7 := { stood := { row := objectJoinsRow, standIns := [], harness := (true, "5551790191fc35caf49c0b456ededfb42aff28cad172b66302d2068e756e3990"), looks := true }, kinds := [], alts := [], laidByText := true, laidKinds := [.data, .data, .data, .sentinel, .sentinel], laidTests := true, laidLooks := .later }
def ObjectJoinsCardSaid : Prop := Claim7.holds Tryz.pinned (.plain (OpenSpec.ofChange objectJoinsSpec)) objectJoinsCard

/-- THE SECOND FORM's CARD OF 'switchyardlaw06.ObjectMakes'. -/
def objectMakesUptoCard : Claim7 := { stood := { row := objectMakesUptoRow, standIns := [], harness := (true, "5551790191fc35caf49c0b456ededfb42aff28cad172b66302d2068e756e3990"), looks := true }, kinds := [], alts := [], laidByText := true, laidKinds := [.data, .data, .data, .sentinel, .sentinel], laidTests := true, laidLooks := .later }
def ObjectMakesUptoCardSaid : Prop := Claim7.holds Tryz.pinned (.plain (OpenSpec.upto objectMakesSpec)) objectMakesUptoCard

/-- THE SECOND FORM's CARD OF 'switchyardlaw06.ObjectRight'. -/
def objectRightUptoCard : Claim7 := { stood := { row := objectRightUptoRow, standIns := [], harness := (true, "5551790191fc35caf49c0b456ededfb42aff28cad172b66302d2068e756e3990"), looks := true }, kinds := [], alts := [], laidByText := true, laidKinds := [.data, .data, .data, .sentinel, .sentinel], laidTests := true, laidLooks := .later }
def ObjectRightUptoCardSaid : Prop := Claim7.holds Tryz.pinned (.plain (OpenSpec.upto objectRightSpec)) objectRightUptoCard

/-- THE SECOND FORM's CARD OF 'switchyardlaw06.ObjectStands'. -/
def objectStandsUptoCard : Claim7 := { stood := { row := objectStandsUptoRow, standIns := [], harness := (true, "5551790191fc35caf49c0b456ededfb42aff28cad172b66302d2068e756e3990"), looks := true }, kinds := [], alts := [], laidByText := true, laidKinds := [.data, .data, .data, .sentinel, .sentinel], laidTests := true, laidLooks := .later }
def ObjectStandsUptoCardSaid : Prop := Claim7.holds Tryz.pinned (.plain (OpenSpec.upto objectStandsSpec)) objectStandsUptoCard

/-- THE SECOND FORM's CARD OF 'switchyardlaw06.ObjectJoins'. -/
def objectJoinsUptoCard : Claim7 := { stood := { row := objectJoinsUptoRow, standIns := [], harness := (true, "5551790191fc35caf49c0b456ededfb42aff28cad172b66302d2068e756e3990"), looks := true }, kinds := [], alts := [], laidByText := true, laidKinds := [.data, .data, .data, .sentinel, .sentinel], laidTests := true, laidLooks := .later }
def ObjectJoinsUptoCardSaid : Prop := Claim7.holds Tryz.pinned (.plain (OpenSpec.upto objectJoinsSpec)) objectJoinsUptoCard
end Rows
end Go.Proofs.YtkianldkbfjehaaGreatDoor
