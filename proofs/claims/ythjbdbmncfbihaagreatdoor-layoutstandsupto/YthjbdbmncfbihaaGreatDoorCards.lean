/-
  DERIVED. GIVEN WITH THE SEED: THE CARDS: each row of YthjbdbmncfbihaaGreatDoorRows.lean that lists a variable, with what it lists TIED to the program's text (the seventh form; the later family's looks); each row that meets fmt, with fmt's text TOLD by the authors' own Lean function (tested against real Go, not proved from fmt's source: count such statements apart). THE CARD IS WHAT COUNTS. Prove the row's statement (the work); the ties are given (YthjbdbmncfbihaaGreatDoorTie.lean); close each card by the builder's one call (the guide's Derived/Test/ToyasCard.lean, 'card_holds'). Laid BY PROGRAM, IN A SANDBOX (cutbox-door.mjs). By AI agents, Wed Nov 11 2026. No macro, syntax, notation, axiom, sorry.
-/
import Derived.Test.YthjbdbmncfbihaaGreatDoorRows
import GoSem.ClaimSeven
namespace Go.Proofs.YthjbdbmncfbihaaGreatDoor
namespace Rows

/-- THE TIED CARD OF 'switchyardlaw05.LayoutSizes'. -/
def layoutSizesCard : Claim7 := { stood := { row := layoutSizesRow, standIns := [], harness := (true, "740a7637000c5b5d6bab501d2819854c6b86a54fd3729c2dbefd9f06dd3a5132"), looks := true }, kinds := [], alts := [], laidByText := true, laidKinds := [.data, .data, .data, .sentinel, .sentinel], laidTests := true, laidLooks := .later }
def LayoutSizesCardSaid : Prop := Claim7.holds Tryz.pinned (.plain (OpenSpec.ofChange layoutSizesSpec)) layoutSizesCard

/-- THE TIED CARD OF 'switchyardlaw05.LayoutTells'. -/
def layoutTellsCard : Claim7 := { stood := { row := layoutTellsRow, standIns := [], harness := (true, "740a7637000c5b5d6bab501d2819854c6b86a54fd3729c2dbefd9f06dd3a5132"), looks := true }, kinds := [], alts := [], laidByText := true, laidKinds := [.data, .data, .data, .sentinel, .sentinel], laidTests := true, laidLooks := .later }
def LayoutTellsCardSaid : Prop := Claim7.holds Tryz.pinned (.plain (OpenSpec.ofChange layoutTellsSpec)) layoutTellsCard

/-- THE TIED CARD OF 'switchyardlaw05.LayoutStands'. -/
def layoutStandsCard : Claim7 := { stood := { row := layoutStandsRow, standIns := [], harness := (true, "740a7637000c5b5d6bab501d2819854c6b86a54fd3729c2dbefd9f06dd3a5132"), looks := true }, kinds := [], alts := [], laidByText := true, laidKinds := [.data, .data, .data, .sentinel, .sentinel], laidTests := true, laidLooks := .later }
def LayoutStandsCardSaid : Prop := Claim7.holds Tryz.pinned (.plain (OpenSpec.ofChange layoutStandsSpec)) layoutStandsCard

/-- THE TIED CARD OF 'switchyardlaw05.LayoutSpares'. -/
def layoutSparesCard : Claim7 := { stood := { row := layoutSparesRow, standIns := [], harness := (true, "740a7637000c5b5d6bab501d2819854c6b86a54fd3729c2dbefd9f06dd3a5132"), looks := true }, kinds := [], alts := [], laidByText := true, laidKinds := [.data, .data, .data, .sentinel, .sentinel], laidTests := true, laidLooks := .later }
def LayoutSparesCardSaid : Prop := Claim7.holds Tryz.pinned (.plain (OpenSpec.ofChange layoutSparesSpec)) layoutSparesCard

/-- THE SECOND FORM's CARD OF 'switchyardlaw05.LayoutSizes'. -/
def layoutSizesUptoCard : Claim7 := { stood := { row := layoutSizesUptoRow, standIns := [], harness := (true, "740a7637000c5b5d6bab501d2819854c6b86a54fd3729c2dbefd9f06dd3a5132"), looks := true }, kinds := [], alts := [], laidByText := true, laidKinds := [.data, .data, .data, .sentinel, .sentinel], laidTests := true, laidLooks := .later }
def LayoutSizesUptoCardSaid : Prop := Claim7.holds Tryz.pinned (.plain (OpenSpec.upto layoutSizesSpec)) layoutSizesUptoCard

/-- THE SECOND FORM's CARD OF 'switchyardlaw05.LayoutTells'. -/
def layoutTellsUptoCard : Claim7 := { stood := { row := layoutTellsUptoRow, standIns := [], harness := (true, "740a7637000c5b5d6bab501d2819854c6b86a54fd3729c2dbefd9f06dd3a5132"), looks := true }, kinds := [], alts := [], laidByText := true, laidKinds := [.data, .data, .data, .sentinel, .sentinel], laidTests := true, laidLooks := .later }
def LayoutTellsUptoCardSaid : Prop := Claim7.holds Tryz.pinned (.plain (OpenSpec.upto layoutTellsSpec)) layoutTellsUptoCard

/-- THE SECOND FORM's CARD OF 'switchyardlaw05.LayoutStands'. -/
def layoutStandsUptoCard : Claim7 := { stood := { row := layoutStandsUptoRow, standIns := [], harness := (true, "740a7637000c5b5d6bab501d2819854c6b86a54fd3729c2dbefd9f06dd3a5132"), looks := true }, kinds := [], alts := [], laidByText := true, laidKinds := [.data, .data, .data, .sentinel, .sentinel], laidTests := true, laidLooks := .later }
def LayoutStandsUptoCardSaid : Prop := Claim7.holds Tryz.pinned (.plain (OpenSpec.upto layoutStandsSpec)) layoutStandsUptoCard

/-- THE SECOND FORM's CARD OF 'switchyardlaw05.LayoutSpares'. -/
def layoutSparesUptoCard : Claim7 := { stood := { row := layoutSparesUptoRow, standIns := [], harness := (true, "740a7637000c5b5d6bab501d2819854c6b86a54fd3729c2dbefd9f06dd3a5132"), looks := true }, kinds := [], alts := [], laidByText := true, laidKinds := [.data, .data, .data, .sentinel, .sentinel], laidTests := true, laidLooks := .later }
def LayoutSparesUptoCardSaid : Prop := Claim7.holds Tryz.pinned (.plain (OpenSpec.upto layoutSparesSpec)) layoutSparesUptoCard
end Rows
end Go.Proofs.YthjbdbmncfbihaaGreatDoor
