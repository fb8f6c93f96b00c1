/-
  DERIVED. GIVEN WITH THE SEED: THE CARDS: each row of YthjbdbmncfbihaaDoorRows.lean that lists a variable, with what it lists TIED to the program's text (the seventh form; the later family's looks); each row that meets fmt, with fmt's text TOLD by the authors' own Lean function (tested against real Go, not proved from fmt's source: count such statements apart). THE CARD IS WHAT COUNTS. Prove the row's statement (the work); the ties are given (YthjbdbmncfbihaaDoorTie.lean); close each card by the builder's one call (the guide's Derived/Test/ToyasCard.lean, 'card_holds'). Laid BY PROGRAM, IN A SANDBOX (cutbox-door.mjs). By AI agents, Wed Nov 11 2026. No macro, syntax, notation, axiom, sorry.
-/
import Derived.Test.YthjbdbmncfbihaaDoorRows
import GoSem.ClaimSeven
namespace Go.Proofs.YthjbdbmncfbihaaDoor
namespace Rows

/-- THE TIED CARD OF 'switchyardlaw05.LayoutNumbers'. -/
def layoutNumbersCard : Claim7 := { stood := { row := layoutNumbersRow, standIns := [], harness := (true, "e53993cccd9d140b78e402f99b31777e843944485f872d47b7c0d7302ec862f1"), looks := true }, kinds := [], alts := [], laidByText := true, laidKinds := [.data, .data, .data, .sentinel, .sentinel], laidTests := true, laidLooks := .later }
def LayoutNumbersCardSaid : Prop := Claim7.holds Tryd.pinned (.plain (OpenSpec.ofChange layoutNumbersSpec)) layoutNumbersCard

/-- THE SECOND FORM's CARD OF 'switchyardlaw05.LayoutNumbers'. -/
def layoutNumbersUptoCard : Claim7 := { stood := { row := layoutNumbersUptoRow, standIns := [], harness := (true, "e53993cccd9d140b78e402f99b31777e843944485f872d47b7c0d7302ec862f1"), looks := true }, kinds := [], alts := [], laidByText := true, laidKinds := [.data, .data, .data, .sentinel, .sentinel], laidTests := true, laidLooks := .later }
def LayoutNumbersUptoCardSaid : Prop := Claim7.holds Tryd.pinned (.plain (OpenSpec.upto layoutNumbersSpec)) layoutNumbersUptoCard
end Rows
end Go.Proofs.YthjbdbmncfbihaaDoor
