/-
  DERIVED. GIVEN WITH THE SEED: THE CARDS: each row of YtaabdffplfifkaaDoorRows.lean that lists a variable, with what it lists TIED to the program's text (the seventh form; the later family's looks); each row that meets fmt, with fmt's text TOLD by the authors' own Lean function (tested against real Go, not proved from fmt's source: count such statements apart). THE CARD IS WHAT COUNTS. Prove the row's statement (the work); the ties are given (YtaabdffplfifkaaDoorTie.lean); close each card by the builder's one call (the guide's Derived/Test/ToyasCard.lean, 'card_holds'). Laid BY PROGRAM, IN A SANDBOX (cutbox-door.mjs). By AI agents, Wed Nov 11 2026. No macro, syntax, notation, axiom, sorry.
-/
import Derived.Test.YtaabdffplfifkaaDoorRows
import GoSem.ClaimSeven
namespace Go.Proofs.YtaabdffplfifkaaDoor
namespace Rows

/-- THE TIED CARD OF 'switchyardlaw03.WordsNumbers'. -/
def wordsNumbersCard : Claim7 := { stood := { row := wordsNumbersRow, standIns := [], harness := (true, "3faea8bc5b4d1e6776391ab67e7fa51b5cda2d06dfea599046ce38542135d1dd"), looks := true }, kinds := [], alts := [], laidByText := true, laidKinds := [.data, .data, .data, .sentinel, .sentinel], laidTests := true, laidLooks := .later }
def WordsNumbersCardSaid : Prop := Claim7.holds Tryd.pinned (.plain (OpenSpec.ofChange wordsNumbersSpec)) wordsNumbersCard

/-- THE TIED CARD OF 'switchyardlaw03.WordsTells'. -/
def wordsTellsCard : Claim7 := { stood := { row := wordsTellsRow, standIns := [], harness := (true, "3faea8bc5b4d1e6776391ab67e7fa51b5cda2d06dfea599046ce38542135d1dd"), looks := true }, kinds := [], alts := [], laidByText := true, laidKinds := [.data, .data, .data, .sentinel, .sentinel], laidTests := true, laidLooks := .later }
def WordsTellsCardSaid : Prop := Claim7.holds Tryd.pinned (.plain (OpenSpec.ofChange wordsTellsSpec)) wordsTellsCard

/-- THE TIED CARD OF 'switchyardlaw03.WordsLines'. -/
def wordsLinesCard : Claim7 := { stood := { row := wordsLinesRow, standIns := [], harness := (true, "3faea8bc5b4d1e6776391ab67e7fa51b5cda2d06dfea599046ce38542135d1dd"), looks := true }, kinds := [], alts := [], laidByText := true, laidKinds := [.data, .data, .data, .sentinel, .sentinel], laidTests := true, laidLooks := .later }
def WordsLinesCardSaid : Prop := Claim7.holds Tryd.pinned (.plain (OpenSpec.ofChange wordsLinesSpec)) wordsLinesCard

/-- THE TIED CARD OF 'switchyardlaw03.WordsFields'. -/
def wordsFieldsCard : Claim7 := { stood := { row := wordsFieldsRow, standIns := [], harness := (true, "3faea8bc5b4d1e6776391ab67e7fa51b5cda2d06dfea599046ce38542135d1dd"), looks := true }, kinds := [], alts := [], laidByText := true, laidKinds := [.data, .data, .data, .sentinel, .sentinel], laidTests := true, laidLooks := .later }
def WordsFieldsCardSaid : Prop := Claim7.holds Tryd.pinned (.plain (OpenSpec.ofChange wordsFieldsSpec)) wordsFieldsCard

/-- THE TIED CARD OF 'switchyardlaw03.WordsRead'. -/
def wordsReadCard : Claim7 := { stood := { row := wordsReadRow, standIns := [], harness := (true, "3faea8bc5b4d1e6776391ab67e7fa51b5cda2d06dfea599046ce38542135d1dd"), looks := true }, kinds := [], alts := [], laidByText := true, laidKinds := [.data, .data, .data, .sentinel, .sentinel], laidTests := true, laidLooks := .later }
def WordsReadCardSaid : Prop := Claim7.holds Tryd.pinned (.plain (OpenSpec.ofChange wordsReadSpec)) wordsReadCard

/-- THE TIED CARD OF 'switchyardlaw03.WordsSpares'. -/
def wordsSparesCard : Claim7 := { stood := { row := wordsSparesRow, standIns := [], harness := (true, "3faea8bc5b4d1e6776391ab67e7fa51b5cda2d06dfea599046ce38542135d1dd"), looks := true }, kinds := [], alts := [], laidByText := true, laidKinds := [.data, .data, .data, .sentinel, .sentinel], laidTests := true, laidLooks := .later }
def WordsSparesCardSaid : Prop := Claim7.holds Tryd.pinned (.plain (OpenSpec.ofChange wordsSparesSpec)) wordsSparesCard

/-- THE SECOND FORM's CARD OF 'switchyardlaw03.WordsNumbers'. -/
def wordsNumbersUptoCard : Claim7 := { stood := { row := wordsNumbersUptoRow, standIns := [], harness := (true, "3faea8bc5b4d1e6776391ab67e7fa51b5cda2d06dfea599046ce38542135d1dd"), looks := true }, kinds := [], alts := [], laidByText := true, laidKinds := [.data, .data, .data, .sentinel, .sentinel], laidTests := true, laidLooks := .later }
def WordsNumbersUptoCardSaid : Prop := Claim7.holds Tryd.pinned (.plain (OpenSpec.upto wordsNumbersSpec)) wordsNumbersUptoCard

/-- THE SECOND FORM's CARD OF 'switchyardlaw03.WordsTells'. -/
def wordsTellsUptoCard : Claim7 := { stood := { row := wordsTellsUptoRow, standIns := [], harness := (true, "3faea8bc5b4d1e6776391ab67e7fa51b5cda2d06dfea599046ce38542135d1dd"), looks := true }, kinds := [], alts := [], laidByText := true, laidKinds := [.data, .data, .data, .sentinel, .sentinel], laidTests := true, laidLooks := .later }
def WordsTellsUptoCardSaid : Prop := Claim7.holds Tryd.pinned (.plain (OpenSpec.upto wordsTellsSpec)) wordsTellsUptoCard

/-- THE SECOND FORM's CARD OF 'switchyardlaw03.WordsLines'. -/
def wordsLinesUptoCard : Claim7 := { stood := { row := wordsLinesUptoRow, standIns := [], harness := (true, "3faea8bc5b4d1e6776391ab67e7fa51b5cda2d06dfea599046ce38542135d1dd"), looks := true }, kinds := [], alts := [], laidByText := true, laidKinds := [.data, .data, .data, .sentinel, .sentinel], laidTests := true, laidLooks := .later }
def WordsLinesUptoCardSaid : Prop := Claim7.holds Tryd.pinned (.plain (OpenSpec.upto wordsLinesSpec)) wordsLinesUptoCard

/-- THE SECOND FORM's CARD OF 'switchyardlaw03.WordsFields'. -/
def wordsFieldsUptoCard : Claim7 := { stood := { row := wordsFieldsUptoRow, standIns := [], harness := (true, "3faea8bc5b4d1e6776391ab67e7fa51b5cda2d06dfea599046ce38542135d1dd"), looks := true }, kinds := [], alts := [], laidByText := true, laidKinds := [.data, .data, .data, .sentinel, .sentinel], laidTests := true, laidLooks := .later }
def WordsFieldsUptoCardSaid : Prop := Claim7.holds Tryd.pinned (.plain (OpenSpec.upto wordsFieldsSpec)) wordsFieldsUptoCard

/-- THE SECOND FORM's CARD OF 'switchyardlaw03.WordsRead'. -/
def wordsReadUptoCard : Claim7 := { stood := { row := wordsReadUptoRow, standIns := [], harness := (true, "3faea8bc5b4d1e6776391ab67e7fa51b5cda2d06dfea599046ce38542135d1dd"), looks := true }, kinds := [], alts := [], laidByText := true, laidKinds := [.data, .data, .data, .sentinel, .sentinel], laidTests := true, laidLooks := .later }
def WordsReadUptoCardSaid : Prop := Claim7.holds Tryd.pinned (.plain (OpenSpec.upto wordsReadSpec)) wordsReadUptoCard

/-- THE SECOND FORM's CARD OF 'switchyardlaw03.WordsSpares'. -/
def wordsSparesUptoCard : Claim7 := { stood := { row := wordsSparesUptoRow, standIns := [], harness := (true, "3faea8bc5b4d1e6776391ab67e7fa51b5cda2d06dfea599046ce38542135d1dd"), looks := true }, kinds := [], alts := [], laidByText := true, laidKinds := [.data, .data, .data, .sentinel, .sentinel], laidTests := true, laidLooks := .later }
def WordsSparesUptoCardSaid : Prop := Claim7.holds Tryd.pinned (.plain (OpenSpec.upto wordsSparesSpec)) wordsSparesUptoCard
end Rows
end Go.Proofs.YtaabdffplfifkaaDoor
