/-
  No cell of these rows narrows 'for every input' (looked for: loops, veiled, ifaces, maps, wideKeys, modest, calm, conditions, laid).
  DERIVED. THE GIVEN ROWS OF THIS SEAT. 6 by the template 'for every input the law returns true; each argument reads behind the call as it read before'; 0 by the template 'total and deterministic' (their statements: YtnmcdkhfjkpklaaTotals.lean).
  GIVEN WITH THE SEED: the statements are not yours to turn. If you find one false, say at which input.
  Laid BY PROGRAM, IN A SANDBOX (cutbox-rows.mjs): the forced cells as the released guide's own fill.sh prints them over the translation eafb9573f386515a… (all of the seat's roots in one cut). By AI agents, Wed Nov 11 2026. No macro, syntax, notation, axiom, sorry.
-/
import Derived.Test.YtnmcdkhfjkpklaaChecked
import GoSem.Claim
import GoSem.ClaimJoined
import GoSem.ClaimMapViews
import Derived.JoinedTies
import Derived.KernelRfl
namespace Go.Proofs.Ytnmcdkhfjkpklaa
/- THE CELL 'sum', in the pinned program and in every row, IS THE sha256 OF THE DUMP (.gsa) THAT YtnmcdkhfjkpklaaProg.lean LOADS. Nothing in Lean hashes anything: it is a label: what it is worth is what the hold of that sum in a sandbox is worth. -/
noncomputable def Try.pinned : Pinned := { name := "ytnmcdkhfjkpklaa", sum := "eafb9573f386515a35bf5ad5c46559e4525f7689e47d01151d2e402bc1e7aec9", checked := Try.checked }
namespace Rows
def none {H : Type} : Left H := { results := [], args := [] }

/-- 'switchyardlaw07.SymbolsNumbers': WHATEVER THE INPUT: true; the input reads as it did. -/
def symbolsNumbersSpec : ChangeSpec := { name := "symbolsNumbers", fn := fun _ => fun
  | [] => { results := [.lit (.bool true)], args := [] }
  | _ => none }
def symbolsNumbersRow : OpenClaim := { program := "ytnmcdkhfjkpklaa", sum := "eafb9573f386515a35bf5ad5c46559e4525f7689e47d01151d2e402bc1e7aec9", func := "switchyard/switchyardlaw07.SymbolsNumbers", spec := "symbolsNumbers", unfollowed := true, recurses := true, apart := false }
def SymbolsNumbersSaid : Prop := symbolsNumbersRow.holds Try.pinned (OpenSpec.ofChange symbolsNumbersSpec)

/-- ITS FALSE NEIGHBOUR: 'it returns false'. Refute it at one input. -/
def symbolsNumbersWrong : ChangeSpec := { name := "symbolsNumbers", fn := fun _ => fun
  | [] => { results := [.lit (.bool false)], args := [] }
  | _ => none }
def SymbolsNumbersWrongFalsely : Prop := symbolsNumbersRow.holds Try.pinned (OpenSpec.ofChange symbolsNumbersWrong)

/-- 'switchyardlaw07.SymbolsTells': WHATEVER THE INPUT: true; the input reads as it did. -/
def symbolsTellsSpec : ChangeSpec := { name := "symbolsTells", fn := fun _ => fun
  | [d] => { results := [.lit (.bool true)], args := [d] }
  | _ => none }
def symbolsTellsRow : OpenClaim := { program := "ytnmcdkhfjkpklaa", sum := "eafb9573f386515a35bf5ad5c46559e4525f7689e47d01151d2e402bc1e7aec9", func := "switchyard/switchyardlaw07.SymbolsTells", spec := "symbolsTells", unfollowed := true, recurses := true, apart := false }
def SymbolsTellsSaid : Prop := symbolsTellsRow.holds Try.pinned (OpenSpec.ofChange symbolsTellsSpec)

/-- ITS FALSE NEIGHBOUR: 'it returns false'. Refute it at one input. -/
def symbolsTellsWrong : ChangeSpec := { name := "symbolsTells", fn := fun _ => fun
  | [d] => { results := [.lit (.bool false)], args := [d] }
  | _ => none }
def SymbolsTellsWrongFalsely : Prop := symbolsTellsRow.holds Try.pinned (OpenSpec.ofChange symbolsTellsWrong)

/-- 'switchyardlaw07.SymbolsFinds': WHATEVER THE INPUT: true; the input reads as it did. -/
def symbolsFindsSpec : ChangeSpec := { name := "symbolsFinds", fn := fun _ => fun
  | [d1, d2, d3, d4] => { results := [.lit (.bool true)], args := [d1, d2, d3, d4] }
  | _ => none }
def symbolsFindsRow : OpenClaim := { program := "ytnmcdkhfjkpklaa", sum := "eafb9573f386515a35bf5ad5c46559e4525f7689e47d01151d2e402bc1e7aec9", func := "switchyard/switchyardlaw07.SymbolsFinds", spec := "symbolsFinds", unfollowed := true, recurses := true, apart := false }
def SymbolsFindsSaid : Prop := symbolsFindsRow.holds Try.pinned (OpenSpec.ofChange symbolsFindsSpec)

/-- ITS FALSE NEIGHBOUR: 'it returns false'. Refute it at one input. -/
def symbolsFindsWrong : ChangeSpec := { name := "symbolsFinds", fn := fun _ => fun
  | [d1, d2, d3, d4] => { results := [.lit (.bool false)], args := [d1, d2, d3, d4] }
  | _ => none }
def SymbolsFindsWrongFalsely : Prop := symbolsFindsRow.holds Try.pinned (OpenSpec.ofChange symbolsFindsWrong)

/-- 'switchyardlaw07.SymbolsStand': WHATEVER THE INPUT: true; the input reads as it did. -/
def symbolsStandSpec : ChangeSpec := { name := "symbolsStand", fn := fun _ => fun
  | [d] => { results := [.lit (.bool true)], args := [d] }
  | _ => none }
def symbolsStandRow : OpenClaim := { program := "ytnmcdkhfjkpklaa", sum := "eafb9573f386515a35bf5ad5c46559e4525f7689e47d01151d2e402bc1e7aec9", func := "switchyard/switchyardlaw07.SymbolsStand", spec := "symbolsStand", unfollowed := true, recurses := true, apart := false }
def SymbolsStandSaid : Prop := symbolsStandRow.holds Try.pinned (OpenSpec.ofChange symbolsStandSpec)

/-- ITS FALSE NEIGHBOUR: 'it returns false'. Refute it at one input. -/
def symbolsStandWrong : ChangeSpec := { name := "symbolsStand", fn := fun _ => fun
  | [d] => { results := [.lit (.bool false)], args := [d] }
  | _ => none }
def SymbolsStandWrongFalsely : Prop := symbolsStandRow.holds Try.pinned (OpenSpec.ofChange symbolsStandWrong)

/-- 'switchyardlaw07.SymbolsBehind': WHATEVER THE INPUT: true; the input reads as it did. -/
def symbolsBehindSpec : ChangeSpec := { name := "symbolsBehind", fn := fun _ => fun
  | [d1, d2, d3, d4] => { results := [.lit (.bool true)], args := [d1, d2, d3, d4] }
  | _ => none }
def symbolsBehindRow : OpenClaim := { program := "ytnmcdkhfjkpklaa", sum := "eafb9573f386515a35bf5ad5c46559e4525f7689e47d01151d2e402bc1e7aec9", func := "switchyard/switchyardlaw07.SymbolsBehind", spec := "symbolsBehind", unfollowed := true, recurses := true, apart := false }
def SymbolsBehindSaid : Prop := symbolsBehindRow.holds Try.pinned (OpenSpec.ofChange symbolsBehindSpec)

/-- ITS FALSE NEIGHBOUR: 'it returns false'. Refute it at one input. -/
def symbolsBehindWrong : ChangeSpec := { name := "symbolsBehind", fn := fun _ => fun
  | [d1, d2, d3, d4] => { results := [.lit (.bool false)], args := [d1, d2, d3, d4] }
  | _ => none }
def SymbolsBehindWrongFalsely : Prop := symbolsBehindRow.holds Try.pinned (OpenSpec.ofChange symbolsBehindWrong)

/-- 'switchyardlaw07.SymbolsSpares': WHATEVER THE INPUT: true; the input reads as it did. -/
def symbolsSparesSpec : ChangeSpec := { name := "symbolsSpares", fn := fun _ => fun
  | [d] => { results := [.lit (.bool true)], args := [d] }
  | _ => none }
def symbolsSparesRow : OpenClaim := { program := "ytnmcdkhfjkpklaa", sum := "eafb9573f386515a35bf5ad5c46559e4525f7689e47d01151d2e402bc1e7aec9", func := "switchyard/switchyardlaw07.SymbolsSpares", spec := "symbolsSpares", unfollowed := true, recurses := true, apart := false }
def SymbolsSparesSaid : Prop := symbolsSparesRow.holds Try.pinned (OpenSpec.ofChange symbolsSparesSpec)

/-- ITS FALSE NEIGHBOUR: 'it returns false'. Refute it at one input. -/
def symbolsSparesWrong : ChangeSpec := { name := "symbolsSpares", fn := fun _ => fun
  | [d] => { results := [.lit (.bool false)], args := [d] }
  | _ => none }
def SymbolsSparesWrongFalsely : Prop := symbolsSparesRow.holds Try.pinned (OpenSpec.ofChange symbolsSparesWrong)

/- THE SECOND FORM. 'bulk': how many values and letters a reading holds, each counted each time it is reached (what is shared counts as often as it is met; a slice's spare places count too). A statement '..UptoSaid' is the law's where the arguments, and the package variables that the reading takes, are together of bulk at most 1048576: NARROWER than '..Said'. Prove '..Said' where nothing that the law and all that it calls make is longer than what came in: it says more and counts as full. Else prove '..UptoSaid'. A law counts once. -/
mutual
def uptoBulk {H : Type} : DataW H → Nat
  | .lit (.string bytes) => bytes.length + 1
  | .lit _ => 1
  | .nil => 1
  | .ptr d => uptoBulk d + 1
  | .slice elems spare => uptoBulkAll elems + uptoBulkAll spare + 1
  | .agg parts => uptoBulkAll parts + 1
  | .iface _ d => uptoBulk d + 1
  | .map entries => uptoBulkEntries entries + 1
  | .held _ => 1
def uptoBulkAll {H : Type} : List (DataW H) → Nat
  | [] => 0
  | d :: r => uptoBulk d + uptoBulkAll r
def uptoBulkEntries {H : Type} : List (Lit × DataW H) → Nat
  | [] => 0
  | x :: r => uptoBulkEntry x + uptoBulkEntries r
def uptoBulkEntry {H : Type} : Lit × DataW H → Nat
  | (.string bytes, d) => bytes.length + uptoBulk d + 1
  | (_, d) => uptoBulk d + 1
 end
def uptoSmall : (H : Type) → List (DataW H) → Bool := fun _ ds => decide (uptoBulkAll ds ≤ 1048576)
def OpenSpec.upto (s : _root_.Go.ChangeSpec) : _root_.Go.OpenSpec := { _root_.Go.OpenSpec.ofChange s with cond := some uptoSmall }

/-- 'switchyardlaw07.SymbolsNumbers', WHERE WHAT IT READS IS OF BULK AT MOST 1048576: true; the input reads as it did. -/
def symbolsNumbersUptoRow : OpenClaim := { program := "ytnmcdkhfjkpklaa", sum := "eafb9573f386515a35bf5ad5c46559e4525f7689e47d01151d2e402bc1e7aec9", func := "switchyard/switchyardlaw07.SymbolsNumbers", spec := "symbolsNumbers", unfollowed := true, recurses := true, apart := false, narrowed := true }
def SymbolsNumbersUptoSaid : Prop := symbolsNumbersUptoRow.holds Try.pinned (OpenSpec.upto symbolsNumbersSpec)

/-- 'switchyardlaw07.SymbolsTells', WHERE WHAT IT READS IS OF BULK AT MOST 1048576: true; the input reads as it did. -/
def symbolsTellsUptoRow : OpenClaim := { program := "ytnmcdkhfjkpklaa", sum := "eafb9573f386515a35bf5ad5c46559e4525f7689e47d01151d2e402bc1e7aec9", func := "switchyard/switchyardlaw07.SymbolsTells", spec := "symbolsTells", unfollowed := true, recurses := true, apart := false, narrowed := true }
def SymbolsTellsUptoSaid : Prop := symbolsTellsUptoRow.holds Try.pinned (OpenSpec.upto symbolsTellsSpec)

/-- 'switchyardlaw07.SymbolsFinds', WHERE WHAT IT READS IS OF BULK AT MOST 1048576: true; the input reads as it did. -/
def symbolsFindsUptoRow : OpenClaim := { program := "ytnmcdkhfjkpklaa", sum := "eafb9573f386515a35bf5ad5c46559e4525f7689e47d01151d2e402bc1e7aec9", func := "switchyard/switchyardlaw07.SymbolsFinds", spec := "symbolsFinds", unfollowed := true, recurses := true, apart := false, narrowed := true }
def SymbolsFindsUptoSaid : Prop := symbolsFindsUptoRow.holds Try.pinned (OpenSpec.upto symbolsFindsSpec)

/-- 'switchyardlaw07.SymbolsStand', WHERE WHAT IT READS IS OF BULK AT MOST 1048576: true; the input reads as it did. -/
def symbolsStandUptoRow : OpenClaim := { program := "ytnmcdkhfjkpklaa", sum := "eafb9573f386515a35bf5ad5c46559e4525f7689e47d01151d2e402bc1e7aec9", func := "switchyard/switchyardlaw07.SymbolsStand", spec := "symbolsStand", unfollowed := true, recurses := true, apart := false, narrowed := true }
def SymbolsStandUptoSaid : Prop := symbolsStandUptoRow.holds Try.pinned (OpenSpec.upto symbolsStandSpec)

/-- 'switchyardlaw07.SymbolsBehind', WHERE WHAT IT READS IS OF BULK AT MOST 1048576: true; the input reads as it did. -/
def symbolsBehindUptoRow : OpenClaim := { program := "ytnmcdkhfjkpklaa", sum := "eafb9573f386515a35bf5ad5c46559e4525f7689e47d01151d2e402bc1e7aec9", func := "switchyard/switchyardlaw07.SymbolsBehind", spec := "symbolsBehind", unfollowed := true, recurses := true, apart := false, narrowed := true }
def SymbolsBehindUptoSaid : Prop := symbolsBehindUptoRow.holds Try.pinned (OpenSpec.upto symbolsBehindSpec)

/-- 'switchyardlaw07.SymbolsSpares', WHERE WHAT IT READS IS OF BULK AT MOST 1048576: true; the input reads as it did. -/
def symbolsSparesUptoRow : OpenClaim := { program := "ytnmcdkhfjkpklaa", sum := "eafb9573f386515a35bf5ad5c46559e4525f7689e47d01151d2e402bc1e7aec9", func := "switchyard/switchyardlaw07.SymbolsSpares", spec := "symbolsSpares", unfollowed := true, recurses := true, apart := false, narrowed := true }
def SymbolsSparesUptoSaid : Prop := symbolsSparesUptoRow.holds Try.pinned (OpenSpec.upto symbolsSparesSpec)

end Rows
end Go.Proofs.Ytnmcdkhfjkpklaa
