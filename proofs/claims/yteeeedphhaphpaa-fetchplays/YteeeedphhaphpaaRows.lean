/-
  No cell of these rows narrows 'for every input' (looked for: loops, veiled, ifaces, maps, wideKeys, modest, calm, conditions, laid).
  DERIVED. THE GIVEN ROWS OF THIS SEAT. 5 by the template 'for every input the law returns true; each argument reads behind the call as it read before'; 0 by the template 'total and deterministic' (their statements: YteeeedphhaphpaaTotals.lean).
  GIVEN WITH THE SEED: the statements are not yours to turn. If you find one false, say at which input.
  Laid BY PROGRAM, IN A SANDBOX (cutbox-rows.mjs): the forced cells as the released guide's own fill.sh prints them over the translation 78686db65cdc1d10… (all of the seat's roots in one cut). By AI agents, Wed Nov 11 2026. No macro, syntax, notation, axiom, sorry.
-/
import Derived.Test.YteeeedphhaphpaaChecked
import GoSem.Claim
import GoSem.ClaimJoined
import GoSem.ClaimMapViews
import Derived.JoinedTies
import Derived.KernelRfl
namespace Go.Proofs.Yteeeedphhaphpaa
/- THE CELL 'sum', in the pinned program and in every row, IS THE sha256 OF THE DUMP (.gsa) THAT YteeeedphhaphpaaProg.lean LOADS. Nothing in Lean hashes anything: it is a label: what it is worth is what the hold of that sum in a sandbox is worth. -/
noncomputable def Try.pinned : Pinned := { name := "yteeeedphhaphpaa", sum := "78686db65cdc1d10b171708ac8bff4d77ade4a083f8b4cc9c66f020e780b884e", checked := Try.checked }
namespace Rows
def none {H : Type} : Left H := { results := [], args := [] }

/-- 'switchyardlaw13.FetchNumbers': WHATEVER THE INPUT: true; the input reads as it did. -/
def fetchNumbersSpec : ChangeSpec := { name := "fetchNumbers", fn := fun _ => fun
  | [] => { results := [.lit (.bool true)], args := [] }
  | _ => none }
def fetchNumbersRow : OpenClaim := { program := "yteeeedphhaphpaa", sum := "78686db65cdc1d10b171708ac8bff4d77ade4a083f8b4cc9c66f020e780b884e", func := "switchyard/switchyardlaw13.FetchNumbers", spec := "fetchNumbers", unfollowed := true, recurses := true, apart := false }
def FetchNumbersSaid : Prop := fetchNumbersRow.holds Try.pinned (OpenSpec.ofChange fetchNumbersSpec)

/-- ITS FALSE NEIGHBOUR: 'it returns false'. Refute it at one input. -/
def fetchNumbersWrong : ChangeSpec := { name := "fetchNumbers", fn := fun _ => fun
  | [] => { results := [.lit (.bool false)], args := [] }
  | _ => none }
def FetchNumbersWrongFalsely : Prop := fetchNumbersRow.holds Try.pinned (OpenSpec.ofChange fetchNumbersWrong)

/-- 'switchyardlaw13.FetchTells': WHATEVER THE INPUT: true; the input reads as it did. -/
def fetchTellsSpec : ChangeSpec := { name := "fetchTells", fn := fun _ => fun
  | [d1, d2] => { results := [.lit (.bool true)], args := [d1, d2] }
  | _ => none }
def fetchTellsRow : OpenClaim := { program := "yteeeedphhaphpaa", sum := "78686db65cdc1d10b171708ac8bff4d77ade4a083f8b4cc9c66f020e780b884e", func := "switchyard/switchyardlaw13.FetchTells", spec := "fetchTells", apart := false }
def FetchTellsSaid : Prop := fetchTellsRow.holds Try.pinned (OpenSpec.ofChange fetchTellsSpec)

/-- ITS FALSE NEIGHBOUR: 'it returns false'. Refute it at one input. -/
def fetchTellsWrong : ChangeSpec := { name := "fetchTells", fn := fun _ => fun
  | [d1, d2] => { results := [.lit (.bool false)], args := [d1, d2] }
  | _ => none }
def FetchTellsWrongFalsely : Prop := fetchTellsRow.holds Try.pinned (OpenSpec.ofChange fetchTellsWrong)

/-- 'switchyardlaw13.FetchPlays': WHATEVER THE INPUT: true; the input reads as it did. -/
def fetchPlaysSpec : ChangeSpec := { name := "fetchPlays", fn := fun _ => fun
  | [d1, d2] => { results := [.lit (.bool true)], args := [d1, d2] }
  | _ => none }
def fetchPlaysRow : OpenClaim := { program := "yteeeedphhaphpaa", sum := "78686db65cdc1d10b171708ac8bff4d77ade4a083f8b4cc9c66f020e780b884e", func := "switchyard/switchyardlaw13.FetchPlays", spec := "fetchPlays", unfollowed := true, recurses := true, apart := false }
def FetchPlaysSaid : Prop := fetchPlaysRow.holds Try.pinned (OpenSpec.ofChange fetchPlaysSpec)

/-- ITS FALSE NEIGHBOUR: 'it returns false'. Refute it at one input. -/
def fetchPlaysWrong : ChangeSpec := { name := "fetchPlays", fn := fun _ => fun
  | [d1, d2] => { results := [.lit (.bool false)], args := [d1, d2] }
  | _ => none }
def FetchPlaysWrongFalsely : Prop := fetchPlaysRow.holds Try.pinned (OpenSpec.ofChange fetchPlaysWrong)

/-- 'switchyardlaw13.FetchWhole': WHATEVER THE INPUT: true; the input reads as it did. -/
def fetchWholeSpec : ChangeSpec := { name := "fetchWhole", fn := fun _ => fun
  | [d1, d2, d3] => { results := [.lit (.bool true)], args := [d1, d2, d3] }
  | _ => none }
def fetchWholeRow : OpenClaim := { program := "yteeeedphhaphpaa", sum := "78686db65cdc1d10b171708ac8bff4d77ade4a083f8b4cc9c66f020e780b884e", func := "switchyard/switchyardlaw13.FetchWhole", spec := "fetchWhole", apart := false }
def FetchWholeSaid : Prop := fetchWholeRow.holds Try.pinned (OpenSpec.ofChange fetchWholeSpec)

/-- ITS FALSE NEIGHBOUR: 'it returns false'. Refute it at one input. -/
def fetchWholeWrong : ChangeSpec := { name := "fetchWhole", fn := fun _ => fun
  | [d1, d2, d3] => { results := [.lit (.bool false)], args := [d1, d2, d3] }
  | _ => none }
def FetchWholeWrongFalsely : Prop := fetchWholeRow.holds Try.pinned (OpenSpec.ofChange fetchWholeWrong)

/-- 'switchyardlaw13.FetchHolds': WHATEVER THE INPUT: true; the input reads as it did. -/
def fetchHoldsSpec : ChangeSpec := { name := "fetchHolds", fn := fun _ => fun
  | [d1, d2, d3] => { results := [.lit (.bool true)], args := [d1, d2, d3] }
  | _ => none }
def fetchHoldsRow : OpenClaim := { program := "yteeeedphhaphpaa", sum := "78686db65cdc1d10b171708ac8bff4d77ade4a083f8b4cc9c66f020e780b884e", func := "switchyard/switchyardlaw13.FetchHolds", spec := "fetchHolds", unfollowed := true, recurses := true, apart := false }
def FetchHoldsSaid : Prop := fetchHoldsRow.holds Try.pinned (OpenSpec.ofChange fetchHoldsSpec)

/-- ITS FALSE NEIGHBOUR: 'it returns false'. Refute it at one input. -/
def fetchHoldsWrong : ChangeSpec := { name := "fetchHolds", fn := fun _ => fun
  | [d1, d2, d3] => { results := [.lit (.bool false)], args := [d1, d2, d3] }
  | _ => none }
def FetchHoldsWrongFalsely : Prop := fetchHoldsRow.holds Try.pinned (OpenSpec.ofChange fetchHoldsWrong)

/- THE SECOND FORM. 'bulk': how many values and letters a reading holds, each counted each time it is reached (what is shared counts as often as it is met; a slice's spare places count too). A statement '..UptoSaid' is the law's where the arguments, and the package variables that the reading takes, are together of bulk at most 1048576: NARROWER than '..Said'. Prove '..Said' where nothing that the law and all that it calls make is longer than what came in: it says more and counts as full. Else prove '..UptoSaid'. A law counts once. -/
mutual
def uptoBulk {H : Type} : DataW H → Nat
  | .lit (.string bytes) => bytes.length + 1
  | .lit _ => 1
  | .nil => 1
  | .ptr d => uptoBulk d + 1
  | .slice elems spare => uptoBulkAll elems + uptoBulkAll spare + 1
  | .agg parts => uptoBulkAll parts + 1
  | .iface _ d => uptoBulk d + 1
  | .map entries => uptoBulkEntries entries + 1
  | .held _ => 1
def uptoBulkAll {H : Type} : List (DataW H) → Nat
  | [] => 0
  | d :: r => uptoBulk d + uptoBulkAll r
def uptoBulkEntries {H : Type} : List (Lit × DataW H) → Nat
  | [] => 0
  | x :: r => uptoBulkEntry x + uptoBulkEntries r
def uptoBulkEntry {H : Type} : Lit × DataW H → Nat
  | (.string bytes, d) => bytes.length + uptoBulk d + 1
  | (_, d) => uptoBulk d + 1
 end
def uptoSmall : (H : Type) → List (DataW H) → Bool := fun _ ds => decide (uptoBulkAll ds ≤ 1048576)
def OpenSpec.upto (s : _root_.Go.ChangeSpec) : _root_.Go.OpenSpec := { _root_.Go.OpenSpec.ofChange s with cond := some uptoSmall }

/-- 'switchyardlaw13.FetchNumbers', WHERE WHAT IT READS IS OF BULK AT MOST 1048576: true; the input reads as it did. -/
def fetchNumbersUptoRow : OpenClaim := { program := "yteeeedphhaphpaa", sum := "78686db65cdc1d10b171708ac8bff4d77ade4a083f8b4cc9c66f020e780b884e", func := "switchyard/switchyardlaw13.FetchNumbers", spec := "fetchNumbers", unfollowed := true, recurses := true, apart := false, narrowed := true }
def FetchNumbersUptoSaid : Prop := fetchNumbersUptoRow.holds Try.pinned (OpenSpec.upto fetchNumbersSpec)

/-- 'switchyardlaw13.FetchTells', WHERE WHAT IT READS IS OF BULK AT MOST 1048576: true; the input reads as it did. -/
def fetchTellsUptoRow : OpenClaim := { program := "yteeeedphhaphpaa", sum := "78686db65cdc1d10b171708ac8bff4d77ade4a083f8b4cc9c66f020e780b884e", func := "switchyard/switchyardlaw13.FetchTells", spec := "fetchTells", apart := false, narrowed := true }
def FetchTellsUptoSaid : Prop := fetchTellsUptoRow.holds Try.pinned (OpenSpec.upto fetchTellsSpec)

/-- 'switchyardlaw13.FetchPlays', WHERE WHAT IT READS IS OF BULK AT MOST 1048576: true; the input reads as it did. -/
def fetchPlaysUptoRow : OpenClaim := { program := "yteeeedphhaphpaa", sum := "78686db65cdc1d10b171708ac8bff4d77ade4a083f8b4cc9c66f020e780b884e", func := "switchyard/switchyardlaw13.FetchPlays", spec := "fetchPlays", unfollowed := true, recurses := true, apart := false, narrowed := true }
def FetchPlaysUptoSaid : Prop := fetchPlaysUptoRow.holds Try.pinned (OpenSpec.upto fetchPlaysSpec)

/-- 'switchyardlaw13.FetchWhole', WHERE WHAT IT READS IS OF BULK AT MOST 1048576: true; the input reads as it did. -/
def fetchWholeUptoRow : OpenClaim := { program := "yteeeedphhaphpaa", sum := "78686db65cdc1d10b171708ac8bff4d77ade4a083f8b4cc9c66f020e780b884e", func := "switchyard/switchyardlaw13.FetchWhole", spec := "fetchWhole", apart := false, narrowed := true }
def FetchWholeUptoSaid : Prop := fetchWholeUptoRow.holds Try.pinned (OpenSpec.upto fetchWholeSpec)

/-- 'switchyardlaw13.FetchHolds', WHERE WHAT IT READS IS OF BULK AT MOST 1048576: true; the input reads as it did. -/
def fetchHoldsUptoRow : OpenClaim := { program := "yteeeedphhaphpaa", sum := "78686db65cdc1d10b171708ac8bff4d77ade4a083f8b4cc9c66f020e780b884e", func := "switchyard/switchyardlaw13.FetchHolds", spec := "fetchHolds", unfollowed := true, recurses := true, apart := false, narrowed := true }
def FetchHoldsUptoSaid : Prop := fetchHoldsUptoRow.holds Try.pinned (OpenSpec.upto fetchHoldsSpec)

end Rows
end Go.Proofs.Yteeeedphhaphpaa
