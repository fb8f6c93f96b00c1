/-
  No cell of these rows narrows 'for every input' (looked for: loops, veiled, ifaces, maps, wideKeys, modest, calm, conditions, laid).
  DERIVED. THE GIVEN ROWS OF THIS SEAT. 6 by the template 'for every input the law returns true; each argument reads behind the call as it read before'; 0 by the template 'total and deterministic' (their statements: YtkpieeldoielgaaTotals.lean).
  GIVEN WITH THE SEED: the statements are not yours to turn. If you find one false, say at which input.
  Laid BY PROGRAM, IN A SANDBOX (cutbox-rows.mjs): the forced cells as the released guide's own fill.sh prints them over the translation 9eb36831f9983376… (all of the seat's roots in one cut). By AI agents, Wed Nov 11 2026. No macro, syntax, notation, axiom, sorry.
-/
import Derived.Test.YtkpieeldoielgaaChecked
import GoSem.Claim
import GoSem.ClaimJoined
import GoSem.ClaimMapViews
import Derived.JoinedTies
import Derived.KernelRfl
namespace Go.Proofs.Ytkpieeldoielgaa
/- THE CELL 'sum', in the pinned program and in every row, IS THE sha256 OF THE DUMP (.gsa) THAT YtkpieeldoielgaaProg.lean LOADS. Nothing in Lean hashes anything: it is a label: what it is worth is what the hold of that sum in a sandbox is worth. -/
noncomputable def Try.pinned : Pinned := { name := "ytkpieeldoielgaa", sum := "9eb36831f998337649a9f910c5fa3001f3be0160ea497217da3b8f2861a5b481", checked := Try.checked }
namespace Rows
def none {H : Type} : Left H := { results := [], args := [] }

/-- 'switchyardlaw21.KeysNumbers': WHATEVER THE INPUT: true; the input reads as it did. -/
def keysNumbersSpec : ChangeSpec := { name := "keysNumbers", fn := fun _ => fun
  | [] => { results := [.lit (.bool true)], args := [] }
  | _ => none }
def keysNumbersRow : OpenClaim := { program := "ytkpieeldoielgaa", sum := "9eb36831f998337649a9f910c5fa3001f3be0160ea497217da3b8f2861a5b481", func := "switchyard/switchyardlaw21.KeysNumbers", spec := "keysNumbers", unfollowed := true, recurses := true, apart := false }
def KeysNumbersSaid : Prop := keysNumbersRow.holds Try.pinned (OpenSpec.ofChange keysNumbersSpec)

/-- ITS FALSE NEIGHBOUR: 'it returns false'. Refute it at one input. -/
def keysNumbersWrong : ChangeSpec := { name := "keysNumbers", fn := fun _ => fun
  | [] => { results := [.lit (.bool false)], args := [] }
  | _ => none }
def KeysNumbersWrongFalsely : Prop := keysNumbersRow.holds Try.pinned (OpenSpec.ofChange keysNumbersWrong)

/-- 'switchyardlaw21.KeysPlays': WHATEVER THE INPUT: true; the input reads as it did. -/
def keysPlaysSpec : ChangeSpec := { name := "keysPlays", fn := fun _ => fun
  | [d1, d2] => { results := [.lit (.bool true)], args := [d1, d2] }
  | _ => none }
def keysPlaysRow : OpenClaim := { program := "ytkpieeldoielgaa", sum := "9eb36831f998337649a9f910c5fa3001f3be0160ea497217da3b8f2861a5b481", func := "switchyard/switchyardlaw21.KeysPlays", spec := "keysPlays", inPlace := ["maps.clone"], unfollowed := true, recurses := true, apart := false }
def KeysPlaysSaid : Prop := keysPlaysRow.holds Try.pinned (OpenSpec.ofChange keysPlaysSpec)

/-- ITS FALSE NEIGHBOUR: 'it returns false'. Refute it at one input. -/
def keysPlaysWrong : ChangeSpec := { name := "keysPlays", fn := fun _ => fun
  | [d1, d2] => { results := [.lit (.bool false)], args := [d1, d2] }
  | _ => none }
def KeysPlaysWrongFalsely : Prop := keysPlaysRow.holds Try.pinned (OpenSpec.ofChange keysPlaysWrong)

/-- 'switchyardlaw21.KeysNone': WHATEVER THE INPUT: true; the input reads as it did. -/
def keysNoneSpec : ChangeSpec := { name := "keysNone", fn := fun _ => fun
  | [d1, d2, d3] => { results := [.lit (.bool true)], args := [d1, d2, d3] }
  | _ => none }
def keysNoneRow : OpenClaim := { program := "ytkpieeldoielgaa", sum := "9eb36831f998337649a9f910c5fa3001f3be0160ea497217da3b8f2861a5b481", func := "switchyard/switchyardlaw21.KeysNone", spec := "keysNone", inPlace := ["maps.clone"], unfollowed := true, recurses := true, apart := false }
def KeysNoneSaid : Prop := keysNoneRow.holds Try.pinned (OpenSpec.ofChange keysNoneSpec)

/-- ITS FALSE NEIGHBOUR: 'it returns false'. Refute it at one input. -/
def keysNoneWrong : ChangeSpec := { name := "keysNone", fn := fun _ => fun
  | [d1, d2, d3] => { results := [.lit (.bool false)], args := [d1, d2, d3] }
  | _ => none }
def KeysNoneWrongFalsely : Prop := keysNoneRow.holds Try.pinned (OpenSpec.ofChange keysNoneWrong)

/-- 'switchyardlaw21.KeysCounts': WHATEVER THE INPUT: true; the input reads as it did. -/
def keysCountsSpec : ChangeSpec := { name := "keysCounts", fn := fun _ => fun
  | [d1, d2] => { results := [.lit (.bool true)], args := [d1, d2] }
  | _ => none }
def keysCountsRow : OpenClaim := { program := "ytkpieeldoielgaa", sum := "9eb36831f998337649a9f910c5fa3001f3be0160ea497217da3b8f2861a5b481", func := "switchyard/switchyardlaw21.KeysCounts", spec := "keysCounts", unfollowed := true, recurses := true, apart := false }
def KeysCountsSaid : Prop := keysCountsRow.holds Try.pinned (OpenSpec.ofChange keysCountsSpec)

/-- ITS FALSE NEIGHBOUR: 'it returns false'. Refute it at one input. -/
def keysCountsWrong : ChangeSpec := { name := "keysCounts", fn := fun _ => fun
  | [d1, d2] => { results := [.lit (.bool false)], args := [d1, d2] }
  | _ => none }
def KeysCountsWrongFalsely : Prop := keysCountsRow.holds Try.pinned (OpenSpec.ofChange keysCountsWrong)

/-- 'switchyardlaw21.KeysBusy': WHATEVER THE INPUT: true; the input reads as it did. -/
def keysBusySpec : ChangeSpec := { name := "keysBusy", fn := fun _ => fun
  | [d1, d2, d3, d4] => { results := [.lit (.bool true)], args := [d1, d2, d3, d4] }
  | _ => none }
def keysBusyRow : OpenClaim := { program := "ytkpieeldoielgaa", sum := "9eb36831f998337649a9f910c5fa3001f3be0160ea497217da3b8f2861a5b481", func := "switchyard/switchyardlaw21.KeysBusy", spec := "keysBusy", unfollowed := true, recurses := true, apart := false }
def KeysBusySaid : Prop := keysBusyRow.holds Try.pinned (OpenSpec.ofChange keysBusySpec)

/-- ITS FALSE NEIGHBOUR: 'it returns false'. Refute it at one input. -/
def keysBusyWrong : ChangeSpec := { name := "keysBusy", fn := fun _ => fun
  | [d1, d2, d3, d4] => { results := [.lit (.bool false)], args := [d1, d2, d3, d4] }
  | _ => none }
def KeysBusyWrongFalsely : Prop := keysBusyRow.holds Try.pinned (OpenSpec.ofChange keysBusyWrong)

/-- 'switchyardlaw21.KeysSpares': WHATEVER THE INPUT: true; the input reads as it did. -/
def keysSparesSpec : ChangeSpec := { name := "keysSpares", fn := fun _ => fun
  | [d] => { results := [.lit (.bool true)], args := [d] }
  | _ => none }
def keysSparesRow : OpenClaim := { program := "ytkpieeldoielgaa", sum := "9eb36831f998337649a9f910c5fa3001f3be0160ea497217da3b8f2861a5b481", func := "switchyard/switchyardlaw21.KeysSpares", spec := "keysSpares", inPlace := ["maps.clone"], unfollowed := true, recurses := true, apart := false }
def KeysSparesSaid : Prop := keysSparesRow.holds Try.pinned (OpenSpec.ofChange keysSparesSpec)

/-- ITS FALSE NEIGHBOUR: 'it returns false'. Refute it at one input. -/
def keysSparesWrong : ChangeSpec := { name := "keysSpares", fn := fun _ => fun
  | [d] => { results := [.lit (.bool false)], args := [d] }
  | _ => none }
def KeysSparesWrongFalsely : Prop := keysSparesRow.holds Try.pinned (OpenSpec.ofChange keysSparesWrong)

/- THE SECOND FORM. 'bulk': how many values and letters a reading holds, each counted each time it is reached (what is shared counts as often as it is met; a slice's spare places count too). A statement '..UptoSaid' is the law's where the arguments, and the package variables that the reading takes, are together of bulk at most 1048576: NARROWER than '..Said'. Prove '..Said' where nothing that the law and all that it calls make is longer than what came in: it says more and counts as full. Else prove '..UptoSaid'. A law counts once. -/
mutual
def uptoBulk {H : Type} : DataW H → Nat
  | .lit (.string bytes) => bytes.length + 1
  | .lit _ => 1
  | .nil => 1
  | .ptr d => uptoBulk d + 1
  | .slice elems spare => uptoBulkAll elems + uptoBulkAll spare + 1
  | .agg parts => uptoBulkAll parts + 1
  | .iface _ d => uptoBulk d + 1
  | .map entries => uptoBulkEntries entries + 1
  | .held _ => 1
def uptoBulkAll {H : Type} : List (DataW H) → Nat
  | [] => 0
  | d :: r => uptoBulk d + uptoBulkAll r
def uptoBulkEntries {H : Type} : List (Lit × DataW H) → Nat
  | [] => 0
  | x :: r => uptoBulkEntry x + uptoBulkEntries r
def uptoBulkEntry {H : Type} : Lit × DataW H → Nat
  | (.string bytes, d) => bytes.length + uptoBulk d + 1
  | (_, d) => uptoBulk d + 1
 end
def uptoSmall : (H : Type) → List (DataW H) → Bool := fun _ ds => decide (uptoBulkAll ds ≤ 1048576)
def OpenSpec.upto (s : _root_.Go.ChangeSpec) : _root_.Go.OpenSpec := { _root_.Go.OpenSpec.ofChange s with cond := some uptoSmall }

/-- 'switchyardlaw21.KeysNumbers', WHERE WHAT IT READS IS OF BULK AT MOST 1048576: true; the input reads as it did. -/
def keysNumbersUptoRow : OpenClaim := { program := "ytkpieeldoielgaa", sum := "9eb36831f998337649a9f910c5fa3001f3be0160ea497217da3b8f2861a5b481", func := "switchyard/switchyardlaw21.KeysNumbers", spec := "keysNumbers", unfollowed := true, recurses := true, apart := false, narrowed := true }
def KeysNumbersUptoSaid : Prop := keysNumbersUptoRow.holds Try.pinned (OpenSpec.upto keysNumbersSpec)

/-- 'switchyardlaw21.KeysPlays', WHERE WHAT IT READS IS OF BULK AT MOST 1048576: true; the input reads as it did. -/
def keysPlaysUptoRow : OpenClaim := { program := "ytkpieeldoielgaa", sum := "9eb36831f998337649a9f910c5fa3001f3be0160ea497217da3b8f2861a5b481", func := "switchyard/switchyardlaw21.KeysPlays", spec := "keysPlays", inPlace := ["maps.clone"], unfollowed := true, recurses := true, apart := false, narrowed := true }
def KeysPlaysUptoSaid : Prop := keysPlaysUptoRow.holds Try.pinned (OpenSpec.upto keysPlaysSpec)

/-- 'switchyardlaw21.KeysNone', WHERE WHAT IT READS IS OF BULK AT MOST 1048576: true; the input reads as it did. -/
def keysNoneUptoRow : OpenClaim := { program := "ytkpieeldoielgaa", sum := "9eb36831f998337649a9f910c5fa3001f3be0160ea497217da3b8f2861a5b481", func := "switchyard/switchyardlaw21.KeysNone", spec := "keysNone", inPlace := ["maps.clone"], unfollowed := true, recurses := true, apart := false, narrowed := true }
def KeysNoneUptoSaid : Prop := keysNoneUptoRow.holds Try.pinned (OpenSpec.upto keysNoneSpec)

/-- 'switchyardlaw21.KeysCounts', WHERE WHAT IT READS IS OF BULK AT MOST 1048576: true; the input reads as it did. -/
def keysCountsUptoRow : OpenClaim := { program := "ytkpieeldoielgaa", sum := "9eb36831f998337649a9f910c5fa3001f3be0160ea497217da3b8f2861a5b481", func := "switchyard/switchyardlaw21.KeysCounts", spec := "keysCounts", unfollowed := true, recurses := true, apart := false, narrowed := true }
def KeysCountsUptoSaid : Prop := keysCountsUptoRow.holds Try.pinned (OpenSpec.upto keysCountsSpec)

/-- 'switchyardlaw21.KeysBusy', WHERE WHAT IT READS IS OF BULK AT MOST 1048576: true; the input reads as it did. -/
def keysBusyUptoRow : OpenClaim := { program := "ytkpieeldoielgaa", sum := "9eb36831f998337649a9f910c5fa3001f3be0160ea497217da3b8f2861a5b481", func := "switchyard/switchyardlaw21.KeysBusy", spec := "keysBusy", unfollowed := true, recurses := true, apart := false, narrowed := true }
def KeysBusyUptoSaid : Prop := keysBusyUptoRow.holds Try.pinned (OpenSpec.upto keysBusySpec)

/-- 'switchyardlaw21.KeysSpares', WHERE WHAT IT READS IS OF BULK AT MOST 1048576: true; the input reads as it did. -/
def keysSparesUptoRow : OpenClaim := { program := "ytkpieeldoielgaa", sum := "9eb36831f998337649a9f910c5fa3001f3be0160ea497217da3b8f2861a5b481", func := "switchyard/switchyardlaw21.KeysSpares", spec := "keysSpares", inPlace := ["maps.clone"], unfollowed := true, recurses := true, apart := false, narrowed := true }
def KeysSparesUptoSaid : Prop := keysSparesUptoRow.holds Try.pinned (OpenSpec.upto keysSparesSpec)

end Rows
end Go.Proofs.Ytkpieeldoielgaa
