/-
  No cell of these rows narrows 'for every input' (looked for: loops, veiled, ifaces, maps, wideKeys, modest, calm, conditions, laid).
  DERIVED. THE GIVEN ROWS OF THIS SEAT. 5 by the template 'for every input the law returns true; each argument reads behind the call as it read before'; 0 by the template 'total and deterministic' (their statements: YtibbcenfkmgbcaaTotals.lean).
  GIVEN WITH THE SEED: the statements are not yours to turn. If you find one false, say at which input.
  Laid BY PROGRAM, IN A SANDBOX (cutbox-rows.mjs): the forced cells as the released guide's own fill.sh prints them over the translation a9a6964e8469123e… (all of the seat's roots in one cut). By AI agents, Wed Nov 11 2026. No macro, syntax, notation, axiom, sorry.
-/
import Derived.Test.YtibbcenfkmgbcaaChecked
import GoSem.Claim
import GoSem.ClaimJoined
import GoSem.ClaimMapViews
import Derived.JoinedTies
import Derived.KernelRfl
namespace Go.Proofs.Ytibbcenfkmgbcaa
/- THE CELL 'sum', in the pinned program and in every row, IS THE sha256 OF THE DUMP (.gsa) THAT YtibbcenfkmgbcaaProg.lean LOADS. Nothing in Lean hashes anything: it is a label: what it is worth is what the hold of that sum in a sandbox is worth. -/
noncomputable def Try.pinned : Pinned := { name := "ytibbcenfkmgbcaa", sum := "a9a6964e8469123e914cf86aae4454336d7dee5b770b8475ae9057cfa3ab16b8", checked := Try.checked }
namespace Rows
def none {H : Type} : Left H := { results := [], args := [] }

/-- 'switchyardlaw17.SyncsNumbers': WHATEVER THE INPUT: true; the input reads as it did. -/
def syncsNumbersSpec : ChangeSpec := { name := "syncsNumbers", fn := fun _ => fun
  | [] => { results := [.lit (.bool true)], args := [] }
  | _ => none }
def syncsNumbersRow : OpenClaim := { program := "ytibbcenfkmgbcaa", sum := "a9a6964e8469123e914cf86aae4454336d7dee5b770b8475ae9057cfa3ab16b8", func := "switchyard/switchyardlaw17.SyncsNumbers", spec := "syncsNumbers", apart := false }
def SyncsNumbersSaid : Prop := syncsNumbersRow.holds Try.pinned (OpenSpec.ofChange syncsNumbersSpec)

/-- ITS FALSE NEIGHBOUR: 'it returns false'. Refute it at one input. -/
def syncsNumbersWrong : ChangeSpec := { name := "syncsNumbers", fn := fun _ => fun
  | [] => { results := [.lit (.bool false)], args := [] }
  | _ => none }
def SyncsNumbersWrongFalsely : Prop := syncsNumbersRow.holds Try.pinned (OpenSpec.ofChange syncsNumbersWrong)

/-- 'switchyardlaw17.SyncsPlays': WHATEVER THE INPUT: true; the input reads as it did. -/
def syncsPlaysSpec : ChangeSpec := { name := "syncsPlays", fn := fun _ => fun
  | [d1, d2] => { results := [.lit (.bool true)], args := [d1, d2] }
  | _ => none }
def syncsPlaysRow : OpenClaim := { program := "ytibbcenfkmgbcaa", sum := "a9a6964e8469123e914cf86aae4454336d7dee5b770b8475ae9057cfa3ab16b8", func := "switchyard/switchyardlaw17.SyncsPlays", spec := "syncsPlays", apart := false }
def SyncsPlaysSaid : Prop := syncsPlaysRow.holds Try.pinned (OpenSpec.ofChange syncsPlaysSpec)

/-- ITS FALSE NEIGHBOUR: 'it returns false'. Refute it at one input. -/
def syncsPlaysWrong : ChangeSpec := { name := "syncsPlays", fn := fun _ => fun
  | [d1, d2] => { results := [.lit (.bool false)], args := [d1, d2] }
  | _ => none }
def SyncsPlaysWrongFalsely : Prop := syncsPlaysRow.holds Try.pinned (OpenSpec.ofChange syncsPlaysWrong)

/-- 'switchyardlaw17.SyncsNone': WHATEVER THE INPUT: true; the input reads as it did. -/
def syncsNoneSpec : ChangeSpec := { name := "syncsNone", fn := fun _ => fun
  | [d1, d2] => { results := [.lit (.bool true)], args := [d1, d2] }
  | _ => none }
def syncsNoneRow : OpenClaim := { program := "ytibbcenfkmgbcaa", sum := "a9a6964e8469123e914cf86aae4454336d7dee5b770b8475ae9057cfa3ab16b8", func := "switchyard/switchyardlaw17.SyncsNone", spec := "syncsNone", apart := false }
def SyncsNoneSaid : Prop := syncsNoneRow.holds Try.pinned (OpenSpec.ofChange syncsNoneSpec)

/-- ITS FALSE NEIGHBOUR: 'it returns false'. Refute it at one input. -/
def syncsNoneWrong : ChangeSpec := { name := "syncsNone", fn := fun _ => fun
  | [d1, d2] => { results := [.lit (.bool false)], args := [d1, d2] }
  | _ => none }
def SyncsNoneWrongFalsely : Prop := syncsNoneRow.holds Try.pinned (OpenSpec.ofChange syncsNoneWrong)

/-- 'switchyardlaw17.SyncsOver': WHATEVER THE INPUT: true; the input reads as it did. -/
def syncsOverSpec : ChangeSpec := { name := "syncsOver", fn := fun _ => fun
  | [d1, d2, d3] => { results := [.lit (.bool true)], args := [d1, d2, d3] }
  | _ => none }
def syncsOverRow : OpenClaim := { program := "ytibbcenfkmgbcaa", sum := "a9a6964e8469123e914cf86aae4454336d7dee5b770b8475ae9057cfa3ab16b8", func := "switchyard/switchyardlaw17.SyncsOver", spec := "syncsOver", apart := false }
def SyncsOverSaid : Prop := syncsOverRow.holds Try.pinned (OpenSpec.ofChange syncsOverSpec)

/-- ITS FALSE NEIGHBOUR: 'it returns false'. Refute it at one input. -/
def syncsOverWrong : ChangeSpec := { name := "syncsOver", fn := fun _ => fun
  | [d1, d2, d3] => { results := [.lit (.bool false)], args := [d1, d2, d3] }
  | _ => none }
def SyncsOverWrongFalsely : Prop := syncsOverRow.holds Try.pinned (OpenSpec.ofChange syncsOverWrong)

/-- 'switchyardlaw17.SyncsApart': WHATEVER THE INPUT: true; the input reads as it did. -/
def syncsApartSpec : ChangeSpec := { name := "syncsApart", fn := fun _ => fun
  | [d1, d2, d3] => { results := [.lit (.bool true)], args := [d1, d2, d3] }
  | _ => none }
def syncsApartRow : OpenClaim := { program := "ytibbcenfkmgbcaa", sum := "a9a6964e8469123e914cf86aae4454336d7dee5b770b8475ae9057cfa3ab16b8", func := "switchyard/switchyardlaw17.SyncsApart", spec := "syncsApart", apart := false }
def SyncsApartSaid : Prop := syncsApartRow.holds Try.pinned (OpenSpec.ofChange syncsApartSpec)

/-- ITS FALSE NEIGHBOUR: 'it returns false'. Refute it at one input. -/
def syncsApartWrong : ChangeSpec := { name := "syncsApart", fn := fun _ => fun
  | [d1, d2, d3] => { results := [.lit (.bool false)], args := [d1, d2, d3] }
  | _ => none }
def SyncsApartWrongFalsely : Prop := syncsApartRow.holds Try.pinned (OpenSpec.ofChange syncsApartWrong)

/- THE SECOND FORM. 'bulk': how many values and letters a reading holds, each counted each time it is reached (what is shared counts as often as it is met; a slice's spare places count too). A statement '..UptoSaid' is the law's where the arguments, and the package variables that the reading takes, are together of bulk at most 1048576: NARROWER than '..Said'. Prove '..Said' where nothing that the law and all that it calls make is longer than what came in: it says more and counts as full. Else prove '..UptoSaid'. A law counts once. -/
mutual
def uptoBulk {H : Type} : DataW H → Nat
  | .lit (.string bytes) => bytes.length + 1
  | .lit _ => 1
  | .nil => 1
  | .ptr d => uptoBulk d + 1
  | .slice elems spare => uptoBulkAll elems + uptoBulkAll spare + 1
  | .agg parts => uptoBulkAll parts + 1
  | .iface _ d => uptoBulk d + 1
  | .map entries => uptoBulkEntries entries + 1
  | .held _ => 1
def uptoBulkAll {H : Type} : List (DataW H) → Nat
  | [] => 0
  | d :: r => uptoBulk d + uptoBulkAll r
def uptoBulkEntries {H : Type} : List (Lit × DataW H) → Nat
  | [] => 0
  | x :: r => uptoBulkEntry x + uptoBulkEntries r
def uptoBulkEntry {H : Type} : Lit × DataW H → Nat
  | (.string bytes, d) => bytes.length + uptoBulk d + 1
  | (_, d) => uptoBulk d + 1
 end
def uptoSmall : (H : Type) → List (DataW H) → Bool := fun _ ds => decide (uptoBulkAll ds ≤ 1048576)
def OpenSpec.upto (s : _root_.Go.ChangeSpec) : _root_.Go.OpenSpec := { _root_.Go.OpenSpec.ofChange s with cond := some uptoSmall }

/-- 'switchyardlaw17.SyncsNumbers', WHERE WHAT IT READS IS OF BULK AT MOST 1048576: true; the input reads as it did. -/
def syncsNumbersUptoRow : OpenClaim := { program := "ytibbcenfkmgbcaa", sum := "a9a6964e8469123e914cf86aae4454336d7dee5b770b8475ae9057cfa3ab16b8", func := "switchyard/switchyardlaw17.SyncsNumbers", spec := "syncsNumbers", apart := false, narrowed := true }
def SyncsNumbersUptoSaid : Prop := syncsNumbersUptoRow.holds Try.pinned (OpenSpec.upto syncsNumbersSpec)

/-- 'switchyardlaw17.SyncsPlays', WHERE WHAT IT READS IS OF BULK AT MOST 1048576: true; the input reads as it did. -/
def syncsPlaysUptoRow : OpenClaim := { program := "ytibbcenfkmgbcaa", sum := "a9a6964e8469123e914cf86aae4454336d7dee5b770b8475ae9057cfa3ab16b8", func := "switchyard/switchyardlaw17.SyncsPlays", spec := "syncsPlays", apart := false, narrowed := true }
def SyncsPlaysUptoSaid : Prop := syncsPlaysUptoRow.holds Try.pinned (OpenSpec.upto syncsPlaysSpec)

/-- 'switchyardlaw17.SyncsNone', WHERE WHAT IT READS IS OF BULK AT MOST 1048576: true; the input reads as it did. -/
def syncsNoneUptoRow : OpenClaim := { program := "ytibbcenfkmgbcaa", sum := "a9a6964e8469123e914cf86aae4454336d7dee5b770b8475ae9057cfa3ab16b8", func := "switchyard/switchyardlaw17.SyncsNone", spec := "syncsNone", apart := false, narrowed := true }
def SyncsNoneUptoSaid : Prop := syncsNoneUptoRow.holds Try.pinned (OpenSpec.upto syncsNoneSpec)

/-- 'switchyardlaw17.SyncsOver', WHERE WHAT IT READS IS OF BULK AT MOST 1048576: true; the input reads as it did. -/
def syncsOverUptoRow : OpenClaim := { program := "ytibbcenfkmgbcaa", sum := "a9a6964e8469123e914cf86aae4454336d7dee5b770b8475ae9057cfa3ab16b8", func := "switchyard/switchyardlaw17.SyncsOver", spec := "syncsOver", apart := false, narrowed := true }
def SyncsOverUptoSaid : Prop := syncsOverUptoRow.holds Try.pinned (OpenSpec.upto syncsOverSpec)

/-- 'switchyardlaw17.SyncsApart', WHERE WHAT IT READS IS OF BULK AT MOST 1048576: true; the input reads as it did. -/
def syncsApartUptoRow : OpenClaim := { program := "ytibbcenfkmgbcaa", sum := "a9a6964e8469123e914cf86aae4454336d7dee5b770b8475ae9057cfa3ab16b8", func := "switchyard/switchyardlaw17.SyncsApart", spec := "syncsApart", apart := false, narrowed := true }
def SyncsApartUptoSaid : Prop := syncsApartUptoRow.holds Try.pinned (OpenSpec.upto syncsApartSpec)

end Rows
end Go.Proofs.Ytibbcenfkmgbcaa
