/-
  No cell of these rows narrows 'for every input' (looked for: loops, veiled, ifaces, maps, wideKeys, modest, calm, conditions, laid).
  DERIVED. THE GIVEN ROWS OF THIS SEAT. 5 by the template 'for every input the law returns true; each argument reads behind the call as it read before'; 0 by the template 'total and deterministic' (their statements: YtnpaijbkhmnfpaaGreatTotals.lean).
  GIVEN WITH THE SEED: the statements are not yours to turn. If you find one false, say at which input.
  Laid BY PROGRAM, IN A SANDBOX (cutbox-rows.mjs): the forced cells as the released guide's own fill.sh prints them over the translation 7420cfd1b7b647c6… (all of the seat's roots in one cut). By AI agents, Wed Nov 11 2026. No macro, syntax, notation, axiom, sorry.
-/
import Derived.Test.YtnpaijbkhmnfpaaGreatChecked
import GoSem.Claim
import GoSem.ClaimJoined
import GoSem.ClaimMapViews
import Derived.JoinedTies
import Derived.KernelRfl
namespace Go.Proofs.YtnpaijbkhmnfpaaGreat
/- THE CELL 'sum', in the pinned program and in every row, IS THE sha256 OF THE DUMP (.gsa) THAT YtnpaijbkhmnfpaaGreatProg.lean LOADS. Nothing in Lean hashes anything: it is a label: what it is worth is what the hold of that sum in a sandbox is worth. -/
noncomputable def Tryz.pinned : Pinned := { name := "ytnpaijbkhmnfpaagreat", sum := "7420cfd1b7b647c6ff6bf72d1e1c72a8817de1c150a8677fb4ed357d68366ef4", checked := Tryz.checked }
namespace Rows
def none {H : Type} : Left H := { results := [], args := [] }

/-- 'switchyardlaw15.HartNumbers': WHATEVER THE INPUT: true; the input reads as it did. -/
def hartNumbersSpec : ChangeSpec := { name := "hartNumbers", fn := fun _ => fun
  | [] => { results := [.lit (.bool true)], args := [] }
  | _ => none }
def hartNumbersRow : OpenClaim := { program := "ytnpaijbkhmnfpaagreat", sum := "7420cfd1b7b647c6ff6bf72d1e1c72a8817de1c150a8677fb4ed357d68366ef4", func := "switchyard/switchyardlaw15.HartNumbers", spec := "hartNumbers", inPlace := ["maps.clone"], unfollowed := true, recurses := true, apart := false }
def HartNumbersSaid : Prop := hartNumbersRow.holds Tryz.pinned (OpenSpec.ofChange hartNumbersSpec)

/-- ITS FALSE NEIGHBOUR: 'it returns false'. Refute it at one input. -/
def hartNumbersWrong : ChangeSpec := { name := "hartNumbers", fn := fun _ => fun
  | [] => { results := [.lit (.bool false)], args := [] }
  | _ => none }
def HartNumbersWrongFalsely : Prop := hartNumbersRow.holds Tryz.pinned (OpenSpec.ofChange hartNumbersWrong)

/-- 'switchyardlaw15.HartPlays': WHATEVER THE INPUT: true; the input reads as it did. -/
def hartPlaysSpec : ChangeSpec := { name := "hartPlays", fn := fun _ => fun
  | [d1, d2, d3, d4] => { results := [.lit (.bool true)], args := [d1, d2, d3, d4] }
  | _ => none }
def hartPlaysRow : OpenClaim := { program := "ytnpaijbkhmnfpaagreat", sum := "7420cfd1b7b647c6ff6bf72d1e1c72a8817de1c150a8677fb4ed357d68366ef4", func := "switchyard/switchyardlaw15.HartPlays", spec := "hartPlays", inPlace := ["maps.clone"], unfollowed := true, recurses := true, apart := false }
def HartPlaysSaid : Prop := hartPlaysRow.holds Tryz.pinned (OpenSpec.ofChange hartPlaysSpec)

/-- ITS FALSE NEIGHBOUR: 'it returns false'. Refute it at one input. -/
def hartPlaysWrong : ChangeSpec := { name := "hartPlays", fn := fun _ => fun
  | [d1, d2, d3, d4] => { results := [.lit (.bool false)], args := [d1, d2, d3, d4] }
  | _ => none }
def HartPlaysWrongFalsely : Prop := hartPlaysRow.holds Tryz.pinned (OpenSpec.ofChange hartPlaysWrong)

/-- 'switchyardlaw15.HartWhole': WHATEVER THE INPUT: true; the input reads as it did. -/
def hartWholeSpec : ChangeSpec := { name := "hartWhole", fn := fun _ => fun
  | [d1, d2, d3] => { results := [.lit (.bool true)], args := [d1, d2, d3] }
  | _ => none }
def hartWholeRow : OpenClaim := { program := "ytnpaijbkhmnfpaagreat", sum := "7420cfd1b7b647c6ff6bf72d1e1c72a8817de1c150a8677fb4ed357d68366ef4", func := "switchyard/switchyardlaw15.HartWhole", spec := "hartWhole", unfollowed := true, recurses := true, apart := false }
def HartWholeSaid : Prop := hartWholeRow.holds Tryz.pinned (OpenSpec.ofChange hartWholeSpec)

/-- ITS FALSE NEIGHBOUR: 'it returns false'. Refute it at one input. -/
def hartWholeWrong : ChangeSpec := { name := "hartWhole", fn := fun _ => fun
  | [d1, d2, d3] => { results := [.lit (.bool false)], args := [d1, d2, d3] }
  | _ => none }
def HartWholeWrongFalsely : Prop := hartWholeRow.holds Tryz.pinned (OpenSpec.ofChange hartWholeWrong)

/-- 'switchyardlaw15.HartStale': WHATEVER THE INPUT: true; the input reads as it did. -/
def hartStaleSpec : ChangeSpec := { name := "hartStale", fn := fun _ => fun
  | [d1, d2] => { results := [.lit (.bool true)], args := [d1, d2] }
  | _ => none }
def hartStaleRow : OpenClaim := { program := "ytnpaijbkhmnfpaagreat", sum := "7420cfd1b7b647c6ff6bf72d1e1c72a8817de1c150a8677fb4ed357d68366ef4", func := "switchyard/switchyardlaw15.HartStale", spec := "hartStale", inPlace := ["maps.clone"], unfollowed := true, recurses := true, apart := false }
def HartStaleSaid : Prop := hartStaleRow.holds Tryz.pinned (OpenSpec.ofChange hartStaleSpec)

/-- ITS FALSE NEIGHBOUR: 'it returns false'. Refute it at one input. -/
def hartStaleWrong : ChangeSpec := { name := "hartStale", fn := fun _ => fun
  | [d1, d2] => { results := [.lit (.bool false)], args := [d1, d2] }
  | _ => none }
def HartStaleWrongFalsely : Prop := hartStaleRow.holds Tryz.pinned (OpenSpec.ofChange hartStaleWrong)

/-- 'switchyardlaw15.HartSpares': WHATEVER THE INPUT: true; the input reads as it did. -/
def hartSparesSpec : ChangeSpec := { name := "hartSpares", fn := fun _ => fun
  | [d1, d2] => { results := [.lit (.bool true)], args := [d1, d2] }
  | _ => none }
def hartSparesRow : OpenClaim := { program := "ytnpaijbkhmnfpaagreat", sum := "7420cfd1b7b647c6ff6bf72d1e1c72a8817de1c150a8677fb4ed357d68366ef4", func := "switchyard/switchyardlaw15.HartSpares", spec := "hartSpares", unfollowed := true, recurses := true, apart := false }
def HartSparesSaid : Prop := hartSparesRow.holds Tryz.pinned (OpenSpec.ofChange hartSparesSpec)

/-- ITS FALSE NEIGHBOUR: 'it returns false'. Refute it at one input. -/
def hartSparesWrong : ChangeSpec := { name := "hartSpares", fn := fun _ => fun
  | [d1, d2] => { results := [.lit (.bool false)], args := [d1, d2] }
  | _ => none }
def HartSparesWrongFalsely : Prop := hartSparesRow.holds Tryz.pinned (OpenSpec.ofChange hartSparesWrong)

/- THE SECOND FORM. 'bulk': how many values and letters a reading holds, each counted each time it is reached (what is shared counts as often as it is met; a slice's spare places count too). A statement '..UptoSaid' is the law's where the arguments, and the package variables that the reading takes, are together of bulk at most 1048576: NARROWER than '..Said'. Prove '..Said' where nothing that the law and all that it calls make is longer than what came in: it says more and counts as full. Else prove '..UptoSaid'. A law counts once. -/
mutual
def uptoBulk {H : Type} : DataW H → Nat
  | .lit (.string bytes) => bytes.length + 1
  | .lit _ => 1
  | .nil => 1
  | .ptr d => uptoBulk d + 1
  | .slice elems spare => uptoBulkAll elems + uptoBulkAll spare + 1
  | .agg parts => uptoBulkAll parts + 1
  | .iface _ d => uptoBulk d + 1
  | .map entries => uptoBulkEntries entries + 1
  | .held _ => 1
def uptoBulkAll {H : Type} : List (DataW H) → Nat
  | [] => 0
  | d :: r => uptoBulk d + uptoBulkAll r
def uptoBulkEntries {H : Type} : List (Lit × DataW H) → Nat
  | [] => 0
  | x :: r => uptoBulkEntry x + uptoBulkEntries r
def uptoBulkEntry {H : Type} : Lit × DataW H → Nat
  | (.string bytes, d) => bytes.length + uptoBulk d + 1
  | (_, d) => uptoBulk d + 1
 end
def uptoSmall : (H : Type) → List (DataW H) → Bool := fun _ ds => decide (uptoBulkAll ds ≤ 1048576)
def OpenSpec.upto (s : _root_.Go.ChangeSpec) : _root_.Go.OpenSpec := { _root_.Go.OpenSpec.ofChange s with cond := some uptoSmall }

/-- 'switchyardlaw15.HartNumbers', WHERE WHAT IT READS IS OF BULK AT MOST 1048576: true; the input reads as it did. -/
def hartNumbersUptoRow : OpenClaim := { program := "ytnpaijbkhmnfpaagreat", sum := "7420cfd1b7b647c6ff6bf72d1e1c72a8817de1c150a8677fb4ed357d68366ef4", func := "switchyard/switchyardlaw15.HartNumbers", spec := "hartNumbers", inPlace := ["maps.clone"], unfollowed := true, recurses := true, apart := false, narrowed := true }
def HartNumbersUptoSaid : Prop := hartNumbersUptoRow.holds Tryz.pinned (OpenSpec.upto hartNumbersSpec)

/-- 'switchyardlaw15.HartPlays', WHERE WHAT IT READS IS OF BULK AT MOST 1048576: true; the input reads as it did. -/
def hartPlaysUptoRow : OpenClaim := { program := "ytnpaijbkhmnfpaagreat", sum := "7420cfd1b7b647c6ff6bf72d1e1c72a8817de1c150a8677fb4ed357d68366ef4", func := "switchyard/switchyardlaw15.HartPlays", spec := "hartPlays", inPlace := ["maps.clone"], unfollowed := true, recurses := true, apart := false, narrowed := true }
def HartPlaysUptoSaid : Prop := hartPlaysUptoRow.holds Tryz.pinned (OpenSpec.upto hartPlaysSpec)

/-- 'switchyardlaw15.HartWhole', WHERE WHAT IT READS IS OF BULK AT MOST 1048576: true; the input reads as it did. -/
def hartWholeUptoRow : OpenClaim := { program := "ytnpaijbkhmnfpaagreat", sum := "7420cfd1b7b647c6ff6bf72d1e1c72a8817de1c150a8677fb4ed357d68366ef4", func := "switchyard/switchyardlaw15.HartWhole", spec := "hartWhole", unfollowed := true, recurses := true, apart := false, narrowed := true }
def HartWholeUptoSaid : Prop := hartWholeUptoRow.holds Tryz.pinned (OpenSpec.upto hartWholeSpec)

/-- 'switchyardlaw15.HartStale', WHERE WHAT IT READS IS OF BULK AT MOST 1048576: true; the input reads as it did. -/
def hartStaleUptoRow : OpenClaim := { program := "ytnpaijbkhmnfpaagreat", sum := "7420cfd1b7b647c6ff6bf72d1e1c72a8817de1c150a8677fb4ed357d68366ef4", func := "switchyard/switchyardlaw15.HartStale", spec := "hartStale", inPlace := ["maps.clone"], unfollowed := true, recurses := true, apart := false, narrowed := true }
def HartStaleUptoSaid : Prop := hartStaleUptoRow.holds Tryz.pinned (OpenSpec.upto hartStaleSpec)

/-- 'switchyardlaw15.HartSpares', WHERE WHAT IT READS IS OF BULK AT MOST 1048576: true; the input reads as it did. -/
def hartSparesUptoRow : OpenClaim := { program := "ytnpaijbkhmnfpaagreat", sum := "7420cfd1b7b647c6ff6bf72d1e1c72a8817de1c150a8677fb4ed357d68366ef4", func := "switchyard/switchyardlaw15.HartSpares", spec := "hartSpares", unfollowed := true, recurses := true, apart := false, narrowed := true }
def HartSparesUptoSaid : Prop := hartSparesUptoRow.holds Tryz.pinned (OpenSpec.upto hartSparesSpec)

end Rows
end Go.Proofs.YtnpaijbkhmnfpaaGreat
