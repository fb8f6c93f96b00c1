/-
  No cell of these rows narrows 'for every input' (looked for: loops, veiled, ifaces, maps, wideKeys, modest, calm, conditions, laid).
  DERIVED. THE GIVEN ROWS OF THIS SEAT. 3 by the template 'for every input the law returns true; each argument reads behind the call as it read before'; 0 by the template 'total and deterministic' (their statements: YtgblohjdiheemaaGreatTotals.lean).
  GIVEN WITH THE SEED: the statements are not yours to turn. If you find one false, say at which input.
  Laid BY PROGRAM, IN A SANDBOX (cutbox-rows.mjs): the forced cells as the released guide's own fill.sh prints them over the translation cbc73e39aa864f6d… (all of the seat's roots in one cut). By AI agents, Wed Nov 11 2026. No macro, syntax, notation, axiom, sorry.
-/
import Derived.Test.YtgblohjdiheemaaGreatChecked
import GoSem.Claim
import GoSem.ClaimJoined
import GoSem.ClaimMapViews
import Derived.JoinedTies
import Derived.KernelRfl
namespace Go.Proofs.YtgblohjdiheemaaGreat
/- THE CELL 'sum', in the pinned program and in every row, IS THE sha256 OF THE DUMP (.gsa) THAT YtgblohjdiheemaaGreatProg.lean LOADS. Nothing in Lean hashes anything: it is a label: what it is worth is what the hold of that sum in a sandbox is worth. -/
noncomputable def Tryz.pinned : Pinned := { name := "ytgblohjdiheemaagreat", sum := "cbc73e39aa864f6d42eba5a11fbf64231f9fd113346b6d8e0d78f86b0caa97b3", checked := Tryz.checked }
namespace Rows
def none {H : Type} : Left H := { results := [], args := [] }

/-- 'switchyardlaw23.WatchNumbers': WHATEVER THE INPUT: true; the input reads as it did. -/
def watchNumbersSpec : ChangeSpec := { name := "watchNumbers", fn := fun _ => fun
  | [] => { results := [.lit (.bool true)], args := [] }
  | _ => none }
def watchNumbersRow : OpenClaim := { program := "ytgblohjdiheemaagreat", sum := "cbc73e39aa864f6d42eba5a11fbf64231f9fd113346b6d8e0d78f86b0caa97b3", func := "switchyard/switchyardlaw23.WatchNumbers", spec := "watchNumbers", unfollowed := true, recurses := true, plainKeys := false, apart := false }
def WatchNumbersSaid : Prop := watchNumbersRow.holds Tryz.pinned (OpenSpec.ofChange watchNumbersSpec)

/-- ITS FALSE NEIGHBOUR: 'it returns false'. Refute it at one input. -/
def watchNumbersWrong : ChangeSpec := { name := "watchNumbers", fn := fun _ => fun
  | [] => { results := [.lit (.bool false)], args := [] }
  | _ => none }
def WatchNumbersWrongFalsely : Prop := watchNumbersRow.holds Tryz.pinned (OpenSpec.ofChange watchNumbersWrong)

/-- 'switchyardlaw23.WatchTells': WHATEVER THE INPUT: true; the input reads as it did. -/
def watchTellsSpec : ChangeSpec := { name := "watchTells", fn := fun _ => fun
  | [d1, d2, d3, d4, d5, d6] => { results := [.lit (.bool true)], args := [d1, d2, d3, d4, d5, d6] }
  | _ => none }
def watchTellsRow : OpenClaim := { program := "ytgblohjdiheemaagreat", sum := "cbc73e39aa864f6d42eba5a11fbf64231f9fd113346b6d8e0d78f86b0caa97b3", func := "switchyard/switchyardlaw23.WatchTells", spec := "watchTells", unfollowed := true, recurses := true, plainKeys := false, apart := false }
def WatchTellsSaid : Prop := watchTellsRow.holds Tryz.pinned (OpenSpec.ofChange watchTellsSpec)

/-- ITS FALSE NEIGHBOUR: 'it returns false'. Refute it at one input. -/
def watchTellsWrong : ChangeSpec := { name := "watchTells", fn := fun _ => fun
  | [d1, d2, d3, d4, d5, d6] => { results := [.lit (.bool false)], args := [d1, d2, d3, d4, d5, d6] }
  | _ => none }
def WatchTellsWrongFalsely : Prop := watchTellsRow.holds Tryz.pinned (OpenSpec.ofChange watchTellsWrong)

/-- 'switchyardlaw23.WatchSpares': WHATEVER THE INPUT: true; the input reads as it did. -/
def watchSparesSpec : ChangeSpec := { name := "watchSpares", fn := fun _ => fun
  | [d1, d2] => { results := [.lit (.bool true)], args := [d1, d2] }
  | _ => none }
def watchSparesRow : OpenClaim := { program := "ytgblohjdiheemaagreat", sum := "cbc73e39aa864f6d42eba5a11fbf64231f9fd113346b6d8e0d78f86b0caa97b3", func := "switchyard/switchyardlaw23.WatchSpares", spec := "watchSpares", unfollowed := true, recurses := true, plainKeys := false, apart := false }
def WatchSparesSaid : Prop := watchSparesRow.holds Tryz.pinned (OpenSpec.ofChange watchSparesSpec)

/-- ITS FALSE NEIGHBOUR: 'it returns false'. Refute it at one input. -/
def watchSparesWrong : ChangeSpec := { name := "watchSpares", fn := fun _ => fun
  | [d1, d2] => { results := [.lit (.bool false)], args := [d1, d2] }
  | _ => none }
def WatchSparesWrongFalsely : Prop := watchSparesRow.holds Tryz.pinned (OpenSpec.ofChange watchSparesWrong)

/- THE SECOND FORM. 'bulk': how many values and letters a reading holds, each counted each time it is reached (what is shared counts as often as it is met; a slice's spare places count too). A statement '..UptoSaid' is the law's where the arguments, and the package variables that the reading takes, are together of bulk at most 1048576: NARROWER than '..Said'. Prove '..Said' where nothing that the law and all that it calls make is longer than what came in: it says more and counts as full. Else prove '..UptoSaid'. A law counts once. -/
mutual
def uptoBulk {H : Type} : DataW H → Nat
  | .lit (.string bytes) => bytes.length + 1
  | .lit _ => 1
  | .nil => 1
  | .ptr d => uptoBulk d + 1
  | .slice elems spare => uptoBulkAll elems + uptoBulkAll spare + 1
  | .agg parts => uptoBulkAll parts + 1
  | .iface _ d => uptoBulk d + 1
  | .map entries => uptoBulkEntries entries + 1
  | .held _ => 1
def uptoBulkAll {H : Type} : List (DataW H) → Nat
  | [] => 0
  | d :: r => uptoBulk d + uptoBulkAll r
def uptoBulkEntries {H : Type} : List (Lit × DataW H) → Nat
  | [] => 0
  | x :: r => uptoBulkEntry x + uptoBulkEntries r
def uptoBulkEntry {H : Type} : Lit × DataW H → Nat
  | (.string bytes, d) => bytes.length + uptoBulk d + 1
  | (_, d) => uptoBulk d + 1
 end
def uptoSmall : (H : Type) → List (DataW H) → Bool := fun _ ds => decide (uptoBulkAll ds ≤ 1048576)
def OpenSpec.upto (s : _root_.Go.ChangeSpec) : _root_.Go.OpenSpec := { _root_.Go.OpenSpec.ofChange s with cond := some uptoSmall }

/-- 'switchyardlaw23.WatchNumbers', WHERE WHAT IT READS IS OF BULK AT MOST 1048576: true; the input reads as it did. -/
def watchNumbersUptoRow : OpenClaim := { program := "ytgblohjdiheemaagreat", sum := "cbc73e39aa864f6d42eba5a11fbf64231f9fd113346b6d8e0d78f86b0caa97b3", func := "switchyard/switchyardlaw23.WatchNumbers", spec := "watchNumbers", unfollowed := true, recurses := true, plainKeys := false, apart := false, narrowed := true }
def WatchNumbersUptoSaid : Prop := watchNumbersUptoRow.holds Tryz.pinned (OpenSpec.upto watchNumbersSpec)

/-- 'switchyardlaw23.WatchTells', WHERE WHAT IT READS IS OF BULK AT MOST 1048576: true; the input reads as it did. -/
def watchTellsUptoRow : OpenClaim := { program := "ytgblohjdiheemaagreat", sum := "cbc73e39aa864f6d42eba5a11fbf64231f9fd113346b6d8e0d78f86b0caa97b3", func := "switchyard/switchyardlaw23.WatchTells", spec := "watchTells", unfollowed := true, recurses := true, plainKeys := false, apart := false, narrowed := true }
def WatchTellsUptoSaid : Prop := watchTellsUptoRow.holds Tryz.pinned (OpenSpec.upto watchTellsSpec)

/-- 'switchyardlaw23.WatchSpares', WHERE WHAT IT READS IS OF BULK AT MOST 1048576: true; the input reads as it did. -/
def watchSparesUptoRow : OpenClaim := { program := "ytgblohjdiheemaagreat", sum := "cbc73e39aa864f6d42eba5a11fbf64231f9fd113346b6d8e0d78f86b0caa97b3", func := "switchyard/switchyardlaw23.WatchSpares", spec := "watchSpares", unfollowed := true, recurses := true, plainKeys := false, apart := false, narrowed := true }
def WatchSparesUptoSaid : Prop := watchSparesUptoRow.holds Tryz.pinned (OpenSpec.upto watchSparesSpec)

end Rows
end Go.Proofs.YtgblohjdiheemaaGreat
