/-
  No cell of these rows narrows 'for every input' (looked for: loops, veiled, ifaces, maps, wideKeys, modest, calm, conditions, laid).
  DERIVED. THE GIVEN ROWS OF THIS SEAT. 3 by the template 'for every input the law returns true; each argument reads behind the call as it read before'; 0 by the template 'total and deterministic' (their statements: YtddoakipndkhiaaTotals.lean).
  GIVEN WITH THE SEED: the statements are not yours to turn. If you find one false, say at which input.
  Laid BY PROGRAM, IN A SANDBOX (cutbox-rows.mjs): the forced cells as the released guide's own fill.sh prints them over the translation 212ea561a676c1c6… (all of the seat's roots in one cut). By AI agents, Wed Nov 11 2026. No macro, syntax, notation, axiom, sorry.
-/
import Derived.Test.YtddoakipndkhiaaChecked
import GoSem.Claim
import GoSem.ClaimJoined
import GoSem.ClaimMapViews
import Derived.JoinedTies
import Derived.KernelRfl
namespace Go.Proofs.Ytddoakipndkhiaa
/- THE CELL 'sum', in the pinned program and in every row, IS THE sha256 OF THE DUMP (.gsa) THAT YtddoakipndkhiaaProg.lean LOADS. Nothing in Lean hashes anything: it is a label: what it is worth is what the hold of that sum in a sandbox is worth. -/
noncomputable def Try.pinned : Pinned := { name := "ytddoakipndkhiaa", sum := "212ea561a676c1c63d85be341c96901084e6817b525f4f9534317103c1703099", checked := Try.checked }
namespace Rows
def none {H : Type} : Left H := { results := [], args := [] }

/-- 'switchyardlaw20.TrapNext': WHATEVER THE INPUT: true; the input reads as it did. -/
def trapNextSpec : ChangeSpec := { name := "trapNext", fn := fun _ => fun
  | [d1, d2] => { results := [.lit (.bool true)], args := [d1, d2] }
  | _ => none }
def trapNextRow : OpenClaim := { program := "ytddoakipndkhiaa", sum := "212ea561a676c1c63d85be341c96901084e6817b525f4f9534317103c1703099", func := "switchyard/switchyardlaw20.TrapNext", spec := "trapNext", unfollowed := true, recurses := true, apart := false }
def TrapNextSaid : Prop := trapNextRow.holds Try.pinned (OpenSpec.ofChange trapNextSpec)

/-- ITS FALSE NEIGHBOUR: 'it returns false'. Refute it at one input. -/
def trapNextWrong : ChangeSpec := { name := "trapNext", fn := fun _ => fun
  | [d1, d2] => { results := [.lit (.bool false)], args := [d1, d2] }
  | _ => none }
def TrapNextWrongFalsely : Prop := trapNextRow.holds Try.pinned (OpenSpec.ofChange trapNextWrong)

/-- 'switchyardlaw20.TrapEffects': WHATEVER THE INPUT: true; the input reads as it did. -/
def trapEffectsSpec : ChangeSpec := { name := "trapEffects", fn := fun _ => fun
  | [d1, d2] => { results := [.lit (.bool true)], args := [d1, d2] }
  | _ => none }
def trapEffectsRow : OpenClaim := { program := "ytddoakipndkhiaa", sum := "212ea561a676c1c63d85be341c96901084e6817b525f4f9534317103c1703099", func := "switchyard/switchyardlaw20.TrapEffects", spec := "trapEffects", unfollowed := true, recurses := true, apart := false }
def TrapEffectsSaid : Prop := trapEffectsRow.holds Try.pinned (OpenSpec.ofChange trapEffectsSpec)

/-- ITS FALSE NEIGHBOUR: 'it returns false'. Refute it at one input. -/
def trapEffectsWrong : ChangeSpec := { name := "trapEffects", fn := fun _ => fun
  | [d1, d2] => { results := [.lit (.bool false)], args := [d1, d2] }
  | _ => none }
def TrapEffectsWrongFalsely : Prop := trapEffectsRow.holds Try.pinned (OpenSpec.ofChange trapEffectsWrong)

/-- 'switchyardlaw20.TrapSites': WHATEVER THE INPUT: true; the input reads as it did. -/
def trapSitesSpec : ChangeSpec := { name := "trapSites", fn := fun _ => fun
  | [d] => { results := [.lit (.bool true)], args := [d] }
  | _ => none }
def trapSitesRow : OpenClaim := { program := "ytddoakipndkhiaa", sum := "212ea561a676c1c63d85be341c96901084e6817b525f4f9534317103c1703099", func := "switchyard/switchyardlaw20.TrapSites", spec := "trapSites", unfollowed := true, recurses := true, apart := false }
def TrapSitesSaid : Prop := trapSitesRow.holds Try.pinned (OpenSpec.ofChange trapSitesSpec)

/-- ITS FALSE NEIGHBOUR: 'it returns false'. Refute it at one input. -/
def trapSitesWrong : ChangeSpec := { name := "trapSites", fn := fun _ => fun
  | [d] => { results := [.lit (.bool false)], args := [d] }
  | _ => none }
def TrapSitesWrongFalsely : Prop := trapSitesRow.holds Try.pinned (OpenSpec.ofChange trapSitesWrong)

/- THE SECOND FORM. 'bulk': how many values and letters a reading holds, each counted each time it is reached (what is shared counts as often as it is met; a slice's spare places count too). A statement '..UptoSaid' is the law's where the arguments, and the package variables that the reading takes, are together of bulk at most 1048576: NARROWER than '..Said'. Prove '..Said' where nothing that the law and all that it calls make is longer than what came in: it says more and counts as full. Else prove '..UptoSaid'. A law counts once. -/
mutual
def uptoBulk {H : Type} : DataW H → Nat
  | .lit (.string bytes) => bytes.length + 1
  | .lit _ => 1
  | .nil => 1
  | .ptr d => uptoBulk d + 1
  | .slice elems spare => uptoBulkAll elems + uptoBulkAll spare + 1
  | .agg parts => uptoBulkAll parts + 1
  | .iface _ d => uptoBulk d + 1
  | .map entries => uptoBulkEntries entries + 1
  | .held _ => 1
def uptoBulkAll {H : Type} : List (DataW H) → Nat
  | [] => 0
  | d :: r => uptoBulk d + uptoBulkAll r
def uptoBulkEntries {H : Type} : List (Lit × DataW H) → Nat
  | [] => 0
  | x :: r => uptoBulkEntry x + uptoBulkEntries r
def uptoBulkEntry {H : Type} : Lit × DataW H → Nat
  | (.string bytes, d) => bytes.length + uptoBulk d + 1
  | (_, d) => uptoBulk d + 1
 end
def uptoSmall : (H : Type) → List (DataW H) → Bool := fun _ ds => decide (uptoBulkAll ds ≤ 1048576)
def OpenSpec.upto (s : _root_.Go.ChangeSpec) : _root_.Go.OpenSpec := { _root_.Go.OpenSpec.ofChange s with cond := some uptoSmall }

/-- 'switchyardlaw20.TrapNext', WHERE WHAT IT READS IS OF BULK AT MOST 1048576: true; the input reads as it did. -/
def trapNextUptoRow : OpenClaim := { program := "ytddoakipndkhiaa", sum := "212ea561a676c1c63d85be341c96901084e6817b525f4f9534317103c1703099", func := "switchyard/switchyardlaw20.TrapNext", spec := "trapNext", unfollowed := true, recurses := true, apart := false, narrowed := true }
def TrapNextUptoSaid : Prop := trapNextUptoRow.holds Try.pinned (OpenSpec.upto trapNextSpec)

/-- 'switchyardlaw20.TrapEffects', WHERE WHAT IT READS IS OF BULK AT MOST 1048576: true; the input reads as it did. -/
def trapEffectsUptoRow : OpenClaim := { program := "ytddoakipndkhiaa", sum := "212ea561a676c1c63d85be341c96901084e6817b525f4f9534317103c1703099", func := "switchyard/switchyardlaw20.TrapEffects", spec := "trapEffects", unfollowed := true, recurses := true, apart := false, narrowed := true }
def TrapEffectsUptoSaid : Prop := trapEffectsUptoRow.holds Try.pinned (OpenSpec.upto trapEffectsSpec)

/-- 'switchyardlaw20.TrapSites', WHERE WHAT IT READS IS OF BULK AT MOST 1048576: true; the input reads as it did. -/
def trapSitesUptoRow : OpenClaim := { program := "ytddoakipndkhiaa", sum := "212ea561a676c1c63d85be341c96901084e6817b525f4f9534317103c1703099", func := "switchyard/switchyardlaw20.TrapSites", spec := "trapSites", unfollowed := true, recurses := true, apart := false, narrowed := true }
def TrapSitesUptoSaid : Prop := trapSitesUptoRow.holds Try.pinned (OpenSpec.upto trapSitesSpec)

end Rows
end Go.Proofs.Ytddoakipndkhiaa
