/-
  No cell of these rows narrows 'for every input' (looked for: loops, veiled, ifaces, maps, wideKeys, modest, calm, conditions, laid).
  DERIVED. THE GIVEN ROWS OF THIS SEAT. 4 by the template 'for every input the law returns true; each argument reads behind the call as it read before'; 0 by the template 'total and deterministic' (their statements: YtdbpeigcnhhpmaaTotals.lean).
  GIVEN WITH THE SEED: the statements are not yours to turn. If you find one false, say at which input.
  Laid BY PROGRAM, IN A SANDBOX (cutbox-rows.mjs): the forced cells as the released guide's own fill.sh prints them over the translation ffda8f962a1b38d4… (all of the seat's roots in one cut). By AI agents, Wed Nov 11 2026. No macro, syntax, notation, axiom, sorry.
-/
import Derived.Test.YtdbpeigcnhhpmaaChecked
import GoSem.Claim
import GoSem.ClaimJoined
import GoSem.ClaimMapViews
import Derived.JoinedTies
import Derived.KernelRfl
namespace Go.Proofs.Ytdbpeigcnhhpmaa
/- THE CELL 'sum', in the pinned program and in every row, IS THE sha256 OF THE DUMP (.gsa) THAT YtdbpeigcnhhpmaaProg.lean LOADS. Nothing in Lean hashes anything: it is a label: what it is worth is what the hold of that sum in a sandbox is worth. -/
noncomputable def Try.pinned : Pinned := { name := "ytdbpeigcnhhpmaa", sum := "ffda8f962a1b38d45d6cc045a299c0c12dfee881e2dd1c45d70cb3eca9e5007b", checked := Try.checked }
namespace Rows
def none {H : Type} : Left H := { results := [], args := [] }

/-- 'switchyardlaw14.ExecDoes': WHATEVER THE INPUT: true; the input reads as it did. -/
def execDoesSpec : ChangeSpec := { name := "execDoes", fn := fun _ => fun
  | [d1, d2] => { results := [.lit (.bool true)], args := [d1, d2] }
  | _ => none }
def execDoesRow : OpenClaim := { program := "ytdbpeigcnhhpmaa", sum := "ffda8f962a1b38d45d6cc045a299c0c12dfee881e2dd1c45d70cb3eca9e5007b", func := "switchyard/switchyardlaw14.ExecDoes", spec := "execDoes", apart := false }
def ExecDoesSaid : Prop := execDoesRow.holds Try.pinned (OpenSpec.ofChange execDoesSpec)

/-- ITS FALSE NEIGHBOUR: 'it returns false'. Refute it at one input. -/
def execDoesWrong : ChangeSpec := { name := "execDoes", fn := fun _ => fun
  | [d1, d2] => { results := [.lit (.bool false)], args := [d1, d2] }
  | _ => none }
def ExecDoesWrongFalsely : Prop := execDoesRow.holds Try.pinned (OpenSpec.ofChange execDoesWrong)

/-- 'switchyardlaw14.ExecSame': WHATEVER THE INPUT: true; the input reads as it did. -/
def execSameSpec : ChangeSpec := { name := "execSame", fn := fun _ => fun
  | [d1, d2] => { results := [.lit (.bool true)], args := [d1, d2] }
  | _ => none }
def execSameRow : OpenClaim := { program := "ytdbpeigcnhhpmaa", sum := "ffda8f962a1b38d45d6cc045a299c0c12dfee881e2dd1c45d70cb3eca9e5007b", func := "switchyard/switchyardlaw14.ExecSame", spec := "execSame", apart := false }
def ExecSameSaid : Prop := execSameRow.holds Try.pinned (OpenSpec.ofChange execSameSpec)

/-- ITS FALSE NEIGHBOUR: 'it returns false'. Refute it at one input. -/
def execSameWrong : ChangeSpec := { name := "execSame", fn := fun _ => fun
  | [d1, d2] => { results := [.lit (.bool false)], args := [d1, d2] }
  | _ => none }
def ExecSameWrongFalsely : Prop := execSameRow.holds Try.pinned (OpenSpec.ofChange execSameWrong)

/-- 'switchyardlaw14.ExecCalls': WHATEVER THE INPUT: true; the input reads as it did. -/
def execCallsSpec : ChangeSpec := { name := "execCalls", fn := fun _ => fun
  | [d1, d2, d3] => { results := [.lit (.bool true)], args := [d1, d2, d3] }
  | _ => none }
def execCallsRow : OpenClaim := { program := "ytdbpeigcnhhpmaa", sum := "ffda8f962a1b38d45d6cc045a299c0c12dfee881e2dd1c45d70cb3eca9e5007b", func := "switchyard/switchyardlaw14.ExecCalls", spec := "execCalls", apart := false }
def ExecCallsSaid : Prop := execCallsRow.holds Try.pinned (OpenSpec.ofChange execCallsSpec)

/-- ITS FALSE NEIGHBOUR: 'it returns false'. Refute it at one input. -/
def execCallsWrong : ChangeSpec := { name := "execCalls", fn := fun _ => fun
  | [d1, d2, d3] => { results := [.lit (.bool false)], args := [d1, d2, d3] }
  | _ => none }
def ExecCallsWrongFalsely : Prop := execCallsRow.holds Try.pinned (OpenSpec.ofChange execCallsWrong)

/-- 'switchyardlaw14.ExecQuiet': WHATEVER THE INPUT: true; the input reads as it did. -/
def execQuietSpec : ChangeSpec := { name := "execQuiet", fn := fun _ => fun
  | [d1, d2, d3] => { results := [.lit (.bool true)], args := [d1, d2, d3] }
  | _ => none }
def execQuietRow : OpenClaim := { program := "ytdbpeigcnhhpmaa", sum := "ffda8f962a1b38d45d6cc045a299c0c12dfee881e2dd1c45d70cb3eca9e5007b", func := "switchyard/switchyardlaw14.ExecQuiet", spec := "execQuiet", apart := false }
def ExecQuietSaid : Prop := execQuietRow.holds Try.pinned (OpenSpec.ofChange execQuietSpec)

/-- ITS FALSE NEIGHBOUR: 'it returns false'. Refute it at one input. -/
def execQuietWrong : ChangeSpec := { name := "execQuiet", fn := fun _ => fun
  | [d1, d2, d3] => { results := [.lit (.bool false)], args := [d1, d2, d3] }
  | _ => none }
def ExecQuietWrongFalsely : Prop := execQuietRow.holds Try.pinned (OpenSpec.ofChange execQuietWrong)

/- THE SECOND FORM. 'bulk': how many values and letters a reading holds, each counted each time it is reached (what is shared counts as often as it is met; a slice's spare places count too). A statement '..UptoSaid' is the law's where the arguments, and the package variables that the reading takes, are together of bulk at most 1048576: NARROWER than '..Said'. Prove '..Said' where nothing that the law and all that it calls make is longer than what came in: it says more and counts as full. Else prove '..UptoSaid'. A law counts once. -/
mutual
def uptoBulk {H : Type} : DataW H → Nat
  | .lit (.string bytes) => bytes.length + 1
  | .lit _ => 1
  | .nil => 1
  | .ptr d => uptoBulk d + 1
  | .slice elems spare => uptoBulkAll elems + uptoBulkAll spare + 1
  | .agg parts => uptoBulkAll parts + 1
  | .iface _ d => uptoBulk d + 1
  | .map entries => uptoBulkEntries entries + 1
  | .held _ => 1
def uptoBulkAll {H : Type} : List (DataW H) → Nat
  | [] => 0
  | d :: r => uptoBulk d + uptoBulkAll r
def uptoBulkEntries {H : Type} : List (Lit × DataW H) → Nat
  | [] => 0
  | x :: r => uptoBulkEntry x + uptoBulkEntries r
def uptoBulkEntry {H : Type} : Lit × DataW H → Nat
  | (.string bytes, d) => bytes.length + uptoBulk d + 1
  | (_, d) => uptoBulk d + 1
 end
def uptoSmall : (H : Type) → List (DataW H) → Bool := fun _ ds => decide (uptoBulkAll ds ≤ 1048576)
def OpenSpec.upto (s : _root_.Go.ChangeSpec) : _root_.Go.OpenSpec := { _root_.Go.OpenSpec.ofChange s with cond := some uptoSmall }

/-- 'switchyardlaw14.ExecDoes', WHERE WHAT IT READS IS OF BULK AT MOST 1048576: true; the input reads as it did. -/
def execDoesUptoRow : OpenClaim := { program := "ytdbpeigcnhhpmaa", sum := "ffda8f962a1b38d45d6cc045a299c0c12dfee881e2dd1c45d70cb3eca9e5007b", func := "switchyard/switchyardlaw14.ExecDoes", spec := "execDoes", apart := false, narrowed := true }
def ExecDoesUptoSaid : Prop := execDoesUptoRow.holds Try.pinned (OpenSpec.upto execDoesSpec)

/-- 'switchyardlaw14.ExecSame', WHERE WHAT IT READS IS OF BULK AT MOST 1048576: true; the input reads as it did. -/
def execSameUptoRow : OpenClaim := { program := "ytdbpeigcnhhpmaa", sum := "ffda8f962a1b38d45d6cc045a299c0c12dfee881e2dd1c45d70cb3eca9e5007b", func := "switchyard/switchyardlaw14.ExecSame", spec := "execSame", apart := false, narrowed := true }
def ExecSameUptoSaid : Prop := execSameUptoRow.holds Try.pinned (OpenSpec.upto execSameSpec)

/-- 'switchyardlaw14.ExecCalls', WHERE WHAT IT READS IS OF BULK AT MOST 1048576: true; the input reads as it did. -/
def execCallsUptoRow : OpenClaim := { program := "ytdbpeigcnhhpmaa", sum := "ffda8f962a1b38d45d6cc045a299c0c12dfee881e2dd1c45d70cb3eca9e5007b", func := "switchyard/switchyardlaw14.ExecCalls", spec := "execCalls", apart := false, narrowed := true }
def ExecCallsUptoSaid : Prop := execCallsUptoRow.holds Try.pinned (OpenSpec.upto execCallsSpec)

/-- 'switchyardlaw14.ExecQuiet', WHERE WHAT IT READS IS OF BULK AT MOST 1048576: true; the input reads as it did. -/
def execQuietUptoRow : OpenClaim := { program := "ytdbpeigcnhhpmaa", sum := "ffda8f962a1b38d45d6cc045a299c0c12dfee881e2dd1c45d70cb3eca9e5007b", func := "switchyard/switchyardlaw14.ExecQuiet", spec := "execQuiet", apart := false, narrowed := true }
def ExecQuietUptoSaid : Prop := execQuietUptoRow.holds Try.pinned (OpenSpec.upto execQuietSpec)

end Rows
end Go.Proofs.Ytdbpeigcnhhpmaa
