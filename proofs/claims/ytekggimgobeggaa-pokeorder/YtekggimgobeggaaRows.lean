/-
  No cell of these rows narrows 'for every input' (looked for: loops, veiled, ifaces, maps, wideKeys, modest, calm, conditions, laid).
  DERIVED. THE GIVEN ROWS OF THIS SEAT. 5 by the template 'for every input the law returns true; each argument reads behind the call as it read before'; 0 by the template 'total and deterministic' (their statements: YtekggimgobeggaaTotals.lean).
  GIVEN WITH THE SEED: the statements are not yours to turn. If you find one false, say at which input.
  Laid BY PROGRAM, IN A SANDBOX (cutbox-rows.mjs): the forced cells as the released guide's own fill.sh prints them over the translation bce125158b46f145… (all of the seat's roots in one cut). By AI agents, Wed Nov 11 2026. No macro, syntax, notation, axiom, sorry.
-/
import Derived.Test.YtekggimgobeggaaChecked
import GoSem.Claim
import GoSem.ClaimJoined
import GoSem.ClaimMapViews
import Derived.JoinedTies
import Derived.KernelRfl
namespace Go.Proofs.Ytekggimgobeggaa
/- THE CELL 'sum', in the pinned program and in every row, IS THE sha256 OF THE DUMP (.gsa) THAT YtekggimgobeggaaProg.lean LOADS. Nothing in Lean hashes anything: it is a label: what it is worth is what the hold of that sum in a sandbox is worth. -/
noncomputable def Try.pinned : Pinned := { name := "ytekggimgobeggaa", sum := "bce125158b46f14505ffc20267b4eacbf859b95e5c47632371102428df0fcf4f", checked := Try.checked }
namespace Rows
def none {H : Type} : Left H := { results := [], args := [] }

/-- 'switchyardlaw19.PokeNumbers': WHATEVER THE INPUT: true; the input reads as it did. -/
def pokeNumbersSpec : ChangeSpec := { name := "pokeNumbers", fn := fun _ => fun
  | [] => { results := [.lit (.bool true)], args := [] }
  | _ => none }
def pokeNumbersRow : OpenClaim := { program := "ytekggimgobeggaa", sum := "bce125158b46f14505ffc20267b4eacbf859b95e5c47632371102428df0fcf4f", func := "switchyard/switchyardlaw19.PokeNumbers", spec := "pokeNumbers", unfollowed := true, recurses := true, apart := false }
def PokeNumbersSaid : Prop := pokeNumbersRow.holds Try.pinned (OpenSpec.ofChange pokeNumbersSpec)

/-- ITS FALSE NEIGHBOUR: 'it returns false'. Refute it at one input. -/
def pokeNumbersWrong : ChangeSpec := { name := "pokeNumbers", fn := fun _ => fun
  | [] => { results := [.lit (.bool false)], args := [] }
  | _ => none }
def PokeNumbersWrongFalsely : Prop := pokeNumbersRow.holds Try.pinned (OpenSpec.ofChange pokeNumbersWrong)

/-- 'switchyardlaw19.PokePlays': WHATEVER THE INPUT: true; the input reads as it did. -/
def pokePlaysSpec : ChangeSpec := { name := "pokePlays", fn := fun _ => fun
  | [d1, d2, d3] => { results := [.lit (.bool true)], args := [d1, d2, d3] }
  | _ => none }
def pokePlaysRow : OpenClaim := { program := "ytekggimgobeggaa", sum := "bce125158b46f14505ffc20267b4eacbf859b95e5c47632371102428df0fcf4f", func := "switchyard/switchyardlaw19.PokePlays", spec := "pokePlays", unfollowed := true, recurses := true, apart := false }
def PokePlaysSaid : Prop := pokePlaysRow.holds Try.pinned (OpenSpec.ofChange pokePlaysSpec)

/-- ITS FALSE NEIGHBOUR: 'it returns false'. Refute it at one input. -/
def pokePlaysWrong : ChangeSpec := { name := "pokePlays", fn := fun _ => fun
  | [d1, d2, d3] => { results := [.lit (.bool false)], args := [d1, d2, d3] }
  | _ => none }
def PokePlaysWrongFalsely : Prop := pokePlaysRow.holds Try.pinned (OpenSpec.ofChange pokePlaysWrong)

/-- 'switchyardlaw19.PokeNone': WHATEVER THE INPUT: true; the input reads as it did. -/
def pokeNoneSpec : ChangeSpec := { name := "pokeNone", fn := fun _ => fun
  | [d1, d2, d3, d4] => { results := [.lit (.bool true)], args := [d1, d2, d3, d4] }
  | _ => none }
def pokeNoneRow : OpenClaim := { program := "ytekggimgobeggaa", sum := "bce125158b46f14505ffc20267b4eacbf859b95e5c47632371102428df0fcf4f", func := "switchyard/switchyardlaw19.PokeNone", spec := "pokeNone", unfollowed := true, recurses := true, apart := false }
def PokeNoneSaid : Prop := pokeNoneRow.holds Try.pinned (OpenSpec.ofChange pokeNoneSpec)

/-- ITS FALSE NEIGHBOUR: 'it returns false'. Refute it at one input. -/
def pokeNoneWrong : ChangeSpec := { name := "pokeNone", fn := fun _ => fun
  | [d1, d2, d3, d4] => { results := [.lit (.bool false)], args := [d1, d2, d3, d4] }
  | _ => none }
def PokeNoneWrongFalsely : Prop := pokeNoneRow.holds Try.pinned (OpenSpec.ofChange pokeNoneWrong)

/-- 'switchyardlaw19.PokeBounded': WHATEVER THE INPUT: true; the input reads as it did. -/
def pokeBoundedSpec : ChangeSpec := { name := "pokeBounded", fn := fun _ => fun
  | [d1, d2, d3] => { results := [.lit (.bool true)], args := [d1, d2, d3] }
  | _ => none }
def pokeBoundedRow : OpenClaim := { program := "ytekggimgobeggaa", sum := "bce125158b46f14505ffc20267b4eacbf859b95e5c47632371102428df0fcf4f", func := "switchyard/switchyardlaw19.PokeBounded", spec := "pokeBounded", unfollowed := true, recurses := true, apart := false }
def PokeBoundedSaid : Prop := pokeBoundedRow.holds Try.pinned (OpenSpec.ofChange pokeBoundedSpec)

/-- ITS FALSE NEIGHBOUR: 'it returns false'. Refute it at one input. -/
def pokeBoundedWrong : ChangeSpec := { name := "pokeBounded", fn := fun _ => fun
  | [d1, d2, d3] => { results := [.lit (.bool false)], args := [d1, d2, d3] }
  | _ => none }
def PokeBoundedWrongFalsely : Prop := pokeBoundedRow.holds Try.pinned (OpenSpec.ofChange pokeBoundedWrong)

/-- 'switchyardlaw19.PokeOrder': WHATEVER THE INPUT: true; the input reads as it did. -/
def pokeOrderSpec : ChangeSpec := { name := "pokeOrder", fn := fun _ => fun
  | [d1, d2, d3, d4] => { results := [.lit (.bool true)], args := [d1, d2, d3, d4] }
  | _ => none }
def pokeOrderRow : OpenClaim := { program := "ytekggimgobeggaa", sum := "bce125158b46f14505ffc20267b4eacbf859b95e5c47632371102428df0fcf4f", func := "switchyard/switchyardlaw19.PokeOrder", spec := "pokeOrder", unfollowed := true, recurses := true, apart := false }
def PokeOrderSaid : Prop := pokeOrderRow.holds Try.pinned (OpenSpec.ofChange pokeOrderSpec)

/-- ITS FALSE NEIGHBOUR: 'it returns false'. Refute it at one input. -/
def pokeOrderWrong : ChangeSpec := { name := "pokeOrder", fn := fun _ => fun
  | [d1, d2, d3, d4] => { results := [.lit (.bool false)], args := [d1, d2, d3, d4] }
  | _ => none }
def PokeOrderWrongFalsely : Prop := pokeOrderRow.holds Try.pinned (OpenSpec.ofChange pokeOrderWrong)

/- THE SECOND FORM. 'bulk': how many values and letters a reading holds, each counted each time it is reached (what is shared counts as often as it is met; a slice's spare places count too). A statement '..UptoSaid' is the law's where the arguments, and the package variables that the reading takes, are together of bulk at most 1048576: NARROWER than '..Said'. Prove '..Said' where nothing that the law and all that it calls make is longer than what came in: it says more and counts as full. Else prove '..UptoSaid'. A law counts once. -/
mutual
def uptoBulk {H : Type} : DataW H → Nat
  | .lit (.string bytes) => bytes.length + 1
  | .lit _ => 1
  | .nil => 1
  | .ptr d => uptoBulk d + 1
  | .slice elems spare => uptoBulkAll elems + uptoBulkAll spare + 1
  | .agg parts => uptoBulkAll parts + 1
  | .iface _ d => uptoBulk d + 1
  | .map entries => uptoBulkEntries entries + 1
  | .held _ => 1
def uptoBulkAll {H : Type} : List (DataW H) → Nat
  | [] => 0
  | d :: r => uptoBulk d + uptoBulkAll r
def uptoBulkEntries {H : Type} : List (Lit × DataW H) → Nat
  | [] => 0
  | x :: r => uptoBulkEntry x + uptoBulkEntries r
def uptoBulkEntry {H : Type} : Lit × DataW H → Nat
  | (.string bytes, d) => bytes.length + uptoBulk d + 1
  | (_, d) => uptoBulk d + 1
 end
def uptoSmall : (H : Type) → List (DataW H) → Bool := fun _ ds => decide (uptoBulkAll ds ≤ 1048576)
def OpenSpec.upto (s : _root_.Go.ChangeSpec) : _root_.Go.OpenSpec := { _root_.Go.OpenSpec.ofChange s with cond := some uptoSmall }

/-- 'switchyardlaw19.PokeNumbers', WHERE WHAT IT READS IS OF BULK AT MOST 1048576: true; the input reads as it did. -/
def pokeNumbersUptoRow : OpenClaim := { program := "ytekggimgobeggaa", sum := "bce125158b46f14505ffc20267b4eacbf859b95e5c47632371102428df0fcf4f", func := "switchyard/switchyardlaw19.PokeNumbers", spec := "pokeNumbers", unfollowed := true, recurses := true, apart := false, narrowed := true }
def PokeNumbersUptoSaid : Prop := pokeNumbersUptoRow.holds Try.pinned (OpenSpec.upto pokeNumbersSpec)

/-- 'switchyardlaw19.PokePlays', WHERE WHAT IT READS IS OF BULK AT MOST 1048576: true; the input reads as it did. -/
def pokePlaysUptoRow : OpenClaim := { program := "ytekggimgobeggaa", sum := "bce125158b46f14505ffc20267b4eacbf859b95e5c47632371102428df0fcf4f", func := "switchyard/switchyardlaw19.PokePlays", spec := "pokePlays", unfollowed := true, recurses := true, apart := false, narrowed := true }
def PokePlaysUptoSaid : Prop := pokePlaysUptoRow.holds Try.pinned (OpenSpec.upto pokePlaysSpec)

/-- 'switchyardlaw19.PokeNone', WHERE WHAT IT READS IS OF BULK AT MOST 1048576: true; the input reads as it did. -/
def pokeNoneUptoRow : OpenClaim := { program := "ytekggimgobeggaa", sum := "bce125158b46f14505ffc20267b4eacbf859b95e5c47632371102428df0fcf4f", func := "switchyard/switchyardlaw19.PokeNone", spec := "pokeNone", unfollowed := true, recurses := true, apart := false, narrowed := true }
def PokeNoneUptoSaid : Prop := pokeNoneUptoRow.holds Try.pinned (OpenSpec.upto pokeNoneSpec)

/-- 'switchyardlaw19.PokeBounded', WHERE WHAT IT READS IS OF BULK AT MOST 1048576: true; the input reads as it did. -/
def pokeBoundedUptoRow : OpenClaim := { program := "ytekggimgobeggaa", sum := "bce125158b46f14505ffc20267b4eacbf859b95e5c47632371102428df0fcf4f", func := "switchyard/switchyardlaw19.PokeBounded", spec := "pokeBounded", unfollowed := true, recurses := true, apart := false, narrowed := true }
def PokeBoundedUptoSaid : Prop := pokeBoundedUptoRow.holds Try.pinned (OpenSpec.upto pokeBoundedSpec)

/-- 'switchyardlaw19.PokeOrder', WHERE WHAT IT READS IS OF BULK AT MOST 1048576: true; the input reads as it did. -/
def pokeOrderUptoRow : OpenClaim := { program := "ytekggimgobeggaa", sum := "bce125158b46f14505ffc20267b4eacbf859b95e5c47632371102428df0fcf4f", func := "switchyard/switchyardlaw19.PokeOrder", spec := "pokeOrder", unfollowed := true, recurses := true, apart := false, narrowed := true }
def PokeOrderUptoSaid : Prop := pokeOrderUptoRow.holds Try.pinned (OpenSpec.upto pokeOrderSpec)

end Rows
end Go.Proofs.Ytekggimgobeggaa
