/-
  No cell of these rows narrows 'for every input' (looked for: loops, veiled, ifaces, maps, wideKeys, modest, calm, conditions, laid).
  DERIVED. THE GIVEN ROWS OF THIS SEAT. 3 by the template 'for every input the law returns true; each argument reads behind the call as it read before'; 0 by the template 'total and deterministic' (their statements: YtckpgpgmaccepaaGreatTotals.lean).
  GIVEN WITH THE SEED: the statements are not yours to turn. If you find one false, say at which input.
  Laid BY PROGRAM, IN A SANDBOX (cutbox-rows.mjs): the forced cells as the released guide's own fill.sh prints them over the translation 668c80747746afb5… (all of the seat's roots in one cut). By AI agents, Wed Nov 11 2026. No macro, syntax, notation, axiom, sorry.
-/
import Derived.Test.YtckpgpgmaccepaaGreatChecked
import GoSem.Claim
import GoSem.ClaimJoined
import GoSem.ClaimMapViews
import Derived.JoinedTies
import Derived.KernelRfl
namespace Go.Proofs.YtckpgpgmaccepaaGreat
/- THE CELL 'sum', in the pinned program and in every row, IS THE sha256 OF THE DUMP (.gsa) THAT YtckpgpgmaccepaaGreatProg.lean LOADS. Nothing in Lean hashes anything: it is a label: what it is worth is what the hold of that sum in a sandbox is worth. -/
noncomputable def Tryz.pinned : Pinned := { name := "ytckpgpgmaccepaagreat", sum := "668c80747746afb553d3126b7a1a6196412b4ae8a6723f627e419189dd388a26", checked := Tryz.checked }
namespace Rows
def none {H : Type} : Left H := { results := [], args := [] }

/-- 'switchyardlaw08.SitesMerges': WHATEVER THE INPUT: true; the input reads as it did. -/
def sitesMergesSpec : ChangeSpec := { name := "sitesMerges", fn := fun _ => fun
  | [d] => { results := [.lit (.bool true)], args := [d] }
  | _ => none }
def sitesMergesRow : OpenClaim := { program := "ytckpgpgmaccepaagreat", sum := "668c80747746afb553d3126b7a1a6196412b4ae8a6723f627e419189dd388a26", func := "switchyard/switchyardlaw08.SitesMerges", spec := "sitesMerges", unfollowed := true, recurses := true, apart := false }
def SitesMergesSaid : Prop := sitesMergesRow.holds Tryz.pinned (OpenSpec.ofChange sitesMergesSpec)

/-- ITS FALSE NEIGHBOUR: 'it returns false'. Refute it at one input. -/
def sitesMergesWrong : ChangeSpec := { name := "sitesMerges", fn := fun _ => fun
  | [d] => { results := [.lit (.bool false)], args := [d] }
  | _ => none }
def SitesMergesWrongFalsely : Prop := sitesMergesRow.holds Tryz.pinned (OpenSpec.ofChange sitesMergesWrong)

/-- 'switchyardlaw08.SitesFinds': WHATEVER THE INPUT: true; the input reads as it did. -/
def sitesFindsSpec : ChangeSpec := { name := "sitesFinds", fn := fun _ => fun
  | [d1, d2, d3] => { results := [.lit (.bool true)], args := [d1, d2, d3] }
  | _ => none }
def sitesFindsRow : OpenClaim := { program := "ytckpgpgmaccepaagreat", sum := "668c80747746afb553d3126b7a1a6196412b4ae8a6723f627e419189dd388a26", func := "switchyard/switchyardlaw08.SitesFinds", spec := "sitesFinds", unfollowed := true, recurses := true, apart := false }
def SitesFindsSaid : Prop := sitesFindsRow.holds Tryz.pinned (OpenSpec.ofChange sitesFindsSpec)

/-- ITS FALSE NEIGHBOUR: 'it returns false'. Refute it at one input. -/
def sitesFindsWrong : ChangeSpec := { name := "sitesFinds", fn := fun _ => fun
  | [d1, d2, d3] => { results := [.lit (.bool false)], args := [d1, d2, d3] }
  | _ => none }
def SitesFindsWrongFalsely : Prop := sitesFindsRow.holds Tryz.pinned (OpenSpec.ofChange sitesFindsWrong)

/-- 'switchyardlaw08.SitesHolds': WHATEVER THE INPUT: true; the input reads as it did. -/
def sitesHoldsSpec : ChangeSpec := { name := "sitesHolds", fn := fun _ => fun
  | [d] => { results := [.lit (.bool true)], args := [d] }
  | _ => none }
def sitesHoldsRow : OpenClaim := { program := "ytckpgpgmaccepaagreat", sum := "668c80747746afb553d3126b7a1a6196412b4ae8a6723f627e419189dd388a26", func := "switchyard/switchyardlaw08.SitesHolds", spec := "sitesHolds", unfollowed := true, recurses := true, apart := false }
def SitesHoldsSaid : Prop := sitesHoldsRow.holds Tryz.pinned (OpenSpec.ofChange sitesHoldsSpec)

/-- ITS FALSE NEIGHBOUR: 'it returns false'. Refute it at one input. -/
def sitesHoldsWrong : ChangeSpec := { name := "sitesHolds", fn := fun _ => fun
  | [d] => { results := [.lit (.bool false)], args := [d] }
  | _ => none }
def SitesHoldsWrongFalsely : Prop := sitesHoldsRow.holds Tryz.pinned (OpenSpec.ofChange sitesHoldsWrong)

/- THE SECOND FORM. 'bulk': how many values and letters a reading holds, each counted each time it is reached (what is shared counts as often as it is met; a slice's spare places count too). A statement '..UptoSaid' is the law's where the arguments, and the package variables that the reading takes, are together of bulk at most 1048576: NARROWER than '..Said'. Prove '..Said' where nothing that the law and all that it calls make is longer than what came in: it says more and counts as full. Else prove '..UptoSaid'. A law counts once. -/
mutual
def uptoBulk {H : Type} : DataW H → Nat
  | .lit (.string bytes) => bytes.length + 1
  | .lit _ => 1
  | .nil => 1
  | .ptr d => uptoBulk d + 1
  | .slice elems spare => uptoBulkAll elems + uptoBulkAll spare + 1
  | .agg parts => uptoBulkAll parts + 1
  | .iface _ d => uptoBulk d + 1
  | .map entries => uptoBulkEntries entries + 1
  | .held _ => 1
def uptoBulkAll {H : Type} : List (DataW H) → Nat
  | [] => 0
  | d :: r => uptoBulk d + uptoBulkAll r
def uptoBulkEntries {H : Type} : List (Lit × DataW H) → Nat
  | [] => 0
  | x :: r => uptoBulkEntry x + uptoBulkEntries r
def uptoBulkEntry {H : Type} : Lit × DataW H → Nat
  | (.string bytes, d) => bytes.length + uptoBulk d + 1
  | (_, d) => uptoBulk d + 1
 end
def uptoSmall : (H : Type) → List (DataW H) → Bool := fun _ ds => decide (uptoBulkAll ds ≤ 1048576)
def OpenSpec.upto (s : _root_.Go.ChangeSpec) : _root_.Go.OpenSpec := { _root_.Go.OpenSpec.ofChange s with cond := some uptoSmall }

/-- 'switchyardlaw08.SitesMerges', WHERE WHAT IT READS IS OF BULK AT MOST 1048576: true; the input reads as it did. -/
def sitesMergesUptoRow : OpenClaim := { program := "ytckpgpgmaccepaagreat", sum := "668c80747746afb553d3126b7a1a6196412b4ae8a6723f627e419189dd388a26", func := "switchyard/switchyardlaw08.SitesMerges", spec := "sitesMerges", unfollowed := true, recurses := true, apart := false, narrowed := true }
def SitesMergesUptoSaid : Prop := sitesMergesUptoRow.holds Tryz.pinned (OpenSpec.upto sitesMergesSpec)

/-- 'switchyardlaw08.SitesFinds', WHERE WHAT IT READS IS OF BULK AT MOST 1048576: true; the input reads as it did. -/
def sitesFindsUptoRow : OpenClaim := { program := "ytckpgpgmaccepaagreat", sum := "668c80747746afb553d3126b7a1a6196412b4ae8a6723f627e419189dd388a26", func := "switchyard/switchyardlaw08.SitesFinds", spec := "sitesFinds", unfollowed := true, recurses := true, apart := false, narrowed := true }
def SitesFindsUptoSaid : Prop := sitesFindsUptoRow.holds Tryz.pinned (OpenSpec.upto sitesFindsSpec)

/-- 'switchyardlaw08.SitesHolds', WHERE WHAT IT READS IS OF BULK AT MOST 1048576: true; the input reads as it did. -/
def sitesHoldsUptoRow : OpenClaim := { program := "ytckpgpgmaccepaagreat", sum := "668c80747746afb553d3126b7a1a6196412b4ae8a6723f627e419189dd388a26", func := "switchyard/switchyardlaw08.SitesHolds", spec := "sitesHolds", unfollowed := true, recurses := true, apart := false, narrowed := true }
def SitesHoldsUptoSaid : Prop := sitesHoldsUptoRow.holds Tryz.pinned (OpenSpec.upto sitesHoldsSpec)

end Rows
end Go.Proofs.YtckpgpgmaccepaaGreat
