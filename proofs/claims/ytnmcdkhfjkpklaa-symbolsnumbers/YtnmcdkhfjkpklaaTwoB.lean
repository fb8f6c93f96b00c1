/- switchyardlaw07.two, block by block. -/
import Derived.Test.YtnmcdkhfjkpklaaTwoL
import Derived.Deep.RegionHeld3
namespace Go.Proofs.Ytnmcdkhfjkpklaa
open Go.RowKit

/-- the five blocks of the law's two -/
structure TwoAt (w : World) (B g1 g2 g3 g4 g5 : Nat) : Prop where
  h5 : Blk w g5 39 #[.slice (some ⟨g1, 0, none⟩) 5 5, .slice (some ⟨g2, 0, none⟩) 2 2, .slice none 0 0, .slice none 0 0, .slice (some ⟨g3, 0, none⟩) 3 3, .slice (some ⟨g4, 0, none⟩) 2 2, .slice none 0 0, .slice none 0 0]
  h1 : Blk w g1 5 #[.int .u8 0, .int .u8 0, .int .u8 0, .int .u8 0, .int .u8 0]
  h2 : Blk w g2 34 #[.string ⟨#[97]⟩, .int .i64 0, .bool true, .string ⟨#[98]⟩, .int .i64 5, .bool false]
  h3 : Blk w g3 5 #[.int .u8 0, .int .u8 0, .int .u8 0]
  h4 : Blk w g4 34 #[.string ⟨#[98]⟩, .int .i64 1, .bool true, .string ⟨#[99]⟩, .int .i64 3, .bool false]
  l4 : B ≤ g4
  l5 : B ≤ g5
theorem TwoAt.units {w : World} {B g1 g2 g3 g4 g5 : Nat} (h : TwoAt w B g1 g2 g3 g4 g5) : Units w (some ⟨g5, 0, none⟩) [twoA, twoB] := two_units h.h5 h.h1 h.h2 h.h3 h.h4
theorem TwoAt.below {w w' : World} {B g1 g2 g3 g4 g5 : Nat} (h : TwoAt w B g1 g2 g3 g4 g5) (hb : Below w.heap.size w w') : TwoAt w' B g1 g2 g3 g4 g5 :=
  ⟨h.h5.grow hb, h.h1.grow hb, h.h2.grow hb, h.h3.grow hb, h.h4.grow hb, h.l4, h.l5⟩

set_option maxRecDepth 20000 in
set_option maxHeartbeats 8000000 in
theorem two_blk (w : World) : Calls Try.prog 10 #[] w fun E w' => ∃ g1 g2 g3 g4 g5, E = .returned (.slice (some ⟨g5, 0, none⟩) 2 2) ∧ TwoAt w' w.heap.size g1 g2 g3 g4 g5 ∧ Below w.heap.size w w' := by
  have h5 := run_make5
  have h3 := run_make3
  go_enter Try.func10, Try.ntmps10
  go_upto_region 1 with fail
  go_region_held3 (fun W => True) (trivial) (fail)
  all_goals clear h5 h3
  all_goals go_wp2_with fail
  all_goals go_ret
  all_goals refine ⟨_, _, _, _, _, rfl, ⟨at5, ?_, ?_, ?_, ?_, ?_, ?_⟩, five_below⟩
  all_goals first
    | exact at1
    | exact at2
    | exact at3
    | exact at4
    | omega

end Go.Proofs.Ytnmcdkhfjkpklaa
