/- Texts put together: LaidL. -/
import Derived.Test.YtgfmmbbebodapaaGreatDoorKu
import Derived.Test.YtgfmmbbebodapaaGreatDoorKzg

/- The library's variables as SourceLoose's row lists them: a world that holds them; what they hold. -/
namespace Go.Proofs.YtgfmmbbebodapaaGreatDoor
open Go.ChangeShapes Go.WideShapes Go.ChangeAt Go.RowKit

theorem env_ofL {W : World} (h : laidMetH Tryz.prog Rows.sourceLooseRow.laid W) : Env W := by
  have h4 : laidMet Tryz.prog [("strconv.ErrRange", Rows.laid_strconv_ErrRange), ("strconv.ErrSyntax", Rows.laid_strconv_ErrSyntax), ("unicode/utf8.first", Rows.laid_unicode_utf8_first)] W := laidMet.tail (laidMet.tail (laidMet.tail (laidMet.tail h)))
  obtain ⟨a, s, hv, _, _, _⟩ := laid_sentinel h4 gRange gRangeType Tryz.underlying82 Tryz.row169 Tryz.underlying169 Tryz.underlying171 rfl rfl Tryz.underlying9 Tryz.cells171 Tryz.cells9
  refine ⟨⟨_, World.var?_cell gRange hv 0, .inr ⟨_, _, rfl⟩⟩, ?_⟩
  have h3 : laidMet Tryz.prog [("internal/strconv.uint64pow10", Lib.tabData .u64 Lib.pow10Tab), ("unicode/utf8.acceptRanges", Rows.laid_unicode_utf8_acceptRanges), ("strconv.ErrRange", Rows.laid_strconv_ErrRange), ("strconv.ErrSyntax", Rows.laid_strconv_ErrSyntax), ("unicode/utf8.first", Rows.laid_unicode_utf8_first)] W := laidMet.tail (laidMet.tail h)
  exact Lib.tabIs_of_head Tryz.gpow gPowType Tryz.underlying173 Tryz.underlying131 Tryz.cells131 Tryz.cellsPow h3
theorem maxLen_of {W : World} (h : W.ShapedOpen Tryz.prog) : ∃ m : Int, W.cell? ⟨0, 0, none⟩ = some (.int .i64 m) := Tryz.laysM146.s1_3 W h

def tFirst : List Int := List.replicate 128 240 ++ List.replicate 66 241 ++ List.replicate 30 2 ++ [19] ++ List.replicate 12 3 ++ [35, 3, 3, 52, 4, 4, 4, 68] ++ List.replicate 11 241
def tAcc : List Int := [128, 191, 160, 191, 128, 159, 144, 191, 128, 143] ++ List.replicate 22 0
noncomputable def laidWorldL (os : Os) : World :=
  let w0 := laidWorld os
  let put (h : Array Obj) (g : Nat) (cs : Array Value) : Array Obj := h.modify g fun
    | .cells _ t frozen => .cells cs t frozen
    | o => o
  { w0 with heap := put (put w0.heap 1 (tabCells .u8 tFirst)) 2 (tabCells .u8 tAcc) }
set_option maxRecDepth 100000 in
theorem laid_metL (os : Os) (args : Array Value) : laidMet Tryz.prog Rows.sourceLooseRow.laid ((laidWorldL os).forCall (fun _ _ => 0) ⟨#[], args, []⟩).memory :=
  laidMet_of_run' 8 (by kernel_rfl) (by kernel_rfl)

end Go.Proofs.YtgfmmbbebodapaaGreatDoor
