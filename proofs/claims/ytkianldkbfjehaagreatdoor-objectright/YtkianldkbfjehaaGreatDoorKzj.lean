/- Texts put together: Laid. -/
import Derived.Test.YtkianldkbfjehaaGreatDoorRows
import Derived.Test.YtkianldkbfjehaaGreatDoorKl
import Derived.Lib.LaidTab
import Derived.WalkKit
import Derived.ProofKit
import Derived.OpenShut
import Derived.Deep.DeepHandedRow
import Derived.Deep.DeepWitnessRowRef
import Derived.Stop.LaidErr

/- The library's variables as the rows list them: a world that holds them; that ErrRange holds an error. -/
namespace Go.Proofs.YtkianldkbfjehaaGreatDoor
open Go.ChangeShapes Go.WideShapes Go.ChangeAt Go.RowKit

theorem gRange : Tryz.prog.globalNamed "strconv.ErrRange" = some 2 := by kernel_rfl
theorem gRangeType : (Tryz.prog.globals[2]?).map (·.type) = some 170 := by kernel_rfl
theorem starName : "*" ++ "errors.errorString" = "*errors.errorString" := by decide
theorem Tryz.row205 (u : TypeId) (h : Tryz.prog.typeName? 3 u = some "*errors.errorString") : u = 205 :=
  typeName_ptr_named (nm := "errors.errorString") (by rw [starName]; kernel_rfl) (by kernel_rfl) (by decide) u (by rw [starName]; exact h)
theorem Tryz.cells207 : Tryz.prog.cellsOf 207 = 1 := by kernel_rfl
theorem Tryz.cells9 : Tryz.prog.cellsOf 9 = 1 := by kernel_rfl

/-- what the rows list: the same for all laws but SourceLoose -/
theorem vars_of {W : World} (h : laidMetH Tryz.prog Rows.objectStandsRow.laid W) : Vars W := by
  have h3 : laidMet Tryz.prog [("strconv.ErrRange", Rows.laid_strconv_ErrRange), ("strconv.ErrSyntax", Rows.laid_strconv_ErrSyntax)] W := laidMet.tail (laidMet.tail (laidMet.tail h))
  obtain ⟨a, s, hv, _, _, _⟩ := laid_sentinel h3 gRange gRangeType Tryz.underlying170 Tryz.row205 Tryz.underlying205 Tryz.underlying207 rfl rfl Tryz.underlying9 Tryz.cells207 Tryz.cells9
  exact ⟨_, World.var?_cell gRange hv 0, .inr ⟨_, _, rfl⟩⟩

theorem gPowType : (Tryz.prog.globals[3]?).map (·.type) = some 202 := by kernel_rfl
theorem Tryz.cellsPow : Tryz.prog.cellsOf 202 = 20 := by kernel_rfl
theorem Tryz.cells176 : Tryz.prog.cellsOf 176 = 1 := by kernel_rfl
theorem env_of {W : World} (h : laidMetH Tryz.prog Rows.objectStandsRow.laid W) : Env W := by
  refine ⟨vars_of h, ?_⟩
  have h3 : laidMet Tryz.prog [("internal/strconv.uint64pow10", Lib.tabData .u64 Lib.pow10Tab), ("strconv.ErrRange", Rows.laid_strconv_ErrRange), ("strconv.ErrSyntax", Rows.laid_strconv_ErrSyntax)] W := laidMet.tail (laidMet.tail h)
  exact Lib.tabIs_of_head Tryz.gpow gPowType Tryz.underlying202 Tryz.underlying176 Tryz.cells176 Tryz.cellsPow h3

abbrev synS : ByteArray := { data := #[105, 110, 118, 97, 108, 105, 100, 32, 115, 121, 110, 116, 97, 120] }
abbrev rngS : ByteArray := { data := #[118, 97, 108, 117, 101, 32, 111, 117, 116, 32, 111, 102, 32, 114, 97, 110, 103, 101] }
noncomputable def low : Nat := (World.holding Tryz.prog default ⟨#[], #[], []⟩).heap.size
/-- the cells of a table -/
def tabCells (k : IntKind) (zs : List Int) : Array Value := (zs.map (Value.int k)).toArray
def t32 : List Int := [0, 1, 28, 2, 29, 14, 24, 3, 30, 22, 20, 15, 25, 17, 4, 8, 31, 27, 13, 23, 21, 19, 16, 7, 26, 12, 18, 6, 11, 5, 10, 9]
def t64 : List Int := [0, 1, 56, 2, 57, 49, 28, 3, 61, 58, 42, 50, 38, 29, 17, 4, 62, 47, 59, 36, 45, 43, 51, 22, 53, 39, 33, 30, 24, 18, 12, 5, 63, 55, 48, 27, 60, 41, 37, 16, 46, 35, 44, 21, 52, 32, 23, 11, 54, 26, 40, 15, 34, 20, 31, 10, 25, 14, 19, 9, 13, 8, 7, 6]
def tPow : List Int := [1, 10, 100, 1000, 10000, 100000, 1000000, 10000000, 100000000, 1000000000, 10000000000, 100000000000, 1000000000000, 10000000000000, 100000000000000, 1000000000000000, 10000000000000000, 100000000000000000, 1000000000000000000, 10000000000000000000]
noncomputable def laidWorld (os : Os) : World :=
  let w0 := World.holding Tryz.prog os ⟨#[.cells #[.string synS] 207, .cells #[.string rngS] 207], #[], []⟩
  let put (h : Array Obj) (g : Nat) (cs : Array Value) : Array Obj := h.modify g fun
    | .cells _ t frozen => .cells cs t frozen
    | o => o
  let h1 := put w0.heap 1 #[.iface 205 (.pointer (some ⟨low, 0, none⟩))]
  let h2 := put h1 2 #[.iface 205 (.pointer (some ⟨low + 1, 0, none⟩))]
  let h3 := put h2 3 (tabCells .u64 tPow)
  let h4 := put h3 4 (tabCells .u8 t32)
  let h5 := put h4 5 (tabCells .u8 t64)
  { w0 with heap := h5 }
set_option maxRecDepth 100000 in
theorem laid_met (os : Os) (args : Array Value) : laidMet Tryz.prog Rows.objectStandsRow.laid ((laidWorld os).forCall (fun _ _ => 0) ⟨#[], args, []⟩).memory :=
  laidMet_of_run' 8 (by kernel_rfl) (by kernel_rfl)

end Go.Proofs.YtkianldkbfjehaaGreatDoor
