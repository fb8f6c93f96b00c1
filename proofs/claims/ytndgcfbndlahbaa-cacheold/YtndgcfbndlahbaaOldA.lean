/- CacheOld, of every memory and row. -/
import Derived.Test.YtndgcfbndlahbaaOldW
import Derived.Test.YtndgcfbndlahbaaOpenS
namespace Go.Proofs.Ytndgcfbndlahbaa
open Go.RowKit

theorem old_all (p : Option Addr) (n c : Nat) (xs : List Int) (y : OpD) (w : World) (hx : xs.length = n) (hn : xs.length ≤ 140737488351232) (hr : Row w p xs) (hbx : Byt xs) (hw : OpW w y) :
    Calls Try.prog 4 #[.slice p n c, .agg #[.int .i64 y.kind, .int .i64 y.g, .bool y.hold, .int .i64 y.at_, .slice y.r y.ys.length y.d]] w fun e w' => e = .returned (.bool true) ∧ Below w.heap.size w w' := by
  by_cases h : n = 0 ∨ 4096 < n
  · exact old_big p y.r n c y.ys.length y.d y.kind y.g y.at_ y.hold w (by omega) h
  · exact old_walk p y.r n c y.ys.length y.d y.kind y.g y.at_ y.hold xs y.ys w (by omega) (by omega) hx rfl (by have := hw.len; omega) hw.le hw.dm hr hw.row hbx hw.byt

end Go.Proofs.Ytndgcfbndlahbaa
