/- Small words. -/
import Derived.Test.YtkpieeldoielgaaRight
namespace Go.Proofs.Ytkpieeldoielgaa
open Go.RowKit
theorem size_one (w : World) (o : Obj) : (w.alloc o).heap.size = w.heap.size + 1 := by simp
theorem Hid.in {p : Prop} (h : p) : Hid p := h
end Go.Proofs.Ytkpieeldoielgaa
