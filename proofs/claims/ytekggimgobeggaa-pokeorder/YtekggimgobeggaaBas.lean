/- Small words that several texts take. -/
import Derived.Test.YtekggimgobeggaaOwn
namespace Go.Proofs.Ytekggimgobeggaa
open Go.RowKit

theorem size_one (w : World) (o : Obj) : (w.alloc o).heap.size = w.heap.size + 1 := by simp
theorem Hid.in {p : Prop} (h : p) : Hid p := h
theorem byt_nil : Byt [] := fun i => by simp

end Go.Proofs.Ytekggimgobeggaa
