/- Worlds in which all but some blocks are as they were. -/
import Derived.Test.YtekggimgobeggaaApartA
namespace Go.Proofs.Ytekggimgobeggaa
open Go.RowKit

theorem Keeps.ofBelow {G : Nat → Prop} {w w' : World} (h : Below w.heap.size w w') : Keeps G w w' := ⟨h.os, h.tape, h.output, h.size, fun k hk _ => h.block k hk⟩
theorem Keeps.trans' {G : Nat → Prop} {a b c : World} (h : Keeps G a b) (k : Keeps G b c) : Keeps G a c :=
  ⟨k.os.trans h.os, k.tape.trans h.tape, k.output.trans h.output, Nat.le_trans h.size k.size, fun j hj hG => (k.block j (Nat.lt_of_lt_of_le hj h.size) hG).trans (h.block j hj hG)⟩
theorem Keeps.thenB {G : Nat → Prop} {a w w' : World} (h : Keeps G a w) (hb : Below w.heap.size w w') : Keeps G a w' := h.trans' (Keeps.ofBelow hb)
theorem Keeps.wider {G G' : Nat → Prop} {w w' : World} (h : Keeps G w w') (hG : ∀ j, G j → G' j) : Keeps G' w w' := ⟨h.os, h.tape, h.output, h.size, fun j hj hn => h.block j hj (fun e => hn (hG j e))⟩

end Go.Proofs.Ytekggimgobeggaa
