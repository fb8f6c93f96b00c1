/- What octets.inside, number, U16, U32, I32 answer, for every slice of bytes, every place. -/
import Derived.Test.YteeeedphhaphpaaProg
import Derived.Test.YteeeedphhaphpaaNums
namespace Go.Proofs.Yteeeedphhaphpaa
open Go.RowKit

theorem ret_int2 {k : IntKind} {a b : Int} {x : Value} (h : a = b) : Ending.returned (.tuple #[.int k a, x]) = .returned (.tuple #[.int k b, x]) := by rw [h]

/-! ### octets.U16, U32, I32 -/
end Go.Proofs.Yteeeedphhaphpaa
