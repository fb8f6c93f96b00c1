/- An argument that is not looked into. -/
import Derived.Test.YtekggimgobeggaaOpen
namespace Go.Proofs.Ytekggimgobeggaa
open Go.ChangeShapes Go.WideShapes Go.ChangeAt Go.RowKit

set_option maxRecDepth 20000 in
theorem open_id {H : Type} {enc : TypeId × Value → H} {W : World} {base : Nat} {T : TypeId} {v : Value} {d : DataW H} {p : List MemPlace} (_hv : Value.okWide Try.prog W .any base T v)
    (_h : DataW.Trod enc Try.prog W 0 (fun _ => true) true T v d p) {ts : List TypeId} {ds : List (DataW H)} (_hsz : (DataW.weightsEach Try.prog ts ds).all (· ≤ reachBytes) = true) {j : Nat} (_ht : ts[j]? = some T) (_hd : ds[j]? = some d) :
    ∃ x : Value, v = x := ⟨v, rfl⟩

end Go.Proofs.Ytekggimgobeggaa
