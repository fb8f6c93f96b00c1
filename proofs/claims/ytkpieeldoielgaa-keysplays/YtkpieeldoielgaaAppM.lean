/- symbols.appendMoved. -/
import Derived.Test.YtkpieeldoielgaaRowsA
import Derived.Test.YtkpieeldoielgaaCln
import Derived.Deep.RegionHeld3
namespace Go.Proofs.Ytkpieeldoielgaa
open Go.RowKit

theorem mov_take (A L : List Sy) (s k : Nat) (h : k < L.length) : (A ++ (L.take (k + 1)).map (movS s)).map syV = (A ++ (L.take k).map (movS s)).map syV ++ [(.string L[k].name, .int .i64 ((s : Int) + L[k].at_), .bool L[k].g)] := by
  rw [List.take_succ_eq_append_getElem h, List.map_append, List.map_append, List.map_append, List.map_append, List.append_assoc]
  rfl

end Go.Proofs.Ytkpieeldoielgaa
