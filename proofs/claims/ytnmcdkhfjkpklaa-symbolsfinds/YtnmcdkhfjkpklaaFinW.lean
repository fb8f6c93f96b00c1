/- switchyardlaw07.SymbolsFinds: true, for every list, units, unit and name. -/
import Derived.Test.YtnmcdkhfjkpklaaAwkW
import Derived.Test.YtnmcdkhfjkpklaaHvyW
import Derived.Test.YtnmcdkhfjkpklaaFndW
import Derived.Test.YtnmcdkhfjkpklaaRRes
import Derived.Test.YtnmcdkhfjkpklaaRFnd
namespace Go.Proofs.Ytnmcdkhfjkpklaa
open Go.RowKit

set_option maxRecDepth 20000 in
set_option maxHeartbeats 4000000 in
theorem finds_walk (pt : Option Addr) (nt ct : Nat) (T : List Sy) (p : Option Addr) (n c : Nat) (xs : List Ob) (u : Int) (s : ByteArray) (w : World) (hT : T.length = nt) (hnt : nt ≤ 9223372036854775807) (hr : Row3 w pt (T.map syV))
    (hn : xs.length = n) (hn63 : n ≤ 9223372036854775807) (hx : Units w p xs) (hW : ∀ x ∈ xs, ObW x) :
    Calls Try.prog 5 #[.slice pt nt ct, .slice p n c, .int .i64 u, .string s] w fun E w' => E = .returned (.bool true) ∧ Below w.heap.size w w' := by
  have hH := heavy_any p n c xs w hn hn63 hx hW
  go_enter Try.func5, Try.ntmps5
  go_wp2_with (go_at_call 16; refine Hid.out ?_)
  refine Lib.hid ?_
  refine hH.mono ?_
  rintro E W ⟨b, z0, rfl, rfl⟩
  clear hH
  have HB0 : Hid (Below w.heap.size w (w.drewN z0)) := below_draws (below_self w) z0
  generalize w.drewN z0 = w0 at *
  cases b with
  | true =>
    go_wp2_with (go_at_call 15; refine (awake_any w0).mono ?_; rintro E w1 ⟨rfl, hb1⟩)
    go_ret
    exact ⟨rfl, below_step HB0.out hb1⟩
  | false =>
    go_wp2_with (go_at_call 11; refine Hid.out ?_)
    refine Lib.hid ?_
    refine (find_any pt nt ct T s w0 hT hnt (hr.below HB0.out)).mono ?_
    rintro E w1 ⟨rfl, hb1⟩
    have HB1 := Hid.in (below_step HB0.out hb1)
    clear hb1
    go_wp2_with (go_at_call 21; refine Hid.out ?_)
    refine Lib.hid ?_
    refine (refFind_any pt nt ct T s w1 hT hnt (hr.below HB1.out)).mono ?_
    rintro E W ⟨rfl, rfl⟩
    generalize findG T s = r at *
    go_wp2_with (go_at_call 12; refine Hid.out ?_)
    refine Lib.hid ?_
    refine (resolve_any p n c xs u s _ hn hn63 (hx.below HB1.out)).mono ?_
    rintro E w2 ⟨rfl, hb2⟩
    have HB2 := Hid.in (below_step HB1.out hb2)
    clear hb2
    go_wp2_with (go_at_call 22; refine Hid.out ?_)
    refine Lib.hid ?_
    refine (refResolve_any p n c xs u s w2 hn hn63 (hx.below HB2.out)).mono ?_
    rintro E w3 ⟨rfl, hb3⟩
    have HB3 := Hid.in (below_step HB2.out hb3)
    clear hb3
    generalize resL xs u s = q at *
    obtain ⟨q1, q2⟩ := q
    generalize r.getD 0 = ra at *
    generalize r.isSome = rb at *
    go_wp2_with (go_at_call 15; refine (awake_any w3).mono ?_; rintro E w4 ⟨rfl, hb4⟩)
    go_ret
    exact ⟨rfl, below_step HB3.out hb4⟩

end Go.Proofs.Ytnmcdkhfjkpklaa
