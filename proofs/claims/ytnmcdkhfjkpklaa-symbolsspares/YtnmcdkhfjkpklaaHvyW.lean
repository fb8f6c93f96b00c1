/- switchyardlaw07.heavy. -/
import Derived.Test.YtnmcdkhfjkpklaaTabW
import Derived.BigQuiet
namespace Go.Proofs.Ytnmcdkhfjkpklaa
open Go.RowKit

/-- how much a unit that came in may hold -/
def ObW (o : Ob) : Prop := o.bs.length ≤ 140737488351232 ∧ o.sy.length ≤ 4398046510976 ∧ o.fx.length ≤ 4398046510976 ∧ o.mk_.length ≤ 3518437208780

set_option maxRecDepth 20000 in
set_option maxHeartbeats 2000000 in
theorem heavy_any (p : Option Addr) (n c : Nat) (xs : List Ob) (w : World) (hn : xs.length = n) (hn63 : n ≤ 9223372036854775807) (hx : Units w p xs) (hW : ∀ x ∈ xs, ObW x) :
    Calls Try.prog 16 #[.slice p n c] w fun E w' => ∃ b z, E = .returned (.bool b) ∧ w' = w.drewN z := by
  have HX := Hid.in hx
  have HN := Hid.in hn
  clear hx hn
  go_enter Try.func16, Try.ntmps16
  go_wp2_with fail
  go_loopw [3, 4] (fun vn vi wr => ∃ m k z : Nat, vn = .int .i64 m ∧ vi = .int .i64 k ∧ k ≤ n ∧ m ≤ 1000000000000000000 ∧ wr = w.drewN z) (fun _ vi _ => n - (intOf vi).toNat)
  case atStart => exact ⟨0, 0, 0, rfl, rfl, Nat.zero_le _, by decide, rfl⟩
  case round =>
    obtain ⟨m, k, z, rfl, rfl, hk, hm, rfl⟩ := hrel
    by_cases hlt : k < n
    · by_cases hle : m ≤ 3000
      · have hkl : k < xs.length := by rw [HN.out]; exact hlt
        obtain ⟨b, o, rfl, hc⟩ := HX.out (by omega)
        obtain ⟨pb, ps, pf, pm, cb, cs, cf, cm, ⟨c0, c1, c2, c3⟩, hI⟩ := hc k hkl
        obtain ⟨-, ks, kf, km⟩ := hW xs[k] (List.getElem_mem hkl)
        clear hc hI c0 hW
        generalize xs[k].sy.length = s at *
        generalize xs[k].fx.length = f at *
        generalize xs[k].mk_.length = g at *
        have hw1 : IntKind.i64.wrap ((m : Int) + (s : Int)) = (m : Int) + (s : Int) := by rw [IntKind.wrap_i64]; omega
        have hw2 : IntKind.i64.wrap ((m : Int) + (s : Int) + (f : Int)) = (m : Int) + (s : Int) + (f : Int) := by rw [IntKind.wrap_i64]; omega
        have hw3 : IntKind.i64.wrap ((m : Int) + (s : Int) + (f : Int) + (g : Int)) = (m : Int) + (s : Int) + (f : Int) + (g : Int) := by rw [IntKind.wrap_i64]; omega
        go_wp2_with fail
        go_quiet (fail)
        go_wp2_with fail
        go_roundw
        case rel => exact ⟨m + s + f + g, k + 1, _, by push_cast; rfl, by go_num, by omega, by omega, rfl⟩
        case measure => simp [intOf]; omega
      · go_wp2_with fail
        go_ret
        exact ⟨_, _, rfl, rfl⟩
    · go_wp2_with fail
      go_ret
      exact ⟨_, _, rfl, rfl⟩

end Go.Proofs.Ytnmcdkhfjkpklaa
