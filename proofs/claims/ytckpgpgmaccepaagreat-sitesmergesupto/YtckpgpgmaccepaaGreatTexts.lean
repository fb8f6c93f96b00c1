/- What switchyardkit.SameTexts, SameInts (of the same elements), CopyTexts and CopyInts answer. -/
import Derived.Test.YtckpgpgmaccepaaGreatGen
import Derived.Deep.QuietTactic
import Derived.BigQuiet
import Derived.Lib.Strings
namespace Go.Proofs.YtckpgpgmaccepaaGreat
open Go.RowKit

abbrev strs (ss : List ByteArray) : List Value := ss.map Value.string
abbrev nums (zs : List Int) : List Value := zs.map (Value.int .i64)

theorem strs_at (ss : List ByteArray) (k : Nat) (h : k < ss.length) : (strs ss)[k]? = some (.string ss[k]) := by simp [strs, h]
theorem nums_at (zs : List Int) (k : Nat) (h : k < zs.length) : (nums zs)[k]? = some (.int .i64 zs[k]) := by simp [nums, h]
theorem Tryz.elemS : Elem 25 9 16 := ⟨Tryz.underlying25, .string ByteArray.empty, rfl, by kernel_rfl⟩
theorem Tryz.elemI : Elem 47 3 8 := ⟨Tryz.underlying47, .int .i64 0, rfl, by kernel_rfl⟩


set_option maxHeartbeats 400000 in
theorem sameTexts_zero (p q : Option Addr) (c d : Nat) (w : World) :
    Calls Tryz.prog 11 #[.slice p 0 c, .slice q 0 d] w fun e w' => e = .returned (.bool true) ∧ w' = w := by
  go_enter Tryz.func11, Tryz.ntmps11
  go_wp2
  refine wp_loop_rounds 1 ?_
  rw [rounds_succ]; go_wp2
  go_ret
  exact ⟨rfl, rfl⟩

set_option maxHeartbeats 400000 in
theorem sameTexts_at (b o b' o' n c d : Nat) (xs : List ByteArray) (w : World) (hn : n ≤ 9223372036854775807) (hx : xs.length = n)
    (h1 : ∀ i, i < n → w.cell? ⟨b, o + i, none⟩ = (strs xs)[i]?) (h2 : ∀ i, i < n → w.cell? ⟨b', o' + i, none⟩ = (strs xs)[i]?) :
    Calls Tryz.prog 11 #[.slice (some ⟨b, o, none⟩) n c, .slice (some ⟨b', o', none⟩) n d] w fun e w' => e = .returned (.bool true) ∧ ∃ m, w' = w.drewN m := by
  have hne : ((n : Int) != (n : Int)) = false := by simp
  have H1 : Hid (∀ i, i < n → w.cell? ⟨b, o + i, none⟩ = (strs xs)[i]?) := h1
  have H2 : Hid (∀ i, i < n → w.cell? ⟨b', o' + i, none⟩ = (strs xs)[i]?) := h2
  have HX : Hid (xs.length = n) := hx
  clear h1 h2 hx
  go_enter Tryz.func11, Tryz.ntmps11
  go_wp2
  go_loopw [5] (fun i wr => ∃ k m : Nat, k ≤ n ∧ i = .int .i64 k ∧ wr = w.drewN m) (fun i _ => n - (intOf i).toNat)
  case atStart => exact ⟨0, 0, Nat.zero_le _, rfl, rfl⟩
  case round =>
    obtain ⟨k, m, hk, rfl, rfl⟩ := hrel
    by_cases hlt : k < n
    · have hk' : k < xs.length := by rw [HX.out]; exact hlt
      have c1 := (H1.out k hlt).trans (strs_at xs k hk')
      have c2 := (H2.out k hlt).trans (strs_at xs k hk')
      generalize xs[k] = x at *
      have hz : (x.toList != x.toList) = false := by simp
      go_wp2
      go_quiet (fail)
      go_wp2
      go_roundw
      case rel => exact ⟨k + 1, _, by omega, by go_num, rfl⟩
      case measure => simp [intOf]; omega
    · go_wp2
      go_ret
      exact ⟨rfl, _, rfl⟩

theorem sameTexts_self (p q : Option Addr) (n c d : Nat) (xs : List ByteArray) (w : World) (hn : n ≤ 9223372036854775807) (hx : xs.length = n) (h1 : GRow w p (strs xs)) (h2 : GRow w q (strs xs)) :
    Calls Tryz.prog 11 #[.slice p n c, .slice q n d] w fun e w' => e = .returned (.bool true) ∧ ∃ m, w' = w.drewN m := by
  rcases Nat.eq_zero_or_pos n with h0 | h0
  · subst h0
    exact (sameTexts_zero p q c d w).mono fun e w' h => ⟨h.1, 0, h.2⟩
  · obtain ⟨b, o, rfl, e1⟩ := h1 (by simp; omega)
    obtain ⟨b', o', rfl, e2⟩ := h2 (by simp; omega)
    exact sameTexts_at b o b' o' n c d xs w hn hx (fun i hi => e1 i (by simp; omega)) (fun i hi => e2 i (by simp; omega))

end Go.Proofs.YtckpgpgmaccepaaGreat
