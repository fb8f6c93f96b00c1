/- What the law OctetsPut answers: true, for every slice of bytes, every place, every number; nothing that was there is written. -/
import Derived.Test.YtmhdiicljnjmcaaAwake
namespace Go.Proofs.Ytmhdiicljnjmcaa
open Go.RowKit

set_option maxHeartbeats 400000 in
theorem lawPut_no (p : Option Addr) (n c : Nat) (a v : Int) (w : World) (hn : n ≤ 9223372036854775807) (h : a < 0 ∨ n - 4 < a) :
    Calls Try.prog 6 #[.slice p n c, .int .i64 a, .int .u32 v] w fun e w' => e = .returned (.bool true) ∧ Below w.heap.size w w' := by
  go_enter Try.func6, Try.ntmps6
  go_wp2_with fail
  refine (u32_no _ _ _ _ _ hn h).mono ?_
  rintro e w' ⟨rfl, rfl⟩
  go_wp2_with fail
  refine (put32_no _ _ _ _ _ _ hn h).mono ?_
  rintro e w' ⟨rfl, rfl⟩
  go_wp2_with fail
  refine (awake_any _).mono ?_
  rintro e w' ⟨rfl, hb⟩
  go_wp2
  go_ret
  exact ⟨rfl, hb⟩

set_option maxHeartbeats 1000000 in
theorem lawPut_at (b o n c k : Nat) (v : Int) (xs : List Int) (w : World) (hx : xs.length = n) (hn : n ≤ 140737488355328) (hr : Row w (some ⟨b, o, none⟩) xs) (hb : Byt xs) (hv : 0 ≤ v ∧ v ≤ 4294967295) (h1 : k + 4 ≤ n) :
    Calls Try.prog 6 #[.slice (some ⟨b, o, none⟩) n c, .int .i64 k, .int .u32 v] w fun e w' => e = .returned (.bool true) ∧ Below w.heap.size w w' := by
  have HX : Hid (xs.length = n) := hx
  clear hx
  go_enter Try.func6, Try.ntmps6
  go_wp2_with fail
  refine (u32_yes _ n c k xs _ HX.out (by omega) hr hb (by omega) (by omega)).mono ?_
  rw [Int.toNat_natCast]
  rintro e w' ⟨rfl, rfl⟩
  go_wp2_with fail
  refine (put32_ex _ n c k v xs _ HX.out hn hr hv (by omega) (by omega)).mono ?_
  rw [Int.toNat_natCast]
  rintro e w2 ⟨g, rfl, ho, hb2⟩
  have hr2 := hr.below hb2
  have HL : Hid ((putL xs k v).length = n) := by have := HX.out; rw [← this]; exact putL_length ..
  have hby : Byt (putL xs k v) := putL_byt hb (by have := HX.out; omega) hv
  go_wp2_with fail
  refine (u32_yes _ n n k (putL xs k v) _ HL.out (by omega) ho.row hby (by omega) (by omega)).mono ?_
  rw [Int.toNat_natCast, putL_n4 (by have := HX.out; omega)]
  rintro e w3 ⟨rfl, rfl⟩
  go_wp2_with fail
  refine (u16_yes _ n n k (putL xs k v) _ HL.out (by omega) ho.row hby (by omega) (by omega)).mono ?_
  rw [Int.toNat_natCast, putL_n2 (by have := HX.out; omega)]
  rintro e w3 ⟨rfl, rfl⟩
  go_wp2_with fail
  refine (u16_yes _ n n (k + 2) (putL xs k v) _ HL.out (by omega) ho.row hby (by omega) (by omega)).mono ?_
  rw [show ((k : Int) + 2).toNat = k + 2 by omega, putL_n2' (by have := HX.out; omega)]
  rintro e w3 ⟨rfl, rfl⟩
  have hq : ((v % 65536 + 65536 * (v / 65536)) != v) = false := by simp; omega
  go_wp2_with fail
  clear hq
  go_loopw [17] (fun i wr => ∃ j m : Nat, j ≤ n ∧ i = .int .i64 j ∧ wr = w3.drewN m) (fun i _ => n - (intOf i).toNat)
  case atStart => exact ⟨0, 0, Nat.zero_le _, rfl, rfl⟩
  case round =>
    obtain ⟨j, m, hj, rfl, rfl⟩ := hrel
    by_cases hlt : j < n
    · have c1 := ho.cell j (by rw [HL.out]; exact hlt)
      obtain ⟨b', o', e', hc⟩ := hr2 (by rw [HX.out]; omega)
      simp only [Option.some.injEq, Addr.mk.injEq, and_true] at e'
      obtain ⟨rfl, rfl⟩ := e'
      have c2 := hc j (by rw [HX.out]; exact hlt)
      clear hc
      by_cases ha : j < k
      · rw [putL_other (by have := HX.out; omega) j (by omega)] at c1
        generalize xs.getD j 0 = z at c1 c2
        have hz : (z != z) = false := by simp
        go_wp2
        go_quiet (fail)
        go_wp2
        go_roundw
        case rel => exact ⟨j + 1, _, by omega, by go_num, rfl⟩
        case measure => simp [intOf]; omega
      · have hd : decide ((j : Int) < (k : Int)) = false := by simp; omega
        by_cases hg : k + 4 ≤ j
        · have hgi : (k : Int) + 4 ≤ (j : Int) := by omega
          rw [putL_other (by have := HX.out; omega) j (by omega)] at c1
          generalize xs.getD j 0 = z at c1 c2
          have hz : (z != z) = false := by simp
          go_wp2
          go_quiet (fail)
          go_wp2
          go_roundw
          case rel => exact ⟨j + 1, _, by omega, by go_num, rfl⟩
          case measure => simp [intOf]; omega
        · have hd2 : decide ((k : Int) + 4 ≤ (j : Int)) = false := by simp; omega
          go_wp2
          go_quiet (fail)
          go_wp2
          go_roundw
          case rel => exact ⟨j + 1, _, by omega, by go_num, rfl⟩
          case measure => simp [intOf]; omega
    · go_wp2_with fail
      refine (put32_ex _ n n k (n4 xs k) (putL xs k v) _ HL.out hn (ho.drewN m).row (n4_bd hb k) (by omega) (by omega)).mono ?_
      rw [Int.toNat_natCast, putL_back hb (by have := HX.out; omega)]
      rintro e w4 ⟨g', rfl, ho4, hb4⟩
      have hr4 := (hr2.drewN m).below hb4
      have hb5 := below_step (below_draws hb2 m) hb4
      clear hb4 hb2 hr2 ho hr
      go_wp2_with fail
      refine (same_any _ _ n n n c xs xs _ HX.out HX.out ho4.row hr4 hb hb).mono ?_
      rw [sameB_self]
      rintro e w5 ⟨rfl, rfl⟩
      go_wp2_with fail
      refine (awake_any _).mono ?_
      rintro e w6 ⟨rfl, hb6⟩
      go_wp2
      go_ret
      exact ⟨rfl, below_step hb5 hb6⟩

theorem lawPut_any (p : Option Addr) (n c : Nat) (a v : Int) (xs : List Int) (w : World) (hx : xs.length = n) (hn : n ≤ 140737488355328) (hr : Row w p xs) (hb : Byt xs) (hv : 0 ≤ v ∧ v ≤ 4294967295) :
    Calls Try.prog 6 #[.slice p n c, .int .i64 a, .int .u32 v] w fun e w' => e = .returned (.bool true) ∧ Below w.heap.size w w' := by
  by_cases h : 0 ≤ a ∧ a ≤ n - 4
  · obtain ⟨k, rfl⟩ := Int.eq_ofNat_of_zero_le h.1
    obtain ⟨b, o, rfl, hc⟩ := hr (by omega)
    exact lawPut_at b o n c k v xs w hx hn (fun _ => ⟨b, o, rfl, hc⟩) hb hv (by omega)
  · exact lawPut_no p n c a v w (by omega) (by omega)
end Go.Proofs.Ytmhdiicljnjmcaa
