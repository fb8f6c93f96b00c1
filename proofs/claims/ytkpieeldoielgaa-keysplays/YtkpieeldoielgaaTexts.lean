/- What switchyardkit.SameTexts, SameInts (of the same elements), CopyTexts and CopyInts answer. -/
import Derived.Test.YtkpieeldoielgaaGen
import Derived.Deep.QuietTactic
import Derived.BigQuiet
import Derived.Lib.Strings
namespace Go.Proofs.Ytkpieeldoielgaa
open Go.RowKit

abbrev strs (ss : List ByteArray) : List Value := ss.map Value.string
abbrev nums (zs : List Int) : List Value := zs.map (Value.int .i64)

theorem strs_at (ss : List ByteArray) (k : Nat) (h : k < ss.length) : (strs ss)[k]? = some (.string ss[k]) := by simp [strs, h]
theorem nums_at (zs : List Int) (k : Nat) (h : k < zs.length) : (nums zs)[k]? = some (.int .i64 zs[k]) := by simp [nums, h]
theorem Try.elemS : Elem 27 9 16 := ⟨Try.underlying27, .string ByteArray.empty, rfl, by kernel_rfl⟩
theorem Try.elemI : Elem 29 3 8 := ⟨Try.underlying29, .int .i64 0, rfl, by kernel_rfl⟩


set_option maxHeartbeats 400000 in
theorem sameTexts_zero (p q : Option Addr) (c d : Nat) (w : World) :
    Calls Try.prog 42 #[.slice p 0 c, .slice q 0 d] w fun e w' => e = .returned (.bool true) ∧ w' = w := by
  go_enter Try.func42, Try.ntmps42
  go_wp2
  refine wp_loop_rounds 1 ?_
  rw [rounds_succ]; go_wp2
  go_ret
  exact ⟨rfl, rfl⟩

set_option maxHeartbeats 400000 in
theorem sameTexts_at (b o b' o' n c d : Nat) (xs : List ByteArray) (w : World) (hn : n ≤ 9223372036854775807) (hx : xs.length = n)
    (h1 : ∀ i, i < n → w.cell? ⟨b, o + i, none⟩ = (strs xs)[i]?) (h2 : ∀ i, i < n → w.cell? ⟨b', o' + i, none⟩ = (strs xs)[i]?) :
    Calls Try.prog 42 #[.slice (some ⟨b, o, none⟩) n c, .slice (some ⟨b', o', none⟩) n d] w fun e w' => e = .returned (.bool true) ∧ ∃ m, w' = w.drewN m := by
  have hne : ((n : Int) != (n : Int)) = false := by simp
  have H1 : Hid (∀ i, i < n → w.cell? ⟨b, o + i, none⟩ = (strs xs)[i]?) := h1
  have H2 : Hid (∀ i, i < n → w.cell? ⟨b', o' + i, none⟩ = (strs xs)[i]?) := h2
  have HX : Hid (xs.length = n) := hx
  clear h1 h2 hx
  go_enter Try.func42, Try.ntmps42
  go_wp2
  go_loopw [5] (fun i wr => ∃ k m : Nat, k ≤ n ∧ i = .int .i64 k ∧ wr = w.drewN m) (fun i _ => n - (intOf i).toNat)
  case atStart => exact ⟨0, 0, Nat.zero_le _, rfl, rfl⟩
  case round =>
    obtain ⟨k, m, hk, rfl, rfl⟩ := hrel
    by_cases hlt : k < n
    · have hk' : k < xs.length := by rw [HX.out]; exact hlt
      have c1 := (H1.out k hlt).trans (strs_at xs k hk')
      have c2 := (H2.out k hlt).trans (strs_at xs k hk')
      generalize xs[k] = x at *
      have hz : (x.toList != x.toList) = false := by simp
      go_wp2
      go_quiet (fail)
      go_wp2
      go_roundw
      case rel => exact ⟨k + 1, _, by omega, by go_num, rfl⟩
      case measure => simp [intOf]; omega
    · go_wp2
      go_ret
      exact ⟨rfl, _, rfl⟩

theorem sameTexts_self (p q : Option Addr) (n c d : Nat) (xs : List ByteArray) (w : World) (hn : n ≤ 9223372036854775807) (hx : xs.length = n) (h1 : GRow w p (strs xs)) (h2 : GRow w q (strs xs)) :
    Calls Try.prog 42 #[.slice p n c, .slice q n d] w fun e w' => e = .returned (.bool true) ∧ ∃ m, w' = w.drewN m := by
  rcases Nat.eq_zero_or_pos n with h0 | h0
  · subst h0
    exact (sameTexts_zero p q c d w).mono fun e w' h => ⟨h.1, 0, h.2⟩
  · obtain ⟨b, o, rfl, e1⟩ := h1 (by simp; omega)
    obtain ⟨b', o', rfl, e2⟩ := h2 (by simp; omega)
    exact sameTexts_at b o b' o' n c d xs w hn hx (fun i hi => e1 i (by simp; omega)) (fun i hi => e2 i (by simp; omega))

set_option maxHeartbeats 400000 in
theorem sameInts_zero (p q : Option Addr) (c d : Nat) (w : World) :
    Calls Try.prog 43 #[.slice p 0 c, .slice q 0 d] w fun e w' => e = .returned (.bool true) ∧ w' = w := by
  go_enter Try.func43, Try.ntmps43
  go_wp2
  refine wp_loop_rounds 1 ?_
  rw [rounds_succ]; go_wp2
  go_ret
  exact ⟨rfl, rfl⟩

set_option maxHeartbeats 400000 in
theorem sameInts_at (b o b' o' n c d : Nat) (xs : List Int) (w : World) (hn : n ≤ 9223372036854775807) (hx : xs.length = n)
    (h1 : ∀ i, i < n → w.cell? ⟨b, o + i, none⟩ = (nums xs)[i]?) (h2 : ∀ i, i < n → w.cell? ⟨b', o' + i, none⟩ = (nums xs)[i]?) :
    Calls Try.prog 43 #[.slice (some ⟨b, o, none⟩) n c, .slice (some ⟨b', o', none⟩) n d] w fun e w' => e = .returned (.bool true) ∧ ∃ m, w' = w.drewN m := by
  have hne : ((n : Int) != (n : Int)) = false := by simp
  have H1 : Hid (∀ i, i < n → w.cell? ⟨b, o + i, none⟩ = (nums xs)[i]?) := h1
  have H2 : Hid (∀ i, i < n → w.cell? ⟨b', o' + i, none⟩ = (nums xs)[i]?) := h2
  have HX : Hid (xs.length = n) := hx
  clear h1 h2 hx
  go_enter Try.func43, Try.ntmps43
  go_wp2
  go_loopw [5] (fun i wr => ∃ k m : Nat, k ≤ n ∧ i = .int .i64 k ∧ wr = w.drewN m) (fun i _ => n - (intOf i).toNat)
  case atStart => exact ⟨0, 0, Nat.zero_le _, rfl, rfl⟩
  case round =>
    obtain ⟨k, m, hk, rfl, rfl⟩ := hrel
    by_cases hlt : k < n
    · have hk' : k < xs.length := by rw [HX.out]; exact hlt
      have c1 := (H1.out k hlt).trans (nums_at xs k hk')
      have c2 := (H2.out k hlt).trans (nums_at xs k hk')
      generalize xs[k] = x at *
      have hz : (x != x) = false := by simp
      go_wp2
      go_quiet (fail)
      go_wp2
      go_roundw
      case rel => exact ⟨k + 1, _, by omega, by go_num, rfl⟩
      case measure => simp [intOf]; omega
    · go_wp2
      go_ret
      exact ⟨rfl, _, rfl⟩

theorem sameInts_self (p q : Option Addr) (n c d : Nat) (xs : List Int) (w : World) (hn : n ≤ 9223372036854775807) (hx : xs.length = n) (h1 : GRow w p (nums xs)) (h2 : GRow w q (nums xs)) :
    Calls Try.prog 43 #[.slice p n c, .slice q n d] w fun e w' => e = .returned (.bool true) ∧ ∃ m, w' = w.drewN m := by
  rcases Nat.eq_zero_or_pos n with h0 | h0
  · subst h0
    exact (sameInts_zero p q c d w).mono fun e w' h => ⟨h.1, 0, h.2⟩
  · obtain ⟨b, o, rfl, e1⟩ := h1 (by simp; omega)
    obtain ⟨b', o', rfl, e2⟩ := h2 (by simp; omega)
    exact sameInts_at b o b' o' n c d xs w hn hx (fun i hi => e1 i (by simp; omega)) (fun i hi => e2 i (by simp; omega))

set_option maxHeartbeats 400000 in
theorem copyTexts_at (b o n c : Nat) (xs : List ByteArray) (w : World) (hx : xs.length = n) (hn : n * 16 ≤ 140737488355328)
    (hc : ∀ i, i < n → w.cell? ⟨b, o + i, none⟩ = (strs xs)[i]?) :
    Calls Try.prog 39 #[.slice (some ⟨b, o, none⟩) n c] w fun e w' => ∃ v, e = .returned v ∧ GOwnV 9 w' w.heap.size v (strs xs) ∧ Below w.heap.size w w' := by
  have HX : Hid (xs.length = n) := hx
  have HC : Hid (∀ i, i < n → w.cell? ⟨b, o + i, none⟩ = (strs xs)[i]?) := hc
  clear hx hc
  go_enter Try.func39, Try.ntmps39
  go_wp2
  go_loopw [3, 4] (fun v i wr => ∃ k : Nat, k ≤ n ∧ i = .int .i64 k ∧ GOwnV 9 wr w.heap.size v (strs (xs.take k)) ∧ Below w.heap.size w wr) (fun _ i _ => n - (intOf i).toNat)
  case atStart => exact ⟨0, Nat.zero_le _, rfl, GOwnV.nil _ _ _, Below.refl _ _⟩
  case round =>
    obtain ⟨k, hk, rfl, hown, hbk⟩ := hrel
    by_cases hlt : k < n
    · have hk' : k < xs.length := by rw [HX.out]; exact hlt
      have hcd := (HC.out k hlt).trans (strs_at xs k hk')
      have hcl := cell_lt hcd
      have c1 := (hbk.cell (p := ⟨b, o + k, none⟩) hcl).trans hcd
      have hsz := hbk.size
      have hl : (strs (xs.take k)).length = k := by rw [List.length_map, List.length_take]; omega
      have HT : Hid (strs (xs.take (k + 1)) = strs (xs.take k) ++ [Value.string xs[k]]) := by
        show strs (xs.take (k + 1)) = strs (xs.take k) ++ [Value.string xs[k]]
        rw [List.take_succ_eq_append_getElem hk']; exact List.map_append
      clear hcd hcl
      have HL : Hid ((strs (xs.take k)).length = k) := hl
      clear hl
      generalize xs[k] = z at *
      generalize strs (xs.take k) = ys at *
      go_wp2_with (at_builtin; refine gpush Try.elemS _ rfl _ _ rfl w.heap.size _ ys rfl (hown.alloc _) ⟨wr.heap.size, 0, none⟩ 1 1 [Value.string z] rfl rfl (cell_one_new _ _ _) (by simp [Value.oneCell']) (by rw [HL.out]; omega) (by rw [HL.out]; omega) (by simp; omega) ?_; intro v' w1 hown' _hgrow hbel _hnil)
      go_roundw
      case rel => exact ⟨k + 1, by omega, by go_num, by rw [HT.out]; exact hown', hbel _ (hbk.alloc hsz _)⟩
      case measure => simp [intOf]; omega
    · have HT : Hid (xs.take k = xs) := List.take_of_length_le (by rw [HX.out]; omega)
      go_wp2
      go_ret
      exact ⟨_, rfl, by rw [HT.out] at hown; exact hown, hbk⟩

set_option maxHeartbeats 400000 in
theorem copyTexts_zero (p : Option Addr) (c : Nat) (w : World) :
    Calls Try.prog 39 #[.slice p 0 c] w fun e w' => e = .returned (.slice none 0 0) ∧ w' = w := by
  go_enter Try.func39, Try.ntmps39
  go_wp2
  refine wp_loop_rounds 1 ?_
  rw [rounds_succ]; go_wp2
  go_ret
  exact ⟨rfl, rfl⟩

theorem copyTexts_any (p : Option Addr) (n c : Nat) (xs : List ByteArray) (w : World) (hx : xs.length = n) (hn : n * 16 ≤ 140737488355328) (hr : GRow w p (strs xs)) :
    Calls Try.prog 39 #[.slice p n c] w fun e w' => ∃ v, e = .returned v ∧ GOwnV 9 w' w.heap.size v (strs xs) ∧ Below w.heap.size w w' := by
  rcases Nat.eq_zero_or_pos n with h0 | h0
  · subst h0
    obtain rfl : xs = [] := List.eq_nil_of_length_eq_zero hx
    exact (copyTexts_zero p c w).mono fun e w' h => ⟨_, h.1, GOwnV.nil _ _ _, by rw [h.2]; exact below_self w⟩
  · obtain ⟨b, o, rfl, hc⟩ := hr (by simp; omega)
    exact copyTexts_at b o n c xs w hx hn (fun i hi => hc i (by simp; omega))

set_option maxHeartbeats 400000 in
theorem copyInts_at (b o n c : Nat) (xs : List Int) (w : World) (hx : xs.length = n) (hn : n * 8 ≤ 140737488355328)
    (hc : ∀ i, i < n → w.cell? ⟨b, o + i, none⟩ = (nums xs)[i]?) :
    Calls Try.prog 40 #[.slice (some ⟨b, o, none⟩) n c] w fun e w' => ∃ v, e = .returned v ∧ GOwnV 3 w' w.heap.size v (nums xs) ∧ Below w.heap.size w w' := by
  have HX : Hid (xs.length = n) := hx
  have HC : Hid (∀ i, i < n → w.cell? ⟨b, o + i, none⟩ = (nums xs)[i]?) := hc
  clear hx hc
  go_enter Try.func40, Try.ntmps40
  go_wp2
  go_loopw [3, 4] (fun v i wr => ∃ k : Nat, k ≤ n ∧ i = .int .i64 k ∧ GOwnV 3 wr w.heap.size v (nums (xs.take k)) ∧ Below w.heap.size w wr) (fun _ i _ => n - (intOf i).toNat)
  case atStart => exact ⟨0, Nat.zero_le _, rfl, GOwnV.nil _ _ _, Below.refl _ _⟩
  case round =>
    obtain ⟨k, hk, rfl, hown, hbk⟩ := hrel
    by_cases hlt : k < n
    · have hk' : k < xs.length := by rw [HX.out]; exact hlt
      have hcd := (HC.out k hlt).trans (nums_at xs k hk')
      have hcl := cell_lt hcd
      have c1 := (hbk.cell (p := ⟨b, o + k, none⟩) hcl).trans hcd
      have hsz := hbk.size
      have hl : (nums (xs.take k)).length = k := by rw [List.length_map, List.length_take]; omega
      have HT : Hid (nums (xs.take (k + 1)) = nums (xs.take k) ++ [Value.int .i64 xs[k]]) := by
        show nums (xs.take (k + 1)) = nums (xs.take k) ++ [Value.int .i64 xs[k]]
        rw [List.take_succ_eq_append_getElem hk']; exact List.map_append
      clear hcd hcl
      have HL : Hid ((nums (xs.take k)).length = k) := hl
      clear hl
      generalize xs[k] = z at *
      generalize nums (xs.take k) = ys at *
      go_wp2_with (at_builtin; refine gpush Try.elemI _ rfl _ _ rfl w.heap.size _ ys rfl (hown.alloc _) ⟨wr.heap.size, 0, none⟩ 1 1 [Value.int .i64 z] rfl rfl (cell_one_new _ _ _) (by simp [Value.oneCell']) (by rw [HL.out]; omega) (by rw [HL.out]; omega) (by simp; omega) ?_; intro v' w1 hown' _hgrow hbel _hnil)
      go_roundw
      case rel => exact ⟨k + 1, by omega, by go_num, by rw [HT.out]; exact hown', hbel _ (hbk.alloc hsz _)⟩
      case measure => simp [intOf]; omega
    · have HT : Hid (xs.take k = xs) := List.take_of_length_le (by rw [HX.out]; omega)
      go_wp2
      go_ret
      exact ⟨_, rfl, by rw [HT.out] at hown; exact hown, hbk⟩

set_option maxHeartbeats 400000 in
theorem copyInts_zero (p : Option Addr) (c : Nat) (w : World) :
    Calls Try.prog 40 #[.slice p 0 c] w fun e w' => e = .returned (.slice none 0 0) ∧ w' = w := by
  go_enter Try.func40, Try.ntmps40
  go_wp2
  refine wp_loop_rounds 1 ?_
  rw [rounds_succ]; go_wp2
  go_ret
  exact ⟨rfl, rfl⟩

theorem copyInts_any (p : Option Addr) (n c : Nat) (xs : List Int) (w : World) (hx : xs.length = n) (hn : n * 8 ≤ 140737488355328) (hr : GRow w p (nums xs)) :
    Calls Try.prog 40 #[.slice p n c] w fun e w' => ∃ v, e = .returned v ∧ GOwnV 3 w' w.heap.size v (nums xs) ∧ Below w.heap.size w w' := by
  rcases Nat.eq_zero_or_pos n with h0 | h0
  · subst h0
    obtain rfl : xs = [] := List.eq_nil_of_length_eq_zero hx
    exact (copyInts_zero p c w).mono fun e w' h => ⟨_, h.1, GOwnV.nil _ _ _, by rw [h.2]; exact below_self w⟩
  · obtain ⟨b, o, rfl, hc⟩ := hr (by simp; omega)
    exact copyInts_at b o n c xs w hx hn (fun i hi => hc i (by simp; omega))

end Go.Proofs.Ytkpieeldoielgaa
