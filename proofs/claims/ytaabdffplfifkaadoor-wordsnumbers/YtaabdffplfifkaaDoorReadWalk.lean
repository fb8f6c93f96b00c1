/- What the law WordsRead answers: true, for every number and every text. -/
import Derived.Test.YtaabdffplfifkaaDoorDigitsC
namespace Go.Proofs.YtaabdffplfifkaaDoor
open Go.RowKit

theorem numL_bounds (l : List UInt8) (v : Int) (h : numL l = some v) : -9223372036854775808 ≤ v ∧ v ≤ 9223372036854775807 := by
  unfold numL at h
  split at h
  · split at h
    · split at h
      · injection h with h; omega
      · cases h
    · cases h
  · split at h
    · split at h
      · injection h with h; omega
      · cases h
    · cases h

theorem nameL_parts (l : List UInt8) : nameL l = true ↔ 0 < l.length ∧ l.length ≤ 16 ∧ ∀ k, k < l.length → okB k (l.getD k 0) = true := by
  unfold nameL
  simp only [Bool.and_eq_true, decide_eq_true_eq, List.all_eq_true, List.mem_range]
  exact ⟨fun h => ⟨h.1.1, h.1.2, h.2⟩, fun h => ⟨⟨h.1, h.2.1⟩, h.2.2⟩⟩
theorem okB_succ (k : Nat) (c : UInt8) (h : okB k c = true) : okB (k + 1) c = true := by
  rw [okB_iff] at *; unfold okAt at *; omega
theorem okB_behind (k : Nat) (c : UInt8) (hk : 0 < k) : okB k c = okB 1 c := by
  rw [Bool.eq_iff_iff, okB_iff, okB_iff]; unfold okAt; omega
theorem name_snoc (l : List UInt8) (c : UInt8) (h : nameL l = true) (hl : l.length < 16) : nameL (l ++ [c]) = okB 1 c := by
  obtain ⟨h1, h2, h3⟩ := (nameL_parts l).1 h
  rw [← okB_behind l.length c h1, Bool.eq_iff_iff, nameL_parts]
  have hlast : (l ++ [c]).getD l.length 0 = c := by simp [List.getD]
  constructor
  · rintro ⟨_, _, e⟩
    have := e l.length (by simp)
    rwa [hlast] at this
  · intro e
    refine ⟨by simp, by simp; omega, fun k hk => ?_⟩
    by_cases hkl : k = l.length
    · subst hkl; rw [hlast]; exact e
    · have hk' : k < l.length := by simp at hk; omega
      have := h3 k hk'
      rw [List.getD_eq_getElem?_getD, List.getElem?_append_left hk', ← List.getD_eq_getElem?_getD]
      exact this
theorem name_cons (l : List UInt8) (c : UInt8) (h : nameL l = true) (hl : l.length < 16) (hc : okB 0 c = true) : nameL (c :: l) = true := by
  obtain ⟨h1, h2, h3⟩ := (nameL_parts l).1 h
  rw [nameL_parts]
  refine ⟨by simp, by simp; omega, fun k hk => ?_⟩
  cases k with
  | zero => exact hc
  | succ k => exact okB_succ k _ (h3 k (by simp at hk; omega))

theorem list_snoc (s : ByteArray) (c : UInt8) : (s ++ ⟨#[c]⟩).data.toList = s.data.toList ++ [c] := by
  simp
theorem list_cons (s : ByteArray) (c : UInt8) : ((⟨#[c]⟩ : ByteArray) ++ s).data.toList = c :: s.data.toList := by
  simp

theorem nameAt (s : ByteArray) (b : Bool) (h : nameL s.data.toList = b) (w : World) :
    Calls Tryd.prog 11 #[.string s] w fun e w' => e = .returned (.bool b) ∧ Below w.heap.size w w' := by
  subst h; exact nameC s w

set_option maxRecDepth 100000 in
set_option maxHeartbeats 4000000 in
theorem readWalk (n : Int) (s : ByteArray) (w : World) (h1 : -9223372036854775808 ≤ n) (h2 : n ≤ 9223372036854775807) (hs : s.size ≤ 140737488355328) (hV : Vars w) :
    Calls Tryd.prog 7 #[.int .i64 n, .string s] w fun e w' => e = .returned (.bool true) ∧ Below w.heap.size w w' := by
  have hdl : (bytesOf (digitsL n)).size ≤ 30 := by
    rw [bytesOf_size]; unfold digitsL
    have := dig_length 19 n.natAbs (by rw [show (10 : Nat) ^ (19 + 1) = 100000000000000000000 by decide]; omega)
    split
    · simp; omega
    · omega
  have hD := fun w => digits_any n w h1 h2
  have hN := fun w => number_some (bytesOf (digitsL n)) n (by rw [bytesOf_list]; exact num_digits n h1 h2) (by omega) w
  have hZ := fun w (hv : Vars w) => number_no (⟨#[48]⟩ ++ bytesOf (digitsL n)) (numL_none _ (by rw [list_cons, bytesOf_list]; exact num_nought n)) (by rw [ByteArray.size_append, show (⟨#[48]⟩ : ByteArray).size = 1 from rfl]; omega) w hv
  have hM := fun w => nameAt (bytesOf (digitsL n)) false (by rw [bytesOf_list]; exact name_digits n) w
  have hcat : ¬ (9223372036854775807 < (⟨#[48]⟩ : ByteArray).size + (bytesOf (digitsL n)).size) := by rw [show (⟨#[48]⟩ : ByteArray).size = 1 from rfl]; omega
  have HV : Hid (Vars w) := hV
  clear hV
  generalize bytesOf (digitsL n) = t at *
  go_enter Tryd.func7, Tryd.ntmps7
  go_wp2_with fail
  refine (hD _).mono ?_
  rintro e w1 ⟨rfl, hb1⟩
  go_wp2_with fail
  refine (hN _).mono ?_
  rintro e w2 ⟨rfl, hb2⟩
  have hbw2 := below_step hb1 hb2
  clear hb1 hb2
  go_wp2_with fail
  refine (hZ _ (HV.out.below hbw2)).mono ?_
  rintro e w3 ⟨rfl, hb3⟩
  have hbw3 := below_step hbw2 hb3
  clear hbw2 hb3
  have hnn : (n != n) = false := by simp
  go_wp2_with fail
  refine (hM _).mono ?_
  rintro e w4 ⟨rfl, hb4⟩
  have hbw4 := below_step hbw3 hb4
  clear hbw3 hb4 hD hN hZ hM
  go_upto_region 6 with fail
  go_cut [68] from 39 (fun v wx => v = .bool false ∧ Below w.heap.size w wx)
  case first =>
    by_cases hN : nameL s.data.toList = true
    · by_cases hlen : s.size < 16
      · have hl : s.data.toList.length < 16 := by rw [← Lib.size_eq]; exact hlen
        have hA := fun w => nameAt (s ++ ⟨#[97]⟩) true (by rw [list_snoc, name_snoc _ _ hN hl]; decide) w
        have hB := fun w => nameAt (s ++ ⟨#[48]⟩) true (by rw [list_snoc, name_snoc _ _ hN hl]; decide) w
        have hC := fun w => nameAt (s ++ ⟨#[45]⟩) false (by rw [list_snoc, name_snoc _ _ hN hl]; decide) w
        have hE := fun w => nameAt (⟨#[95]⟩ ++ s) true (by rw [list_cons, name_cons _ _ hN hl (by decide)]) w
        have hF := fun w => nameAt s true hN w
        have c1 : ¬ (9223372036854775807 < s.size + (⟨#[97]⟩ : ByteArray).size) := by rw [show (⟨#[97]⟩ : ByteArray).size = 1 from rfl]; omega
        have c2 : ¬ (9223372036854775807 < s.size + (⟨#[48]⟩ : ByteArray).size) := by rw [show (⟨#[48]⟩ : ByteArray).size = 1 from rfl]; omega
        have c3 : ¬ (9223372036854775807 < s.size + (⟨#[45]⟩ : ByteArray).size) := by rw [show (⟨#[45]⟩ : ByteArray).size = 1 from rfl]; omega
        have c4 : ¬ (9223372036854775807 < (⟨#[95]⟩ : ByteArray).size + s.size) := by rw [show (⟨#[95]⟩ : ByteArray).size = 1 from rfl]; omega
        clear hN hl
        go_wp2_with fail
        refine (hF _).mono ?_
        rintro e w5 ⟨rfl, hb5⟩
        have hbw5 := below_step hbw4 hb5
        clear hb5
        go_wp2_with fail
        refine (hA _).mono ?_
        rintro e w6 ⟨rfl, hb6⟩
        have hbw6 := below_step hbw5 hb6
        clear hbw5 hb6
        go_wp2_with fail
        refine (hB _).mono ?_
        rintro e w7 ⟨rfl, hb7⟩
        have hbw7 := below_step hbw6 hb7
        clear hbw6 hb7
        go_wp2_with fail
        refine (hC _).mono ?_
        rintro e w8 ⟨rfl, hb8⟩
        have hbw8 := below_step hbw7 hb8
        clear hbw7 hb8
        go_wp2_with fail
        refine (hE _).mono ?_
        rintro e w9 ⟨rfl, hb9⟩
        have hbw9 := below_step hbw8 hb9
        clear hbw8 hb9
        go_wp2_with fail
        go_meet
        case rel => exact ⟨rfl, hbw9⟩
      · have hF := fun w => nameAt s true hN w
        have hlt : ¬ ((s.size : Int) < 16) := by omega
        clear hN
        go_wp2_with fail
        refine (hF _).mono ?_
        rintro e w5 ⟨rfl, hb5⟩
        have hbw5 := below_step hbw4 hb5
        clear hb5
        go_wp2_with fail
        go_meet
        case rel => exact ⟨rfl, hbw5⟩
    · have hF := fun w => nameAt s false (by simpa using hN) w
      clear hN
      go_wp2_with fail
      refine (hF _).mono ?_
      rintro e w5 ⟨rfl, hb5⟩
      have hbw5 := below_step hbw4 hb5
      clear hb5
      go_wp2_with fail
      go_meet
      case rel => exact ⟨rfl, hbw5⟩
  case rest =>
    obtain ⟨rfl, hbw5⟩ := hcut
    clear hbw4
    cases hL : numL s.data.toList with
    | none =>
      have hK := fun w (hv : Vars w) => number_no s (numL_none s hL) (by omega) w hv
      clear hL
      go_wp2_with fail
      refine (hK _ (HV.out.below hbw5)).mono ?_
      rintro e w6 ⟨rfl, hb6⟩
      have hbw6 := below_step hbw5 hb6
      clear hb6 hbw5
      go_wp2_with fail
      refine (awake_any _).mono ?_
      rintro e w7 ⟨rfl, hb7⟩
      go_wp2_with fail
      go_ret
      exact ⟨rfl, below_step hbw6 hb7⟩
    | some v =>
      have hK := fun w => number_some s v hL (by omega) w
      obtain ⟨hv1, hv2⟩ := numL_bounds _ _ hL
      have hD := fun w => digits_any v w hv1 hv2
      have hsd : bytesOf (digitsL v) = s := by rw [digits_back _ _ hL, bytesOf_self]
      rw [hsd] at hD
      have hss : (s.toList == s.toList) = true := by simp
      clear hL hsd
      go_wp2_with fail
      refine (hK _).mono ?_
      rintro e w6 ⟨rfl, hb6⟩
      have hbw6 := below_step hbw5 hb6
      clear hb6 hbw5
      go_wp2_with fail
      refine (hD _).mono ?_
      rintro e w7 ⟨rfl, hb7⟩
      have hbw7 := below_step hbw6 hb7
      clear hb7 hbw6
      go_wp2_with fail
      refine (awake_any _).mono ?_
      rintro e w8 ⟨rfl, hb8⟩
      go_wp2_with fail
      go_ret
      exact ⟨rfl, below_step hbw7 hb8⟩

end Go.Proofs.YtaabdffplfifkaaDoor
