/- Texts put together: RefNumber. -/
import Derived.Test.YtkianldkbfjehaaGreatDoorKc

/- What switchyardref03.Number answers, for every text. -/
namespace Go.Proofs.YtkianldkbfjehaaGreatDoor
open Go.RowKit

/-- the number that j digits from f on say -/
def valU (s : ByteArray) (f : Nat) : Nat → Int
  | 0 => 0
  | j + 1 => 10 * valU s f j + (byteAt s (f + j) - 48)
def Digs (s : ByteArray) (f k : Nat) : Prop := ∀ j, f ≤ j → j < k → 48 ≤ byteAt s j ∧ byteAt s j ≤ 57
/-- f: where the digits begin -/
def Sign (s : ByteArray) (f : Nat) : Prop := (f = 1 ∧ 0 < s.size ∧ byteAt s 0 = 45) ∨ (f = 0 ∧ ¬ (0 < s.size ∧ byteAt s 0 = 45))
def NumAt (s : ByteArray) (f : Nat) (v : Int) : Prop := f < s.size ∧ ¬ (byteAt s f = 48 ∧ 1 < s.size) ∧ Digs s f s.size ∧
  ((f = 1 ∧ v = - valU s f (s.size - f) ∧ valU s f (s.size - f) ≤ 9223372036854775808) ∨ (f = 0 ∧ v = valU s f (s.size - f) ∧ valU s f (s.size - f) ≤ 9223372036854775807))

theorem sign_some (s : ByteArray) : ∃ f, Sign s f := by
  by_cases h : 0 < s.size ∧ byteAt s 0 = 45
  · exact ⟨1, .inl ⟨rfl, h.1, h.2⟩⟩
  · exact ⟨0, .inr ⟨rfl, h⟩⟩
theorem valU_nonneg (s : ByteArray) (f : Nat) : ∀ j, Digs s f (f + j) → 0 ≤ valU s f j
  | 0, _ => by simp [valU]
  | j + 1, h => by
    have ih := valU_nonneg s f j fun i h1 h2 => h i h1 (by omega)
    have := h (f + j) (by omega) (by omega)
    rw [valU]; omega
theorem valU_mono (s : ByteArray) (f i : Nat) : ∀ d, Digs s f (f + (i + d)) → valU s f i ≤ valU s f (i + d)
  | 0, _ => by simp
  | d + 1, h => by
    have ih := valU_mono s f i d fun j h1 h2 => h j h1 (by omega)
    have hp := valU_nonneg s f (i + d) fun j h1 h2 => h j h1 (by omega)
    have := h (f + (i + d)) (by omega) (by omega)
    rw [show i + (d + 1) = (i + d) + 1 by omega, valU]; omega
theorem quo_ten (x : Int) (h0 : 0 ≤ x) (h1 : x ≤ 9) : Int.tdiv (-9223372036854775808 + x) 10 = -((9223372036854775808 - x) / 10) := by
  rw [show -9223372036854775808 + x = -(9223372036854775808 - x) by omega, Int.neg_tdiv, Int.tdiv_eq_ediv_of_nonneg (by omega)]

theorem ret_pair {a b : Int} {x : Value} (h : a = b) : Ending.returned (.tuple #[.int .i64 a, x]) = .returned (.tuple #[.int .i64 b, x]) := by rw [h]
theorem int_eq {a b : Int} (h : a = b) : Value.int .i64 a = Value.int .i64 b := by rw [h]

set_option maxHeartbeats 2000000 in
theorem refNumber_neg_yes (s : ByteArray) (v : Int) (w : World) (hs : s.size ≤ 9223372036854775807) (h1 : 1 < s.size) (hm : byteAt s 0 = 45) (h48 : ¬ byteAt s 1 = 48) (hd : Digs s 1 s.size)
    (hv : v = - valU s 1 (s.size - 1)) (hb : valU s 1 (s.size - 1) ≤ 9223372036854775808) :
    Calls Tryz.prog 121 #[.string s] w fun e w' => e = .returned (.tuple #[.int .i64 v, .bool true]) ∧ w' = w := by
  have HD : Hid (Digs s 1 s.size) := hd
  have HV : Hid (v = - valU s 1 (s.size - 1)) := hv
  have HB : Hid (valU s 1 (s.size - 1) ≤ 9223372036854775808) := hb
  clear hd hv hb
  have e0 := byteAt_eq s 0 (by omega)
  have e1 := byteAt_eq s 1 h1
  rw [hm] at e0
  clear hm
  generalize hz1 : byteAt s 1 = z1 at *
  have hz : (z1 == 48) = false := by simpa using h48
  clear hz1
  have hn1 : ((1 : Int) == (s.size : Int)) = false := by simp; omega
  go_enter Tryz.func121, Tryz.ntmps121
  go_wp2
  go_loop [5, 6] (fun t i => ∃ k : Nat, 1 ≤ k ∧ k ≤ s.size ∧ i = .int .i64 k ∧ t = .int .i64 (- valU s 1 (k - 1))) (fun _ i => s.size - (intOf i).toNat)
  case atStart => exact ⟨1, Nat.le_refl _, by omega, rfl, rfl⟩
  case round =>
    obtain ⟨k, hk1, hk, rfl, rfl⟩ := hrel
    by_cases hlt : k < s.size
    · have hb := byteAt_eq s k hlt
      have hdg := HD.out k hk1 hlt
      have hnn := valU_nonneg s 1 (k - 1) fun j a b => HD.out j a (by omega)
      have hst : valU s 1 (k - 1 + 1) = 10 * valU s 1 (k - 1) + (byteAt s (1 + (k - 1)) - 48) := rfl
      rw [show 1 + (k - 1) = k by omega] at hst
      have HN : Hid (valU s 1 (k + 1 - 1) = 10 * valU s 1 (k - 1) + (byteAt s k - 48)) := by rw [← hst]; congr 1; omega
      have hmo := valU_mono s 1 (k - 1 + 1) (s.size - 1 - (k - 1 + 1)) fun j a b => HD.out j a (by omega)
      rw [show k - 1 + 1 + (s.size - 1 - (k - 1 + 1)) = s.size - 1 by omega] at hmo
      have hle := Int.le_trans hmo HB.out
      rw [hst] at hle
      clear hst hmo
      generalize valU s 1 (k - 1) = V at *
      generalize byteAt s k = z at *
      have hq := quo_ten (z - 48) (by omega) (by omega)
      have hV : V ≤ 922337203685477580 := by omega
      go_wp2
      go_round
      case rel => exact ⟨k + 1, by omega, by omega, by go_num, int_eq (by rw [HN.out]; omega)⟩
      case measure => simp [intOf]; omega
    · have hks : k = s.size := by omega
      subst hks
      go_wp2
      go_ret2
      exact ⟨ret_pair (by rw [HV.out]), rfl⟩

set_option maxHeartbeats 2000000 in
theorem refNumber_pos_yes (s : ByteArray) (v : Int) (w : World) (hs : s.size ≤ 9223372036854775807) (h1 : 0 < s.size) (hm : ¬ byteAt s 0 = 45) (h48 : ¬ (byteAt s 0 = 48 ∧ 1 < s.size)) (hd : Digs s 0 s.size)
    (hv : v = valU s 0 (s.size - 0)) (hb : valU s 0 (s.size - 0) ≤ 9223372036854775807) :
    Calls Tryz.prog 121 #[.string s] w fun e w' => e = .returned (.tuple #[.int .i64 v, .bool true]) ∧ w' = w := by
  have HD : Hid (Digs s 0 s.size) := hd
  have HV : Hid (v = valU s 0 (s.size - 0)) := hv
  have HB : Hid (valU s 0 (s.size - 0) ≤ 9223372036854775807) := hb
  clear hd hv hb
  have e0 := byteAt_eq s 0 (by omega)
  generalize hz1 : byteAt s 0 = z0 at *
  have hz5 : (z0 == 45) = false := by simpa using hm
  clear hz1 hm
  have hn1 : ((0 : Int) == (s.size : Int)) = false := by simp; omega
  by_cases h8 : z0 = 48
  · have h9 : ¬ (1 : Int) < (s.size : Int) := fun e => h48 ⟨h8, by omega⟩
    have hz8 : (z0 == 48) = true := by simpa using h8
    clear h8 h48
    go_enter Tryz.func121, Tryz.ntmps121
    go_wp2
    go_loop [5, 6] (fun t i => ∃ k : Nat, 0 ≤ k ∧ k ≤ s.size ∧ i = .int .i64 k ∧ t = .int .i64 (- valU s 0 (k - 0))) (fun _ i => s.size - (intOf i).toNat)
    case atStart => exact ⟨0, Nat.le_refl _, by omega, rfl, rfl⟩
    case round =>
      obtain ⟨k, hk1, hk, rfl, rfl⟩ := hrel
      by_cases hlt : k < s.size
      · have hb := byteAt_eq s k hlt
        have hdg := HD.out k hk1 hlt
        have hnn := valU_nonneg s 0 (k - 0) fun j a b => HD.out j a (by omega)
        have hst : valU s 0 (k - 0 + 1) = 10 * valU s 0 (k - 0) + (byteAt s (0 + (k - 0)) - 48) := rfl
        rw [show 0 + (k - 0) = k by omega] at hst
        have HN : Hid (valU s 0 (k + 1 - 0) = 10 * valU s 0 (k - 0) + (byteAt s k - 48)) := by rw [← hst]; exact rfl
        have hmo := valU_mono s 0 (k - 0 + 1) (s.size - 0 - (k - 0 + 1)) fun j a b => HD.out j a (by omega)
        rw [show k - 0 + 1 + (s.size - 0 - (k - 0 + 1)) = s.size - 0 by omega] at hmo
        have hle := Int.le_trans hmo HB.out
        rw [hst] at hle
        clear hst hmo
        generalize valU s 0 (k - 0) = V at *
        generalize byteAt s k = z at *
        have hq := quo_ten (z - 48) (by omega) (by omega)
        have hV : V ≤ 922337203685477580 := by omega
        go_wp2
        go_round
        case rel => exact ⟨k + 1, by omega, by omega, by go_num, int_eq (by rw [HN.out]; omega)⟩
        case measure => simp [intOf]; omega
      · have hks : k = s.size := by omega
        subst hks
        have hnn := valU_nonneg s 0 (s.size - 0) fun j a b => HD.out j a (by omega)
        have hle := HB.out
        have HV2 : Hid (v = valU s 0 (s.size - 0)) := HV.out
        generalize valU s 0 (s.size - 0) = V at *
        have hne : ((-V) == -9223372036854775808) = false := by simp; omega
        go_wp2
        go_ret2
        exact ⟨ret_pair (by rw [HV2.out]), rfl⟩
  · have hz8 : (z0 == 48) = false := by simpa using h8
    clear h8 h48
    go_enter Tryz.func121, Tryz.ntmps121
    go_wp2
    go_loop [5, 6] (fun t i => ∃ k : Nat, 0 ≤ k ∧ k ≤ s.size ∧ i = .int .i64 k ∧ t = .int .i64 (- valU s 0 (k - 0))) (fun _ i => s.size - (intOf i).toNat)
    case atStart => exact ⟨0, Nat.le_refl _, by omega, rfl, rfl⟩
    case round =>
      obtain ⟨k, hk1, hk, rfl, rfl⟩ := hrel
      by_cases hlt : k < s.size
      · have hb := byteAt_eq s k hlt
        have hdg := HD.out k hk1 hlt
        have hnn := valU_nonneg s 0 (k - 0) fun j a b => HD.out j a (by omega)
        have hst : valU s 0 (k - 0 + 1) = 10 * valU s 0 (k - 0) + (byteAt s (0 + (k - 0)) - 48) := rfl
        rw [show 0 + (k - 0) = k by omega] at hst
        have HN : Hid (valU s 0 (k + 1 - 0) = 10 * valU s 0 (k - 0) + (byteAt s k - 48)) := by rw [← hst]; exact rfl
        have hmo := valU_mono s 0 (k - 0 + 1) (s.size - 0 - (k - 0 + 1)) fun j a b => HD.out j a (by omega)
        rw [show k - 0 + 1 + (s.size - 0 - (k - 0 + 1)) = s.size - 0 by omega] at hmo
        have hle := Int.le_trans hmo HB.out
        rw [hst] at hle
        clear hst hmo
        generalize valU s 0 (k - 0) = V at *
        generalize byteAt s k = z at *
        have hq := quo_ten (z - 48) (by omega) (by omega)
        have hV : V ≤ 922337203685477580 := by omega
        go_wp2
        go_round
        case rel => exact ⟨k + 1, by omega, by omega, by go_num, int_eq (by rw [HN.out]; omega)⟩
        case measure => simp [intOf]; omega
      · have hks : k = s.size := by omega
        subst hks
        have hnn := valU_nonneg s 0 (s.size - 0) fun j a b => HD.out j a (by omega)
        have hle := HB.out
        have HV2 : Hid (v = valU s 0 (s.size - 0)) := HV.out
        generalize valU s 0 (s.size - 0) = V at *
        have hne : ((-V) == -9223372036854775808) = false := by simp; omega
        go_wp2
        go_ret2
        exact ⟨ret_pair (by rw [HV2.out]), rfl⟩

set_option maxHeartbeats 2000000 in
theorem refNumber_no (s : ByteArray) (w : World) (hs : s.size ≤ 9223372036854775807) (hno : ∀ f v, Sign s f → ¬ NumAt s f v) :
    Calls Tryz.prog 121 #[.string s] w fun e w' => e = .returned (.tuple #[.int .i64 0, .bool false]) ∧ w' = w := by
  have HNO : Hid (∀ f v, Sign s f → ¬ NumAt s f v) := hno
  clear hno
  obtain ⟨f, hf⟩ := sign_some s
  have HSG0 := hf
  rcases hf with ⟨rfl, h0, hm⟩ | ⟨rfl, hm⟩
  · have HSG : Hid (Sign s 1) := HSG0
    clear HSG0
    have e0 := byteAt_eq s 0 h0
    rw [hm] at e0
    by_cases h1 : 1 < s.size
    · have e1 := byteAt_eq s 1 h1
      have hn1 : ((1 : Int) == (s.size : Int)) = false := by simp; omega
      by_cases h48 : byteAt s 1 = 48
      · rw [h48] at e1
        clear hm
        go_enter Tryz.func121, Tryz.ntmps121
        go_wp2
        go_ret2
        exact ⟨rfl, rfl⟩
      · have h48' : ¬ (byteAt s 1 = 48 ∧ 1 < s.size) := fun e => h48 e.1
        have hz : (byteAt s 1 == 48) = false := by simpa using h48
        clear hm
        go_enter Tryz.func121, Tryz.ntmps121
        go_wp2
        go_loop [5, 6] (fun t i => ∃ k : Nat, 1 ≤ k ∧ k ≤ s.size ∧ i = .int .i64 k ∧ t = .int .i64 (- valU s 1 (k - 1)) ∧ Digs s 1 k ∧ valU s 1 (k - 1) ≤ 9223372036854775808) (fun _ i => s.size - (intOf i).toNat)
        case atStart => exact ⟨1, Nat.le_refl _, by omega, rfl, rfl, fun j a b => by omega, by simp [valU]⟩
        case round =>
          obtain ⟨k, hk1, hk, rfl, rfl, hdk, hvk⟩ := hrel
          have HD : Hid (Digs s 1 k) := hdk
          clear hdk
          by_cases hlt : k < s.size
          · have hb := byteAt_eq s k hlt
            have hin := byteAt_in s k
            have hnn := valU_nonneg s 1 (k - 1) fun j a b => HD.out j a (by omega)
            have hst : valU s 1 (k - 1 + 1) = 10 * valU s 1 (k - 1) + (byteAt s (1 + (k - 1)) - 48) := rfl
            rw [show 1 + (k - 1) = k by omega] at hst
            have HN : Hid (valU s 1 (k + 1 - 1) = 10 * valU s 1 (k - 1) + (byteAt s k - 48)) := by rw [← hst]; congr 1; omega
            clear hst
            by_cases hdg : 48 ≤ byteAt s k ∧ byteAt s k ≤ 57
            · have HD2 : Hid (Digs s 1 (k + 1)) := fun j a b => by
                by_cases e : j = k
                · subst e; exact hdg
                · exact HD.out j a (by omega)
              generalize valU s 1 (k - 1) = V at *
              generalize byteAt s k = z at *
              have hq := quo_ten (z - 48) (by omega) (by omega)
              by_cases hov : 10 * V + (z - 48) ≤ 9223372036854775808
              · have hV : V ≤ 922337203685477580 := by omega
                go_wp2
                go_round
                case rel => exact ⟨k + 1, by omega, by omega, by go_num, int_eq (by rw [HN.out]; omega), HD2.out, by rw [HN.out]; exact hov⟩
                case measure => simp [intOf]; omega
              · go_wp2
                go_ret2
                exact ⟨rfl, rfl⟩
            · generalize valU s 1 (k - 1) = V at *
              generalize byteAt s k = z at *
              go_wp2
              all_goals
                go_ret2
                exact ⟨rfl, rfl⟩
          · have hks : k = s.size := by omega
            subst hks
            exact absurd ⟨h1, h48', HD.out, .inl ⟨rfl, rfl, hvk⟩⟩ (HNO.out 1 _ HSG.out)
    · have h2 : s.size = 1 := by omega
      have hn1 : ((1 : Int) == (s.size : Int)) = true := by simp; omega
      clear hm
      go_enter Tryz.func121, Tryz.ntmps121
      go_wp2
      go_ret2
      exact ⟨rfl, rfl⟩
  · have HSG : Hid (Sign s 0) := HSG0
    clear HSG0
    by_cases h1 : 0 < s.size
    · have e0 := byteAt_eq s 0 h1
      have hz5 : (byteAt s 0 == 45) = false := by simp; exact fun e => hm ⟨h1, e⟩
      have hn1 : ((0 : Int) == (s.size : Int)) = false := by simp; omega
      clear hm
      by_cases h8 : byteAt s 0 = 48
      · have hz8 : (byteAt s 0 == 48) = true := by simpa using h8
        by_cases h9 : (1 : Int) < (s.size : Int)
        · clear h8
          generalize byteAt s 0 = z0 at *
          go_enter Tryz.func121, Tryz.ntmps121
          go_wp2
          go_ret2
          exact ⟨rfl, rfl⟩
        · have h48' : ¬ (byteAt s 0 = 48 ∧ 1 < s.size) := fun e => h9 (by omega)
          clear h8
          go_enter Tryz.func121, Tryz.ntmps121
          go_wp2
          go_loop [5, 6] (fun t i => ∃ k : Nat, 0 ≤ k ∧ k ≤ s.size ∧ i = .int .i64 k ∧ t = .int .i64 (- valU s 0 (k - 0)) ∧ Digs s 0 k ∧ valU s 0 (k - 0) ≤ 9223372036854775808) (fun _ i => s.size - (intOf i).toNat)
          case atStart => exact ⟨0, Nat.le_refl _, by omega, rfl, rfl, fun j a b => by omega, by simp [valU]⟩
          case round =>
            obtain ⟨k, hk1, hk, rfl, rfl, hdk, hvk⟩ := hrel
            have HD : Hid (Digs s 0 k) := hdk
            clear hdk
            by_cases hlt : k < s.size
            · have hb := byteAt_eq s k hlt
              have hin := byteAt_in s k
              have hnn := valU_nonneg s 0 (k - 0) fun j a b => HD.out j a (by omega)
              have hst : valU s 0 (k - 0 + 1) = 10 * valU s 0 (k - 0) + (byteAt s (0 + (k - 0)) - 48) := rfl
              rw [show 0 + (k - 0) = k by omega] at hst
              have HN : Hid (valU s 0 (k + 1 - 0) = 10 * valU s 0 (k - 0) + (byteAt s k - 48)) := by rw [← hst]; exact rfl
              clear hst
              by_cases hdg : 48 ≤ byteAt s k ∧ byteAt s k ≤ 57
              · have HD2 : Hid (Digs s 0 (k + 1)) := fun j a b => by
                  by_cases e : j = k
                  · subst e; exact hdg
                  · exact HD.out j a (by omega)
                generalize valU s 0 (k - 0) = V at *
                generalize byteAt s k = z at *
                have hq := quo_ten (z - 48) (by omega) (by omega)
                by_cases hov : 10 * V + (z - 48) ≤ 9223372036854775808
                · have hV : V ≤ 922337203685477580 := by omega
                  go_wp2
                  go_round
                  case rel => exact ⟨k + 1, by omega, by omega, by go_num, int_eq (by rw [HN.out]; omega), HD2.out, by rw [HN.out]; exact hov⟩
                  case measure => simp [intOf]; omega
                · go_wp2
                  go_ret2
                  exact ⟨rfl, rfl⟩
              · generalize valU s 0 (k - 0) = V at *
                generalize byteAt s k = z at *
                go_wp2
                all_goals
                  go_ret2
                  exact ⟨rfl, rfl⟩
            · have hks : k = s.size := by omega
              subst hks
              by_cases hlast : valU s 0 (s.size - 0) ≤ 9223372036854775807
              · exact absurd ⟨h1, h48', HD.out, .inr ⟨rfl, rfl, hlast⟩⟩ (HNO.out 0 _ HSG.out)
              · have hV : valU s 0 (s.size - 0) = 9223372036854775808 := by omega
                rw [hV]
                go_wp2
                go_ret2
                exact ⟨rfl, rfl⟩
      · have hz8 : (byteAt s 0 == 48) = false := by simpa using h8
        have h48' : ¬ (byteAt s 0 = 48 ∧ 1 < s.size) := fun e => h8 e.1
        clear h8
        go_enter Tryz.func121, Tryz.ntmps121
        go_wp2
        go_loop [5, 6] (fun t i => ∃ k : Nat, 0 ≤ k ∧ k ≤ s.size ∧ i = .int .i64 k ∧ t = .int .i64 (- valU s 0 (k - 0)) ∧ Digs s 0 k ∧ valU s 0 (k - 0) ≤ 9223372036854775808) (fun _ i => s.size - (intOf i).toNat)
        case atStart => exact ⟨0, Nat.le_refl _, by omega, rfl, rfl, fun j a b => by omega, by simp [valU]⟩
        case round =>
          obtain ⟨k, hk1, hk, rfl, rfl, hdk, hvk⟩ := hrel
          have HD : Hid (Digs s 0 k) := hdk
          clear hdk
          by_cases hlt : k < s.size
          · have hb := byteAt_eq s k hlt
            have hin := byteAt_in s k
            have hnn := valU_nonneg s 0 (k - 0) fun j a b => HD.out j a (by omega)
            have hst : valU s 0 (k - 0 + 1) = 10 * valU s 0 (k - 0) + (byteAt s (0 + (k - 0)) - 48) := rfl
            rw [show 0 + (k - 0) = k by omega] at hst
            have HN : Hid (valU s 0 (k + 1 - 0) = 10 * valU s 0 (k - 0) + (byteAt s k - 48)) := by rw [← hst]; exact rfl
            clear hst
            by_cases hdg : 48 ≤ byteAt s k ∧ byteAt s k ≤ 57
            · have HD2 : Hid (Digs s 0 (k + 1)) := fun j a b => by
                by_cases e : j = k
                · subst e; exact hdg
                · exact HD.out j a (by omega)
              generalize valU s 0 (k - 0) = V at *
              generalize byteAt s k = z at *
              have hq := quo_ten (z - 48) (by omega) (by omega)
              by_cases hov : 10 * V + (z - 48) ≤ 9223372036854775808
              · have hV : V ≤ 922337203685477580 := by omega
                go_wp2
                go_round
                case rel => exact ⟨k + 1, by omega, by omega, by go_num, int_eq (by rw [HN.out]; omega), HD2.out, by rw [HN.out]; exact hov⟩
                case measure => simp [intOf]; omega
              · go_wp2
                go_ret2
                exact ⟨rfl, rfl⟩
            · generalize valU s 0 (k - 0) = V at *
              generalize byteAt s k = z at *
              go_wp2
              all_goals
                go_ret2
                exact ⟨rfl, rfl⟩
          · have hks : k = s.size := by omega
            subst hks
            by_cases hlast : valU s 0 (s.size - 0) ≤ 9223372036854775807
            · exact absurd ⟨h1, h48', HD.out, .inr ⟨rfl, rfl, hlast⟩⟩ (HNO.out 0 _ HSG.out)
            · have hV : valU s 0 (s.size - 0) = 9223372036854775808 := by omega
              rw [hV]
              go_wp2
              go_ret2
              exact ⟨rfl, rfl⟩
    · have h2 : s.size = 0 := by omega
      have hn1 : ((0 : Int) == (s.size : Int)) = true := by simp; omega
      clear hm
      go_enter Tryz.func121, Tryz.ntmps121
      go_wp2
      go_ret2
      exact ⟨rfl, rfl⟩

end Go.Proofs.YtkianldkbfjehaaGreatDoor
