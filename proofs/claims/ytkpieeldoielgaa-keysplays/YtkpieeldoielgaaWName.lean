/- What words.divides, opens, digit and Name answer, for every rune, every text. -/
import Derived.Test.YtkpieeldoielgaaRefName
import Derived.Laws.RangeString
import Derived.Laws.RangeAny
namespace Go.Proofs.Ytkpieeldoielgaa
open Go.RowKit

def opensB (r : Int) : Bool := decide ((97 ≤ r ∧ r ≤ 122) ∨ (65 ≤ r ∧ r ≤ 90) ∨ r = 95)
def digitB (r : Int) : Bool := decide (48 ≤ r ∧ r ≤ 57)

set_option maxHeartbeats 400000 in
theorem digit_any (r : Int) (w : World) :
    Calls Try.prog 95 #[.int .i32 r] w fun e w' => e = .returned (.bool (digitB r)) ∧ w' = w := by
  go_enter Try.func95, Try.ntmps95
  go_wp2
  all_goals
    go_ret
    refine ⟨rname_ret ?_, rfl⟩
    go_light
    rw [Bool.eq_iff_iff]
    simp [digitB] at *
    try omega

set_option maxHeartbeats 1000000 in
theorem opens_any (r : Int) (w : World) :
    Calls Try.prog 94 #[.int .i32 r] w fun e w' => e = .returned (.bool (opensB r)) ∧ w' = w := by
  go_enter Try.func94, Try.ntmps94
  go_wp2
  all_goals
    go_ret
    refine ⟨rname_ret ?_, rfl⟩
    go_light
    rw [Bool.eq_iff_iff]
    simp [opensB] at *
    try omega

theorem iter_below (w : World) (s : ByteArray) (pos : Nat) : Below w.heap.size w (w.iter s pos) := new_alloc w _

theorem opens_high (r : Int) (h : 128 ≤ r) : opensB r = false := by simp [opensB]; omega
theorem digit_high (r : Int) (h : 128 ≤ r) : digitB r = false := by simp [digitB]; omega
theorem ok_opens (k : Nat) (r : Int) (h : okAt k r) (hd : digitB r = false ∨ k = 0) : opensB r = true := by
  simp [opensB, digitB, okAt] at *; omega
theorem nok_opens (k : Nat) (r : Int) (h : ¬ okAt k r) : opensB r = false ∧ (k = 0 ∨ digitB r = false) := by
  simp [opensB, digitB, okAt] at *; omega

theorem toList_eq (s : ByteArray) : s.toList = s.data.toList := ByteArray.toList_eq s
theorem text_empty (s : ByteArray) (h : s.size = 0) : s.toList = [] := by
  rw [toList_eq]; apply List.eq_nil_of_length_eq_zero; rw [Array.length_toList]; exact h
theorem text_full (s : ByteArray) (h : 0 < s.size) : ¬ s.toList = [] ∧ s.toList.isEmpty = false := by
  have : ¬ s.toList = [] := fun e => by
    rw [toList_eq] at e
    have := congrArg List.length e
    rw [Array.length_toList] at this
    simp at this
    rw [this] at h; simp at h
  exact ⟨this, by simpa using this⟩

set_option maxHeartbeats 2000000 in
theorem name_yes (s : ByteArray) (w : World) (h : NameP s) :
    Calls Try.prog 76 #[.string s] w fun e w' => e = .returned (.bool true) ∧ Below w.heap.size w w' := by
  have HP : Hid (∀ k, k < s.size → okAt k (byteAt s k)) := h.1
  have h1 := h.2.1
  have h2 := h.2.2
  obtain ⟨ht1, ht2⟩ := text_full s h1
  clear h
  go_enter Try.func76, Try.ntmps76
  go_wp2_with fail
  go_loopw [3] (fun _ w' => ∃ pos : Nat, pos ≤ s.size ∧ w' = w.iter s pos) (fun _ w' => s.size - w'.iterPos w.heap.size)
  case atStart => exact ⟨0, Nat.zero_le _, rfl⟩
  case round =>
    obtain ⟨k, hk, rfl⟩ := hrel
    by_cases hlt : k < s.size
    · have hb := byteAt_eq s k hlt
      have hi := byteAt_in s k
      have hok := HP.out k hlt
      have hasc : (s[k]'hlt).toNat < 128 := by
        unfold okAt at hok; omega
      have hnx : ∀ ty, (Instr.next (.pointer (some ⟨w.heap.size, 0, none⟩)) true ty).run Try.prog (w.iter s k) = _ := fun ty => run_next_ascii w s k ty hlt hasc
      generalize hz : byteAt s k = z at *
      rw [hb] at hnx
      go_wp2_with fail
      refine (opens_any _ _).mono ?_
      rintro e w1 ⟨rfl, rfl⟩
      by_cases hd : digitB z = false ∨ k = 0
      · rw [ok_opens k z hok hd]
        go_wp2_with fail
        go_roundw
        case rel => exact ⟨k + 1, by omega, rfl⟩
        case measure => simp; omega
      · have hdg : digitB z = true := by
          cases e : digitB z
          · exact absurd (.inl e) hd
          · rfl
        have hk0 : ((k : Int) == 0) = false := by
          simp; intro e; exact hd (.inr e)
        generalize ho : opensB z = ob
        cases ob
        · go_wp2_with fail
          refine (digit_any _ _).mono ?_
          rintro e w1 ⟨rfl, rfl⟩
          rw [hdg]
          go_wp2_with fail
          go_roundw
          case rel => exact ⟨k + 1, by omega, rfl⟩
          case measure => simp; omega
        · go_wp2_with fail
          go_roundw
          case rel => exact ⟨k + 1, by omega, rfl⟩
          case measure => simp; omega
    · have hnx : ∀ ty, (Instr.next (.pointer (some ⟨w.heap.size, 0, none⟩)) true ty).run Try.prog (w.iter s k) = _ := fun ty => run_next_end w s k ty hlt
      go_wp2_with fail
      go_ret
      exact ⟨rfl, iter_below _ _ _⟩

theorem bad_some (s : ByteArray) (h : ¬ NameP s) (h0 : 0 < s.size) (h1 : s.size ≤ 16) : ¬ ∀ k, k < s.size → okAt k (byteAt s k) := fun e => h ⟨e, h0, h1⟩

set_option maxHeartbeats 2000000 in
theorem name_no (s : ByteArray) (w : World) (h : ¬ NameP s) :
    Calls Try.prog 76 #[.string s] w fun e w' => e = .returned (.bool false) ∧ Below w.heap.size w w' := by
  by_cases h1 : 0 < s.size
  · obtain ⟨ht1, ht2⟩ := text_full s h1
    by_cases h2 : s.size ≤ 16
    · have HP : Hid (¬ ∀ k, k < s.size → okAt k (byteAt s k)) := bad_some s h h1 h2
      clear h
      go_enter Try.func76, Try.ntmps76
      go_wp2_with fail
      go_loopw [3] (fun _ w' => ∃ pos : Nat, pos ≤ s.size ∧ w' = w.iter s pos ∧ ∀ j, j < pos → okAt j (byteAt s j)) (fun _ w' => s.size - w'.iterPos w.heap.size)
      case atStart => exact ⟨0, Nat.zero_le _, rfl, fun j hj => absurd hj (Nat.not_lt_zero _)⟩
      case round =>
        obtain ⟨k, hk, rfl, hall⟩ := hrel
        have HA : Hid (∀ j, j < k → okAt j (byteAt s j)) := hall
        clear hall
        by_cases hlt : k < s.size
        · have hb := byteAt_eq s k hlt
          have hi := byteAt_in s k
          by_cases hok : okAt k (byteAt s k)
          · have HB : Hid (∀ j, j < k + 1 → okAt j (byteAt s j)) := fun j hj => by
              by_cases e : j = k
              · subst e; exact hok
              · exact HA.out j (by omega)
            have hasc : (s[k]'hlt).toNat < 128 := by
              unfold okAt at hok; omega
            have hnx : ∀ ty, (Instr.next (.pointer (some ⟨w.heap.size, 0, none⟩)) true ty).run Try.prog (w.iter s k) = _ := fun ty => run_next_ascii w s k ty hlt hasc
            generalize hz : byteAt s k = z at *
            rw [hb] at hnx
            go_wp2_with fail
            refine (opens_any _ _).mono ?_
            rintro e w1 ⟨rfl, rfl⟩
            by_cases hd : digitB z = false ∨ k = 0
            · rw [ok_opens k z hok hd]
              go_wp2_with fail
              go_roundw
              case rel => exact ⟨k + 1, by omega, rfl, HB.out⟩
              case measure => simp; omega
            · have hdg : digitB z = true := by
                cases e : digitB z
                · exact absurd (.inl e) hd
                · rfl
              have hk0 : ((k : Int) == 0) = false := by
                simp; intro e; exact hd (.inr e)
              generalize ho : opensB z = ob
              cases ob
              · go_wp2_with fail
                refine (digit_any _ _).mono ?_
                rintro e w1 ⟨rfl, rfl⟩
                rw [hdg]
                go_wp2_with fail
                go_roundw
                case rel => exact ⟨k + 1, by omega, rfl, HB.out⟩
                case measure => simp; omega
              · go_wp2_with fail
                go_roundw
                case rel => exact ⟨k + 1, by omega, rfl, HB.out⟩
                case measure => simp; omega
          · have hrn : ∃ z : Nat, (Utf8.decode s k).1 = z ∧ opensB (z : Int) = false ∧ (k = 0 ∨ digitB (z : Int) = false) := by
              by_cases hasc : (s[k]'hlt).toNat < 128
              · rw [decode_ascii s k hlt hasc]
                exact ⟨_, rfl, by rw [hb]; exact nok_opens k _ hok⟩
              · have := (decode_high s k hlt (by omega)).1
                exact ⟨_, rfl, opens_high _ (by omega), .inr (digit_high _ (by omega))⟩
            obtain ⟨z, hz1, hz2, hz3⟩ := hrn
            have hnx : ∀ ty, (Instr.next (.pointer (some ⟨w.heap.size, 0, none⟩)) true ty).run Try.prog (w.iter s k) = _ := fun ty => run_next_any w s k ty hlt
            rw [hz1] at hnx
            clear hz1 hok hb hi
            generalize (Utf8.decode s k).2 = d at *
            go_wp2_with fail
            refine (opens_any _ _).mono ?_
            rintro e w1 ⟨rfl, rfl⟩
            rw [hz2]
            by_cases hk0 : k = 0
            · subst hk0
              go_wp2_with fail
              go_ret
              exact ⟨rfl, iter_below _ _ _⟩
            · have hk1 : ((k : Int) == 0) = false := by simp; exact hk0
              have hz4 : digitB (z : Int) = false := by
                rcases hz3 with e | e
                · exact absurd e hk0
                · exact e
              clear hz3
              go_wp2_with fail
              refine (digit_any _ _).mono ?_
              rintro e w1 ⟨rfl, rfl⟩
              rw [hz4]
              go_wp2_with fail
              go_ret
              exact ⟨rfl, iter_below _ _ _⟩
        · exact absurd (fun j hj => HA.out j (by omega)) HP.out
    · have h3 : 16 < (s.size : Int) := by omega
      clear h
      go_enter Try.func76, Try.ntmps76
      go_wp2_with fail
      go_ret
      exact ⟨rfl, Below.refl _ _⟩
  · have ht := text_empty s (by omega)
    clear h
    go_enter Try.func76, Try.ntmps76
    go_wp2_with fail
    go_ret
    exact ⟨rfl, Below.refl _ _⟩

theorem name_any (s : ByteArray) (w : World) (b : Bool) (h : b = true ↔ NameP s) :
    Calls Try.prog 76 #[.string s] w fun e w' => e = .returned (.bool b) ∧ Below w.heap.size w w' := by
  cases b
  · exact name_no s w (fun e => by simpa using h.2 e)
  · exact name_yes s w (h.1 rfl)

end Go.Proofs.Ytkpieeldoielgaa
