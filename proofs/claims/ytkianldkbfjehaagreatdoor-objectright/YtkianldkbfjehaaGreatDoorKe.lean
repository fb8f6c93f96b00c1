/- Texts put together: WName, WNumber, NumL, WCut. -/
import Derived.Test.YtkianldkbfjehaaGreatDoorKc
import Derived.Laws.RangeString
import Derived.Laws.RangeAny
import Derived.Test.YtkianldkbfjehaaGreatDoorKb
import Derived.Test.YtkianldkbfjehaaGreatDoorKd
import Derived.Lib.ParseIntBCases
import Derived.Lib.AtoiErrMem
import Derived.Test.YtkianldkbfjehaaGreatDoorKa
import Derived.Deep.Light
import Derived.OwnWalk

/- What words.divides, opens, digit and Name answer, for every rune, every text. -/
namespace Go.Proofs.YtkianldkbfjehaaGreatDoor
open Go.RowKit

def opensB (r : Int) : Bool := decide ((97 ≤ r ∧ r ≤ 122) ∨ (65 ≤ r ∧ r ≤ 90) ∨ r = 95)
def digitB (r : Int) : Bool := decide (48 ≤ r ∧ r ≤ 57)

set_option maxHeartbeats 400000 in
theorem divides_any (c : Int) (w : World) :
    Calls Tryz.prog 109 #[.int .i32 c] w fun e w' => e = .returned (.bool (blankB c)) ∧ w' = w := by
  by_cases h1 : c = 32
  · subst h1
    go_enter Tryz.func109, Tryz.ntmps109
    go_wp2
    go_ret
    exact ⟨rfl, rfl⟩
  · by_cases h2 : c = 9
    · subst h2
      go_enter Tryz.func109, Tryz.ntmps109
      go_wp2
      go_ret
      exact ⟨rfl, rfl⟩
    · have e1 : (c == 32) = false := by simpa using h1
      have e2 : (c == 9) = false := by simpa using h2
      have hq : blankB c = (c == 13) := by
        rw [Bool.eq_iff_iff]; simp [blankB, h1, h2]
      rw [hq]
      clear hq h1 h2
      go_enter Tryz.func109, Tryz.ntmps109
      go_wp2
      go_ret
      exact ⟨rfl, rfl⟩

set_option maxHeartbeats 400000 in
theorem digit_any (r : Int) (w : World) :
    Calls Tryz.prog 85 #[.int .i32 r] w fun e w' => e = .returned (.bool (digitB r)) ∧ w' = w := by
  go_enter Tryz.func85, Tryz.ntmps85
  go_wp2
  all_goals
    go_ret
    refine ⟨rname_ret ?_, rfl⟩
    go_light
    rw [Bool.eq_iff_iff]
    simp [digitB] at *
    try omega

set_option maxHeartbeats 1000000 in
theorem opens_any (r : Int) (w : World) :
    Calls Tryz.prog 84 #[.int .i32 r] w fun e w' => e = .returned (.bool (opensB r)) ∧ w' = w := by
  go_enter Tryz.func84, Tryz.ntmps84
  go_wp2
  all_goals
    go_ret
    refine ⟨rname_ret ?_, rfl⟩
    go_light
    rw [Bool.eq_iff_iff]
    simp [opensB] at *
    try omega

theorem iter_below (w : World) (s : ByteArray) (pos : Nat) : Below w.heap.size w (w.iter s pos) := new_alloc w _

theorem opens_high (r : Int) (h : 128 ≤ r) : opensB r = false := by simp [opensB]; omega
theorem digit_high (r : Int) (h : 128 ≤ r) : digitB r = false := by simp [digitB]; omega
theorem ok_opens (k : Nat) (r : Int) (h : okAt k r) (hd : digitB r = false ∨ k = 0) : opensB r = true := by
  simp [opensB, digitB, okAt] at *; omega
theorem nok_opens (k : Nat) (r : Int) (h : ¬ okAt k r) : opensB r = false ∧ (k = 0 ∨ digitB r = false) := by
  simp [opensB, digitB, okAt] at *; omega

theorem toList_eq (s : ByteArray) : s.toList = s.data.toList := ByteArray.toList_eq s
theorem text_empty (s : ByteArray) (h : s.size = 0) : s.toList = [] := by
  rw [toList_eq]; apply List.eq_nil_of_length_eq_zero; rw [Array.length_toList]; exact h
theorem text_full (s : ByteArray) (h : 0 < s.size) : ¬ s.toList = [] ∧ s.toList.isEmpty = false := by
  have : ¬ s.toList = [] := fun e => by
    rw [toList_eq] at e
    have := congrArg List.length e
    rw [Array.length_toList] at this
    simp at this
    rw [this] at h; simp at h
  exact ⟨this, by simpa using this⟩

set_option maxHeartbeats 2000000 in
theorem name_yes (s : ByteArray) (w : World) (h : NameP s) :
    Calls Tryz.prog 67 #[.string s] w fun e w' => e = .returned (.bool true) ∧ Below w.heap.size w w' := by
  have HP : Hid (∀ k, k < s.size → okAt k (byteAt s k)) := h.1
  have h1 := h.2.1
  have h2 := h.2.2
  obtain ⟨ht1, ht2⟩ := text_full s h1
  clear h
  go_enter Tryz.func67, Tryz.ntmps67
  go_wp2_with fail
  go_loopw [3] (fun _ w' => ∃ pos : Nat, pos ≤ s.size ∧ w' = w.iter s pos) (fun _ w' => s.size - w'.iterPos w.heap.size)
  case atStart => exact ⟨0, Nat.zero_le _, rfl⟩
  case round =>
    obtain ⟨k, hk, rfl⟩ := hrel
    by_cases hlt : k < s.size
    · have hb := byteAt_eq s k hlt
      have hi := byteAt_in s k
      have hok := HP.out k hlt
      have hasc : (s[k]'hlt).toNat < 128 := by
        unfold okAt at hok; omega
      have hnx : ∀ ty, (Instr.next (.pointer (some ⟨w.heap.size, 0, none⟩)) true ty).run Tryz.prog (w.iter s k) = _ := fun ty => run_next_ascii w s k ty hlt hasc
      generalize hz : byteAt s k = z at *
      rw [hb] at hnx
      go_wp2_with fail
      refine (opens_any _ _).mono ?_
      rintro e w1 ⟨rfl, rfl⟩
      by_cases hd : digitB z = false ∨ k = 0
      · rw [ok_opens k z hok hd]
        go_wp2_with fail
        go_roundw
        case rel => exact ⟨k + 1, by omega, rfl⟩
        case measure => simp; omega
      · have hdg : digitB z = true := by
          cases e : digitB z
          · exact absurd (.inl e) hd
          · rfl
        have hk0 : ((k : Int) == 0) = false := by
          simp; intro e; exact hd (.inr e)
        generalize ho : opensB z = ob
        cases ob
        · go_wp2_with fail
          refine (digit_any _ _).mono ?_
          rintro e w1 ⟨rfl, rfl⟩
          rw [hdg]
          go_wp2_with fail
          go_roundw
          case rel => exact ⟨k + 1, by omega, rfl⟩
          case measure => simp; omega
        · go_wp2_with fail
          go_roundw
          case rel => exact ⟨k + 1, by omega, rfl⟩
          case measure => simp; omega
    · have hnx : ∀ ty, (Instr.next (.pointer (some ⟨w.heap.size, 0, none⟩)) true ty).run Tryz.prog (w.iter s k) = _ := fun ty => run_next_end w s k ty hlt
      go_wp2_with fail
      go_ret
      exact ⟨rfl, iter_below _ _ _⟩

theorem bad_some (s : ByteArray) (h : ¬ NameP s) (h0 : 0 < s.size) (h1 : s.size ≤ 16) : ¬ ∀ k, k < s.size → okAt k (byteAt s k) := fun e => h ⟨e, h0, h1⟩

set_option maxHeartbeats 2000000 in
theorem name_no (s : ByteArray) (w : World) (h : ¬ NameP s) :
    Calls Tryz.prog 67 #[.string s] w fun e w' => e = .returned (.bool false) ∧ Below w.heap.size w w' := by
  by_cases h1 : 0 < s.size
  · obtain ⟨ht1, ht2⟩ := text_full s h1
    by_cases h2 : s.size ≤ 16
    · have HP : Hid (¬ ∀ k, k < s.size → okAt k (byteAt s k)) := bad_some s h h1 h2
      clear h
      go_enter Tryz.func67, Tryz.ntmps67
      go_wp2_with fail
      go_loopw [3] (fun _ w' => ∃ pos : Nat, pos ≤ s.size ∧ w' = w.iter s pos ∧ ∀ j, j < pos → okAt j (byteAt s j)) (fun _ w' => s.size - w'.iterPos w.heap.size)
      case atStart => exact ⟨0, Nat.zero_le _, rfl, fun j hj => absurd hj (Nat.not_lt_zero _)⟩
      case round =>
        obtain ⟨k, hk, rfl, hall⟩ := hrel
        have HA : Hid (∀ j, j < k → okAt j (byteAt s j)) := hall
        clear hall
        by_cases hlt : k < s.size
        · have hb := byteAt_eq s k hlt
          have hi := byteAt_in s k
          by_cases hok : okAt k (byteAt s k)
          · have HB : Hid (∀ j, j < k + 1 → okAt j (byteAt s j)) := fun j hj => by
              by_cases e : j = k
              · subst e; exact hok
              · exact HA.out j (by omega)
            have hasc : (s[k]'hlt).toNat < 128 := by
              unfold okAt at hok; omega
            have hnx : ∀ ty, (Instr.next (.pointer (some ⟨w.heap.size, 0, none⟩)) true ty).run Tryz.prog (w.iter s k) = _ := fun ty => run_next_ascii w s k ty hlt hasc
            generalize hz : byteAt s k = z at *
            rw [hb] at hnx
            go_wp2_with fail
            refine (opens_any _ _).mono ?_
            rintro e w1 ⟨rfl, rfl⟩
            by_cases hd : digitB z = false ∨ k = 0
            · rw [ok_opens k z hok hd]
              go_wp2_with fail
              go_roundw
              case rel => exact ⟨k + 1, by omega, rfl, HB.out⟩
              case measure => simp; omega
            · have hdg : digitB z = true := by
                cases e : digitB z
                · exact absurd (.inl e) hd
                · rfl
              have hk0 : ((k : Int) == 0) = false := by
                simp; intro e; exact hd (.inr e)
              generalize ho : opensB z = ob
              cases ob
              · go_wp2_with fail
                refine (digit_any _ _).mono ?_
                rintro e w1 ⟨rfl, rfl⟩
                rw [hdg]
                go_wp2_with fail
                go_roundw
                case rel => exact ⟨k + 1, by omega, rfl, HB.out⟩
                case measure => simp; omega
              · go_wp2_with fail
                go_roundw
                case rel => exact ⟨k + 1, by omega, rfl, HB.out⟩
                case measure => simp; omega
          · have hrn : ∃ z : Nat, (Utf8.decode s k).1 = z ∧ opensB (z : Int) = false ∧ (k = 0 ∨ digitB (z : Int) = false) := by
              by_cases hasc : (s[k]'hlt).toNat < 128
              · rw [decode_ascii s k hlt hasc]
                exact ⟨_, rfl, by rw [hb]; exact nok_opens k _ hok⟩
              · have := (decode_high s k hlt (by omega)).1
                exact ⟨_, rfl, opens_high _ (by omega), .inr (digit_high _ (by omega))⟩
            obtain ⟨z, hz1, hz2, hz3⟩ := hrn
            have hnx : ∀ ty, (Instr.next (.pointer (some ⟨w.heap.size, 0, none⟩)) true ty).run Tryz.prog (w.iter s k) = _ := fun ty => run_next_any w s k ty hlt
            rw [hz1] at hnx
            clear hz1 hok hb hi
            generalize (Utf8.decode s k).2 = d at *
            go_wp2_with fail
            refine (opens_any _ _).mono ?_
            rintro e w1 ⟨rfl, rfl⟩
            rw [hz2]
            by_cases hk0 : k = 0
            · subst hk0
              go_wp2_with fail
              go_ret
              exact ⟨rfl, iter_below _ _ _⟩
            · have hk1 : ((k : Int) == 0) = false := by simp; exact hk0
              have hz4 : digitB (z : Int) = false := by
                rcases hz3 with e | e
                · exact absurd e hk0
                · exact e
              clear hz3
              go_wp2_with fail
              refine (digit_any _ _).mono ?_
              rintro e w1 ⟨rfl, rfl⟩
              rw [hz4]
              go_wp2_with fail
              go_ret
              exact ⟨rfl, iter_below _ _ _⟩
        · exact absurd (fun j hj => HA.out j (by omega)) HP.out
    · have h3 : 16 < (s.size : Int) := by omega
      clear h
      go_enter Tryz.func67, Tryz.ntmps67
      go_wp2_with fail
      go_ret
      exact ⟨rfl, Below.refl _ _⟩
  · have ht := text_empty s (by omega)
    clear h
    go_enter Tryz.func67, Tryz.ntmps67
    go_wp2_with fail
    go_ret
    exact ⟨rfl, Below.refl _ _⟩

theorem name_any (s : ByteArray) (w : World) (b : Bool) (h : b = true ↔ NameP s) :
    Calls Tryz.prog 67 #[.string s] w fun e w' => e = .returned (.bool b) ∧ Below w.heap.size w w' := by
  cases b
  · exact name_no s w (fun e => by simpa using h.2 e)
  · exact name_yes s w (h.1 rfl)

end Go.Proofs.YtkianldkbfjehaaGreatDoor

/- What words.plain and Number answer, for every text. -/
namespace Go.Proofs.YtkianldkbfjehaaGreatDoor
open Go.RowKit

/-- what digits say, behind what acc says -/
def valL (acc : Nat) (l : List UInt8) : Nat := l.foldl (fun a c => a * 10 + (c.toNat - 48)) acc
def DigL (l : List UInt8) : Prop := ∀ c ∈ l, 48 ≤ c.toNat ∧ c.toNat ≤ 57

theorem valL_nil (acc : Nat) : valL acc [] = acc := List.foldl_nil
theorem valL_cons (acc : Nat) (c : UInt8) (r : List UInt8) : valL acc (c :: r) = valL (acc * 10 + (c.toNat - 48)) r := List.foldl_cons
theorem valL_ge (l : List UInt8) : ∀ acc : Nat, acc ≤ valL acc l := by
  induction l with
  | nil => intro acc; rw [valL_nil]; exact Nat.le_refl _
  | cons c r ih => intro acc; rw [valL_cons]; exact Nat.le_trans (by omega) (ih _)
theorem parseM_ok (M : Nat) (hM : M = 18446744073709551615) (l : List UInt8) : ∀ acc : Nat, DigL l → valL acc l ≤ M → Lib.parseUintM M acc l = .ok (valL acc l) := by
  induction l with
  | nil => intro acc _ _; rw [valL_nil, Lib.parseUintM]
  | cons c r ih =>
    intro acc hd hv
    have h1 := hd c (by simp)
    have h2 := valL_ge r (acc * 10 + (c.toNat - 48))
    rw [valL_cons] at hv ⊢
    rw [Lib.parseUintM, if_pos h1, if_neg (by omega), if_neg (by omega)]
    exact ih _ (fun x hx => hd x (by simp [hx])) hv
theorem parseM_range (M : Nat) (hM : M = 18446744073709551615) (l : List UInt8) : ∀ acc : Nat, DigL l → acc ≤ M → M < valL acc l → Lib.parseUintM M acc l = .range := by
  induction l with
  | nil => intro acc _ ha hv; rw [valL_nil] at hv; omega
  | cons c r ih =>
    intro acc hd ha hv
    have h1 := hd c (by simp)
    rw [valL_cons] at hv
    rw [Lib.parseUintM, if_pos h1]
    by_cases h4 : 1844674407370955162 ≤ acc
    · rw [if_pos h4]
    · rw [if_neg h4]
      by_cases h5 : M < acc * 10 + (c.toNat - 48)
      · rw [if_pos h5]
      · rw [if_neg h5]
        exact ih _ (fun x hx => hd x (by simp [hx])) (by omega) hv

theorem byteAt_list (s : ByteArray) (k : Nat) (h : k < s.data.toList.length) : byteAt s k = (s.data.toList[k].toNat : Int) := by
  unfold byteAt
  rw [List.getD_eq_getElem?_getD, List.getElem?_eq_getElem h]; rfl
theorem digs_list (s : ByteArray) (f : Nat) (h : Digs s f s.size) : DigL (s.data.toList.drop f) := by
  intro c hc
  obtain ⟨i, hi, rfl⟩ := List.getElem_of_mem hc
  rw [List.length_drop] at hi
  have hl := Lib.size_eq s
  have := h (f + i) (by omega) (by omega)
  rw [byteAt_list s (f + i) (by omega)] at this
  rw [List.getElem_drop]
  omega
theorem valL_valU (s : ByteArray) (f : Nat) (hd : Digs s f s.size) (hf : f ≤ s.size) : ∀ (n j : Nat), f + j + n = s.size → (valL (valU s f j).toNat (s.data.toList.drop (f + j)) : Int) = valU s f (j + n)
  | 0, j, h => by
    have hl := Lib.size_eq s
    rw [List.drop_eq_nil_of_le (by omega)]
    have := valU_nonneg s f j fun i h1 h2 => hd i h1 (by omega)
    rw [valL_nil, Nat.add_zero]
    omega
  | n + 1, j, h => by
    have hl := Lib.size_eq s
    have hlt : f + j < s.data.toList.length := by omega
    rw [List.drop_eq_getElem_cons hlt]
    have hdg := hd (f + j) (by omega) (by omega)
    have hb := byteAt_list s (f + j) hlt
    have hnn := valU_nonneg s f j fun i h1 h2 => hd i h1 (by omega)
    have hst : valU s f (j + 1) = 10 * valU s f j + (byteAt s (f + j) - 48) := rfl
    have ih := valL_valU s f hd hf n (j + 1) (by omega)
    rw [show j + (n + 1) = (j + 1) + n by omega, ← ih, valL_cons]
    congr 2
    omega

/-- a text in the one form, its size not asked -/
def PlainP (s : ByteArray) (f : Nat) : Prop := f < s.size ∧ ¬ (byteAt s f = 48 ∧ 1 < s.size) ∧ Digs s f s.size

theorem numAt_iff (s : ByteArray) (f : Nat) (v : Int) : NumAt s f v ↔ PlainP s f ∧ ((f = 1 ∧ v = - valU s f (s.size - f) ∧ valU s f (s.size - f) ≤ 9223372036854775808) ∨ (f = 0 ∧ v = valU s f (s.size - f) ∧ valU s f (s.size - f) ≤ 9223372036854775807)) := by
  unfold NumAt PlainP; constructor
  · rintro ⟨a, b, c, d⟩; exact ⟨⟨a, b, c⟩, d⟩
  · rintro ⟨⟨a, b, c⟩, d⟩; exact ⟨a, b, c, d⟩

theorem uint_of (s : ByteArray) (f : Nat) (hp : PlainP s f) :
    (∀ u : Nat, (u : Int) = valU s f (s.size - f) → u ≤ 18446744073709551615 → Lib.parseUintB 64 (s.data.toList.drop f) = .ok u) ∧
    (18446744073709551615 < valU s f (s.size - f) → Lib.parseUintB 64 (s.data.toList.drop f) = .range) := by
  have hl := Lib.size_eq s
  have hne : s.data.toList.drop f ≠ [] := fun e => by
    have := congrArg List.length e
    rw [List.length_drop] at this
    have := hp.1
    rw [List.length_nil] at *
    omega
  have hv := valL_valU s f hp.2.2 (Nat.le_of_lt hp.1) (s.size - f) 0 (by have := hp.1; omega)
  rw [show (valU s f 0).toNat = 0 from rfl, Nat.add_zero, Nat.zero_add] at hv
  have hd := digs_list s f hp.2.2
  rw [Lib.parseUintB, if_neg hne, show (2 ^ 64 - 1 : Nat) = 18446744073709551615 by decide]
  refine ⟨fun u hu h => ?_, fun h => parseM_range _ rfl _ _ hd (Nat.zero_le _) (by omega)⟩
  have : valL 0 (s.data.toList.drop f) = u := by omega
  rw [parseM_ok _ rfl _ _ hd (by omega), this]

theorem parse_ok (s : ByteArray) (f : Nat) (v : Int) (hs : Sign s f) (h : NumAt s f v) : Lib.parseIntB 64 s.data.toList = .ok v := by
  rw [numAt_iff] at h
  obtain ⟨hp, hv⟩ := h
  have hl := Lib.size_eq s
  have hu := (uint_of s f hp).1
  have hnn := valU_nonneg s f (s.size - f) fun i h1 h2 => hp.2.2 i h1 (by have := hp.1; omega)
  generalize valU s f (s.size - f) = V at hu hv hnn
  cases hc : s.data.toList with
  | nil => rw [hc, List.length_nil] at hl; have := hp.1; omega
  | cons c r =>
    have hb0 : byteAt s 0 = (c.toNat : Int) := by
      rw [byteAt_list s 0 (by rw [hc]; simp)]; simp [hc]
    rcases hs with ⟨rfl, h0, hm⟩ | ⟨rfl, hm⟩
    · have h45 : c.toNat = 45 := by omega
      rcases hv with ⟨_, hv, hle⟩ | ⟨e, _⟩
      · have := hu (V).toNat (by omega) (by omega)
        rw [hc] at this
        simp only [List.drop_succ_cons, List.drop_zero] at this
        simp only [Lib.parseIntB, h45, or_true, if_true, this]
        rw [if_neg (by simp), if_neg (by simp; omega)]
        simp; omega
      · cases e
    · have h45 : c.toNat ≠ 45 := fun e => hm ⟨by have := hp.1; omega, by omega⟩
      have h43 : c.toNat ≠ 43 := by
        have := hp.2.2 0 (Nat.le_refl _) hp.1
        omega
      rcases hv with ⟨e, _⟩ | ⟨_, hv, hle⟩
      · cases e
      · have := hu (V).toNat (by omega) (by omega)
        rw [hc] at this
        simp only [List.drop_zero] at this
        simp only [Lib.parseIntB, h45, h43, or_self, if_false, this]
        rw [if_neg (by simp; omega), if_neg (by simp)]
        simp; omega

theorem parse_range (s : ByteArray) (f : Nat) (hs : Sign s f) (hp : PlainP s f) (h : ∀ v, ¬ NumAt s f v) : Lib.parseIntB 64 s.data.toList = .range := by
  have hl := Lib.size_eq s
  obtain ⟨hu, hr⟩ := uint_of s f hp
  have hnn := valU_nonneg s f (s.size - f) fun i h1 h2 => hp.2.2 i h1 (by have := hp.1; omega)
  have hbig : (f = 1 ∧ 9223372036854775808 < valU s f (s.size - f)) ∨ (f = 0 ∧ 9223372036854775807 < valU s f (s.size - f)) := by
    rcases hs with ⟨rfl, _⟩ | ⟨rfl, _⟩
    · refine .inl ⟨rfl, ?_⟩
      by_cases e : valU s 1 (s.size - 1) ≤ 9223372036854775808
      · exact absurd ((numAt_iff s 1 _).2 ⟨hp, .inl ⟨rfl, rfl, e⟩⟩) (h _)
      · omega
    · refine .inr ⟨rfl, ?_⟩
      by_cases e : valU s 0 (s.size - 0) ≤ 9223372036854775807
      · exact absurd ((numAt_iff s 0 _).2 ⟨hp, .inr ⟨rfl, rfl, e⟩⟩) (h _)
      · omega
  clear h
  generalize valU s f (s.size - f) = V at hu hr hnn hbig
  cases hc : s.data.toList with
  | nil => rw [hc, List.length_nil] at hl; have := hp.1; omega
  | cons c r =>
    have hb0 : byteAt s 0 = (c.toNat : Int) := by
      rw [byteAt_list s 0 (by rw [hc]; simp)]; simp [hc]
    rcases hs with ⟨rfl, h0, hm⟩ | ⟨rfl, hm⟩
    · have h45 : c.toNat = 45 := by omega
      have hbig : 9223372036854775808 < V := by omega
      by_cases e : V ≤ 18446744073709551615
      · have := hu (V).toNat (by omega) (by omega)
        rw [hc] at this
        simp only [List.drop_succ_cons, List.drop_zero] at this
        simp only [Lib.parseIntB, h45, or_true, if_true, this]
        rw [if_neg (by simp), if_pos (by simp; omega)]
      · have := hr (by omega)
        rw [hc] at this
        simp only [List.drop_succ_cons, List.drop_zero] at this
        simp only [Lib.parseIntB, h45, or_true, if_true, this]
    · have h45 : c.toNat ≠ 45 := fun e => hm ⟨by have := hp.1; omega, by omega⟩
      have h43 : c.toNat ≠ 43 := by
        have := hp.2.2 0 (Nat.le_refl _) hp.1
        omega
      have hbig : 9223372036854775807 < V := by omega
      by_cases e : V ≤ 18446744073709551615
      · have := hu (V).toNat (by omega) (by omega)
        rw [hc] at this
        simp only [List.drop_zero] at this
        simp only [Lib.parseIntB, h45, h43, or_self, if_false, this]
        rw [if_pos (by simp; omega)]
      · have := hr (by omega)
        rw [hc] at this
        simp only [List.drop_zero] at this
        simp only [Lib.parseIntB, h45, h43, or_self, if_false, this]

/-- what the '-' ahead leaves -/
theorem trim_some (s : ByteArray) (f : Nat) (h : Sign s f) : Lib.trimPrefix s.data.toList (⟨#[45]⟩ : ByteArray).data.toList = s.data.toList.drop f := by
  have hl := Lib.size_eq s
  unfold Lib.trimPrefix Lib.hasPrefix
  rcases h with ⟨rfl, h0, hm⟩ | ⟨rfl, hm⟩
  · cases hc : s.data.toList with
    | nil => rw [hc, List.length_nil] at hl; omega
    | cons c r =>
      have hb0 : byteAt s 0 = (c.toNat : Int) := by
        rw [byteAt_list s 0 (by rw [hc]; simp)]; simp [hc]
      have : c = 45 := UInt8.toNat_inj.1 (by show c.toNat = 45; omega)
      subst this
      simp
  · cases hc : s.data.toList with
    | nil => simp
    | cons c r =>
      have hb0 : byteAt s 0 = (c.toNat : Int) := by
        rw [byteAt_list s 0 (by rw [hc]; simp)]; simp [hc]
      have : c ≠ 45 := fun e => hm ⟨by rw [hl, hc]; simp, by rw [hb0, e]; rfl⟩
      have h' : ¬ (45 : UInt8) = c := fun e => this e.symm
      simp [h']

/-- the digits' own text -/
def tailOf (s : ByteArray) (f : Nat) : ByteArray := ⟨(s.data.toList.drop f).toArray⟩
theorem tailOf_size (s : ByteArray) (f : Nat) : (tailOf s f).size = s.size - f := by
  have hl := Lib.size_eq s
  rw [Lib.size_eq]; unfold tailOf
  simp only [List.length_drop]
  omega
theorem tailOf_at (s : ByteArray) (f k : Nat) : byteAt (tailOf s f) k = byteAt s (f + k) := by
  unfold byteAt tailOf
  simp only [List.getD_eq_getElem?_getD, List.getElem?_drop]

theorem zero_text (s : ByteArray) (h : s.size = 1) (h' : byteAt s 0 = 48) : s = ⟨#[48]⟩ := by
  have hl := Lib.size_eq s
  apply ByteArray.ext
  apply Array.toList_inj.1
  cases hc : s.data.toList with
  | nil => rw [hc, List.length_nil] at hl; omega
  | cons c r =>
    have hb0 : byteAt s 0 = (c.toNat : Int) := by
      rw [byteAt_list s 0 (by rw [hc]; simp)]; simp [hc]
    have hr : r = [] := by
      rw [hc, List.length_cons] at hl
      exact List.eq_nil_of_length_eq_zero (by omega)
    have : c = 48 := UInt8.toNat_inj.1 (by show c.toNat = 48; omega)
    subst this hr
    rfl
theorem not_zero (s : ByteArray) (f : Nat) (h : f < s.size) (h' : ¬ byteAt s f = 48) (hf : f ≤ 1) : ¬ s.toList = [48] := by
  intro e
  rw [toList_eq] at e
  have hl := Lib.size_eq s
  rw [e] at hl
  have hl' : s.size = 1 := hl
  have : f = 0 := by omega
  subst this
  apply h'
  rw [byteAt_list s 0 (by rw [e]; simp)]
  simp [e]
theorem sign_le (s : ByteArray) (f : Nat) (h : Sign s f) : f ≤ 1 := by
  rcases h with ⟨rfl, _⟩ | ⟨rfl, _⟩ <;> omega

set_option maxHeartbeats 1000000 in
theorem plain_zero (w : World) : Calls Tryz.prog 128 #[.string ⟨#[48]⟩] w fun e w' => e = .returned (.bool true) ∧ Below w.heap.size w w' := by
  go_enter Tryz.func128, Tryz.ntmps128
  go_wp2_with fail
  go_ret
  exact ⟨rfl, Below.refl _ _⟩

set_option maxHeartbeats 2000000 in
theorem plain_yes (s : ByteArray) (f : Nat) (hs : Sign s f) (h : PlainP s f) (h8 : ¬ byteAt s f = 48) (w : World) :
    Calls Tryz.prog 128 #[.string s] w fun e w' => e = .returned (.bool true) ∧ Below w.heap.size w w' := by
  have hT := fun w => Tryz.strings_TrimPrefix s ⟨#[45]⟩ w
  rw [trim_some s f hs] at hT
  have hnz := not_zero s f h.1 h8 (sign_le s f hs)
  have hnz' : (s.toList == [48]) = false := by simpa using hnz
  have HD : Hid (∀ j, j < s.size - f → 48 ≤ byteAt (tailOf s f) j ∧ byteAt (tailOf s f) j ≤ 57) := fun j hj => by
    rw [tailOf_at]; exact h.2.2 _ (by omega) (by omega)
  have hsz := tailOf_size s f
  have hpos : 0 < (tailOf s f).size := by rw [hsz]; have := h.1; omega
  have hb0 := byteAt_eq (tailOf s f) 0 hpos
  have hz0 : (byteAt (tailOf s f) 0 == 48) = false := by rw [tailOf_at]; simpa using h8
  change ∀ w, Calls Tryz.prog 135 #[.string s, .string ⟨#[45]⟩] w fun e w' => e = .returned (.string (tailOf s f)) ∧ w' = w at hT
  clear h h8 hs
  rw [← hsz] at HD
  clear hsz
  generalize tailOf s f = t at *
  obtain ⟨ht1, ht2⟩ := text_full t hpos
  go_enter Tryz.func128, Tryz.ntmps128
  go_wp2_with fail
  refine (hT _).mono ?_
  rintro e w1 ⟨rfl, rfl⟩
  go_wp2_with fail
  go_loopw [5] (fun _ w' => ∃ pos : Nat, pos ≤ t.size ∧ w' = w1.iter t pos) (fun _ w' => t.size - w'.iterPos w1.heap.size)
  case atStart => exact ⟨0, Nat.zero_le _, rfl⟩
  case round =>
    obtain ⟨k, hk, rfl⟩ := hrel
    by_cases hlt : k < t.size
    · have hb := byteAt_eq t k hlt
      have hdg := HD.out k hlt
      have hasc : (t[k]'hlt).toNat < 128 := by omega
      have hnx : ∀ ty, (Instr.next (.pointer (some ⟨w1.heap.size, 0, none⟩)) true ty).run Tryz.prog (w1.iter t k) = _ := fun ty => run_next_ascii w1 t k ty hlt hasc
      rw [hb] at hnx
      clear hb hb0 hz0
      generalize hz : byteAt t k = z at *
      go_wp2_with fail
      refine (digit_any _ _).mono ?_
      rintro e w2 ⟨rfl, rfl⟩
      rw [show digitB z = true by simp [digitB]; omega]
      go_wp2_with fail
      go_roundw
      case rel => exact ⟨k + 1, by omega, rfl⟩
      case measure => simp; omega
    · have hnx : ∀ ty, (Instr.next (.pointer (some ⟨w1.heap.size, 0, none⟩)) true ty).run Tryz.prog (w1.iter t k) = _ := fun ty => run_next_end w1 t k ty hlt
      go_wp2_with fail
      go_ret
      exact ⟨rfl, iter_below _ _ _⟩

set_option maxHeartbeats 2000000 in
theorem plain_no (s : ByteArray) (f : Nat) (hs : Sign s f) (h : ¬ PlainP s f) (w : World) :
    Calls Tryz.prog 128 #[.string s] w fun e w' => e = .returned (.bool false) ∧ Below w.heap.size w w' := by
  have hT := fun w => Tryz.strings_TrimPrefix s ⟨#[45]⟩ w
  rw [trim_some s f hs] at hT
  have hsz := tailOf_size s f
  change ∀ w, Calls Tryz.prog 135 #[.string s, .string ⟨#[45]⟩] w fun e w' => e = .returned (.string (tailOf s f)) ∧ w' = w at hT
  have hnz : ¬ s.toList = [48] := fun e => by
    rw [toList_eq] at e
    have hl := Lib.size_eq s
    rw [e] at hl
    have hl' : s.size = 1 := hl
    have hb : byteAt s 0 = 48 := by
      rw [byteAt_list s 0 (by rw [e]; simp)]
      simp [e]
    have hf : f = 0 := by
      rcases hs with ⟨rfl, _, hm⟩ | ⟨rfl, _⟩
      · omega
      · rfl
    subst hf
    exact h ⟨by omega, by omega, fun j h1 h2 => by obtain rfl : j = 0 := by omega
                                                   omega⟩
  have hnz' : (s.toList == [48]) = false := by simpa using hnz
  by_cases hpos : 0 < (tailOf s f).size
  · have hb0 := byteAt_eq (tailOf s f) 0 hpos
    obtain ⟨ht1, ht2⟩ := text_full (tailOf s f) hpos
    by_cases h8 : byteAt (tailOf s f) 0 = 48
    · rw [h8] at hb0
      clear h hs hsz h8
      generalize tailOf s f = t at *
      go_enter Tryz.func128, Tryz.ntmps128
      go_wp2_with fail
      refine (hT _).mono ?_
      rintro e w1 ⟨rfl, rfl⟩
      go_wp2_with fail
      go_ret
      exact ⟨rfl, Below.refl _ _⟩
    · have hz0 : (byteAt (tailOf s f) 0 == 48) = false := by simpa using h8
      have HD : Hid (¬ ∀ j, j < (tailOf s f).size → 48 ≤ byteAt (tailOf s f) j ∧ byteAt (tailOf s f) j ≤ 57) := fun e => by
        apply h
        refine ⟨by omega, fun e' => ?_, fun j h1 h2 => ?_⟩
        · rw [tailOf_at] at h8; exact h8 e'.1
        · have := e (j - f) (by omega)
          rw [tailOf_at, show f + (j - f) = j by omega] at this
          exact this
      clear h hs hsz h8
      generalize tailOf s f = t at *
      go_enter Tryz.func128, Tryz.ntmps128
      go_wp2_with fail
      refine (hT _).mono ?_
      rintro e w1 ⟨rfl, rfl⟩
      go_wp2_with fail
      go_loopw [5] (fun _ w' => ∃ pos : Nat, pos ≤ t.size ∧ w' = w1.iter t pos ∧ ∀ j, j < pos → 48 ≤ byteAt t j ∧ byteAt t j ≤ 57) (fun _ w' => t.size - w'.iterPos w1.heap.size)
      case atStart => exact ⟨0, Nat.zero_le _, rfl, fun j hj => absurd hj (Nat.not_lt_zero _)⟩
      case round =>
        obtain ⟨k, hk, rfl, hall⟩ := hrel
        have HA : Hid (∀ j, j < k → 48 ≤ byteAt t j ∧ byteAt t j ≤ 57) := hall
        clear hall
        by_cases hlt : k < t.size
        · have hb := byteAt_eq t k hlt
          by_cases hdg : 48 ≤ byteAt t k ∧ byteAt t k ≤ 57
          · have HB : Hid (∀ j, j < k + 1 → 48 ≤ byteAt t j ∧ byteAt t j ≤ 57) := fun j hj => by
              by_cases e : j = k
              · subst e; exact hdg
              · exact HA.out j (by omega)
            have hasc : (t[k]'hlt).toNat < 128 := by omega
            have hnx : ∀ ty, (Instr.next (.pointer (some ⟨w1.heap.size, 0, none⟩)) true ty).run Tryz.prog (w1.iter t k) = _ := fun ty => run_next_ascii w1 t k ty hlt hasc
            rw [hb] at hnx
            clear hb hb0 hz0
            generalize hz : byteAt t k = z at *
            go_wp2_with fail
            refine (digit_any _ _).mono ?_
            rintro e w2 ⟨rfl, rfl⟩
            rw [show digitB z = true by simp [digitB]; omega]
            go_wp2_with fail
            go_roundw
            case rel => exact ⟨k + 1, by omega, rfl, HB.out⟩
            case measure => simp; omega
          · have hrn : ∃ z : Nat, (Utf8.decode t k).1 = z ∧ digitB (z : Int) = false := by
              by_cases hasc : (t[k]'hlt).toNat < 128
              · rw [decode_ascii t k hlt hasc]
                exact ⟨_, rfl, by rw [hb]; simp [digitB]; omega⟩
              · have := (decode_high t k hlt (by omega)).1
                exact ⟨_, rfl, digit_high _ (by omega)⟩
            obtain ⟨z, hz1, hz2⟩ := hrn
            have hnx : ∀ ty, (Instr.next (.pointer (some ⟨w1.heap.size, 0, none⟩)) true ty).run Tryz.prog (w1.iter t k) = _ := fun ty => run_next_any w1 t k ty hlt
            rw [hz1] at hnx
            clear hz1 hb hb0 hz0 hdg
            generalize (Utf8.decode t k).2 = d at *
            go_wp2_with fail
            refine (digit_any _ _).mono ?_
            rintro e w2 ⟨rfl, rfl⟩
            rw [hz2]
            go_wp2_with fail
            go_ret
            exact ⟨rfl, iter_below _ _ _⟩
        · exact absurd (fun j hj => HA.out j (by omega)) HD.out
  · have ht := text_empty (tailOf s f) (by omega)
    clear h hs hsz
    generalize tailOf s f = t at *
    go_enter Tryz.func128, Tryz.ntmps128
    go_wp2_with fail
    refine (hT _).mono ?_
    rintro e w1 ⟨rfl, rfl⟩
    go_wp2_with fail
    go_ret
    exact ⟨rfl, Below.refl _ _⟩

theorem plain_any (s : ByteArray) (f : Nat) (hs : Sign s f) (h : PlainP s f) (w : World) :
    Calls Tryz.prog 128 #[.string s] w fun e w' => e = .returned (.bool true) ∧ Below w.heap.size w w' := by
  by_cases h8 : byteAt s f = 48
  · have h1 : s.size = 1 := by
      have h1 := h.1
      have h2 : ¬ 1 < s.size := fun e => h.2.1 ⟨h8, e⟩
      omega
    have : f = 0 := by have := h.1; omega
    subst this
    rw [zero_text s h1 h8]
    exact plain_zero w
  · exact plain_yes s f hs h h8 w

/-- the library's variable ErrRange holds an error -/
def Vars (w : World) : Prop := ∃ ev, w.cell? ⟨2, 0, none⟩ = some ev ∧ (ev = .nilIface ∨ ∃ te pe, ev = .iface te pe)
theorem Vars.below {w w' : World} (h : Vars w) (hb : Below w.heap.size w w') : Vars w' := by
  obtain ⟨ev, h1, h2⟩ := h
  exact ⟨ev, by rw [hb.cell (p := ⟨2, 0, none⟩) (cell_lt h1)]; exact h1, h2⟩

theorem bytes_below (w : World) (t : ByteArray) : Below w.heap.size w (Lib.bytesWorld w 5 t) := Lib.bytesWorld_below _ _ _

set_option maxHeartbeats 1000000 in
theorem number_yes (s : ByteArray) (f : Nat) (v : Int) (hs : Sign s f) (h : NumAt s f v) (hm : s.size ≤ 9223372036854775806) (w : World) :
    Calls Tryz.prog 117 #[.string s] w fun e w' => e = .returned (.tuple #[.int .i64 v, .bool true]) ∧ Below w.heap.size w w' := by
  have hP := fun w => plain_any s f hs ((numAt_iff s f v).1 h).1 w
  have hI := fun w => Tryz.strconv_ParseInt_10_at64_ok s hm v (parse_ok s f v hs h) w
  clear hs h
  go_enter Tryz.func117, Tryz.ntmps117
  go_wp2_with fail
  refine (hP _).mono ?_
  rintro e w1 ⟨rfl, hb1⟩
  go_wp2_with fail
  refine (hI _).mono ?_
  rintro e w2 ⟨rfl, hw2⟩
  have hb2 : Below w1.heap.size w1 w2 := by
    rcases hw2 with rfl | ⟨t, rfl⟩
    · exact Below.refl _ _
    · exact bytes_below _ _
  go_wp2_with fail
  go_ret2
  exact ⟨rfl, below_step hb1 hb2⟩

set_option maxHeartbeats 1000000 in
theorem number_no (s : ByteArray) (hno : ∀ f v, Sign s f → ¬ NumAt s f v) (hm : s.size ≤ 281474976710656) (w : World) (hv : Vars w) :
    Calls Tryz.prog 117 #[.string s] w fun e w' => e = .returned (.tuple #[.int .i64 0, .bool false]) ∧ Below w.heap.size w w' := by
  obtain ⟨f, hs⟩ := sign_some s
  by_cases hp : PlainP s f
  · have hP := fun w => plain_any s f hs hp w
    have hr := parse_range s f hs hp (fun v => hno f v hs)
    clear hno hs hp
    go_enter Tryz.func117, Tryz.ntmps117
    go_wp2_with fail
    refine (hP _).mono ?_
    rintro e w1 ⟨rfl, hb1⟩
    obtain ⟨ev, hv1, hv2⟩ := hv.below hb1
    go_wp2_with fail
    refine (Tryz.strconv_ParseInt_10_at64_range s hm hr ev _ hv1 hv2).mono ?_
    rintro e w2 ⟨N, rfl, _, _, hb2⟩
    go_wp2_with fail
    go_ret2
    exact ⟨rfl, below_step hb1 hb2⟩
  · have hP := fun w => plain_no s f hs hp w
    clear hno hs hp
    go_enter Tryz.func117, Tryz.ntmps117
    go_wp2_with fail
    refine (hP _).mono ?_
    rintro e w1 ⟨rfl, hb1⟩
    go_wp2_with fail
    go_ret2
    exact ⟨rfl, hb1⟩

end Go.Proofs.YtkianldkbfjehaaGreatDoor

/- What words.Number and switchyardref03.Number answer, as a function of the text's bytes. -/
namespace Go.Proofs.YtkianldkbfjehaaGreatDoor
open Go.RowKit

def digAll (l : List UInt8) : Bool := l.all fun c => decide (48 ≤ c.toNat) && decide (c.toNat ≤ 57)
/-- the digits' part is in the one form -/
def formB (n : Nat) (ds : List UInt8) : Bool := !ds.isEmpty && !(decide (ds.head? = some 48) && decide (1 < n)) && digAll ds
def numL (l : List UInt8) : Option Int :=
  if l.head? = some 45 then
    if formB l.length l.tail then (if valL 0 l.tail ≤ 9223372036854775808 then some (-(valL 0 l.tail : Int)) else none) else none
  else
    if formB l.length l then (if valL 0 l ≤ 9223372036854775807 then some (valL 0 l : Int) else none) else none

theorem digAll_iff (l : List UInt8) : digAll l = true ↔ DigL l := by
  simp [digAll, DigL]
theorem digs_iff (s : ByteArray) (f : Nat) : Digs s f s.size ↔ DigL (s.data.toList.drop f) := by
  refine ⟨digs_list s f, fun h j h1 h2 => ?_⟩
  have hl := Lib.size_eq s
  rw [byteAt_list s j (by omega)]
  have hm : s.data.toList[j]'(by omega) ∈ s.data.toList.drop f := by
    rw [List.mem_iff_getElem]
    refine ⟨j - f, by rw [List.length_drop]; omega, ?_⟩
    rw [List.getElem_drop]
    congr 1; omega
  have := h _ hm
  omega
theorem plain_iff (s : ByteArray) (f : Nat) : PlainP s f ↔ formB s.data.toList.length (s.data.toList.drop f) = true := by
  have hl := Lib.size_eq s
  have h1 : (s.data.toList.drop f).isEmpty = false ↔ f < s.size := by
    rw [List.isEmpty_eq_false_iff, ne_eq, List.drop_eq_nil_iff]; omega
  have h2 : f < s.size → ((s.data.toList.drop f).head? = some 48 ↔ byteAt s f = 48) := fun h => by
    rw [List.drop_eq_getElem_cons (by omega), byteAt_list s f (by omega)]
    simp [← UInt8.toNat_inj]
    omega
  unfold PlainP formB
  rw [digs_iff]
  simp only [Bool.and_eq_true, Bool.not_eq_true', digAll_iff, h1, Bool.and_eq_false_iff, decide_eq_false_iff_not]
  constructor
  · rintro ⟨a, b, c⟩
    refine ⟨⟨a, ?_⟩, c⟩
    by_cases e : 1 < s.size
    · exact .inl fun e' => b ⟨(h2 a).1 e', e⟩
    · exact .inr (by omega)
  · rintro ⟨⟨a, b⟩, c⟩
    refine ⟨a, fun e => ?_, c⟩
    rcases b with b | b
    · exact b ((h2 a).2 e.1)
    · omega
theorem sign_head (s : ByteArray) : (s.data.toList.head? = some 45 ∧ Sign s 1) ∨ (s.data.toList.head? ≠ some 45 ∧ Sign s 0) := by
  have hl := Lib.size_eq s
  have h1 : s.data.toList.head? = some 45 ↔ (0 < s.size ∧ byteAt s 0 = 45) := by
    cases hc : s.data.toList with
    | nil => rw [hc, List.length_nil] at hl; simp; omega
    | cons c r =>
      have hb0 : byteAt s 0 = (c.toNat : Int) := by
        rw [byteAt_list s 0 (by rw [hc]; simp)]; simp [hc]
      rw [hc, List.length_cons] at hl
      simp [hb0, ← UInt8.toNat_inj]
      omega
  by_cases h : 0 < s.size ∧ byteAt s 0 = 45
  · exact .inl ⟨h1.2 h, .inl ⟨rfl, h.1, h.2⟩⟩
  · exact .inr ⟨fun e => h (h1.1 e), .inr ⟨rfl, h⟩⟩
theorem val_eq (s : ByteArray) (f : Nat) (hp : PlainP s f) : (valL 0 (s.data.toList.drop f) : Int) = valU s f (s.size - f) := by
  have hv := valL_valU s f hp.2.2 (Nat.le_of_lt hp.1) (s.size - f) 0 (by have := hp.1; omega)
  rw [show (valU s f 0).toNat = 0 from rfl, Nat.add_zero, Nat.zero_add] at hv
  exact hv
theorem sign_one (s : ByteArray) (f g : Nat) (h : Sign s f) (h' : Sign s g) : f = g := by
  rcases h with ⟨rfl, a, b⟩ | ⟨rfl, a⟩ <;> rcases h' with ⟨rfl, c, d⟩ | ⟨rfl, c⟩
  · rfl
  · exact absurd ⟨a, b⟩ c
  · exact absurd ⟨c, d⟩ a
  · rfl

theorem numL_some (s : ByteArray) (v : Int) (h : numL s.data.toList = some v) : ∃ f, Sign s f ∧ NumAt s f v := by
  unfold numL at h
  rcases sign_head s with ⟨h1, h2⟩ | ⟨h1, h2⟩
  · rw [if_pos h1] at h
    split at h
    · rename_i hf
      split at h
      · rename_i hb
        rw [← List.drop_one] at hf hb h
        have hp := (plain_iff s 1).2 hf
        have hv := val_eq s 1 hp
        injection h with h
        exact ⟨1, h2, (numAt_iff s 1 v).2 ⟨hp, .inl ⟨rfl, by omega, by omega⟩⟩⟩
      · cases h
    · cases h
  · rw [if_neg h1] at h
    split at h
    · rename_i hf
      split at h
      · rename_i hb
        have hp := (plain_iff s 0).2 (by rw [List.drop_zero]; exact hf)
        have hv := val_eq s 0 hp
        rw [List.drop_zero] at hv
        injection h with h
        exact ⟨0, h2, (numAt_iff s 0 v).2 ⟨hp, .inr ⟨rfl, by omega, by omega⟩⟩⟩
      · cases h
    · cases h
theorem numL_of (s : ByteArray) (f : Nat) (v : Int) (hs : Sign s f) (h : NumAt s f v) : numL s.data.toList = some v := by
  rw [numAt_iff] at h
  obtain ⟨hp, hv⟩ := h
  have he := val_eq s f hp
  have hf := (plain_iff s f).1 hp
  unfold numL
  rcases sign_head s with ⟨h1, h2⟩ | ⟨h1, h2⟩
  · obtain rfl := sign_one s f 1 hs h2
    rcases hv with ⟨_, a, b⟩ | ⟨e, _⟩
    · rw [if_pos h1, ← List.drop_one, if_pos hf, if_pos (by omega)]
      congr 1; omega
    · cases e
  · obtain rfl := sign_one s f 0 hs h2
    rcases hv with ⟨e, _⟩ | ⟨_, a, b⟩
    · cases e
    · rw [List.drop_zero] at hf he
      rw [if_neg h1, if_pos hf, if_pos (by omega)]
      congr 1; omega
theorem numL_none (s : ByteArray) (h : numL s.data.toList = none) : ∀ f v, Sign s f → ¬ NumAt s f v := fun f v hs hn => by
  rw [numL_of s f v hs hn] at h; cases h

theorem number_some (s : ByteArray) (v : Int) (h : numL s.data.toList = some v) (hm : s.size ≤ 9223372036854775806) (w : World) :
    Calls Tryz.prog 117 #[.string s] w fun e w' => e = .returned (.tuple #[.int .i64 v, .bool true]) ∧ Below w.heap.size w w' := by
  obtain ⟨f, hs, hn⟩ := numL_some s v h
  exact number_yes s f v hs hn hm w
/-- the number beside the answer -/
def numV (l : List UInt8) : Int := (numL l).getD 0
theorem number_any (s : ByteArray) (hm : s.size ≤ 281474976710656) (w : World) (hv : Vars w) :
    Calls Tryz.prog 117 #[.string s] w fun e w' => e = .returned (.tuple #[.int .i64 (numV s.data.toList), .bool (numL s.data.toList).isSome]) ∧ Below w.heap.size w w' := by
  unfold numV
  cases h : numL s.data.toList with
  | none => exact number_no s (numL_none s h) hm w hv
  | some v => exact number_some s v h (by omega) w
theorem refNumber_any (s : ByteArray) (hm : s.size ≤ 281474976710656) (w : World) :
    Calls Tryz.prog 121 #[.string s] w fun e w' => e = .returned (.tuple #[.int .i64 (numV s.data.toList), .bool (numL s.data.toList).isSome]) ∧ w' = w := by
  unfold numV
  cases h : numL s.data.toList with
  | none => exact refNumber_no s w (by omega) (numL_none s h)
  | some v =>
    obtain ⟨f, hs, hn⟩ := numL_some s v h
    obtain ⟨h1, h2, h3, h4⟩ := hn
    rcases hs with ⟨rfl, a, b⟩ | ⟨rfl, a⟩
    · rcases h4 with ⟨_, c, d⟩ | ⟨e, _⟩
      · exact refNumber_neg_yes s v w (by omega) h1 b (fun e => h2 ⟨e, h1⟩) h3 c d
      · cases e
    · rcases h4 with ⟨e, _⟩ | ⟨_, c, d⟩
      · cases e
      · exact refNumber_pos_yes s v w (by omega) h1 (fun e => a ⟨h1, e⟩) h2 h3 c d

end Go.Proofs.YtkianldkbfjehaaGreatDoor

/- What strings.Cut answers at a text of one byte, for every text; strings.Clone. -/
namespace Go.Proofs.YtkianldkbfjehaaGreatDoor
open Go.RowKit

theorem indexByte_at (c : UInt8) (b : List UInt8) : ∀ a : List UInt8, (∀ x ∈ a, x ≠ c) → Lib.indexByte (a ++ c :: b) c = a.length
  | [], _ => by simp [Lib.indexByte]
  | x :: a, h => by
    have ih := indexByte_at c b a fun y hy => h y (by simp [hy])
    have hx : x ≠ c := h x (by simp)
    rw [List.cons_append, Lib.indexByte, ih]
    have h1 : (x == c) = false := by simpa using hx
    have h2 : ((a.length : Int) == -1) = false := by simp
    rw [h1, h2]
    simp
theorem indexByte_not (c : UInt8) : ∀ a : List UInt8, (∀ x ∈ a, x ≠ c) → Lib.indexByte a c = -1
  | [], _ => rfl
  | x :: a, h => by
    have ih := indexByte_not c a fun y hy => h y (by simp [hy])
    have hx : x ≠ c := h x (by simp)
    rw [Lib.indexByte, ih]
    have h1 : (x == c) = false := by simpa using hx
    rw [h1]; rfl

theorem toList_eq' (s : ByteArray) : s.toList = s.data.toList := ByteArray.toList_eq s

/-- a text of one byte -/
def one (c : UInt8) : ByteArray := ⟨#[c]⟩
theorem one_size (c : UInt8) : (one c).size = 1 := rfl
theorem one_at (c : UInt8) : (((one c)[0]'(by rw [one_size]; decide)).toNat : Int) = (c.toNat : Int) := rfl
theorem byte_back (c : UInt8) : ((c.toNat : Int)).toNat.toUInt8 = c := by simp

set_option maxHeartbeats 1000000 in
theorem index_one (s : ByteArray) (c : UInt8) (w : World) :
    Calls Tryz.prog 131 #[.string s, .string (one c)] w fun e w' => e = .returned (.int .i64 (Lib.indexByte s.data.toList c)) ∧ w' = w := by
  unfold one
  go_enter Tryz.func131, Tryz.ntmps131
  go_wp2_with fail
  · rename_i hq
    have hq' : s.data.toList = [c] := by rw [← toList_eq']; simpa using (eq_of_beq hq).symm
    go_ret
    refine ⟨?_, rfl⟩
    rw [hq']
    simp [Lib.indexByte]
  · rw [show (((⟨#[c]⟩ : ByteArray)[0]'(Nat.zero_lt_one)).toNat : Int) = (c.toNat : Int) from rfl]
    refine (Tryz.stringslite_IndexByte _ _ _).mono ?_
    rintro e w1 ⟨rfl, rfl⟩
    rw [byte_back]
    go_wp2_with fail
    go_ret
    exact ⟨rfl, rfl⟩

theorem cut_parts (s : ByteArray) (a b : List UInt8) (c : UInt8) (h : s.data.toList = a ++ c :: b) :
    a.length < s.size ∧ s.extract 0 a.length = bytesOf a ∧ s.extract (a.length + 1) s.size = bytesOf b := by
  have hl : s.size = a.length + (b.length + 1) := by
    rw [Lib.size_eq, h]; simp
  refine ⟨by omega, ?_, ?_⟩
  · rw [extract_piece]; unfold piece; rw [h]; simp
  · rw [extract_piece]; unfold piece; rw [h, hl]
    simp
    rw [show a.length + (b.length + 1) - (a.length + 1) = b.length by omega, List.take_length]

set_option maxHeartbeats 1000000 in
theorem scut_yes (s : ByteArray) (a b : List UInt8) (c : UInt8) (h : s.data.toList = a ++ c :: b) (ha : ∀ x ∈ a, x ≠ c) (w : World) (hs : s.size ≤ 9223372036854775807) :
    Calls Tryz.prog 125 #[.string s, .string (one c)] w fun e w' => e = .returned (.tuple #[.string (bytesOf a), .string (bytesOf b), .bool true]) ∧ ∃ m, w' = w.drewN m := by
  obtain ⟨h1, h2, h3⟩ := cut_parts s a b c h
  have hi : Lib.indexByte s.data.toList c = a.length := by rw [h]; exact indexByte_at c b a ha
  clear h ha
  have h4 := one_size c
  generalize a.length = k at *
  have hI := fun w => index_one s c w
  rw [hi] at hI
  clear hi
  generalize hp : one c = p at *
  go_enter Tryz.func125, Tryz.ntmps125
  go_wp2_with fail
  refine (hI _).mono ?_
  rintro e w1 ⟨rfl, rfl⟩
  have hx0 : (0 : Int) ≤ (k : Int) := by omega
  go_wp2_with fail
  go_quiet (fail)
  go_wp2_with fail
  go_ret3
  exact ⟨rfl, nq, rfl⟩

set_option maxHeartbeats 1000000 in
theorem scut_no (s : ByteArray) (c : UInt8) (h : ∀ x ∈ s.data.toList, x ≠ c) (w : World) :
    Calls Tryz.prog 125 #[.string s, .string (one c)] w fun e w' => e = .returned (.tuple #[.string s, .string ⟨#[]⟩, .bool false]) ∧ w' = w := by
  have hI := fun w => index_one s c w
  rw [indexByte_not c _ h] at hI
  clear h
  generalize hp : one c = p at *
  go_enter Tryz.func125, Tryz.ntmps125
  go_wp2_with fail
  refine (hI _).mono ?_
  rintro e w1 ⟨rfl, rfl⟩
  go_wp2_with fail
  go_ret3
  exact ⟨rfl, rfl⟩

set_option maxHeartbeats 1000000 in
theorem cut_yes (s : ByteArray) (a b : List UInt8) (c : UInt8) (h : s.data.toList = a ++ c :: b) (ha : ∀ x ∈ a, x ≠ c) (w : World) (hs : s.size ≤ 9223372036854775807) :
    Calls Tryz.prog 107 #[.string s, .string (one c)] w fun e w' => e = .returned (.tuple #[.string (bytesOf a), .string (bytesOf b), .bool true]) ∧ ∃ m, w' = w.drewN m := by
  have hI := fun w => scut_yes s a b c h ha w hs
  clear h ha
  generalize hp : one c = p at *
  go_enter Tryz.func107, Tryz.ntmps107
  go_wp2_with fail
  refine (hI _).mono ?_
  rintro e w1 ⟨rfl, m, rfl⟩
  go_wp2_with fail
  go_ret3
  exact ⟨rfl, m, rfl⟩

set_option maxHeartbeats 1000000 in
theorem cut_no (s : ByteArray) (c : UInt8) (h : ∀ x ∈ s.data.toList, x ≠ c) (w : World) :
    Calls Tryz.prog 107 #[.string s, .string (one c)] w fun e w' => e = .returned (.tuple #[.string s, .string ⟨#[]⟩, .bool false]) ∧ w' = w := by
  have hI := fun w => scut_no s c h w
  clear h
  generalize hp : one c = p at *
  go_enter Tryz.func107, Tryz.ntmps107
  go_wp2_with fail
  refine (hI _).mono ?_
  rintro e w1 ⟨rfl, rfl⟩
  go_wp2_with fail
  go_ret3
  exact ⟨rfl, rfl⟩

set_option maxHeartbeats 1000000 in
theorem clone_any (s : ByteArray) (w : World) (hs : s.size ≤ 281474976710656) :
    Calls Tryz.prog 62 #[.string s] w fun e w' => e = .returned (.string s) ∧ Below w.heap.size w w' := by
  go_enter Tryz.func62, Tryz.ntmps62
  go_wp2_with fail
  refine (Tryz.stringslite_Clone _ _ hs).mono ?_
  rintro e w1 ⟨rfl, hb⟩
  go_wp2_with fail
  go_ret
  exact ⟨rfl, hb⟩

end Go.Proofs.YtkianldkbfjehaaGreatDoor
