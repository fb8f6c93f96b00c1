/- What the law IsaNames answers: true, for every op and every text. -/
import Derived.Test.YtkbpdnckbgnfnaaRefOps
import Derived.Test.YtkbpdnckbgnfnaaWake
namespace Go.Proofs.Ytkbpdnckbgnfnaa
open Go.RowKit

set_option maxHeartbeats 1000000 in
theorem lawNames_gen (o P : Int) (s S : ByteArray) (B : Bool) (w : World)
    (h1 : ∀ w, Calls Try.prog 21 #[.string s] w fun e w' => e = .returned (.tuple #[.int .u8 P, .bool B]) ∧ Below w.heap.size w w')
    (h2 : ∀ w, Calls Try.prog 22 #[.string s] w fun e w' => e = .returned (.tuple #[.int .u8 P, .bool B]) ∧ w' = w)
    (h3 : ∀ w, Calls Try.prog 23 #[.int .u8 o] w fun e w' => e = .returned (.string S) ∧ Below w.heap.size w w')
    (h4 : ∀ w, Calls Try.prog 24 #[.int .u8 o] w fun e w' => e = .returned (.string S) ∧ w' = w) :
    Calls Try.prog 5 #[.int .u8 o, .string s] w fun e w' => e = .returned (.bool true) ∧ Below w.heap.size w w' := by
  go_enter Try.func5, Try.ntmps5
  go_wp2_with fail
  refine (h1 _).mono ?_
  rintro e w1 ⟨rfl, hb1⟩
  go_wp2_with fail
  refine (h2 _).mono ?_
  rintro e w2 ⟨rfl, rfl⟩
  go_wp2_with fail
  refine (h3 _).mono ?_
  rintro e w3 ⟨rfl, hb3⟩
  go_wp2_with fail
  refine (h4 _).mono ?_
  rintro e w4 ⟨rfl, rfl⟩
  have hb4 := below_step hb1 hb3
  clear hb1 hb3 h1 h2 h3 h4
  go_wp2_with fail
  refine (awake_any _).mono ?_
  rintro e w5 ⟨rfl, hb5⟩
  go_wp2
  go_ret
  exact ⟨rfl, below_step hb4 hb5⟩

theorem names_op (o : Int) (h : 0 ≤ o ∧ o ≤ 255) : ∃ S, (∀ w, Calls Try.prog 23 #[.int .u8 o] w fun e w' => e = .returned (.string S) ∧ Below w.heap.size w w') ∧ ∀ w, Calls Try.prog 24 #[.int .u8 o] w fun e w' => e = .returned (.string S) ∧ w' = w := by
  obtain ⟨o, rfl⟩ := Int.eq_ofNat_of_zero_le h.1
  by_cases h1 : 1 ≤ o ∧ o < 17
  · exact ⟨nm o, fun w => name_yes o w h1.2, fun w => rname_yes o w h1.1 h1.2⟩
  · by_cases h0 : o = 0
    · subst h0
      exact ⟨⟨#[]⟩, fun w => name_yes 0 w (by decide), fun w => rname_no 0 w (.inl rfl)⟩
    · exact ⟨⟨#[]⟩, fun w => name_no o w (by omega) (by omega), fun w => rname_no o w (.inr (by omega))⟩

theorem names_text (s : ByteArray) : ∃ (P : Int) (B : Bool), (∀ w, Calls Try.prog 21 #[.string s] w fun e w' => e = .returned (.tuple #[.int .u8 P, .bool B]) ∧ Below w.heap.size w w') ∧ ∀ w, Calls Try.prog 22 #[.string s] w fun e w' => e = .returned (.tuple #[.int .u8 P, .bool B]) ∧ w' = w := by
  by_cases h : ∃ o, 1 ≤ o ∧ o < 17 ∧ nm o = s
  · obtain ⟨o, h1, h2, rfl⟩ := h
    exact ⟨o, true, fun w => opName_yes o w h1 h2, fun w => rop_yes o w h1 h2⟩
  · have hno : ∀ o, 1 ≤ o → o < 17 → nm o ≠ s := fun o h1 h2 h3 => h ⟨o, h1, h2, h3⟩
    exact ⟨0, false, fun w => opName_no s w hno, fun w => rop_no s w hno⟩

theorem lawNames_any (o : Int) (s : ByteArray) (w : World) (h : 0 ≤ o ∧ o ≤ 255) :
    Calls Try.prog 5 #[.int .u8 o, .string s] w fun e w' => e = .returned (.bool true) ∧ Below w.heap.size w w' := by
  obtain ⟨S, h3, h4⟩ := names_op o h
  obtain ⟨P, B, h1, h2⟩ := names_text s
  exact lawNames_gen o P s S B w h1 h2 h3 h4
end Go.Proofs.Ytkbpdnckbgnfnaa
