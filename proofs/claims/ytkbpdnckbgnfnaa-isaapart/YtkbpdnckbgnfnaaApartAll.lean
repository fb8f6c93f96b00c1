/- The law IsaApart answers true, for every two instructions: its cases together. -/
import Derived.Test.YtkbpdnckbgnfnaaApartWalk
namespace Go.Proofs.Ytkbpdnckbgnfnaa
open Go.RowKit

theorem lawApart_nat (o p : Nat) (a b n c d m : Int) (w : World) (ho : o ≤ 255) (ha : 0 ≤ a ∧ a ≤ 255) (hb : 0 ≤ b ∧ b ≤ 255) (hn : -2147483648 ≤ n ∧ n ≤ 2147483647) (hp : p ≤ 255) (hc : 0 ≤ c ∧ c ≤ 255) (hd : 0 ≤ d ∧ d ≤ 255) (hm : -2147483648 ≤ m ∧ m ≤ 2147483647) :
    Calls Try.prog 7 #[ins o a b n, ins p c d m] w fun e w' => e = .returned (.bool true) ∧ Below w.heap.size w w' := by
  cases h1 : rightB o a b n
  · exact apart_no1 o p a b n c d m w ho ha hb hp hc hd h1
  · cases h2 : rightB p c d m
    · exact apart_no2 o p a b n c d m w ha hb hp hc hd h1 h2
    · have r1 := (rightB_parts h1).1
      have r2 := (rightB_parts h2).1
      exact apart_both o p (lenN o) (lenN p) a b n c d m (encL o a b n) (encL p c d m) w (lenN_in o r1.1 r1.2).2 (lenN_in p r2.1 r2.2).2 (encL_length o a b n r1.2) (encL_length p c d m r2.2)
        (fun w => encode_yes o a b n w ha hb h1) (fun w => encode_yes p c d m w hc hd h2) (fun hne => apart_ne h1 h2 hn hm hne)

theorem lawApart_any (o p a b n c d m : Int) (w : World) (ho : 0 ≤ o ∧ o ≤ 255) (ha : 0 ≤ a ∧ a ≤ 255) (hb : 0 ≤ b ∧ b ≤ 255) (hn : -2147483648 ≤ n ∧ n ≤ 2147483647) (hp : 0 ≤ p ∧ p ≤ 255) (hc : 0 ≤ c ∧ c ≤ 255) (hd : 0 ≤ d ∧ d ≤ 255) (hm : -2147483648 ≤ m ∧ m ≤ 2147483647) :
    Calls Try.prog 7 #[ins o a b n, ins p c d m] w fun e w' => e = .returned (.bool true) ∧ Below w.heap.size w w' := by
  obtain ⟨o, rfl⟩ := Int.eq_ofNat_of_zero_le ho.1
  obtain ⟨p, rfl⟩ := Int.eq_ofNat_of_zero_le hp.1
  exact lawApart_nat o p a b n c d m w (by omega) ha hb hn (by omega) hc hd hm
end Go.Proofs.Ytkbpdnckbgnfnaa
