/- What switchyardref03.blank and Name answer, for every byte, every text. -/
import Derived.Test.YtgblohjdiheemaaGreatKac
import Derived.Deep.Light
namespace Go.Proofs.YtgblohjdiheemaaGreat
open Go.RowKit

set_option maxHeartbeats 2000000 in
theorem refName_yes (s : ByteArray) (w : World) (hs : s.size ≤ 9223372036854775807) (h : NameP s) :
    Calls Tryz.prog 63 #[.string s] w fun e w' => e = .returned (.bool true) ∧ w' = w := by
  have HP : Hid (∀ k, k < s.size → okAt k (byteAt s k)) := h.1
  have h1 := h.2.1
  have h2 := h.2.2
  clear h
  go_enter Tryz.func63, Tryz.ntmps63
  go_wp2
  go_loop [3] (fun i => ∃ k : Nat, k ≤ s.size ∧ i = .int .i64 k) (fun i => s.size - (intOf i).toNat)
  case atStart => exact ⟨0, Nat.zero_le _, rfl⟩
  case round =>
    obtain ⟨k, hk, rfl⟩ := hrel
    by_cases hlt : k < s.size
    · have hb := byteAt_eq s k hlt
      have hi := byteAt_in s k
      have hok := HP.out k hlt
      generalize byteAt s k = z at *
      unfold okAt at hok
      go_wp2
      all_goals
        first
        | (go_round
           case rel => exact ⟨k + 1, by omega, by go_num⟩
           case measure => simp [intOf]; omega)
        | (exfalso
           go_light
           simp at *
           omega)
    · go_wp2
      go_ret
      exact ⟨rname_ret (by simp; omega), rfl⟩

set_option maxHeartbeats 2000000 in
theorem refName_no (s : ByteArray) (w : World) (hs : s.size ≤ 9223372036854775807) (h : ¬ NameP s) :
    Calls Tryz.prog 63 #[.string s] w fun e w' => e = .returned (.bool false) ∧ w' = w := by
  have HP : Hid (¬ NameP s) := h
  clear h
  go_enter Tryz.func63, Tryz.ntmps63
  go_wp2
  go_loop [3] (fun i => ∃ k : Nat, k ≤ s.size ∧ i = .int .i64 k ∧ ∀ j, j < k → okAt j (byteAt s j)) (fun i => s.size - (intOf i).toNat)
  case atStart => exact ⟨0, Nat.zero_le _, rfl, fun j hj => absurd hj (Nat.not_lt_zero _)⟩
  case round =>
    obtain ⟨k, hk, rfl, hall⟩ := hrel
    have HA : Hid (∀ j, j < k → okAt j (byteAt s j)) := hall
    clear hall
    by_cases hlt : k < s.size
    · have hb := byteAt_eq s k hlt
      have hi := byteAt_in s k
      by_cases hok : okAt k (byteAt s k)
      · have HB : Hid (∀ j, j < k + 1 → okAt j (byteAt s j)) := fun j hj => by
          by_cases e : j = k
          · subst e; exact hok
          · exact HA.out j (by omega)
        generalize byteAt s k = z at *
        unfold okAt at hok
        go_wp2
        all_goals
          first
          | (go_round
             case rel => exact ⟨k + 1, by omega, by go_num, HB.out⟩
             case measure => simp [intOf]; omega)
          | (exfalso
             go_light
             simp at *
             omega)
      · generalize byteAt s k = z at *
        unfold okAt at hok
        go_wp2
        all_goals
          first
          | (go_ret
             exact ⟨rfl, rfl⟩)
          | (exfalso
             go_light
             simp at *
             omega)
    · have hend := end_of s k HA.out (by omega) HP.out
      go_wp2
      all_goals
        go_ret
        exact ⟨rname_ret (by first | (simp; done) | (simp; omega)), rfl⟩

end Go.Proofs.YtgblohjdiheemaaGreat
