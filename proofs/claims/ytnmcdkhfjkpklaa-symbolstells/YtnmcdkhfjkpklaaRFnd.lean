/- switchyardref07.Find. -/
import Derived.Test.YtnmcdkhfjkpklaaFndW
namespace Go.Proofs.Ytnmcdkhfjkpklaa
open Go.RowKit

/-- the first that is meant, gone through -/
def fgoG (s : ByteArray) : List Sy → Option Int
  | [] => none
  | x :: L => if meantG s x = true then some x.at_ else fgoG s L
theorem fgo_eq (s : ByteArray) : ∀ L : List Sy, findG L s = fgoG s L
  | [] => rfl
  | x :: L => by
    rw [findG_eq, List.find?_cons]
    unfold fgoG
    by_cases hx : meantG s x = true
    · rw [if_pos hx, hx]; rfl
    · rw [if_neg hx, (by simpa using hx : meantG s x = false), ← fgo_eq s L, findG_eq]
theorem fgo_step (s : ByteArray) (L : List Sy) (k : Nat) (h : k < L.length) : fgoG s (L.drop k) = if meantG s L[k] = true then some L[k].at_ else fgoG s (L.drop (k + 1)) := by
  rw [List.drop_eq_getElem_cons h]; rfl

set_option maxRecDepth 20000 in
set_option maxHeartbeats 2000000 in
theorem refFind_any (p : Option Addr) (n c : Nat) (L : List Sy) (s : ByteArray) (w : World) (hn : L.length = n) (hn6 : n ≤ 9223372036854775807) (hr : Row3 w p (L.map syV)) :
    Calls Try.prog 21 #[.slice p n c, .string s] w fun E w' => E = .returned (.tuple #[.int .i64 ((findG L s).getD 0), .bool (findG L s).isSome]) ∧ w' = w := by
  have HN := Hid.in hn
  have HR := Hid.in hr
  clear hn hr
  obtain ⟨r, hr⟩ : ∃ r, findG L s = r := ⟨_, rfl⟩
  rw [hr]
  have HRR : Hid (fgoG s L = r) := by
    have h : fgoG s L = r := by rw [← fgo_eq]; exact hr
    exact h
  clear hr
  go_enter Try.func21, Try.ntmps21
  go_wp2_with fail
  go_loop [6] (fun vi => ∃ k : Nat, vi = .int .i64 k ∧ k ≤ n ∧ fgoG s L = fgoG s (L.drop k)) (fun vi => n - (intOf vi).toNat)
  case atStart => exact ⟨0, rfl, Nat.zero_le _, rfl⟩
  case round =>
    obtain ⟨k, rfl, hk, hgo⟩ := hrel
    have HGO := Hid.in hgo
    clear hgo
    by_cases hlt : k < n
    · have hkl : k < L.length := by rw [HN.out]; exact hlt
      obtain ⟨b, o, rfl, hc⟩ := HR.out (by rw [List.length_map]; omega)
      obtain ⟨c0, c1, c2⟩ := cells3 hc k (by rw [List.length_map]; exact hkl)
      simp only [List.getElem_map, syV] at c0 c1 c2
      have HST := Hid.in (fgo_step s L k hkl)
      clear hc
      generalize L[k] = x at *
      obtain ⟨sn, sa, sg⟩ := x
      simp only at c0 c1 c2
      cases sg with
      | false =>
        have HV : Hid (fgoG s L = fgoG s (L.drop (k + 1))) := by
          have h : fgoG s L = fgoG s (L.drop (k + 1)) := by rw [HGO.out, HST.out, if_neg (by simp [meantG])]
          exact h
        go_wp2_with fail
        go_round
        case rel => exact ⟨k + 1, by go_num, by omega, HV.out⟩
        case measure => simp [intOf]; omega
      | true =>
        by_cases hs : sn = s
        · have HV : Hid (r = some sa) := by
            have h : r = some sa := by rw [← HRR.out, HGO.out, HST.out, if_pos (by simp [meantG, hs])]
            exact h
          subst hs
          go_wp2_with fail
          go_ret2
          exact ⟨by rw [HV.out]; rfl, rfl⟩
        · have HV : Hid (fgoG s L = fgoG s (L.drop (k + 1))) := by
            have h : fgoG s L = fgoG s (L.drop (k + 1)) := by rw [HGO.out, HST.out, if_neg (by simp [meantG, hs])]
            exact h
          have hsl := text_ne7 hs
          have hsb : (sn.toList == s.toList) = false := by simpa using hsl
          have hsd : decide (sn.toList = s.toList) = false := decide_eq_false hsl
          go_wp2_with fail
          go_round
          case rel => exact ⟨k + 1, by go_num, by omega, HV.out⟩
          case measure => simp [intOf]; omega
    · have HV : Hid (r = none) := by
        have h : r = none := by rw [← HRR.out, HGO.out, List.drop_eq_nil_of_le (by rw [HN.out]; omega)]; rfl
        exact h
      go_wp2_with fail
      go_ret2
      exact ⟨by rw [HV.out]; rfl, rfl⟩

end Go.Proofs.Ytnmcdkhfjkpklaa
