/- What switchyardref01.digit and Unhex answer: for every byte, every text. -/
import Derived.Test.YtmhdiicljnjmcaaUnhex
import Derived.Test.YtmhdiicljnjmcaaRefHex
namespace Go.Proofs.Ytmhdiicljnjmcaa
open Go.RowKit

def rd (c : Int) : Int := if isDig c = true then hv c else 16
theorem rd_bd (c : Int) : 0 ≤ rd c ∧ rd c ≤ 16 := by
  unfold rd; split
  · next h => have := hv_bd h; omega
  · omega
theorem rd_hit {c : Int} {k : Nat} (hk : k < 16) (h : hd k = c) : rd c = k := by
  have hb : (0 : Int) ≤ (k : Int) ∧ (k : Int) ≤ 15 := by omega
  subst h
  rw [rd, if_pos (hd_dig hb), hv_hd hb]
theorem rd_miss {c : Int} (h : ∀ j : Nat, j < 16 → hd j ≠ c) : rd c = 16 := by
  rw [rd, if_neg]
  intro hd'
  have hb := hv_bd hd'
  have := h (hv c).toNat (by omega)
  rw [Int.toNat_of_nonneg hb.1, hd_hv hd'] at this
  exact this rfl
theorem ret_int1 {k : IntKind} {a b : Int} (h : a = b) : Ending.returned (.int k a) = .returned (.int k b) := by rw [h]

set_option maxHeartbeats 400000 in
theorem refDigit_any (c : Int) (w : World) :
    Calls Try.prog 31 #[.int .u8 c] w fun e w' => e = .returned (.int .i64 (rd c)) ∧ w' = w := by
  go_enter Try.func31, Try.ntmps31
  go_wp2
  go_loop [3] (fun i => ∃ k : Nat, k ≤ 16 ∧ i = .int .i64 k ∧ Hid (∀ j : Nat, j < k → hd j ≠ c)) (fun i => 16 - (intOf i).toNat)
  case atStart => exact ⟨0, Nat.zero_le _, rfl, fun j hj => absurd hj (Nat.not_lt_zero _)⟩
  case round =>
    obtain ⟨k, hk, rfl, HS⟩ := hrel
    by_cases hlt : k < 16
    · have i1 : ∀ h, ((((⟨#[48, 49, 50, 51, 52, 53, 54, 55, 56, 57, 97, 98, 99, 100, 101, 102]⟩ : ByteArray)[k]'h).toNat : Nat) : Int) = hd k := fun h => idx_hd_nat k h
      cases hb : (hd k == c)
      · go_wp2
        go_round
        case rel => exact ⟨k + 1, by omega, by go_num, fun j hj => by
          by_cases e : j = k
          · subst e; simpa using hb
          · exact HS.out j (by omega)⟩
        case measure => simp [intOf]; omega
      · go_wp2
        go_ret
        exact ⟨ret_int1 (rd_hit hlt (by simpa using hb)).symm, rfl⟩
    · go_wp2
      go_ret
      exact ⟨ret_int1 (rd_miss (fun j hj => HS.out j (by omega))).symm, rfl⟩

/-- pairs of digits, the first k of them -/
def pairsL (cs : List Int) (k : Nat) : List Int := (List.range k).map fun j => 16 * hv (cs.getD (2 * j) 0) + hv (cs.getD (2 * j + 1) 0)
theorem pairsL_succ (cs : List Int) (k : Nat) : pairsL cs (k + 1) = pairsL cs k ++ [16 * hv (cs.getD (2 * k) 0) + hv (cs.getD (2 * k + 1) 0)] := by
  simp [pairsL, List.range_succ]
theorem pairsL_length (cs : List Int) (k : Nat) : (pairsL cs k).length = k := by simp [pairsL]
theorem pairsL_end {cs : List Int} (h : Good cs) : pairsL cs (cs.length / 2) = unhexB cs := by
  refine list_ext_getD (by rw [pairsL_length, unhexB_length]) fun j => ?_
  by_cases hj : j < cs.length / 2
  · rw [unhexB_getD cs h j (by omega)]
    simp [pairsL, List.getD, hj]
  · simp [List.getD, List.getElem?_eq_none (show (pairsL cs (cs.length / 2)).length ≤ j by rw [pairsL_length]; omega), List.getElem?_eq_none (show (unhexB cs).length ≤ j by rw [unhexB_length]; omega)]

def RefPost (cs : List Int) (w : World) (e : Ending) (w' : World) : Prop :=
  (Good cs ∧ ∃ v, e = .returned (.tuple #[v, .bool true]) ∧ OwnV w' w.heap.size v (unhexB cs) ∧ Below w.heap.size w w') ∨
  (¬ Good cs ∧ e = .returned (.tuple #[.slice none 0 0, .bool false]) ∧ Below w.heap.size w w')

set_option maxHeartbeats 1000000 in
theorem refUnhex_any (s : ByteArray) (w : World) (hs : s.size ≤ 140737488355328) :
    Calls Try.prog 23 #[.string s] w fun e w' => RefPost (codes s) w e w' := by
  go_enter Try.func23, Try.ntmps23
  go_wp2
  go_loopw [4, 5] (fun v i wr => ∃ k : Nat, 2 * k ≤ s.size + 1 ∧ i = .int .i64 (2 * k) ∧ OwnV wr w.heap.size v (pairsL (codes s) k) ∧ Below w.heap.size w wr ∧ 2 * k ≤ s.size ∧ Hid (∀ j, j < 2 * k → isDig ((codes s).getD j 0) = true)) (fun _ i _ => s.size + 1 - (intOf i).toNat)
  case atStart => exact ⟨0, by omega, rfl, OwnV.nil _ _, Below.refl _ _, by omega, fun j hj => absurd hj (Nat.not_lt_zero _)⟩
  case round =>
    obtain ⟨k, _, rfl, hown, hbk, hk, HD⟩ := hrel
    have hsz := hbk.size
    by_cases hlt : 2 * k < s.size
    · by_cases hodd : 2 * k + 1 = s.size
      · have HG : Hid (¬ Good (codes s)) := fun hg => by have := hg.1; rw [codes_length] at this; omega
        have hq : ((2 * (k : Int) + 1) == (s.size : Int)) = true := by rw [beq_iff_eq]; omega
        go_wp2
        go_ret2
        exact .inr ⟨HG.out, rfl, hbk⟩
      · have hlt2 : 2 * k + 1 < s.size := by omega
        have hq : ((2 * (k : Int) + 1) == (s.size : Int)) = false := by rw [beq_eq_false_iff_ne]; omega
        have i0 : ∀ h, ((s[2 * k]'h).toNat : Int) = (codes s).getD (2 * k) 0 := fun h => (codes_getD s (2 * k) h).symm
        have i1 : ∀ h, ((s[2 * k + 1]'h).toNat : Int) = (codes s).getD (2 * k + 1) 0 := fun h => (codes_getD s (2 * k + 1) h).symm
        have hl := codes_length s
        have hpl : (pairsL (codes s) k).length + 1 ≤ 140737488355328 := by rw [pairsL_length]; omega
        by_cases g0 : isDig ((codes s).getD (2 * k) 0) = true
        · by_cases g1 : isDig ((codes s).getD (2 * k + 1) 0) = true
          · have HD2 : Hid (∀ j, j < 2 * (k + 1) → isDig ((codes s).getD j 0) = true) := fun j hj => by
              rcases (show j < 2 * k ∨ j = 2 * k ∨ j = 2 * k + 1 by omega) with e | e | e
              · exact HD.out j e
              · rw [e]; exact g0
              · rw [e]; exact g1
            have b0 := hv_bd g0
            have b1 := hv_bd g1
            have r0 : rd ((codes s).getD (2 * k) 0) = hv ((codes s).getD (2 * k) 0) := by rw [rd, if_pos g0]
            have r1 : rd ((codes s).getD (2 * k + 1) 0) = hv ((codes s).getD (2 * k + 1) 0) := by rw [rd, if_pos g1]
            have HP := pairsL_succ (codes s) k
            clear g0 g1 HD hl
            generalize (codes s).getD (2 * k) 0 = c0 at *
            generalize (codes s).getD (2 * k + 1) 0 = c1 at *
            generalize hv c0 = d0 at *
            generalize hv c1 = d1 at *
            generalize pairsL (codes s) k = ys at *
            have HP' : Hid (pairsL (codes s) (k + 1) = ys ++ [16 * d0 + d1]) := HP
            clear HP
            have n0 : (d0 == 16) = false := by rw [beq_eq_false_iff_ne]; omega
            have n1 : (d1 == 16) = false := by rw [beq_eq_false_iff_ne]; omega
            go_wp2_with (go_at_call 31; refine (refDigit_any _ _).mono ?_; rintro e w' ⟨rfl, rfl⟩)
            have q0 : 0 ≤ 2 * (k : Int) ∧ 2 * (k : Int) < (s.size : Int) := by omega
            have q1 : 0 ≤ 2 * (k : Int) + 1 ∧ 2 * (k : Int) + 1 < (s.size : Int) := by omega
            have t0 : (2 * (k : Int)).toNat = 2 * k := by omega
            have t1 : (2 * (k : Int) + 1).toNat = 2 * k + 1 := by omega
            have fw1 : IntKind.i64.wrap (2 * (k : Int) + 1) = 2 * (k : Int) + 1 := by rw [IntKind.wrap_i64]; omega
            have fw2 : IntKind.i64.wrap (16 * d0) = 16 * d0 := by rw [IntKind.wrap_i64]; omega
            have fw3 : IntKind.i64.wrap (16 * d0 + d1) = 16 * d0 + d1 := by rw [IntKind.wrap_i64]; omega
            have fw4 : IntKind.u8.wrap (16 * d0 + d1) = 16 * d0 + d1 := by rw [IntKind.wrap_u8]; omega
            go_region_held3 (fun _ => True) (trivial) (first | (go_at_call 31; refine (refDigit_any _ _).mono ?_; rintro e w' ⟨rfl, rfl⟩) | (refine step_push _ (by rfl) _ _ (by rfl) w.heap.size _ ys (by rfl) (OwnV.drewN (hown.alloc _) 1) ⟨w'.heap.size, 0, none⟩ 1 1 [16 * d0 + d1] (by rfl) rfl (by decide) (World.news_of_block (cs := #[.int .u8 (16 * d0 + d1)]) (t := 5) (fr := (0, 0)) (heap_alloc_new w' _)) hpl (by simp; omega) ?_; intro v' w1 hown' _hgrow hbel; have hbw := hbel w ((hbk.alloc hsz _).drew)))
            all_goals
              clear i0 i1 r0 r1 n0 n1 q0 q1 t0 t1 fw1 fw2 fw3 fw4 hq
              go_wp2
              go_roundw
              case rel => exact ⟨k + 1, by omega, by go_num, by rw [HP'.out]; exact hown', hbw, by omega, HD2⟩
              case measure => simp [intOf]; omega
          · have HG : Hid (¬ Good (codes s)) := fun hg => g1 (hg.2 (2 * k + 1) (by omega))
            have b0 := hv_bd g0
            have r0 : rd ((codes s).getD (2 * k) 0) = hv ((codes s).getD (2 * k) 0) := by rw [rd, if_pos g0]
            have r1 : rd ((codes s).getD (2 * k + 1) 0) = 16 := by rw [rd, if_neg g1]
            clear g0 g1 HD hl
            generalize (codes s).getD (2 * k) 0 = c0 at *
            generalize (codes s).getD (2 * k + 1) 0 = c1 at *
            generalize hv c0 = d0 at *
            go_wp2_with (go_at_call 31; refine (refDigit_any _ _).mono ?_; rintro e w' ⟨rfl, rfl⟩)
            go_ret2
            exact .inr ⟨HG.out, rfl, hbk⟩
        · have HG : Hid (¬ Good (codes s)) := fun hg => g0 (hg.2 (2 * k) (by omega))
          have r0 : rd ((codes s).getD (2 * k) 0) = 16 := by rw [rd, if_neg g0]
          clear g0 HD hl
          generalize (codes s).getD (2 * k) 0 = c0 at *
          generalize (codes s).getD (2 * k + 1) 0 = c1 at *
          go_wp2_with (go_at_call 31; refine (refDigit_any _ _).mono ?_; rintro e w' ⟨rfl, rfl⟩)
          go_ret2
          exact .inr ⟨HG.out, rfl, hbk⟩
    · have hke : 2 * k = s.size := by omega
      have HG : Hid (Good (codes s)) := ⟨by rw [codes_length]; omega, fun j hj => HD.out j (by rw [codes_length] at hj; omega)⟩
      have HE : Hid (OwnV wr w.heap.size u4 (unhexB (codes s))) := by
        have := pairsL_end HG.out
        rw [codes_length, show s.size / 2 = k by omega] at this
        rw [← this]
        exact hown
      clear hown hke HD
      go_wp2
      go_ret2
      exact .inl ⟨HG.out, _, rfl, HE.out, hbk⟩


theorem refUnhex_yes (s : ByteArray) (w : World) (hs : s.size ≤ 140737488355328) (hg : Good (codes s)) :
    Calls Try.prog 23 #[.string s] w fun e w' => ∃ v, e = .returned (.tuple #[v, .bool true]) ∧ OwnV w' w.heap.size v (unhexB (codes s)) ∧ Below w.heap.size w w' := by
  refine (refUnhex_any s w hs).mono fun e w' h => ?_
  rcases h with ⟨_, h⟩ | ⟨h, _⟩
  · exact h
  · exact absurd hg h

theorem refUnhex_no (s : ByteArray) (w : World) (hs : s.size ≤ 140737488355328) (hg : ¬ Good (codes s)) :
    Calls Try.prog 23 #[.string s] w fun e w' => e = .returned (.tuple #[.slice none 0 0, .bool false]) ∧ Below w.heap.size w w' := by
  refine (refUnhex_any s w hs).mono fun e w' h => ?_
  rcases h with ⟨h, _⟩ | ⟨_, h⟩
  · exact absurd h hg
  · exact h

end Go.Proofs.Ytmhdiicljnjmcaa
