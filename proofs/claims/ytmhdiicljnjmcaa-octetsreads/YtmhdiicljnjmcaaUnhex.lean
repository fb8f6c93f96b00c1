/- What octets.Unhex answers, for every text. -/
import Derived.Test.YtmhdiicljnjmcaaDigs
import Derived.Lib.OthersKept
namespace Go.Proofs.Ytmhdiicljnjmcaa
open Go.RowKit

theorem digit_yes (r : Int) (w : World) (h : isDig r = true) :
    Calls Try.prog 28 #[.int .i32 r] w fun e w' => e = .returned (.tuple #[.int .u8 (hv r), .bool true]) ∧ w' = w := by
  rw [isDig_iff] at h
  rcases h with h | h
  · have e : hv r = r - 48 := by unfold hv; rw [if_pos h.2]
    rw [e]
    clear e
    go_enter Try.func28, Try.ntmps28
    go_wp2
    go_ret2
    exact ⟨rfl, rfl⟩
  · have e : hv r = r - 97 + 10 := by unfold hv; rw [if_neg (by omega)]; omega
    rw [e]
    clear e
    have hd : decide (r ≤ 57) = false := by simp; omega
    go_enter Try.func28, Try.ntmps28
    go_wp2
    go_ret2
    exact ⟨rfl, rfl⟩

theorem digit_no (r : Int) (w : World) (h : isDig r = false) :
    Calls Try.prog 28 #[.int .i32 r] w fun e w' => e = .returned (.tuple #[.int .u8 0, .bool false]) ∧ w' = w := by
  rw [isDig_no] at h
  by_cases a : 48 ≤ r
  · have b : decide (r ≤ 57) = false := by simp; omega
    by_cases c : 97 ≤ r
    · have d : decide (r ≤ 102) = false := by simp; omega
      go_enter Try.func28, Try.ntmps28
      go_wp2
      go_ret2
      exact ⟨rfl, rfl⟩
    · have d : decide (97 ≤ r) = false := by simp; omega
      go_enter Try.func28, Try.ntmps28
      go_wp2
      go_ret2
      exact ⟨rfl, rfl⟩
  · have b : decide (48 ≤ r) = false := by simp; omega
    have c : decide (97 ≤ r) = false := by simp; omega
    go_enter Try.func28, Try.ntmps28
    go_wp2
    go_ret2
    exact ⟨rfl, rfl⟩

theorem unhex_odd (s : ByteArray) (w : World) (hs : s.size ≤ 9223372036854775807) (h : s.size % 2 = 1) :
    Calls Try.prog 13 #[.string s] w fun e w' => e = .returned (.tuple #[.slice none 0 0, .bool false]) ∧ w' = w := by
  have hb : (((s.size : Int) % 2) != 0) = true := by rw [bne_iff_ne]; omega
  go_enter Try.func13, Try.ntmps13
  go_wp2
  go_ret2
  exact ⟨rfl, rfl⟩

/-- what Unhex leaves -/
def UnPost (cs : List Int) (w : World) (e : Ending) (w' : World) : Prop :=
  (Good cs ∧ ∃ g, e = .returned (.tuple #[.slice (some ⟨g, 0, none⟩) (cs.length / 2) (cs.length / 2), .bool true]) ∧ Own w' w.heap.size g (cs.length / 2) (unhexB cs) ∧ Below w.heap.size w w') ∨
  (¬ Good cs ∧ e = .returned (.tuple #[.slice none 0 0, .bool false]) ∧ Below w.heap.size w w')

theorem or_u8 (z d : Int) (hz : 0 ≤ z ∧ z ≤ 15) (hd : 0 ≤ d ∧ d ≤ 15) : bits .or .u8 (z * 16) d = z * 16 + d := by
  rw [u8_or (z * 16) d (by omega) (by omega) hd.1 (by omega)]
  obtain ⟨x, rfl⟩ := Int.eq_ofNat_of_zero_le hz.1
  obtain ⟨y, rfl⟩ := Int.eq_ofNat_of_zero_le hd.1
  rw [show ((x : Int) * 16).toNat = x * 2 ^ 4 by omega, Int.toNat_natCast, nat_join 4 (x * 2 ^ 4) y (Nat.mul_mod_left _ _) (by omega)]
  omega

theorem Own.iterAt {w : World} {B g cap k : Nat} {xs : List Int} {s : ByteArray} {p : Nat} (h : Own w B g cap xs) (hk : k ≠ g) : Own (w.iterAt k s p) B g cap xs := by
  obtain ⟨cur, h1, h2, h3, h4, h5, h6⟩ := h.parts
  exact Own.mk h1 (by rw [Lib.iterAt_other w k g s p (Ne.symm hk)]; exact h2) h3 h4 h5 h6

set_option maxHeartbeats 1000000 in
theorem unhex_even (s : ByteArray) (n : Nat) (w : World) (hs : s.size ≤ 281474976710656) (h : s.size = 2 * n) :
    Calls Try.prog 13 #[.string s] w fun e w' => UnPost (codes s) w e w' := by
  obtain ⟨i0, hi, hz0, hz1, hz2⟩ := info_parts Try.info5
  have HS : Hid (s.size = 2 * n) := h
  have hb : (((s.size : Int) % 2) != 0) = false := by simp; omega
  have hn : n ≤ 140737488355328 := by omega
  clear h
  go_enter Try.func13, Try.ntmps13
  go_wp2_with (at_make; refine wpList_make_full _ rfl _ _ 25 rfl _ 5 i0 (.int .u8 0) 1 Try.underlying25 hi hz0 hz1 _ _ _ _ n rfl rfl (by have := HS.out; omega) (by have := HS.out; omega) (by rw [hz2]; omega) (by unfold maxLen; omega) (Nat.le_refl _) ?_; intro w1 hown hgrow; have hb1 := (Below.refl w.heap.size w).grown hgrow (Nat.le_refl _) (by simp); have ho : Own w1 w.heap.size w.heap.size n (List.replicate n 0) := Own.of_made hown; clear hown hgrow)
  have hit : w1.heap.size ≠ w.heap.size := by have := ho.lt; omega
  have hb2 : Below w.heap.size w (w1.iter s 0) := below_alloc hb1 _
  have ho2 : Own (w1.iter s 0) w.heap.size w.heap.size n (List.replicate n 0) := ho.below (new_alloc _ _)
  have hsz1 : w.heap.size ≤ w1.heap.size := hb1.size
  have HI : Hid ((w1.iter s 0).heap[w1.heap.size]? = some (.stringIter s 0)) := World.iter_heap w1 s 0
  generalize hK : w1.heap.size = K at *
  clear hK
  go_loopw [5] (fun _ wr => ∃ k : Nat, k ≤ s.size ∧ Hid (wr.heap[K]? = some (.stringIter s k)) ∧ Own wr w.heap.size w.heap.size n (unTo (codes s) n k) ∧ Below w.heap.size w wr ∧ Hid (∀ j, j < k → isDig ((codes s).getD j 0) = true)) (fun _ wr => s.size - wr.iterPos K)
  case atStart => exact ⟨0, Nat.zero_le _, HI, by rw [unTo_zero]; exact ho2, hb2, fun j hj => absurd hj (Nat.not_lt_zero _)⟩
  case round =>
    obtain ⟨k, hk, HK, hok, hbk, HD⟩ := hrel
    clear HI ho2 hb2 ho hb1
    by_cases hlt : k < s.size
    · have hcd := codes_getD s k hlt
      by_cases hdig : isDig ((codes s).getD k 0) = true
      · have ha : (s[k]'hlt).toNat < 128 := by rw [isDig_iff] at hdig; omega
        have hnx := fun ty => Lib.run_next_ascii_at (P := Try.prog) wr K s k ty HK.out hlt ha
        have hsm := unTo_small (codes s) n k HD.out
        have hvb := hv_bd hdig
        have hok2 := hok.iterAt (s := s) (p := k + 1) hit
        have c1 := hok2.cell (k / 2) (by rw [unTo_length]; have := HS.out; omega)
        have f1 := hok2.free (k / 2)
        have HN : Hid (∀ z, z = (unTo (codes s) n k).getD (k / 2) 0 * 16 + hv ((codes s).getD k 0) → Own ((wr.iterAt K s (k + 1)).setCell ⟨w.heap.size, k / 2, none⟩ (.int .u8 z)) w.heap.size w.heap.size n (unTo (codes s) n (k + 1))) := by
          intro z hz
          rw [hz, ← unTo_step (codes s) n k (by have := HS.out; omega)]
          exact hok2.store _ _
        have HH : Hid ((wr.iterAt K s (k + 1)).heap[K]? = some (.stringIter s (k + 1))) := Lib.iterAt_heap wr K s k (k + 1) HK.out
        have hb3 : Below w.heap.size w (wr.iterAt K s (k + 1)) := Lib.below_iterAt hbk hsz1 s (k + 1)
        have HD2 : Hid (∀ j, j < k + 1 → isDig ((codes s).getD j 0) = true) := fun j hj => by
          by_cases e : j = k
          · subst e; exact hdig
          · exact HD.out j (by omega)
        have HP : Hid (wr.iterPos K = k) := iterPos_of HK.out
        have hrange : 48 ≤ (codes s).getD k 0 ∧ (codes s).getD k 0 ≤ 102 := by rw [isDig_iff] at hdig; omega
        rw [← hcd] at hnx
        clear hcd HD HK ha hbk hok hok2
        generalize (codes s).getD k 0 = c at hnx hdig hvb HN hrange
        generalize (unTo (codes s) n k).getD (k / 2) 0 = z at hsm c1 HN
        have hcall := fun wx => digit_yes c wx hdig
        have HC : Hid (∀ wx, Calls Try.prog 28 #[.int .i32 c] wx fun e w' => e = .returned (.tuple #[.int .u8 (hv c), .bool true]) ∧ w' = wx) := hcall
        clear hcall hdig
        generalize hv c = d at hvb HN HC
        have hor := or_u8 z d hsm hvb
        have hq : k / 2 < n := by have := HS.out; omega
        have hq2 : k < 2 * n := by have := HS.out; omega
        generalize wr.iterAt K s (k + 1) = w2 at *
        go_wp2_with (go_at_call 28; refine (HC.out _).mono ?_; rintro e w' ⟨rfl, rfl⟩)
        go_roundw
        case rel => exact ⟨k + 1, by omega, (heap_setCell_other _ _ K _ hit).trans HH.out, HN.out _ rfl, hb3.setCell (Nat.le_refl _) _, HD2⟩
        case measure =>
          rw [HP.out, iterPos_of ((heap_setCell_other _ _ K _ hit).trans HH.out)]
          omega
      · have hnd : isDig ((codes s).getD k 0) = false := by simpa using hdig
        have HG : Hid (¬ Good (codes s)) := fun hg => hdig (hg.2 k (by rw [codes_length]; exact hlt))
        have hnx := fun ty => Lib.run_next_any_at (P := Try.prog) wr K s k ty HK.out hlt
        have hrd : isDig ((Utf8.decode s k).1 : Int) = false := by
          by_cases ha : (s[k]'hlt).toNat < 128
          · rw [decode_ascii s k hlt ha, ← hcd]; exact hnd
          · have := (decode_high s k hlt (by omega)).1
            rw [isDig_no]; omega
        have hle := decode_le s k
        have hb3 : Below w.heap.size w (wr.iterAt K s (k + (Utf8.decode s k).2)) := Lib.below_iterAt hbk hsz1 s _
        have HC : Hid (∀ wx, Calls Try.prog 28 #[.int .i32 ((Utf8.decode s k).1 : Int)] wx fun e w' => e = .returned (.tuple #[.int .u8 0, .bool false]) ∧ w' = wx) := fun wx => digit_no _ wx hrd
        clear hcd HD HK hbk hok hnd hdig hrd
        generalize wr.iterAt K s (k + (Utf8.decode s k).2) = w2 at *
        generalize (Utf8.decode s k).1 = r at *
        go_wp2_with (go_at_call 28; refine (HC.out _).mono ?_; rintro e w' ⟨rfl, rfl⟩)
        go_ret2
        exact .inr ⟨HG.out, rfl, hb3⟩
    · have hnx := fun ty => Lib.run_next_end_at (P := Try.prog) wr K s k ty HK.out hlt
      obtain rfl : k = s.size := by omega
      have hlen := codes_length s
      have HG : Hid (Good (codes s)) := ⟨by rw [hlen]; have := HS.out; omega, fun j hj => HD.out j (by omega)⟩
      have HE : Hid (Own wr w.heap.size w.heap.size ((codes s).length / 2) (unhexB (codes s))) := by
        unfold unhexB
        rw [hlen, show s.size / 2 = n by have := HS.out; omega]
        exact hok
      have hl2 : (codes s).length / 2 = n := by rw [hlen]; have := HS.out; omega
      have HL : Hid ((codes s).length / 2 = n) := hl2
      clear hl2
      clear hlen HK hok HD
      go_wp2
      go_ret2
      exact .inl ⟨HG.out, w.heap.size, by rw [HL.out]; rfl, HE.out, hbk⟩

theorem unhex_any (s : ByteArray) (w : World) (hs : s.size ≤ 281474976710656) :
    Calls Try.prog 13 #[.string s] w fun e w' => UnPost (codes s) w e w' := by
  rcases Nat.mod_two_eq_zero_or_one s.size with h | h
  · exact unhex_even s (s.size / 2) w hs (by omega)
  · refine (unhex_odd s w (by omega) h).mono fun e w' ⟨he, hw⟩ => .inr ⟨fun hg => ?_, he, by rw [hw]; exact below_self w⟩
    have := hg.1
    rw [codes_length] at this
    omega

theorem unhex_yes (s : ByteArray) (w : World) (hs : s.size ≤ 281474976710656) (hg : Good (codes s)) :
    Calls Try.prog 13 #[.string s] w fun e w' => ∃ g, e = .returned (.tuple #[.slice (some ⟨g, 0, none⟩) (s.size / 2) (s.size / 2), .bool true]) ∧ Own w' w.heap.size g (s.size / 2) (unhexB (codes s)) ∧ Below w.heap.size w w' := by
  refine (unhex_any s w hs).mono fun e w' h => ?_
  rcases h with ⟨_, h⟩ | ⟨h, _⟩
  · rwa [codes_length] at h
  · exact absurd hg h

theorem unhex_no (s : ByteArray) (w : World) (hs : s.size ≤ 281474976710656) (hg : ¬ Good (codes s)) :
    Calls Try.prog 13 #[.string s] w fun e w' => e = .returned (.tuple #[.slice none 0 0, .bool false]) ∧ Below w.heap.size w w' := by
  refine (unhex_any s w hs).mono fun e w' h => ?_
  rcases h with ⟨h, _⟩ | ⟨_, h⟩
  · exact absurd h hg
  · exact h

end Go.Proofs.Ytmhdiicljnjmcaa
