/- What octets.Hex answers, for every slice of bytes. -/
import Derived.Test.YtmhdiicljnjmcaaPut
import Derived.Test.YtmhdiicljnjmcaaSame
namespace Go.Proofs.Ytmhdiicljnjmcaa
open Go.RowKit

/-- the sign of a digit -/
def hd (d : Int) : Int := if d < 10 then 48 + d else 87 + d
def hexL : List Int → List Int
  | [] => []
  | x :: xs => hd (x / 16) :: hd (x % 16) :: hexL xs
theorem hexL_length : ∀ xs : List Int, (hexL xs).length = 2 * xs.length
  | [] => rfl
  | x :: xs => by simp [hexL, hexL_length xs]; omega
theorem hexL_append : ∀ xs ys : List Int, hexL (xs ++ ys) = hexL xs ++ hexL ys
  | [], ys => rfl
  | x :: xs, ys => by simp [hexL, hexL_append xs ys]
def hexTo (xs : List Int) (k : Nat) : List Int := hexL (xs.take k) ++ List.replicate (2 * (xs.length - k)) 0
theorem hexTo_zero (xs : List Int) : hexTo xs 0 = List.replicate (2 * xs.length) 0 := by simp [hexTo, hexL]
theorem hexTo_end (xs : List Int) : hexTo xs xs.length = hexL xs := by simp [hexTo]
theorem hexTo_length (xs : List Int) (k : Nat) (h : k ≤ xs.length) : (hexTo xs k).length = 2 * xs.length := by
  simp [hexTo, hexL_length, Nat.min_eq_left h]; omega
theorem set_two (A : List Int) (m : Nat) (d e : Int) : ((A ++ List.replicate (m + 2) 0).set A.length d).set (A.length + 1) e = A ++ [d, e] ++ List.replicate m 0 := by
  rw [List.set_append_right _ _ (Nat.le_refl _), Nat.sub_self, List.replicate_succ, List.replicate_succ, List.set_cons_zero, List.set_append_right _ _ (by omega)]
  simp
theorem hexTo_step (xs : List Int) (k : Nat) (h : k < xs.length) : ((hexTo xs k).set (2 * k) (hd (xs.getD k 0 / 16))).set (2 * k + 1) (hd (xs.getD k 0 % 16)) = hexTo xs (k + 1) := by
  have hl : (hexL (xs.take k)).length = 2 * k := by rw [hexL_length, List.length_take]; omega
  have e := set_two (hexL (xs.take k)) (2 * (xs.length - (k + 1))) (hd (xs.getD k 0 / 16)) (hd (xs.getD k 0 % 16))
  rw [hl, show 2 * (xs.length - (k + 1)) + 2 = 2 * (xs.length - k) by omega] at e
  unfold hexTo
  rw [e, List.take_succ_eq_append_getElem h, hexL_append]
  simp [hexL, List.getD, h]

theorem idx_hd_nat : ∀ (d : Nat) (h : d < 16), ((((⟨#[48, 49, 50, 51, 52, 53, 54, 55, 56, 57, 97, 98, 99, 100, 101, 102]⟩ : ByteArray)[d]'h).toNat : Nat) : Int) = hd d := by
  intro d h
  match d, h with
  | 0, _ => rfl
  | 1, _ => rfl
  | 2, _ => rfl
  | 3, _ => rfl
  | 4, _ => rfl
  | 5, _ => rfl
  | 6, _ => rfl
  | 7, _ => rfl
  | 8, _ => rfl
  | 9, _ => rfl
  | 10, _ => rfl
  | 11, _ => rfl
  | 12, _ => rfl
  | 13, _ => rfl
  | 14, _ => rfl
  | 15, _ => rfl
  | n + 16, h => exact absurd h (by omega)
theorem idx_hd (d : Int) (h0 : 0 ≤ d) (h : d.toNat < 16) : ((((⟨#[48, 49, 50, 51, 52, 53, 54, 55, 56, 57, 97, 98, 99, 100, 101, 102]⟩ : ByteArray)[d.toNat]'h).toNat : Nat) : Int) = hd d := by
  rw [idx_hd_nat d.toNat h, Int.toNat_of_nonneg h0]

set_option maxHeartbeats 400000 in
theorem hex_at (b o n c : Nat) (xs : List Int) (w : World) (hx : xs.length = n) (hn : n ≤ 140737488355328) (hb : Byt xs)
    (hc : ∀ i, i < n → w.cell? ⟨b, o + i, none⟩ = some (.int .u8 (xs.getD i 0))) :
    Calls Try.prog 20 #[.slice (some ⟨b, o, none⟩) n c] w fun e w' => e = .returned (.string (strOfNums (hexL xs))) ∧ Below w.heap.size w w' := by
  obtain ⟨i0, hi, hz0, hz1, hz2⟩ := info_parts Try.info5
  have HX : Hid (xs.length = n) := hx
  have HY : Hid (Byt xs) := hb
  have HC : Hid (∀ i, i < n → w.cell? ⟨b, o + i, none⟩ = some (.int .u8 (xs.getD i 0))) := hc
  clear hx hc hb
  go_enter Try.func20, Try.ntmps20
  go_wp2_with (at_make; refine wpList_make_full _ rfl _ _ 25 rfl _ 5 i0 (.int .u8 0) 1 Try.underlying25 hi hz0 hz1 _ _ _ _ (2 * n) rfl rfl (by omega) (by omega) (by rw [hz2]; omega) (by unfold maxLen; omega) (Nat.le_refl _) ?_; intro w1 hown hgrow; have hb1 := (Below.refl w.heap.size w).grown hgrow (Nat.le_refl _) (by simp); have HO : Hid (Own w1 w.heap.size w.heap.size (2 * n) (List.replicate (2 * n) 0)) := Own.of_made hown; have HB : Hid (Below w.heap.size w w1) := hb1; clear hown hgrow hb1)
  go_loopw [11] (fun i wr => ∃ k : Nat, k ≤ n ∧ i = .int .i64 k ∧ Hid (Own wr w.heap.size w.heap.size (2 * n) (hexTo xs k)) ∧ Hid (Below w.heap.size w wr)) (fun i _ => n - (intOf i).toNat)
  case atStart => exact ⟨0, Nat.zero_le _, rfl, by rw [hexTo_zero, HX.out]; exact HO, HB⟩
  case round =>
    obtain ⟨k, hk, rfl, HOk, HBk⟩ := hrel
    by_cases hlt : k < n
    · have hX := HX.out
      have c1 : wr.cell? ⟨b, o + k, none⟩ = some (.int .u8 (xs.getD k 0)) := by rw [HBk.out.cell (p := ⟨b, o + k, none⟩) (cell_lt (HC.out k hlt))]; exact HC.out k hlt
      have hl := hexTo_length xs k (by omega)
      have d0 := HOk.out.cell (2 * k) (by omega)
      have d1 := HOk.out.cell (2 * k + 1) (by omega)
      have f0 := HOk.out.free (2 * k)
      have f1 := HOk.out.free (2 * k + 1)
      have hby := HY.out k
      have hbl : b < w.heap.size := cell_lt (HC.out k hlt)
      have HS : Hid (∀ d0 d1, d0 = hd (xs.getD k 0 / 16) → d1 = hd (xs.getD k 0 % 16) → Own ((wr.setCell ⟨w.heap.size, 2 * k, none⟩ (.int .u8 d0)).setCell ⟨w.heap.size, 2 * k + 1, none⟩ (.int .u8 d1)) w.heap.size w.heap.size (2 * n) (hexTo xs (k + 1))) := by
        intro d0 d1 h0 h1
        subst h0 h1
        rw [← hexTo_step xs k (by omega)]
        exact (HOk.out.store _ _).store _ _
      clear hX hl
      generalize xs.getD k 0 = z at *
      generalize (hexTo xs k).getD (2 * k) 0 = y0 at d0
      generalize (hexTo xs k).getD (2 * k + 1) 0 = y1 at d1
      have e15 := u8_and15 (x := z) (by omega) (by omega)
      have q1 : 0 ≤ z / 16 ∧ z / 16 < 16 := by omega
      have q2 : 0 ≤ z % 16 ∧ z % 16 < 16 := by omega
      go_wp2
      go_roundw
      case rel => exact ⟨k + 1, by omega, by go_num, HS.out _ _ (idx_hd _ q1.1 _) (idx_hd _ q2.1 _), (HBk.out.setCell (Nat.le_refl _) _).setCell (Nat.le_refl _) _⟩
      case measure => simp [intOf]; omega
    · obtain rfl : k = n := by omega
      have hcv := HOk.out.row.convert (hexTo_length xs k (by rw [HX.out]; exact Nat.le_refl _)) (2 * k)
      have HE : Hid (hexTo xs k = hexL xs) := by have := hexTo_end xs; rw [HX.out] at this; exact this
      rw [HX.out] at hcv
      generalize hexTo xs k = ys at *
      go_wp2
      go_ret
      exact ⟨by rw [HE.out]; rfl, HBk.out⟩

set_option maxHeartbeats 400000 in
theorem hex_zero (p : Option Addr) (c : Nat) (w : World) :
    Calls Try.prog 20 #[.slice p 0 c] w fun e w' => e = .returned (.string ByteArray.empty) ∧ Below w.heap.size w w' := by
  obtain ⟨i0, hi, hz0, hz1, hz2⟩ := info_parts Try.info5
  go_enter Try.func20, Try.ntmps20
  go_wp2_with (at_make; refine wpList_make_full _ rfl _ _ 25 rfl _ 5 i0 (.int .u8 0) 1 Try.underlying25 hi hz0 hz1 _ _ _ _ 0 rfl rfl (by omega) (by omega) (by omega) (by unfold maxLen; omega) (Nat.le_refl _) ?_; intro w1 hown hgrow; have hb1 := (Below.refl w.heap.size w).grown hgrow (Nat.le_refl _) (by simp); have hcv := convert_zero w1 (some ⟨w.heap.size, 0, none⟩) 0; have HB : Hid (Below w.heap.size w w1) := hb1; clear hown hgrow hb1)
  refine wp_loop_rounds 1 ?_
  rw [rounds_succ]; go_wp2
  go_ret
  exact ⟨rfl, HB.out⟩

theorem hex_any (p : Option Addr) (n c : Nat) (xs : List Int) (w : World) (hx : xs.length = n) (hn : n ≤ 140737488355328) (hr : Row w p xs) (hb : Byt xs) :
    Calls Try.prog 20 #[.slice p n c] w fun e w' => e = .returned (.string (strOfNums (hexL xs))) ∧ Below w.heap.size w w' := by
  rcases Nat.eq_zero_or_pos n with h0 | h0
  · subst h0
    obtain rfl : xs = [] := List.eq_nil_of_length_eq_zero hx
    exact hex_zero p c w
  · obtain ⟨b, o, rfl, hc⟩ := hr (by omega)
    exact hex_at b o n c xs w hx hn hb (fun i hi => hc i (by omega))

end Go.Proofs.Ytmhdiicljnjmcaa
