/- Plain facts on hexadecimal digits: there and back. -/
import Derived.Test.YtmhdiicljnjmcaaHex
namespace Go.Proofs.Ytmhdiicljnjmcaa
open Go.RowKit

def isDig (c : Int) : Bool := decide (48 ≤ c ∧ c ≤ 57) || decide (97 ≤ c ∧ c ≤ 102)
def hv (c : Int) : Int := if c ≤ 57 then c - 48 else c - 87
theorem isDig_iff (c : Int) : isDig c = true ↔ (48 ≤ c ∧ c ≤ 57) ∨ (97 ≤ c ∧ c ≤ 102) := by simp [isDig]
theorem isDig_no (c : Int) : isDig c = false ↔ ¬ ((48 ≤ c ∧ c ≤ 57) ∨ (97 ≤ c ∧ c ≤ 102)) := by
  rw [← isDig_iff]; simp
theorem hv_bd {c : Int} (h : isDig c = true) : 0 ≤ hv c ∧ hv c ≤ 15 := by
  rw [isDig_iff] at h; unfold hv; split <;> omega
theorem hd_hv {c : Int} (h : isDig c = true) : hd (hv c) = c := by
  rw [isDig_iff] at h; unfold hd hv; split <;> split <;> omega
theorem hv_hd {d : Int} (h : 0 ≤ d ∧ d ≤ 15) : hv (hd d) = d := by
  unfold hd hv; split <;> split <;> omega
theorem hd_dig {d : Int} (h : 0 ≤ d ∧ d ≤ 15) : isDig (hd d) = true := by
  rw [isDig_iff]; unfold hd; split <;> omega
theorem hd_byt {d : Int} (h : 0 ≤ d ∧ d ≤ 15) : 0 ≤ hd d ∧ hd d ≤ 255 := by unfold hd; split <;> omega

/-- after k digits: what stands at place j -/
def unF (cs : List Int) (k j : Nat) : Int := if 2 * j + 1 < k then 16 * hv (cs.getD (2 * j) 0) + hv (cs.getD (2 * j + 1) 0) else if 2 * j < k then hv (cs.getD (2 * j) 0) else 0
def unTo (cs : List Int) (n k : Nat) : List Int := (List.range n).map (unF cs k)
def unhexB (cs : List Int) : List Int := unTo cs (cs.length / 2) cs.length
def Good (cs : List Int) : Prop := cs.length % 2 = 0 ∧ ∀ j, j < cs.length → isDig (cs.getD j 0) = true

theorem unTo_length (cs : List Int) (n k : Nat) : (unTo cs n k).length = n := by simp [unTo]
theorem unTo_getD (cs : List Int) (n k j : Nat) : (unTo cs n k).getD j 0 = if j < n then unF cs k j else 0 := by
  by_cases h : j < n <;> simp [unTo, List.getD, h]
theorem unTo_zero (cs : List Int) (n : Nat) : unTo cs n 0 = List.replicate n 0 := by
  refine list_ext_getD (by simp [unTo]) fun i => ?_
  rw [unTo_getD]
  by_cases h : i < n <;> simp [unF, List.getD, h]
theorem unTo_step (cs : List Int) (n k : Nat) (h : k < 2 * n) : (unTo cs n k).set (k / 2) ((unTo cs n k).getD (k / 2) 0 * 16 + hv (cs.getD k 0)) = unTo cs n (k + 1) := by
  refine list_ext_getD (by simp [unTo]) fun i => ?_
  rw [unTo_getD cs n (k + 1) i, unTo_getD cs n k (k / 2), if_pos (show k / 2 < n by omega)]
  by_cases e : k / 2 = i
  · rw [← e, if_pos (show k / 2 < n by omega)]
    simp only [List.getD, List.getElem?_set_self (show k / 2 < (unTo cs n k).length by rw [unTo_length]; omega), Option.getD_some]
    rcases Nat.mod_two_eq_zero_or_one k with hm | hm
    · obtain ⟨m, rfl⟩ : ∃ m, k = 2 * m := ⟨k / 2, by omega⟩
      have e2 : 2 * m / 2 = m := by omega
      rw [e2]
      simp only [unF, List.getD]
      rw [if_neg (by omega), if_neg (by omega), if_neg (by omega), if_pos (by omega)]
      omega
    · obtain ⟨m, rfl⟩ : ∃ m, k = 2 * m + 1 := ⟨k / 2, by omega⟩
      have e2 : (2 * m + 1) / 2 = m := by omega
      rw [e2]
      simp [unF, List.getD]
      omega
  · simp only [List.getD, List.getElem?_set_ne e]
    have := unTo_getD cs n k i
    simp only [List.getD] at this
    rw [this]
    by_cases hi : i < n
    · rw [if_pos hi, if_pos hi]
      unfold unF
      by_cases a : 2 * i + 1 < k
      · rw [if_pos a, if_pos (by omega)]
      · by_cases b : 2 * i < k
        · exact absurd (show k / 2 = i by omega) e
        · rw [if_neg a, if_neg b, if_neg (by omega), if_neg (by omega)]
    · rw [if_neg hi, if_neg hi]
theorem unTo_small (cs : List Int) (n k : Nat) (hd : ∀ j, j < k → isDig (cs.getD j 0) = true) : 0 ≤ (unTo cs n k).getD (k / 2) 0 ∧ (unTo cs n k).getD (k / 2) 0 ≤ 15 := by
  rw [unTo_getD]
  split
  · unfold unF
    rw [if_neg (by omega)]
    split
    · next h => exact hv_bd (hd _ h)
    · omega
  · omega

theorem unhexB_length (cs : List Int) : (unhexB cs).length = cs.length / 2 := unTo_length ..
theorem unhexB_getD (cs : List Int) (h : Good cs) (j : Nat) (hj : 2 * j + 1 < cs.length) : (unhexB cs).getD j 0 = 16 * hv (cs.getD (2 * j) 0) + hv (cs.getD (2 * j + 1) 0) := by
  have := h.1
  unfold unhexB
  rw [unTo_getD, if_pos (by omega), unF, if_pos hj]
theorem unhexB_byt {cs : List Int} (h : Good cs) : Byt (unhexB cs) := fun j => by
  by_cases hj : 2 * j + 1 < cs.length
  · rw [unhexB_getD cs h j hj]
    have a := hv_bd (h.2 (2 * j) (by omega))
    have b := hv_bd (h.2 (2 * j + 1) hj)
    omega
  · unfold unhexB
    rw [unTo_getD, if_neg (by omega)]
    omega

theorem hexL_getD : ∀ (xs : List Int) (i : Nat), i < xs.length → (hexL xs).getD (2 * i) 0 = hd (xs.getD i 0 / 16) ∧ (hexL xs).getD (2 * i + 1) 0 = hd (xs.getD i 0 % 16)
  | [], i, h => absurd h (Nat.not_lt_zero i)
  | x :: xs, 0, _ => by simp [hexL]
  | x :: xs, i + 1, h => by
    have ih := hexL_getD xs i (by simpa using h)
    simp only [hexL, show 2 * (i + 1) = 2 * i + 1 + 1 by omega, List.getD_cons_succ]
    exact ih

theorem getD_of_half (P : Nat → Prop) (n : Nat) (h : ∀ i, i < n → P (2 * i) ∧ P (2 * i + 1)) (j : Nat) (hj : j < 2 * n) : P j := by
  rcases Nat.mod_two_eq_zero_or_one j with hm | hm
  · have := (h (j / 2) (by omega)).1
    rwa [show 2 * (j / 2) = j by omega] at this
  · have := (h (j / 2) (by omega)).2
    rwa [show 2 * (j / 2) + 1 = j by omega] at this

theorem hexL_good {xs : List Int} (hb : Byt xs) : Good (hexL xs) := by
  refine ⟨by rw [hexL_length]; omega, fun j hj => ?_⟩
  rw [hexL_length] at hj
  refine getD_of_half (fun j => isDig ((hexL xs).getD j 0) = true) xs.length (fun i hi => ?_) j hj
  have := hb i
  rw [(hexL_getD xs i hi).1, (hexL_getD xs i hi).2]
  exact ⟨hd_dig (by omega), hd_dig (by omega)⟩
theorem hexL_byt {xs : List Int} (hb : Byt xs) : Byt (hexL xs) := fun j => by
  by_cases hj : j < 2 * xs.length
  · refine getD_of_half (fun j => 0 ≤ (hexL xs).getD j 0 ∧ (hexL xs).getD j 0 ≤ 255) xs.length (fun i hi => ?_) j hj
    have := hb i
    rw [(hexL_getD xs i hi).1, (hexL_getD xs i hi).2]
    exact ⟨hd_byt (by omega), hd_byt (by omega)⟩
  · simp [List.getD, List.getElem?_eq_none (show (hexL xs).length ≤ j by rw [hexL_length]; omega)]
theorem unhexB_hexL {xs : List Int} (hb : Byt xs) : unhexB (hexL xs) = xs := by
  have hl : (unhexB (hexL xs)).length = xs.length := by rw [unhexB_length, hexL_length]; omega
  refine list_ext_getD hl fun i => ?_
  by_cases hi : i < xs.length
  · rw [unhexB_getD _ (hexL_good hb) i (by rw [hexL_length]; omega), (hexL_getD xs i hi).1, (hexL_getD xs i hi).2]
    have := hb i
    rw [hv_hd (by omega), hv_hd (by omega)]
    omega
  · simp [List.getD, List.getElem?_eq_none (show xs.length ≤ i by omega), List.getElem?_eq_none (show (unhexB (hexL xs)).length ≤ i by omega)]
theorem hexL_unhexB {cs : List Int} (h : Good cs) : hexL (unhexB cs) = cs := by
  have h1 := h.1
  have hl : (hexL (unhexB cs)).length = cs.length := by rw [hexL_length, unhexB_length]; omega
  refine list_ext_getD hl fun j => ?_
  by_cases hj : j < cs.length
  · refine getD_of_half (fun j => (hexL (unhexB cs)).getD j 0 = cs.getD j 0) (cs.length / 2) (fun i hi => ?_) j (by omega)
    have g := hexL_getD (unhexB cs) i (by rw [unhexB_length]; exact hi)
    have a := hv_bd (h.2 (2 * i) (by omega))
    have b := hv_bd (h.2 (2 * i + 1) (by omega))
    rw [g.1, g.2, unhexB_getD cs h i (by omega)]
    constructor
    · rw [show (16 * hv (cs.getD (2 * i) 0) + hv (cs.getD (2 * i + 1) 0)) / 16 = hv (cs.getD (2 * i) 0) by omega]
      exact hd_hv (h.2 _ (by omega))
    · rw [show (16 * hv (cs.getD (2 * i) 0) + hv (cs.getD (2 * i + 1) 0)) % 16 = hv (cs.getD (2 * i + 1) 0) by omega]
      exact hd_hv (h.2 _ (by omega))
  · simp [List.getD, List.getElem?_eq_none (show cs.length ≤ j by omega), List.getElem?_eq_none (show (hexL (unhexB cs)).length ≤ j by omega)]

/-- a text's bytes as numbers -/
def codes (s : ByteArray) : List Int := s.data.toList.map fun b => (b.toNat : Int)
theorem codes_length (s : ByteArray) : (codes s).length = s.size := by simp [codes]
theorem codes_getD (s : ByteArray) (i : Nat) (h : i < s.size) : (codes s).getD i 0 = ((s[i]'h).toNat : Int) := by
  simp [codes, List.getD, h]
  rfl
theorem codes_byt (s : ByteArray) : Byt (codes s) := fun i => by
  by_cases h : i < s.size
  · rw [codes_getD s i h]
    have := UInt8.toNat_lt (s[i]'h)
    omega
  · simp [codes, List.getD, List.getElem?_eq_none (show s.data.toList.length ≤ i by simpa using h)]
theorem str_codes (s : ByteArray) : strOfNums (codes s) = s := by
  have : (strOfNums (codes s)).data.toList = s.data.toList := by
    rw [strOfNums_data]
    simp [codes, Function.comp_def]
  cases s
  simp only [strOfNums] at this ⊢
  congr 1
  exact Array.ext' (by simpa using this)
theorem codes_str {xs : List Int} (h : Byt xs) : codes (strOfNums xs) = xs := by
  simp only [codes, strOfNums_data, List.map_map]
  refine list_ext_getD (by simp) fun i => ?_
  by_cases hi : i < xs.length
  · have := h i
    simp only [List.getD, List.getElem?_eq_getElem hi, Option.getD_some] at this
    simp [List.getD, hi, Function.comp]
    omega
  · simp [List.getD, List.getElem?_eq_none (show xs.length ≤ i by omega)]

end Go.Proofs.Ytmhdiicljnjmcaa
