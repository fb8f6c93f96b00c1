/- SyncsOver, as lists: how many have one pending. -/
import Derived.Test.YtibbcenfkmgbcaaApaW
namespace Go.Proofs.Ytibbcenfkmgbcaa
open Go.RowKit

/-- how many have one pending -/
def cnt (fs : List Bool) : Nat := fs.count true
theorem cnt_le (fs : List Bool) : cnt fs ≤ fs.length := List.count_le_length
theorem ovr_cnt (fs : List Bool) : ovr fs = decide (cnt fs = 0) := by
  rw [Bool.eq_iff_iff]
  simp only [ovr, cnt, List.all_eq_true, decide_eq_true_eq, List.count_eq_zero]
  constructor
  · intro h hm
    have := h true hm
    simp at this
  · intro h x hx
    cases x
    · rfl
    · exact absurd hx h
theorem cnt_step (fs : List Bool) (i : Nat) (h : i < fs.length) : cnt (fs.take (i + 1)) = cnt (fs.take i) + if fs.getD i false = true then 1 else 0 := by
  unfold cnt
  rw [List.take_succ_eq_append_getElem h, List.count_append]
  simp only [List.getD, List.getElem?_eq_getElem h, Option.getD_some]
  cases fs[i] <;> simp
theorem pnd_in {fs : List Bool} {z : Int} (h : pnd fs z = true) : ∃ k : Nat, z = k ∧ k < fs.length ∧ fs[k]? = some true := by
  have h0 : 0 ≤ z := by
    by_cases h0 : 0 ≤ z
    · exact h0
    · simp [pnd, h0] at h
  obtain ⟨k, rfl⟩ := Int.eq_ofNat_of_zero_le h0
  rw [pnd_at] at h
  have hk : k < fs.length := by
    by_cases hk : k < fs.length
    · exact hk
    · simp [List.getD, show fs.length ≤ k by omega] at h
  refine ⟨k, rfl, hk, ?_⟩
  rw [List.getElem?_eq_getElem hk]
  simp [List.getD, hk] at h
  rw [h]
theorem cnt_drp {fs : List Bool} {z : Int} (h : pnd fs z = true) : cnt (drp fs z) + 1 = cnt fs := by
  obtain ⟨k, rfl, hk, he⟩ := pnd_in h
  have e : drp fs (k : Int) = fs.set k false := by unfold drp; rw [if_pos (by omega)]; simp
  have h1 : fs[k] = true := by rw [List.getElem?_eq_getElem hk] at he; injection he
  have h2 : 0 < fs.count true := by rw [List.count_pos_iff]; rw [← h1]; exact List.getElem_mem hk
  rw [e]
  unfold cnt
  rw [List.count_set hk, h1]
  simp
  omega
theorem pnd_gone (fs : List Bool) (z : Int) : pnd (drp fs z) z = false := by
  by_cases h0 : 0 ≤ z
  · obtain ⟨k, rfl⟩ := Int.eq_ofNat_of_zero_le h0
    rw [pnd_at]
    unfold drp
    rw [if_pos (by omega)]
    simp only [Int.toNat_natCast, List.getD, List.getElem?_set]
    by_cases hk : k < fs.length
    · simp [hk]
    · simp [hk]
  · unfold pnd; simp [h0]
/-- the first i have none -/
def Off8 (fs : List Bool) (i : Nat) : Prop := ∀ j < i, fs.getD j false = false
theorem off_step {fs : List Bool} {i : Nat} (h : Off8 fs i) : Off8 (drp fs i) (i + 1) := by
  intro j hj
  by_cases e : j = i
  · subst e
    have := pnd_gone fs (j : Int)
    rw [pnd_at] at this
    exact this
  · have := h j (by omega)
    unfold drp
    rw [if_pos (by omega)]
    simp only [Int.toNat_natCast, List.getD, List.getElem?_set] at this ⊢
    rw [if_neg (fun x => e x.symm)]
    exact this
theorem off_all {fs : List Bool} (h : Off8 fs fs.length) : ovr fs = true := by
  unfold ovr
  rw [List.all_eq_true]
  intro x hx
  obtain ⟨i, hi, rfl⟩ := List.getElem_of_mem hx
  have := h i hi
  simp [List.getD, hi] at this
  simp [this]

end Go.Proofs.Ytibbcenfkmgbcaa
