/- The reference's Of, Sorted and Right. -/
import Derived.Test.YtgblohjdiheemaaGreatKan
namespace Go.Proofs.YtgblohjdiheemaaGreat
open Go.RowKit

/-- sorted by keys -/
def kyB (T : List Si) : Bool := decide (∀ i, i < T.length - 1 → ¬ (T.getD (i + 1) ⟨0, 0, 0⟩).key < (T.getD i ⟨0, 0, 0⟩).key)
theorem ky_byKey {T : List Si} (h : kyB T = true) : byKey T := by
  unfold kyB at h
  rw [decide_eq_true_eq] at h
  have hc : ∀ i (hi : i + 1 < T.length), T[i].key ≤ T[i + 1].key := by
    intro i hi
    have := h i (by omega)
    rw [getD_si hi, getD_si (by omega)] at this
    omega
  have hg : ∀ d i (hi : i + d < T.length), T[i].key ≤ T[i + d].key := by
    intro d
    induction d with
    | zero => exact fun i hi => Int.le_refl _
    | succ d ih => exact fun i hi => Int.le_trans (ih i (by omega)) (hc (i + d) (by omega))
  refine List.pairwise_iff_getElem.2 fun i j hi hj hij => ?_
  obtain ⟨d, rfl⟩ : ∃ d, j = i + d := ⟨j - i, by omega⟩
  exact hg d i hj

end Go.Proofs.YtgblohjdiheemaaGreat
