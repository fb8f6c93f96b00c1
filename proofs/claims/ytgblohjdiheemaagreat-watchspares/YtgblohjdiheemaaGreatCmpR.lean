/- Ours: the reference's small tests on sites. -/
import Derived.Test.YtgblohjdiheemaaGreatKaj
namespace Go.Proofs.YtgblohjdiheemaaGreat
open Go.RowKit

set_option maxHeartbeats 1000000 in
theorem far_any (s : Si) (w : World) (h : Near s) : Calls Tryz.prog 77 #[sV s] w fun e w' => e = .returned (.bool (farS s)) ∧ Below w.heap.size w w' := by
  obtain ⟨sk, sa, st⟩ := s
  obtain ⟨h1, h2, h3, h4⟩ := h
  dsimp only at h1 h2 h3 h4
  have e1 : IntKind.i64.wrap (sa + 5) = sa + 5 := by rw [IntKind.wrap_i64]; omega
  have e2 : IntKind.i64.wrap (st - (sa + 5)) = st - (sa + 5) := by rw [IntKind.wrap_i64]; omega
  by_cases hf : 4096 < st - (sa + 5)
  · have HF : Hid (farS ⟨sk, sa, st⟩ = true) := by simp [Hid, farS]; omega
    rw [HF.out]
    go_enter Tryz.func77, Tryz.ntmps77
    go_wp2_with fail
    go_ret
    exact ⟨ret_bool (by simp), new_alloc _ _⟩
  · have HF : Hid (farS ⟨sk, sa, st⟩ = decide (st - (sa + 5) < -4096)) := by
      have : farS ⟨sk, sa, st⟩ = decide (st - (sa + 5) < -4096) := decide_eq_decide.2 (by dsimp only; omega)
      exact this
    rw [HF.out]
    go_enter Tryz.func77, Tryz.ntmps77
    go_wp2_with fail
    go_ret
    exact ⟨ret_bool (by simp), new_alloc _ _⟩

set_option maxHeartbeats 1000000 in
theorem ahead_any (s t : Si) (w : World) : Calls Tryz.prog 78 #[sV s, sV t] w fun e w' => e = .returned (.bool (ltS s t)) ∧ Below w.heap.size w w' := by
  obtain ⟨sk, sa, st⟩ := s
  obtain ⟨tk, ta, tt⟩ := t
  by_cases h1 : sk < tk
  · have HF : Hid (ltS ⟨sk, sa, st⟩ ⟨tk, ta, tt⟩ = true) := by simp [Hid, ltS]; omega
    rw [HF.out]
    go_enter Tryz.func78, Tryz.ntmps78
    go_wp2_with fail
    go_ret
    exact ⟨ret_bool (by simp), below_alloc (new_alloc _ _) _⟩
  · by_cases h2 : sk = tk
    · subst h2
      have HF : Hid (ltS ⟨sk, sa, st⟩ ⟨sk, ta, tt⟩ = decide (sa < ta)) := by
        have : ltS ⟨sk, sa, st⟩ ⟨sk, ta, tt⟩ = decide (sa < ta) := decide_eq_decide.2 (by simp)
        exact this
      rw [HF.out]
      go_enter Tryz.func78, Tryz.ntmps78
      go_wp2_with fail
      go_ret
      exact ⟨ret_bool (by simp), below_alloc (new_alloc _ _) _⟩
    · have HF : Hid (ltS ⟨sk, sa, st⟩ ⟨tk, ta, tt⟩ = false) := by simp [Hid, ltS]; omega
      rw [HF.out]
      go_enter Tryz.func78, Tryz.ntmps78
      go_wp2_with fail
      go_ret
      exact ⟨ret_bool (by simp), below_alloc (new_alloc _ _) _⟩
end Go.Proofs.YtgblohjdiheemaaGreat
