/- Texts put together: Said, Said2, Size, Size2, Size3, Size4. -/
import Derived.Test.YtkianldkbfjehaaGreatDoorKp
import Derived.Test.YtkianldkbfjehaaGreatDoorKi
import Derived.Deep.RegionLaw
import Derived.Test.YtkianldkbfjehaaGreatDoorKl

/- layout.said, for an item that holds what its kind asks for. -/
namespace Go.Proofs.YtkianldkbfjehaaGreatDoor
open Go.RowKit

set_option maxRecDepth 20000 in
theorem said_data (x : Src) (hk : x.k = 4) (q : Option Addr) (m e : Nat) (w : World) :
    Calls Tryz.prog 49 #[.agg (cellsOf x (.slice q m e))] w fun E w' => E = .returned (.slice q m e) ∧ Below w.heap.size w w' := by
  obtain ⟨k, nm', tg, o, a, b, m', n, d⟩ := x
  simp only at hk
  subst hk
  unfold cellsOf
  go_enter Tryz.func49, Tryz.ntmps49
  go_wp2_with fail
  go_ret
  exact ⟨rfl, new_alloc _ _⟩
set_option maxRecDepth 20000 in
theorem said_none (x : Src) (h2 : ¬ x.k = 2) (h4 : ¬ x.k = 4) (q : Option Addr) (m e : Nat) (w : World) :
    Calls Tryz.prog 49 #[.agg (cellsOf x (.slice q m e))] w fun E w' => E = .returned (.slice none 0 0) ∧ Below w.heap.size w w' := by
  obtain ⟨k, nm', tg, o, a, b, m', n, d⟩ := x
  simp only at h2 h4
  unfold cellsOf
  go_enter Tryz.func49, Tryz.ntmps49
  go_wp2_with fail
  go_ret
  exact ⟨rfl, new_alloc _ _⟩

end Go.Proofs.YtkianldkbfjehaaGreatDoor

/- layout.said, for an instruction's item. -/
namespace Go.Proofs.YtkianldkbfjehaaGreatDoor
open Go.RowKit

set_option maxRecDepth 20000 in
theorem said_ins (k : Int) (hk : k = 2) (s t : ByteArray) (o : Nat) (a b m n : Int) (d : List Int) (ha : 0 ≤ a ∧ a ≤ 255) (hb : 0 ≤ b ∧ b ≤ 255) (hR : rightB o a b m = true) (q : Option Addr) (z e : Nat) (w : World) :
    Calls Tryz.prog 49 #[.agg (cellsOf ⟨k, s, t, o, a, b, m, n, d⟩ (.slice q z e))] w fun E w' => ∃ g cap, E = .returned (.slice (some ⟨g, 0, none⟩) (lenN o) cap) ∧ Own w' (w.heap.size + 1) g cap (encL o a b m) ∧ Below w.heap.size w w' := by
  have hE := fun W => encode_yes o a b m W ha hb hR
  subst hk
  unfold cellsOf
  clear hR ha hb
  go_enter Tryz.func49, Tryz.ntmps49
  go_wp2_with (go_at_call 52; refine (hE _).mono ?_; rintro E w1 ⟨g, cap, rfl, hO, hb1⟩)
  go_ret
  refine ⟨g, cap, rfl, ?_, ?_⟩
  · simpa using hO
  · exact below_step (new_alloc _ _) hb1

end Go.Proofs.YtkianldkbfjehaaGreatDoor

/- layout.size, for an item that holds what its kind asks for. -/
namespace Go.Proofs.YtkianldkbfjehaaGreatDoor
open Go.RowKit

set_option maxRecDepth 20000 in
theorem size_space (k : Int) (hk : k = 5) (s t : ByteArray) (o a b m n : Int) (d : List Int) (q : Option Addr) (z e : Nat) (at_ : Int) (w : World) :
    Calls Tryz.prog 51 #[.agg (cellsOf ⟨k, s, t, o, a, b, m, n, d⟩ (.slice q z e)), .int .i64 at_] w fun E w' => E = .returned (.int .i64 n) ∧ Below w.heap.size w w' := by
  subst hk
  unfold cellsOf
  go_enter Tryz.func51, Tryz.ntmps51
  go_wp2_with fail
  go_ret
  exact ⟨rfl, new_alloc _ _⟩

end Go.Proofs.YtkianldkbfjehaaGreatDoor

/- layout.size at an align. -/
namespace Go.Proofs.YtkianldkbfjehaaGreatDoor
open Go.RowKit

theorem align_num (n : Int) (N : Nat) (hn : n = N) (h1 : 1 ≤ N) (h2 : N ≤ 64) (a : Nat) : (IntKind.i64.wrap (n - (a : Int).tmod n)).tmod n = (((N - a % N) % N : Nat) : Int) := by
  subst hn
  have hm := Nat.mod_lt a h1
  rw [← Int.ofNat_tmod a N]
  have e2 : ((N : Int) - ((a % N : Nat) : Int)) = ((N - a % N : Nat) : Int) := by omega
  have e3 : IntKind.i64.wrap ((N - a % N : Nat) : Int) = ((N - a % N : Nat) : Int) := by rw [IntKind.wrap_i64]; omega
  rw [e2, e3, ← Int.ofNat_tmod]
set_option maxRecDepth 20000 in
theorem size_al (k : Int) (hk : k = 6) (s t : ByteArray) (o a b m n : Int) (N : Nat) (hn : n = N) (h1 : 1 ≤ N) (h2 : N ≤ 64) (d : List Int) (q : Option Addr) (z e : Nat) (at_ : Nat) (w : World) :
    Calls Tryz.prog 51 #[.agg (cellsOf ⟨k, s, t, o, a, b, m, n, d⟩ (.slice q z e)), .int .i64 at_] w fun E w' => E = .returned (.int .i64 ((N - at_ % N) % N : Nat)) ∧ Below w.heap.size w w' := by
  subst hk
  unfold cellsOf
  have hA : Hid ((IntKind.i64.wrap (n - (at_ : Int).tmod n)).tmod n = (((N - at_ % N) % N : Nat) : Int)) := align_num n N hn h1 h2 at_
  have hn0 : ¬ n = 0 := by omega
  generalize (((N - at_ % N) % N : Nat) : Int) = R at *
  clear hn
  go_enter Tryz.func51, Tryz.ntmps51
  go_wp2_with fail
  go_region_law fail
  all_goals
    go_wp2_with fail
    go_ret
    exact ⟨by rw [← hA.out]; rfl, below_draws (new_alloc _ _) 1⟩

end Go.Proofs.YtkianldkbfjehaaGreatDoor

/- layout.size at what says its bytes. -/
namespace Go.Proofs.YtkianldkbfjehaaGreatDoor
open Go.RowKit

set_option maxRecDepth 20000 in
theorem size_said (x : Src) (h5 : ¬ x.k = 5) (h6 : ¬ x.k = 6) (q : Option Addr) (m e : Nat) (at_ : Int) (w : World) (L : Nat) (hr : Row w q x.d)
    (hS : ∀ W, Row W q x.d → Calls Tryz.prog 49 #[.agg (cellsOf x (.slice q m e))] W fun E w' => ∃ q' cap, E = .returned (.slice q' L cap) ∧ Below W.heap.size W w') :
    Calls Tryz.prog 51 #[.agg (cellsOf x (.slice q m e)), .int .i64 at_] w fun E w' => E = .returned (.int .i64 L) ∧ Below w.heap.size w w' := by
  obtain ⟨k, nm', tg, o, a, b, m', n, d⟩ := x
  simp only at h5 h6
  unfold cellsOf at *
  go_enter Tryz.func51, Tryz.ntmps51
  go_wp2_with (go_at_call 49; refine (hS _ (hr.below (new_alloc _ _))).mono ?_; rintro E w1 ⟨q', cap, rfl, hb1⟩)
  go_ret
  exact ⟨rfl, below_step (new_alloc _ _) hb1⟩

end Go.Proofs.YtkianldkbfjehaaGreatDoor

/- layout.size, for every item that holds what its kind asks for. -/
namespace Go.Proofs.YtkianldkbfjehaaGreatDoor
open Go.RowKit

/-- what said answers, and where it lies -/
theorem said_any (x : Src) (hx : Fit x) (hg : GoodP x) (q : Option Addr) (m e : Nat) (w : World) (hm : x.d.length = m) (hr : Row w q x.d) :
    Calls Tryz.prog 49 #[.agg (cellsOf x (.slice q m e))] w fun E w' => ∃ q' cap, E = .returned (.slice q' (saidL x).length cap) ∧ Row w' q' (saidL x) ∧ Below w.heap.size w w' := by
  subst hm
  by_cases h2 : x.k = 2
  · obtain ⟨k, s, t, o, a, b, m', n, d⟩ := x
    have hR : rightB o.toNat a b m' = true := by
      rcases hg with h | ⟨_, h⟩ | h | ⟨h, _⟩ | ⟨h, _⟩ | ⟨h, _⟩ | h
      · rw [h] at h2; cases h2
      · exact h
      · rw [h] at h2; cases h2
      · rw [h] at h2; cases h2
      · rw [h] at h2; cases h2
      · rw [h] at h2; cases h2
      · rw [h] at h2; cases h2
    obtain ⟨o', ho⟩ := Int.eq_ofNat_of_zero_le hx.o0
    simp only at ho h2
    subst ho
    have ho : o' < 17 := by
      simp only [rightB, Bool.and_eq_true, decide_eq_true_eq, Int.toNat_natCast] at hR
      exact hR.1.2
    refine (said_ins k h2 s t o' a b m' n d ⟨hx.a0, hx.a1⟩ ⟨hx.b0, hx.b1⟩ hR q _ e w).mono ?_
    rintro E w' ⟨g, cap, rfl, hO, hb⟩
    have hs : saidL ⟨k, s, t, o', a, b, m', n, d⟩ = encL o' a b m' := by
      unfold saidL; rw [if_pos h2]; rfl
    rw [hs]
    refine ⟨some ⟨g, 0, none⟩, cap, by rw [encL_length o' a b m' ho], hO.row, hb⟩
  by_cases h4 : x.k = 4
  · refine (said_data x h4 q _ e w).mono ?_
    rintro E w' ⟨rfl, hb⟩
    have hs : saidL x = x.d := by
      unfold saidL; rw [if_neg h2, if_pos h4]
    rw [hs]
    exact ⟨q, e, rfl, hr.below hb, hb⟩
  · refine (said_none x h2 h4 q _ e w).mono ?_
    rintro E w' ⟨rfl, hb⟩
    have hs : saidL x = [] := by
      unfold saidL; rw [if_neg h2, if_neg h4]
    rw [hs]
    exact ⟨none, 0, rfl, fun h => absurd h (Nat.lt_irrefl 0), hb⟩
theorem size_any (x : Src) (hx : Fit x) (hg : GoodP x) (q : Option Addr) (m e : Nat) (at_ : Nat) (w : World) (hm : x.d.length = m) (hr : Row w q x.d) :
    Calls Tryz.prog 51 #[.agg (cellsOf x (.slice q m e)), .int .i64 at_] w fun E w' => E = .returned (.int .i64 (sizeL x at_)) ∧ Below w.heap.size w w' := by
  by_cases h5 : x.k = 5
  · have hn : 0 ≤ x.n := by
      rcases hg with h | ⟨h, _⟩ | h | ⟨h, _⟩ | ⟨_, h, _⟩ | ⟨h, _⟩ | h
      · rw [h] at h5; cases h5
      · rw [h] at h5; cases h5
      · rw [h] at h5; cases h5
      · rw [h] at h5; cases h5
      · exact h
      · rw [h] at h5; cases h5
      · rw [h] at h5; cases h5
    obtain ⟨k, s, t, o, a, b, m', n, d⟩ := x
    refine (size_space k h5 s t o a b m' n d q m e at_ w).mono ?_
    rintro E w' ⟨rfl, hb⟩
    refine ⟨?_, hb⟩
    have hs : ((sizeL ⟨k, s, t, o, a, b, m', n, d⟩ at_ : Nat) : Int) = n := by
      unfold sizeL; rw [if_pos h5]; simp only at hn ⊢; omega
    rw [hs]
  by_cases h6 : x.k = 6
  · have hn : 1 ≤ x.n ∧ x.n ≤ 64 := by
      rcases hg with h | ⟨h, _⟩ | h | ⟨h, _⟩ | ⟨h, _⟩ | ⟨_, h⟩ | h
      · rw [h] at h6; cases h6
      · rw [h] at h6; cases h6
      · rw [h] at h6; cases h6
      · rw [h] at h6; cases h6
      · rw [h] at h6; cases h6
      · omega
      · rw [h] at h6; cases h6
    obtain ⟨k, s, t, o, a, b, m', n, d⟩ := x
    simp only at hn
    refine (size_al k h6 s t o a b m' n n.toNat (by omega) (by omega) (by omega) d q m e at_ w).mono ?_
    rintro E w' ⟨rfl, hb⟩
    refine ⟨?_, hb⟩
    have hs : sizeL ⟨k, s, t, o, a, b, m', n, d⟩ at_ = (n.toNat - at_ % n.toNat) % n.toNat := by
      unfold sizeL; rw [if_neg h5, if_pos h6]
    rw [hs]
  · have hs : sizeL x at_ = (saidL x).length := by
      unfold sizeL; rw [if_neg h5, if_neg h6]
    rw [hs]
    refine size_said x h5 h6 q m e at_ w _ hr fun W hW => ?_
    refine (said_any x hx hg q m e W hm hW).mono ?_
    rintro E w' ⟨q', cap, rfl, -, hb⟩
    exact ⟨q', cap, rfl, hb⟩

end Go.Proofs.YtkianldkbfjehaaGreatDoor
