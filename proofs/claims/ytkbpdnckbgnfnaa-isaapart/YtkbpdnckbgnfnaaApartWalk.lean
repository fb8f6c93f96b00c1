/- What the law IsaApart answers: true, for every two instructions. -/
import Derived.Test.YtkbpdnckbgnfnaaJumpsWalk
namespace Go.Proofs.Ytkbpdnckbgnfnaa
open Go.RowKit

theorem Own.rowTake {w : World} {B g cap : Nat} {xs : List Int} (h : Own w B g cap xs) (m : Nat) : Row w (some ⟨g, 0, none⟩) (xs.take m) := fun _ => ⟨g, 0, rfl, fun i hi => by
  rw [List.length_take] at hi
  have := h.cell i (by omega)
  rw [Nat.zero_add, this]
  simp [List.getD, show i < m by omega]⟩

theorem apart_le {o p : Nat} {a b n c d m : Int} (h1 : rightB o a b n = true) (h2 : rightB p c d m = true) (hn : -2147483648 ≤ n ∧ n ≤ 2147483647) (hm : -2147483648 ≤ m ∧ m ≤ 2147483647)
    (he : encL o a b n = (encL p c d m).take (encL o a b n).length) : ((o : Int) = p) ∧ a = c ∧ b = d ∧ n = m := by
  have e1 := dec_enc h1 hn ((encL p c d m).drop (encL o a b n).length)
  have e2 := dec_enc h2 hm []
  have e3 : encL o a b n ++ (encL p c d m).drop (encL o a b n).length = encL p c d m := by
    conv => lhs; lhs; rw [he]
    exact List.take_append_drop _ _
  rw [e3] at e1
  rw [List.append_nil, e1] at e2
  simp only [Dec.mk.injEq] at e2
  exact ⟨e2.1, e2.2.1, e2.2.2.1, e2.2.2.2.1⟩

theorem apart_ne {o p : Nat} {a b n c d m : Int} (h1 : rightB o a b n = true) (h2 : rightB p c d m = true) (hn : -2147483648 ≤ n ∧ n ≤ 2147483647) (hm : -2147483648 ≤ m ∧ m ≤ 2147483647)
    (hne : ¬ (((o : Int) = p) ∧ a = c ∧ b = d ∧ n = m)) : sameB ((encL o a b n).take (min (lenN o) (lenN p))) ((encL p c d m).take (min (lenN o) (lenN p))) = false := by
  have l1 := encL_length o a b n (rightB_parts h1).1.2
  have l2 := encL_length p c d m (rightB_parts h2).1.2
  refine sameB_no fun e => hne ?_
  rcases Nat.le_total (lenN o) (lenN p) with h | h
  · rw [Nat.min_eq_left h, List.take_of_length_le (by omega), ← l1] at e
    exact apart_le h1 h2 hn hm e
  · rw [Nat.min_eq_right h, List.take_of_length_le (l := encL p c d m) (by omega), ← l2] at e
    obtain ⟨x1, x2, x3, x4⟩ := apart_le h2 h1 hm hn e.symm
    exact ⟨x1.symm, x2.symm, x3.symm, x4.symm⟩

theorem encode_some (o : Nat) (a b n : Int) (w : World) (ho : o ≤ 255) (ha : 0 ≤ a ∧ a ≤ 255) (hb : 0 ≤ b ∧ b ≤ 255) :
    Calls Try.prog 16 #[ins o a b n] w fun e w' => ∃ s l, e = .returned (.tuple #[s, .int .i64 l]) ∧ Below w.heap.size w w' := by
  cases h : rightB o a b n
  · exact (encode_no o a b n w ho ha hb h).mono fun e w' ⟨he, hb⟩ => ⟨_, _, he, hb⟩
  · exact (encode_yes o a b n w ha hb h).mono fun e w' ⟨g, cap, he, _, hb⟩ => ⟨_, _, he, hb⟩

set_option maxHeartbeats 1000000 in
theorem apart_no1 (o p : Nat) (a b n c d m : Int) (w : World) (ho : o ≤ 255) (ha : 0 ≤ a ∧ a ≤ 255) (hb : 0 ≤ b ∧ b ≤ 255) (hp : p ≤ 255) (hc : 0 ≤ c ∧ c ≤ 255) (hd : 0 ≤ d ∧ d ≤ 255) (h1 : rightB o a b n = false) :
    Calls Try.prog 7 #[ins o a b n, ins p c d m] w fun e w' => e = .returned (.bool true) ∧ Below w.heap.size w w' := by
  have hcon := fun w => encode_no o a b n w ho ha hb h1
  have hX := fun w => encode_some p c d m w hp hc hd
  clear h1
  go_enter Try.func7, Try.ntmps7
  go_wp2_with fail
  refine (hcon _).mono ?_
  rintro e w1 ⟨rfl, hb1⟩
  have hJ := ((At4.new (w.alloc (.cells #[.int .u8 o, .int .u8 a, .int .u8 b, .int .i32 n] 26)) (.int .u8 p) (.int .u8 c) (.int .u8 d) (.int .i32 m) 26)).below hb1
  have hbw := below_step (two_new w _ _) hb1
  clear hb1 hcon
  obtain ⟨j0, j1, j2, j3⟩ := hJ
  simp at j0 j1 j2 j3
  go_wp2_with fail
  refine (hX _).mono ?_
  rintro e w2 ⟨s, l, rfl, hb2⟩
  go_wp2_with fail
  refine (awake_any _).mono ?_
  rintro e w3 ⟨rfl, hb3⟩
  go_wp2
  go_ret
  exact ⟨rfl, below_step (below_step hbw hb2) hb3⟩

set_option maxHeartbeats 1000000 in
theorem apart_no2 (o p : Nat) (a b n c d m : Int) (w : World) (ha : 0 ≤ a ∧ a ≤ 255) (hb : 0 ≤ b ∧ b ≤ 255) (hp : p ≤ 255) (hc : 0 ≤ c ∧ c ≤ 255) (hd : 0 ≤ d ∧ d ≤ 255) (h1 : rightB o a b n = true) (h2 : rightB p c d m = false) :
    Calls Try.prog 7 #[ins o a b n, ins p c d m] w fun e w' => e = .returned (.bool true) ∧ Below w.heap.size w w' := by
  have hcon := fun w => encode_yes o a b n w ha hb h1
  have hX := fun w => encode_no p c d m w hp hc hd h2
  clear h1 h2
  generalize lenN o = L at *
  go_enter Try.func7, Try.ntmps7
  go_wp2_with fail
  refine (hcon _).mono ?_
  rintro e w1 ⟨g, cap, rfl, hown, hb1⟩
  have hJ := ((At4.new (w.alloc (.cells #[.int .u8 o, .int .u8 a, .int .u8 b, .int .i32 n] 26)) (.int .u8 p) (.int .u8 c) (.int .u8 d) (.int .i32 m) 26)).below hb1
  have hbw := below_step (two_new w _ _) hb1
  clear hb1 hcon hown
  obtain ⟨j0, j1, j2, j3⟩ := hJ
  simp at j0 j1 j2 j3
  go_wp2_with fail
  refine (hX _).mono ?_
  rintro e w2 ⟨rfl, hb2⟩
  go_wp2_with fail
  refine (awake_any _).mono ?_
  rintro e w3 ⟨rfl, hb3⟩
  go_wp2
  go_ret
  exact ⟨rfl, below_step (below_step hbw hb2) hb3⟩

set_option maxHeartbeats 1000000 in
theorem apart_both (o p L M : Nat) (a b n c d m : Int) (xs ys : List Int) (w : World) (hL : L ≤ 6) (hM : M ≤ 6) (hxl : xs.length = L) (hyl : ys.length = M)
    (hcon : ∀ w, Calls Try.prog 16 #[ins o a b n] w fun e w' => ∃ g cap, e = .returned (.tuple #[.slice (some ⟨g, 0, none⟩) L cap, .int .i64 0]) ∧ Own w' w.heap.size g cap xs ∧ Below w.heap.size w w')
    (hX : ∀ w, Calls Try.prog 16 #[ins p c d m] w fun e w' => ∃ g cap, e = .returned (.tuple #[.slice (some ⟨g, 0, none⟩) M cap, .int .i64 0]) ∧ Own w' w.heap.size g cap ys ∧ Below w.heap.size w w')
    (hne : ¬ (((o : Int) = p) ∧ a = c ∧ b = d ∧ n = m) → sameB (xs.take (min L M)) (ys.take (min L M)) = false) :
    Calls Try.prog 7 #[ins o a b n, ins p c d m] w fun e w' => e = .returned (.bool true) ∧ Below w.heap.size w w' := by
  have HX : Hid (xs.length = L) := hxl
  have HY : Hid (ys.length = M) := hyl
  have HN : Hid (¬ (((o : Int) = p) ∧ a = c ∧ b = d ∧ n = m) → sameB (xs.take (min L M)) (ys.take (min L M)) = false) := hne
  clear hxl hyl hne
  go_enter Try.func7, Try.ntmps7
  go_wp2_with fail
  refine (hcon _).mono ?_
  rintro e w1 ⟨g, cap, rfl, hown, hb1⟩
  have hJ := ((At4.new (w.alloc (.cells #[.int .u8 o, .int .u8 a, .int .u8 b, .int .i32 n] 26)) (.int .u8 p) (.int .u8 c) (.int .u8 d) (.int .i32 m) 26)).below hb1
  have hI := (((At4.new w (.int .u8 o) (.int .u8 a) (.int .u8 b) (.int .i32 n) 26).below (new_alloc _ (.cells #[.int .u8 p, .int .u8 c, .int .u8 d, .int .i32 m] 26)))).below hb1
  have hbw := below_step (two_new w _ _) hb1
  clear hb1 hcon
  rw [show (w.alloc (.cells #[.int .u8 o, .int .u8 a, .int .u8 b, .int .i32 n] 26)).heap.size = w.heap.size + 1 by simp] at hJ
  have HJ : Hid (At4 w1 (w.heap.size + 1) (.int .u8 p) (.int .u8 c) (.int .u8 d) (.int .i32 m)) := hJ
  obtain ⟨j0, j1, j2, j3⟩ := hJ
  go_wp2_with fail
  refine (hX _).mono ?_
  rintro e w2 ⟨g2, cap2, rfl, hown2, hb2⟩
  have hown' := hown.below hb2
  obtain ⟨j0, j1, j2, j3⟩ := HJ.out.below hb2
  obtain ⟨i0, i1, i2, i3⟩ := hI.below hb2
  have hbw2 := below_step hbw hb2
  clear hown hb2 hbw hX hI HJ
  by_cases h1 : (o : Int) = p ∧ a = c ∧ b = d ∧ n = m
  · obtain ⟨e1, rfl, rfl, rfl⟩ := h1
    have e2 : o = p := by omega
    subst e2
    go_wp2_with fail
    refine (awake_any _).mono ?_
    rintro e w3 ⟨rfl, hb3⟩
    go_wp2
    go_ret
    exact ⟨rfl, below_step hbw2 hb3⟩
  · have hs := HN.out h1
    have hcp1 : L ≤ cap := by have := hown'.cap; rw [HX.out] at this; exact this
    have hcp2 : M ≤ cap2 := by have := hown2.cap; rw [HY.out] at this; exact this
    rcases Nat.lt_or_ge M L with hML | hML
    · rw [Nat.min_eq_right (Nat.le_of_lt hML)] at hs
      have lx : (xs.take M).length = M := by rw [List.length_take, HX.out]; omega
      have ly : (ys.take M).length = M := by rw [List.length_take, HY.out]; omega
      have hS := sameBytes_any (some ⟨g, 0, none⟩) (some ⟨g2, 0, none⟩) M cap M cap2 (xs.take M) (ys.take M) w2.drew lx ly (by omega) (hown'.rowTake M) (hown2.rowTake M)
      rw [hs] at hS
      clear hs lx ly
      go_wp2_with fail
      all_goals
        go_region_with (first | (go_at_call 20; refine hS.mono ?_; rintro e w3 ⟨rfl, k3, hw3⟩; have hb3 : Below w.heap.size w w3 := (by rw [hw3]; exact below_draws hbw2.drew k3); clear hw3) | (go_at_call 15; refine (awake_any _).mono ?_; rintro e w4 ⟨rfl, hb4⟩; have hb5 := below_step hb3 hb4))
        all_goals
          go_wp2
          go_ret
          exact ⟨rfl, hb5⟩
    · rw [Nat.min_eq_left hML] at hs
      have lx : (xs.take L).length = L := by rw [List.length_take, HX.out]; omega
      have ly : (ys.take L).length = L := by rw [List.length_take, HY.out]; omega
      have hS := sameBytes_any (some ⟨g, 0, none⟩) (some ⟨g2, 0, none⟩) L cap L cap2 (xs.take L) (ys.take L) w2.drew lx ly (by omega) (hown'.rowTake L) (hown2.rowTake L)
      rw [hs] at hS
      clear hs lx ly
      go_wp2_with fail
      all_goals
        go_region_with (first | (go_at_call 20; refine hS.mono ?_; rintro e w3 ⟨rfl, k3, hw3⟩; have hb3 : Below w.heap.size w w3 := (by rw [hw3]; exact below_draws hbw2.drew k3); clear hw3) | (go_at_call 15; refine (awake_any _).mono ?_; rintro e w4 ⟨rfl, hb4⟩; have hb5 := below_step hb3 hb4))
        all_goals
          go_wp2
          go_ret
          exact ⟨rfl, hb5⟩
end Go.Proofs.Ytkbpdnckbgnfnaa
