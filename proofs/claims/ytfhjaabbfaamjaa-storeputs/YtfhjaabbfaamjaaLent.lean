/- What switchyardkit.LentBytes and KeptBytes do, for every slice of bytes. -/
import Derived.Test.YtfhjaabbfaamjaaCopy
namespace Go.Proofs.Ytfhjaabbfaamjaa
open Go.RowKit

theorem OwnV.held {w : World} {B : Nat} {v : Value} {xs : List Int} (h : OwnV w B v xs) (hv : v ≠ .slice none 0 0) : ∃ g cap, v = .slice (some ⟨g, 0, none⟩) xs.length cap ∧ Own w B g cap xs := by
  rcases h.shape with ⟨h1, _⟩ | h1
  · exact absurd h1 hv
  · exact h1

set_option maxHeartbeats 400000 in
theorem lent_any (p : Option Addr) (n c : Nat) (xs : List Int) (w : World) (hx : xs.length = n) (hn : n ≤ 140737488351232) (hr : Row w p xs) :
    Calls Try.prog 13 #[.slice p n c] w fun e w' => ∃ g cap, e = .returned (.slice (some ⟨g, 0, none⟩) n cap) ∧ Own w' w.heap.size g cap (xs ++ [77, 78]) ∧ Below w.heap.size w w' := by
  have hcon := copy_any p n c xs w hx (by omega) hr
  have HX : Hid (xs.length = n) := hx
  clear hr hx
  go_enter Try.func13, Try.ntmps13
  go_wp2_with fail
  refine hcon.mono ?_
  rintro e w1 ⟨v, rfl, hown, hb⟩
  have hsz := hb.size
  have hl : xs.length + 2 ≤ 140737488355328 := by rw [HX.out]; omega
  clear hcon
  go_wp2_with (at_builtin; refine wp_push _ rfl _ _ rfl w.heap.size _ xs rfl (hown.alloc _) ⟨w1.heap.size, 0, none⟩ 2 2 [77, 78] rfl rfl (cell_two_new _ _ _ _) hl (by simp; omega) ?_; intro v' w2 hown2 _hgrow hbel hnil; obtain ⟨g, cap, hv, ho⟩ := hown2.held (fun h => by have := (hnil.1 h).2; omega); have hcap : n + 2 ≤ cap := (by have := ho.cap; rw [List.length_append, HX.out] at this; simpa using this); have hb2 := hbel _ (below_alloc hb _); rw [hv]; clear hown2 hbel hnil hv hown hb)
  go_ret
  exact ⟨g, cap, rfl, ho, hb2⟩

theorem getD_left (xs ys : List Int) (i : Nat) (h : i < xs.length) : (xs ++ ys).getD i 0 = xs.getD i 0 := by
  simp [List.getD, List.getElem?_append_left h]
theorem getD_right (xs ys : List Int) (i : Nat) : (xs ++ ys).getD (xs.length + i) 0 = ys.getD i 0 := by
  simp [List.getD, List.getElem?_append_right]

theorem Own.front {w : World} {B g cap : Nat} {xs ys : List Int} (h : Own w B g cap (xs ++ ys)) : Own w B g cap xs := by
  obtain ⟨cur, h1, h2, h3, h4, h5, h6⟩ := h.parts
  rw [List.length_append] at h3
  refine Own.mk h1 h2 (by omega) h4 h5 ?_
  have e : cur.toList.take xs.length = (cur.toList.take (xs ++ ys).length).take xs.length := by
    rw [List.take_take, List.length_append, Nat.min_eq_left (by omega)]
  rw [e, h6]
  simp [byts]

set_option maxHeartbeats 400000 in
theorem kept_any (q : Option Addr) (g n cap c B : Nat) (xs : List Int) (w : World) (hx : xs.length = n) (hn : n ≤ 140737488351232) (ho : Own w B g cap (xs ++ [77, 78])) (hr : Row w q xs) :
    Calls Try.prog 16 #[.slice (some ⟨g, 0, none⟩) n cap, .slice q n c] w fun e w' => e = .returned (.bool true) ∧ ∃ m, w' = w.drewN m := by
  have hcon := sameBytes_any (some ⟨g, 0, none⟩) q n cap n c xs xs w hx hx (by omega) ho.front.row hr
  have c0 := ho.cell (xs.length + 0) (by simp)
  have c1 := ho.cell (xs.length + 1) (by simp)
  have hcap := ho.cap
  rw [getD_right, hx] at c0 c1
  rw [sameB_self] at hcon
  rw [List.length_append, hx] at hcap
  simp only [List.getD_cons_zero, List.getD_cons_succ, Nat.add_zero, List.length_cons, List.length_nil] at c0 c1 hcap
  clear ho hr hx
  go_enter Try.func16, Try.ntmps16
  go_wp2_with (go_at_call 10; refine hcon.mono ?_; rintro e w' ⟨rfl, m, rfl⟩)
  go_ret
  exact ⟨rfl, m, rfl⟩

end Go.Proofs.Ytfhjaabbfaamjaa
