/- Lists of sites in memory; SameSites; the reference's Find and Add. -/
import Derived.Test.YtekggimgobeggaaBatE
namespace Go.Proofs.Ytekggimgobeggaa
open Go.RowKit

/-- a list of such in memory, whoever made it -/
def Row3 (w : World) (p : Option Addr) (L : List V3) : Prop :=
  0 < L.length → ∃ b o, p = some ⟨b, o, none⟩ ∧ ∀ i (hi : i < L.length) j, j < 3 → w.cell? ⟨b, o + i * 3 + j, none⟩ = (l3 L[i])[j]?
theorem Row3.nil (w : World) (p : Option Addr) : Row3 w p [] := fun h => absurd h (by simp)
theorem Row3.below {w w' : World} {p : Option Addr} {L : List V3} (h : Row3 w p L) (hb : Below w.heap.size w w') : Row3 w' p L := fun h0 => by
  obtain ⟨b, o, e, h1⟩ := h h0
  refine ⟨b, o, e, fun i hi j hj => ?_⟩
  have h2 := h1 i hi j hj
  obtain ⟨u, hu⟩ : ∃ u, (l3 L[i])[j]? = some u := ⟨_, List.getElem?_eq_getElem (show j < 3 from hj)⟩
  rw [hu] at h2 ⊢
  exact (hb.cell (p := ⟨b, o + i * 3 + j, none⟩) (cell_lt h2)).trans h2
theorem Row3.drewN {w : World} {p : Option Addr} {L : List V3} (h : Row3 w p L) (n : Nat) : Row3 (w.drewN n) p L := h
theorem TOwn.row3 {T : TypeId} {w : World} {B : Nat} {v : Value} {L : List V3} (h : TOwn T w B v L) : ∃ p cap, v = .slice p L.length cap ∧ L.length ≤ cap ∧ cap ≤ maxLen ∧ Row3 w p L := by
  obtain ⟨p, cap, e, h1, h2, h3⟩ := h.shape
  refine ⟨p, cap, e, h1, h2, fun h0 => ?_⟩
  obtain ⟨g, e2, -, -, h4⟩ := h3 h0
  exact ⟨g, 0, e2, fun i hi j hj => by rw [Nat.zero_add]; exact h4 i hi j hj⟩
theorem cells3 {w : World} {b o : Nat} {L : List V3} (h : ∀ i (hi : i < L.length) j, j < 3 → w.cell? ⟨b, o + i * 3 + j, none⟩ = (l3 L[i])[j]?) (i : Nat) (hi : i < L.length) :
    w.cell? ⟨b, o + i * 3, none⟩ = some L[i].1 ∧ w.cell? ⟨b, o + i * 3 + 1, none⟩ = some L[i].2.1 ∧ w.cell? ⟨b, o + i * 3 + 2, none⟩ = some L[i].2.2 :=
  ⟨h i hi 0 (by decide), h i hi 1 (by decide), h i hi 2 (by decide)⟩
theorem TOwn.lowB {T : TypeId} {w : World} {B B' : Nat} {v : Value} {L : List V3} (h : TOwn T w B v L) (hB : B' ≤ B) : TOwn T w B' v L := by
  rcases h.2 with h2 | ⟨g, cap, cur, h1, h2, h3⟩
  · exact ⟨h.1, .inl h2⟩
  · exact ⟨h.1, .inr ⟨g, cap, cur, h1, Nat.le_trans hB h2, h3⟩⟩
theorem take_step {α : Type} {L M : List α} {k : Nat} (h : L.take k = M.take k) (h1 : k < L.length) (h2 : k < M.length) (e : L[k] = M[k]) : L.take (k + 1) = M.take (k + 1) := by
  rw [List.take_succ_eq_append_getElem h1, List.take_succ_eq_append_getElem h2, h, e]
theorem take_all {α : Type} {L M : List α} {k : Nat} (h : L.take k = M.take k) (h1 : L.length ≤ k) (h2 : M.length ≤ k) : L = M := by
  rw [← List.take_of_length_le h1, h, List.take_of_length_le h2]
theorem drewN_two (w : World) (a b : Nat) : (w.drewN a).drewN b = w.drewN (a + b) := by simp

set_option maxRecDepth 20000 in
set_option maxHeartbeats 1000000 in
theorem sameSites_any (p q : Option Addr) (n c m d : Nat) (L M : List Si) (w : World) (hn : L.length = n) (hm : M.length = m) (hn6 : n ≤ 9223372036854775807) (_hm6 : m ≤ 9223372036854775807) (h1 : Row3 w p (L.map siV)) (h2 : Row3 w q (M.map siV)) :
    Calls Try.prog 26 #[.slice p n c, .slice q m d] w fun E w' => (∃ b, E = .returned (.bool b) ∧ (b = true ↔ L = M)) ∧ ∃ z, w' = w.drewN z := by
  by_cases hl : n = m
  · subst hl
    have HL := Hid.in hn
    have HM := Hid.in hm
    have H1 := Hid.in h1
    have H2 := Hid.in h2
    clear hn hm h1 h2
    go_enter Try.func26, Try.ntmps26
    go_wp2_with fail
    go_loopw [5] (fun vi wr => ∃ k z : Nat, vi = .int .i64 k ∧ k ≤ n ∧ L.take k = M.take k ∧ wr = w.drewN z) (fun vi _ => n - (intOf vi).toNat)
    case atStart => exact ⟨0, 0, rfl, Nat.zero_le _, rfl, rfl⟩
    case round =>
      obtain ⟨k, z, rfl, hk, ht, rfl⟩ := hrel
      have HT := Hid.in ht
      clear ht
      by_cases hlt : k < n
      · have hk1 : k < L.length := by rw [HL.out]; exact hlt
        have hk2 : k < M.length := by rw [HM.out]; exact hlt
        obtain ⟨b, o, rfl, hc⟩ := H1.out (by rw [List.length_map]; omega)
        obtain ⟨c0, c1, c2⟩ := cells3 hc k (by rw [List.length_map]; exact hk1)
        obtain ⟨b', o', rfl, hc'⟩ := H2.out (by rw [List.length_map]; omega)
        obtain ⟨e0, e1, e2⟩ := cells3 hc' k (by rw [List.length_map]; exact hk2)
        simp only [List.getElem_map, siV] at c0 c1 c2 e0 e1 e2
        have HE : Hid (L[k] = M[k] → L.take (k + 1) = M.take (k + 1)) := fun e => take_step HT.out hk1 hk2 e
        have HNE : Hid (L[k] ≠ M[k] → L ≠ M) := fun e e' => e (by subst e'; rfl)
        clear hc hc' H1 H2
        generalize L[k] = x at *
        generalize M[k] = y at *
        obtain ⟨x0, x1, x2⟩ := x
        obtain ⟨y0, y1, y2⟩ := y
        simp only at c0 c1 c2 e0 e1 e2
        by_cases h0 : x0 = y0
        · subst h0
          by_cases h1 : x1 = y1
          · subst h1
            by_cases h2 : x2 = y2
            · subst h2
              go_upto_region 6 with fail
              go_quiet (fail)
              go_wp2_with fail
              go_roundw
              case rel => exact ⟨k + 1, z + nq, by go_num, by omega, HE.out rfl, by simp⟩
              case measure => simp [intOf]; omega
            · skip
              go_upto_region 6 with fail
              go_quiet (fail)
              go_wp2_with fail
              go_ret
              exact ⟨⟨false, rfl, by simp [HNE.out (fun e => h2 (by injection e))]⟩, z + nq, drewN_two _ _ _⟩
          · skip
            go_upto_region 6 with fail
            go_quiet (fail)
            go_wp2_with fail
            go_ret
            exact ⟨⟨false, rfl, by simp [HNE.out (fun e => h1 (by injection e))]⟩, z + nq, drewN_two _ _ _⟩
        · skip
          go_upto_region 6 with fail
          go_quiet (fail)
          go_wp2_with fail
          go_ret
          exact ⟨⟨false, rfl, by simp [HNE.out (fun e => h0 (by injection e))]⟩, z + nq, drewN_two _ _ _⟩
      · have hkn : k = n := by omega
        subst hkn
        have HR : Hid (L = M) := take_all HT.out (by rw [HL.out]; exact Nat.le_refl _) (by rw [HM.out]; exact Nat.le_refl _)
        go_wp2_with fail
        go_ret
        exact ⟨⟨true, rfl, by simp [HR.out]⟩, z, rfl⟩
  · have HR : Hid (L ≠ M) := fun e => hl (by rw [← hn, ← hm, e])
    clear hn hm h1 h2
    go_enter Try.func26, Try.ntmps26
    go_wp2_with fail
    go_ret
    exact ⟨⟨false, rfl, by simp [HR.out]⟩, 0, rfl⟩


theorem insL_snoc (s x : Si) : ∀ A : List Si, insL s (A ++ [x]) = if A.any (fun y => decide (s.at_ < y.at_)) = true then insL s A ++ [x] else if s.at_ < x.at_ then A ++ [s, x] else A ++ [x, s]
  | [] => by
    simp only [List.nil_append, List.any_nil, insL]
    split <;> simp
  | y :: A => by
    have ih := insL_snoc s x A
    simp only [List.cons_append, List.any_cons, insL]
    by_cases h : s.at_ < y.at_
    · simp [h]
    · simp only [h, decide_false, Bool.false_or, if_false, ih]
      split
      · simp
      · split <;> simp
theorem insL_end (s : Si) (A : List Si) (h : A.any (fun y => decide (s.at_ < y.at_)) = false) : insL s A = A ++ [s] := by
  induction A with
  | nil => rfl
  | cons y A ih =>
    simp only [List.any_cons, Bool.or_eq_false_iff, decide_eq_false_iff_not] at h
    simp only [insL, h.1, if_false, ih h.2, List.cons_append]

/-- what the reference's Add answers -/
def RAddIs (v : Value) (L : List Si) (a t : Int) (up : Bool) (w : World) : Ending → World → Prop := fun e w' =>
  ∃ v', e = .returned (.tuple #[v', .int .i64 (addE L a t)]) ∧ Below w.heap.size w w' ∧ ((addE L a t ≠ 0 ∧ v' = v) ∨ (addE L a t = 0 ∧ TOwn 48 w' w.heap.size v' ((addR L a t up).map siV)))
def gtB (a : Int) (A : List Si) : Bool := A.any fun y => decide (a < y.at_)
theorem ltake_any (L : List Si) (k : Nat) (hk : k < L.length) (f : Si → Bool) : (L.take (k + 1)).any f = ((L.take k).any f || f L[k]) := by
  rw [List.take_succ_eq_append_getElem hk, List.any_append]; simp only [List.any_cons, List.any_nil, Bool.or_false]
theorem near_at (L : List Si) (a : Int) (k : Nat) (hk : k < L.length) : nearB L a = true ∨ ¬ (-5 < a - L[k].at_ ∧ a - L[k].at_ < 5) := by
  by_cases h : -5 < a - L[k].at_ ∧ a - L[k].at_ < 5
  · exact .inl ((nearB_iff L a).2 ⟨k, hk, h⟩)
  · exact .inr h
/-- what stands in 'out' behind k rounds -/
def outL (s : Si) (L : List Si) (k : Nat) : List Si := if gtB s.at_ (L.take k) = true then insL s (L.take k) else L.take k
theorem outL_len (s : Si) (L : List Si) (k : Nat) (h : L.length ≤ 4) : (outL s L k).length ≤ 5 := by
  unfold outL
  split
  · rw [insL_len, List.length_take]; omega
  · rw [List.length_take]; omega
theorem outL_yes (s : Si) (L : List Si) (k : Nat) (hk : k < L.length) (h : gtB s.at_ (L.take k) = true) : outL s L (k + 1) = outL s L k ++ [L[k]] ∧ gtB s.at_ (L.take (k + 1)) = true := by
  have h1 : gtB s.at_ (L.take (k + 1)) = true := by unfold gtB at *; rw [ltake_any L k hk, h]; rfl
  refine ⟨?_, h1⟩
  unfold outL
  rw [if_pos h, if_pos h1, List.take_succ_eq_append_getElem hk, insL_snoc]
  unfold gtB at h
  rw [if_pos h]
theorem outL_put (s : Si) (L : List Si) (k : Nat) (hk : k < L.length) (h : gtB s.at_ (L.take k) = false) (hx : s.at_ < L[k].at_) : outL s L (k + 1) = (outL s L k ++ [s]) ++ [L[k]] ∧ gtB s.at_ (L.take (k + 1)) = true := by
  have h1 : gtB s.at_ (L.take (k + 1)) = true := by unfold gtB at *; rw [ltake_any L k hk, h, decide_eq_true hx]; rfl
  refine ⟨?_, h1⟩
  unfold outL
  have hn : ¬ gtB s.at_ (L.take k) = true := by rw [h]; decide
  rw [if_neg hn, if_pos h1, List.take_succ_eq_append_getElem hk, insL_snoc]
  unfold gtB at hn
  rw [if_neg hn, if_pos hx]
  simp
theorem outL_no (s : Si) (L : List Si) (k : Nat) (hk : k < L.length) (h : gtB s.at_ (L.take k) = false) (hx : ¬ s.at_ < L[k].at_) : outL s L (k + 1) = outL s L k ++ [L[k]] ∧ gtB s.at_ (L.take (k + 1)) = false := by
  have h1 : gtB s.at_ (L.take (k + 1)) = false := by unfold gtB at *; rw [ltake_any L k hk, h, decide_eq_false hx]; rfl
  refine ⟨?_, h1⟩
  unfold outL
  have hn : ¬ gtB s.at_ (L.take k) = true := by rw [h]; decide
  have hn1 : ¬ gtB s.at_ (L.take (k + 1)) = true := by rw [h1]; decide
  rw [if_neg hn, if_neg hn1, List.take_succ_eq_append_getElem hk]
theorem outL_end (s : Si) (L : List Si) (k : Nat) (hk : L.length ≤ k) : (gtB s.at_ (L.take k) = true → outL s L k = insL s L) ∧ (gtB s.at_ (L.take k) = false → outL s L k ++ [s] = insL s L) := by
  unfold outL
  rw [List.take_of_length_le hk]
  refine ⟨fun h => by rw [if_pos h], fun h => ?_⟩
  rw [if_neg (by rw [h]; decide), insL_end s L h]
end Go.Proofs.Ytekggimgobeggaa
