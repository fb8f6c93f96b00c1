/- Lists of sites in memory; SameSites; the reference's Find and Add. -/
import Derived.Test.YtonkjeoepfkboaaBatE
namespace Go.Proofs.Ytonkjeoepfkboaa
open Go.RowKit

/-- a list of such in memory, whoever made it -/
def Row3 (w : World) (p : Option Addr) (L : List V3) : Prop :=
  0 < L.length → ∃ b o, p = some ⟨b, o, none⟩ ∧ ∀ i (hi : i < L.length) j, j < 3 → w.cell? ⟨b, o + i * 3 + j, none⟩ = (l3 L[i])[j]?
theorem Row3.nil (w : World) (p : Option Addr) : Row3 w p [] := fun h => absurd h (by simp)
theorem Row3.below {w w' : World} {p : Option Addr} {L : List V3} (h : Row3 w p L) (hb : Below w.heap.size w w') : Row3 w' p L := fun h0 => by
  obtain ⟨b, o, e, h1⟩ := h h0
  refine ⟨b, o, e, fun i hi j hj => ?_⟩
  have h2 := h1 i hi j hj
  obtain ⟨u, hu⟩ : ∃ u, (l3 L[i])[j]? = some u := ⟨_, List.getElem?_eq_getElem (show j < 3 from hj)⟩
  rw [hu] at h2 ⊢
  exact (hb.cell (p := ⟨b, o + i * 3 + j, none⟩) (cell_lt h2)).trans h2
theorem Row3.drewN {w : World} {p : Option Addr} {L : List V3} (h : Row3 w p L) (n : Nat) : Row3 (w.drewN n) p L := h
theorem TOwn.row3 {T : TypeId} {w : World} {B : Nat} {v : Value} {L : List V3} (h : TOwn T w B v L) : ∃ p cap, v = .slice p L.length cap ∧ L.length ≤ cap ∧ cap ≤ maxLen ∧ Row3 w p L := by
  obtain ⟨p, cap, e, h1, h2, h3⟩ := h.shape
  refine ⟨p, cap, e, h1, h2, fun h0 => ?_⟩
  obtain ⟨g, e2, -, -, h4⟩ := h3 h0
  exact ⟨g, 0, e2, fun i hi j hj => by rw [Nat.zero_add]; exact h4 i hi j hj⟩
theorem cells3 {w : World} {b o : Nat} {L : List V3} (h : ∀ i (hi : i < L.length) j, j < 3 → w.cell? ⟨b, o + i * 3 + j, none⟩ = (l3 L[i])[j]?) (i : Nat) (hi : i < L.length) :
    w.cell? ⟨b, o + i * 3, none⟩ = some L[i].1 ∧ w.cell? ⟨b, o + i * 3 + 1, none⟩ = some L[i].2.1 ∧ w.cell? ⟨b, o + i * 3 + 2, none⟩ = some L[i].2.2 :=
  ⟨h i hi 0 (by decide), h i hi 1 (by decide), h i hi 2 (by decide)⟩
theorem TOwn.lowB {T : TypeId} {w : World} {B B' : Nat} {v : Value} {L : List V3} (h : TOwn T w B v L) (hB : B' ≤ B) : TOwn T w B' v L := by
  rcases h.2 with h2 | ⟨g, cap, cur, h1, h2, h3⟩
  · exact ⟨h.1, .inl h2⟩
  · exact ⟨h.1, .inr ⟨g, cap, cur, h1, Nat.le_trans hB h2, h3⟩⟩
theorem take_step {α : Type} {L M : List α} {k : Nat} (h : L.take k = M.take k) (h1 : k < L.length) (h2 : k < M.length) (e : L[k] = M[k]) : L.take (k + 1) = M.take (k + 1) := by
  rw [List.take_succ_eq_append_getElem h1, List.take_succ_eq_append_getElem h2, h, e]
theorem take_all {α : Type} {L M : List α} {k : Nat} (h : L.take k = M.take k) (h1 : L.length ≤ k) (h2 : M.length ≤ k) : L = M := by
  rw [← List.take_of_length_le h1, h, List.take_of_length_le h2]
theorem drewN_two (w : World) (a b : Nat) : (w.drewN a).drewN b = w.drewN (a + b) := by simp

set_option maxRecDepth 20000 in
set_option maxHeartbeats 1000000 in
theorem sameSites_any (p q : Option Addr) (n c m d : Nat) (L M : List Si) (w : World) (hn : L.length = n) (hm : M.length = m) (hn6 : n ≤ 9223372036854775807) (_hm6 : m ≤ 9223372036854775807) (h1 : Row3 w p (L.map siV)) (h2 : Row3 w q (M.map siV)) :
    Calls Try.prog 15 #[.slice p n c, .slice q m d] w fun E w' => (∃ b, E = .returned (.bool b) ∧ (b = true ↔ L = M)) ∧ ∃ z, w' = w.drewN z := by
  by_cases hl : n = m
  · subst hl
    have HL := Hid.in hn
    have HM := Hid.in hm
    have H1 := Hid.in h1
    have H2 := Hid.in h2
    clear hn hm h1 h2
    go_enter Try.func15, Try.ntmps15
    go_wp2_with fail
    go_loopw [5] (fun vi wr => ∃ k z : Nat, vi = .int .i64 k ∧ k ≤ n ∧ L.take k = M.take k ∧ wr = w.drewN z) (fun vi _ => n - (intOf vi).toNat)
    case atStart => exact ⟨0, 0, rfl, Nat.zero_le _, rfl, rfl⟩
    case round =>
      obtain ⟨k, z, rfl, hk, ht, rfl⟩ := hrel
      have HT := Hid.in ht
      clear ht
      by_cases hlt : k < n
      · have hk1 : k < L.length := by rw [HL.out]; exact hlt
        have hk2 : k < M.length := by rw [HM.out]; exact hlt
        obtain ⟨b, o, rfl, hc⟩ := H1.out (by rw [List.length_map]; omega)
        obtain ⟨c0, c1, c2⟩ := cells3 hc k (by rw [List.length_map]; exact hk1)
        obtain ⟨b', o', rfl, hc'⟩ := H2.out (by rw [List.length_map]; omega)
        obtain ⟨e0, e1, e2⟩ := cells3 hc' k (by rw [List.length_map]; exact hk2)
        simp only [List.getElem_map, siV] at c0 c1 c2 e0 e1 e2
        have HE : Hid (L[k] = M[k] → L.take (k + 1) = M.take (k + 1)) := fun e => take_step HT.out hk1 hk2 e
        have HNE : Hid (L[k] ≠ M[k] → L ≠ M) := fun e e' => e (by subst e'; rfl)
        clear hc hc' H1 H2
        generalize L[k] = x at *
        generalize M[k] = y at *
        obtain ⟨x0, x1, x2⟩ := x
        obtain ⟨y0, y1, y2⟩ := y
        simp only at c0 c1 c2 e0 e1 e2
        by_cases h0 : x0 = y0
        · subst h0
          by_cases h1 : x1 = y1
          · subst h1
            by_cases h2 : x2 = y2
            · subst h2
              go_upto_region 6 with fail
              go_quiet (fail)
              go_wp2_with fail
              go_roundw
              case rel => exact ⟨k + 1, z + nq, by go_num, by omega, HE.out rfl, by simp⟩
              case measure => simp [intOf]; omega
            · skip
              go_upto_region 6 with fail
              go_quiet (fail)
              go_wp2_with fail
              go_ret
              exact ⟨⟨false, rfl, by simp [HNE.out (fun e => h2 (by injection e))]⟩, z + nq, drewN_two _ _ _⟩
          · skip
            go_upto_region 6 with fail
            go_quiet (fail)
            go_wp2_with fail
            go_ret
            exact ⟨⟨false, rfl, by simp [HNE.out (fun e => h1 (by injection e))]⟩, z + nq, drewN_two _ _ _⟩
        · skip
          go_upto_region 6 with fail
          go_quiet (fail)
          go_wp2_with fail
          go_ret
          exact ⟨⟨false, rfl, by simp [HNE.out (fun e => h0 (by injection e))]⟩, z + nq, drewN_two _ _ _⟩
      · have hkn : k = n := by omega
        subst hkn
        have HR : Hid (L = M) := take_all HT.out (by rw [HL.out]; exact Nat.le_refl _) (by rw [HM.out]; exact Nat.le_refl _)
        go_wp2_with fail
        go_ret
        exact ⟨⟨true, rfl, by simp [HR.out]⟩, z, rfl⟩
  · have HR : Hid (L ≠ M) := fun e => hl (by rw [← hn, ← hm, e])
    clear hn hm h1 h2
    go_enter Try.func15, Try.ntmps15
    go_wp2_with fail
    go_ret
    exact ⟨⟨false, rfl, by simp [HR.out]⟩, 0, rfl⟩


set_option maxRecDepth 20000 in
set_option maxHeartbeats 1000000 in
theorem refFind_any (p : Option Addr) (n c : Nat) (L : List Si) (a : Int) (w : World) (hn : L.length = n) (hn6 : n ≤ 9223372036854775807) (h1 : Row3 w p (L.map siV)) :
    Calls Try.prog 13 #[.slice p n c, .int .i64 a] w fun E w' => E = .returned (.tuple #[.int .i64 (fndI L a), .bool (fndB L a)]) ∧ w' = w := by
  have HL := Hid.in hn
  have H1 := Hid.in h1
  clear hn h1
  go_enter Try.func13, Try.ntmps13
  go_wp2_with fail
  go_loop [6] (fun vi => ∃ k : Nat, vi = .int .i64 k ∧ k ≤ n ∧ ∀ j (h : j < L.length), j < k → L[j].at_ ≠ a) (fun vi => n - (intOf vi).toNat)
  case atStart => exact ⟨0, rfl, Nat.zero_le _, fun j _ h => absurd h (by omega)⟩
  case round =>
    obtain ⟨k, rfl, hk, ht⟩ := hrel
    have HT := Hid.in ht
    clear ht
    by_cases hlt : k < n
    · have hk1 : k < L.length := by rw [HL.out]; exact hlt
      obtain ⟨b, o, rfl, hc⟩ := H1.out (by rw [List.length_map]; omega)
      obtain ⟨-, c1, -⟩ := cells3 hc k (by rw [List.length_map]; exact hk1)
      simp only [List.getElem_map, siV] at c1
      clear hc H1
      have HE : Hid (L[k].at_ = a → fndB L a = true ∧ fndI L a = k) := fun e => fnd_first hk1 e (fun j hj => HT.out j (by omega) hj)
      have HZ : Hid (∀ z, L[k].at_ = z → z ≠ a → ∀ j (h : j < L.length), j < k + 1 → L[j].at_ ≠ a) := fun z hz hne j hj hjk => by
        rcases Nat.lt_or_ge j k with h | h
        · exact HT.out j hj h
        · have : j = k := by omega
          subst this; rw [hz]; exact hne
      obtain ⟨z, hz⟩ : ∃ z, L[k].at_ = z := ⟨_, rfl⟩
      have HZ2 := Hid.in (HZ.out z hz)
      rw [hz] at HE c1
      clear HZ hz
      by_cases hza : z = a
      · subst hza
        go_wp2_with fail
        go_ret2
        exact ⟨by rw [(HE.out trivial).1, (HE.out trivial).2]; rfl, rfl⟩
      · go_wp2_with fail
        go_round
        case rel => exact ⟨k + 1, by go_num, by omega, HZ2.out hza⟩
        case measure => simp [intOf]; omega
    · have hkn : k = n := by omega
      subst hkn
      have HF := Hid.in (fnd_none (L := L) (a := a) (fun j hj => HT.out j hj (by rw [← HL.out]; exact hj)))
      go_wp2_with fail
      go_ret2
      exact ⟨by rw [HF.out.1, HF.out.2]; rfl, rfl⟩
theorem insL_snoc (s x : Si) : ∀ A : List Si, insL s (A ++ [x]) = if A.any (fun y => decide (s.at_ < y.at_)) = true then insL s A ++ [x] else if s.at_ < x.at_ then A ++ [s, x] else A ++ [x, s]
  | [] => by
    simp only [List.nil_append, List.any_nil, insL]
    split <;> simp
  | y :: A => by
    have ih := insL_snoc s x A
    simp only [List.cons_append, List.any_cons, insL]
    by_cases h : s.at_ < y.at_
    · simp [h]
    · simp only [h, decide_false, Bool.false_or, if_false, ih]
      split
      · simp
      · split <;> simp
theorem insL_end (s : Si) (A : List Si) (h : A.any (fun y => decide (s.at_ < y.at_)) = false) : insL s A = A ++ [s] := by
  induction A with
  | nil => rfl
  | cons y A ih =>
    simp only [List.any_cons, Bool.or_eq_false_iff, decide_eq_false_iff_not] at h
    simp only [insL, h.1, if_false, ih h.2, List.cons_append]

/-- what the reference's Add answers -/
def RAddIs (v : Value) (L : List Si) (a t : Int) (up : Bool) (w : World) : Ending → World → Prop := fun e w' =>
  ∃ v', e = .returned (.tuple #[v', .int .i64 (addE L a t)]) ∧ Below w.heap.size w w' ∧ ((addE L a t ≠ 0 ∧ v' = v) ∨ (addE L a t = 0 ∧ TOwn 35 w' w.heap.size v' ((addR L a t up).map siV)))
def gtB (a : Int) (A : List Si) : Bool := A.any fun y => decide (a < y.at_)
theorem take_any (L : List Si) (k : Nat) (hk : k < L.length) (f : Si → Bool) : (L.take (k + 1)).any f = ((L.take k).any f || f L[k]) := by
  rw [List.take_succ_eq_append_getElem hk, List.any_append]; simp only [List.any_cons, List.any_nil, Bool.or_false]
set_option maxRecDepth 20000 in
set_option maxHeartbeats 2000000 in
theorem radd_bad (p : Option Addr) (n c : Nat) (L : List Si) (a t : Int) (up : Bool) (w : World) (hb : a < 0 ∨ 65531 < a ∨ t < 0 ∨ 65536 < t) :
    Calls Try.prog 7 #[.slice p n c, .int .i64 a, .int .i64 t, .bool up] w (RAddIs (.slice p n c) L a t up w) := by
  have HR : Hid (RAddIs (.slice p n c) L a t up w (.returned (.tuple #[.slice p n c, .int .i64 2])) w) := by
    have e := addE_bad (L := L) hb
    exact ⟨_, by rw [e], below_self _, .inl ⟨by omega, rfl⟩⟩
  generalize RAddIs (.slice p n c) L a t up w = R at *
  by_cases h1 : a < 0
  · clear hb
    go_enter Try.func7, Try.ntmps7
    go_wp2_with fail
    exact HR.out
  · by_cases h2 : 65531 < a
    · clear hb
      go_enter Try.func7, Try.ntmps7
      go_wp2_with fail
      exact HR.out
    · by_cases h3 : t < 0
      · clear hb
        go_enter Try.func7, Try.ntmps7
        go_wp2_with fail
        exact HR.out
      · have h4 : 65536 < t := by omega
        clear hb
        go_enter Try.func7, Try.ntmps7
        go_wp2_with fail
        exact HR.out
theorem near_at (L : List Si) (a : Int) (k : Nat) (hk : k < L.length) : nearB L a = true ∨ ¬ (-5 < a - L[k].at_ ∧ a - L[k].at_ < 5) := by
  by_cases h : -5 < a - L[k].at_ ∧ a - L[k].at_ < 5
  · exact .inl ((nearB_iff L a).2 ⟨k, hk, h⟩)
  · exact .inr h
/-- what stands in 'out' behind k rounds -/
def outL (s : Si) (L : List Si) (k : Nat) : List Si := if gtB s.at_ (L.take k) = true then insL s (L.take k) else L.take k
theorem outL_len (s : Si) (L : List Si) (k : Nat) (h : L.length ≤ 4) : (outL s L k).length ≤ 5 := by
  unfold outL
  split
  · rw [insL_len, List.length_take]; omega
  · rw [List.length_take]; omega
theorem outL_yes (s : Si) (L : List Si) (k : Nat) (hk : k < L.length) (h : gtB s.at_ (L.take k) = true) : outL s L (k + 1) = outL s L k ++ [L[k]] ∧ gtB s.at_ (L.take (k + 1)) = true := by
  have h1 : gtB s.at_ (L.take (k + 1)) = true := by unfold gtB at *; rw [take_any L k hk, h]; rfl
  refine ⟨?_, h1⟩
  unfold outL
  rw [if_pos h, if_pos h1, List.take_succ_eq_append_getElem hk, insL_snoc]
  unfold gtB at h
  rw [if_pos h]
theorem outL_put (s : Si) (L : List Si) (k : Nat) (hk : k < L.length) (h : gtB s.at_ (L.take k) = false) (hx : s.at_ < L[k].at_) : outL s L (k + 1) = (outL s L k ++ [s]) ++ [L[k]] ∧ gtB s.at_ (L.take (k + 1)) = true := by
  have h1 : gtB s.at_ (L.take (k + 1)) = true := by unfold gtB at *; rw [take_any L k hk, h, decide_eq_true hx]; rfl
  refine ⟨?_, h1⟩
  unfold outL
  have hn : ¬ gtB s.at_ (L.take k) = true := by rw [h]; decide
  rw [if_neg hn, if_pos h1, List.take_succ_eq_append_getElem hk, insL_snoc]
  unfold gtB at hn
  rw [if_neg hn, if_pos hx]
  simp
theorem outL_no (s : Si) (L : List Si) (k : Nat) (hk : k < L.length) (h : gtB s.at_ (L.take k) = false) (hx : ¬ s.at_ < L[k].at_) : outL s L (k + 1) = outL s L k ++ [L[k]] ∧ gtB s.at_ (L.take (k + 1)) = false := by
  have h1 : gtB s.at_ (L.take (k + 1)) = false := by unfold gtB at *; rw [take_any L k hk, h, decide_eq_false hx]; rfl
  refine ⟨?_, h1⟩
  unfold outL
  have hn : ¬ gtB s.at_ (L.take k) = true := by rw [h]; decide
  have hn1 : ¬ gtB s.at_ (L.take (k + 1)) = true := by rw [h1]; decide
  rw [if_neg hn, if_neg hn1, List.take_succ_eq_append_getElem hk]
theorem outL_end (s : Si) (L : List Si) (k : Nat) (hk : L.length ≤ k) : (gtB s.at_ (L.take k) = true → outL s L k = insL s L) ∧ (gtB s.at_ (L.take k) = false → outL s L k ++ [s] = insL s L) := by
  unfold outL
  rw [List.take_of_length_le hk]
  refine ⟨fun h => by rw [if_pos h], fun h => ?_⟩
  rw [if_neg (by rw [h]; decide), insL_end s L h]
set_option maxRecDepth 20000 in
set_option maxHeartbeats 4000000 in
theorem radd_good (p : Option Addr) (n c : Nat) (L : List Si) (a t : Int) (up : Bool) (w : World) (hn : L.length = n) (hn6 : n ≤ 4) (hs : Srt L) (hrow : Row3 w p (L.map siV)) (h0 : 0 ≤ a) (h1 : a ≤ 65531) (h2 : 0 ≤ t) (h3 : t ≤ 65536) :
    Calls Try.prog 7 #[.slice p n c, .int .i64 a, .int .i64 t, .bool up] w (RAddIs (.slice p n c) L a t up w) := by
  have hb : badB a t = false := by unfold badB; exact decide_eq_false (by omega)
  have hE : addE L a t = if nearB L a = true then 2 else if 4 ≤ L.length then 3 else 0 := by unfold addE; rw [if_neg (by rw [hb]; decide)]
  have HE := Hid.in hE
  have HL := Hid.in hn
  have H1 := Hid.in hrow
  have HS := Hid.in hs
  have HR2 : Hid (nearB L a = true → RAddIs (.slice p n c) L a t up w (.returned (.tuple #[.slice p n c, .int .i64 2])) w) := fun h => by
    have e : addE L a t = 2 := by rw [hE, h]; rfl
    exact ⟨_, by rw [e], below_self _, .inl ⟨by omega, rfl⟩⟩
  have HR3 : Hid (nearB L a = false → 4 ≤ n → RAddIs (.slice p n c) L a t up w (.returned (.tuple #[.slice p n c, .int .i64 3])) w) := fun h h4 => by
    have e : addE L a t = 3 := by rw [hE, h]; simp; omega
    exact ⟨_, by rw [e], below_self _, .inl ⟨by omega, rfl⟩⟩
  have HR0 : Hid (nearB L a = false → n < 4 → ∀ v' w', Below w.heap.size w w' → TOwn 35 w' w.heap.size v' ((insL ⟨dirK up, a, t⟩ L).map siV) → RAddIs (.slice p n c) L a t up w (.returned (.tuple #[v', .int .i64 0])) w') := fun h h4 v' w' hbl ht => by
    have e : addE L a t = 0 := by rw [hE, h]; simp; omega
    refine ⟨v', by rw [e], hbl, .inr ⟨e, ?_⟩⟩
    unfold addR; rw [if_pos e]; exact ht
  generalize RAddIs (.slice p n c) L a t up w = R at *
  clear hn hrow hE hb hs
  have g1 : ¬ a < 0 := by omega
  have g2 : ¬ 65531 < a := by omega
  have g3 : ¬ t < 0 := by omega
  have g4 : ¬ 65536 < t := by omega
  go_enter Try.func7, Try.ntmps7
  go_wp2_with fail
  go_loop [10, 11] (fun vi vd => ∃ (k : Nat), vi = .int .i64 k ∧ k ≤ n ∧ ∀ j (h : j < L.length), j < k → ¬ (-5 < a - L[j].at_ ∧ a - L[j].at_ < 5)) (fun vi _ => n - (intOf vi).toNat)
  case atStart => exact ⟨0, rfl, Nat.zero_le _, fun j _ h => absurd h (by omega)⟩
  case round =>
    obtain ⟨k, rfl, hk, ht⟩ := hrel
    have HT := Hid.in ht
    clear ht
    by_cases hlt : k < n
    · have hk1 : k < L.length := by rw [HL.out]; exact hlt
      obtain ⟨b, o, rfl, hc⟩ := H1.out (by rw [List.length_map]; omega)
      obtain ⟨-, c1, -⟩ := cells3 hc k (by rw [List.length_map]; exact hk1)
      simp only [List.getElem_map, siV] at c1
      have HN := Hid.in (near_at L a k hk1)
      have hz0 := HS.out.lo k hk1
      have hz1 := HS.out.hi k hk1
      have HZ : Hid (∀ z, L[k].at_ = z → ¬ (-5 < a - z ∧ a - z < 5) → ∀ j (h : j < L.length), j < k + 1 → ¬ (-5 < a - L[j].at_ ∧ a - L[j].at_ < 5)) := fun z hz hne j hj hjk => by
        rcases Nat.lt_or_ge j k with h | h
        · exact HT.out j hj h
        · have : j = k := by omega
          subst this; rw [hz]; exact hne
      obtain ⟨z, hz⟩ : ∃ z, L[k].at_ = z := ⟨_, rfl⟩
      have HZ2 := Hid.in (HZ.out z hz)
      rw [hz] at HN c1 hz0 hz1
      clear HZ hz hc
      by_cases hza : -5 < a - z
      · by_cases hzb : a - z < 5
        · have HNR := Hid.in (HR2.out (HN.out.resolve_right (fun h => h ⟨hza, hzb⟩)))
          clear HN HZ2 HT
          go_wp2_with fail
          exact HNR.out
        · go_wp2_with fail
          go_round
          case rel => exact ⟨k + 1, by go_num, by omega, HZ2.out (by omega)⟩
          case measure => simp [intOf]; omega
      · go_wp2_with fail
        go_round
        case rel => exact ⟨k + 1, by go_num, by omega, HZ2.out (by omega)⟩
        case measure => simp [intOf]; omega
    · have hkn : k = n := by omega
      subst hkn
      have hnb : nearB L a = false := by
        cases hcb : nearB L a
        · rfl
        · obtain ⟨i, hi, e⟩ := (nearB_iff L a).1 hcb
          exact absurd e (HT.out i hi (by rw [← HL.out]; exact hi))
      have HNB := Hid.in hnb
      clear hnb HT
      by_cases h4 : 4 ≤ k
      · have HNR := Hid.in (HR3.out HNB.out h4)
        go_wp2_with fail
        exact HNR.out
      · cases up
        · go_upto_region 14 with fail
          obtain ⟨w1, hw1⟩ : ∃ w1, w1 = w.alloc (.cells #[.int .i64 0, .int .i64 a, .int .i64 t] 35) := ⟨_, rfl⟩
          rw [← hw1]
          have HX1 : Hid (Blk w1 w.heap.size 35 #[.int .i64 0, .int .i64 a, .int .i64 t]) := by rw [hw1]; exact Blk.new _ _ _
          have HB1 : Hid (Below w.heap.size w w1) := by rw [hw1]; exact new_alloc _ _
          have HSZ : Hid (w1.heap.size = w.heap.size + 1) := by rw [hw1]; exact size_one _ _
          clear hw1
          have HI := Hid.in (HR0.out HNB.out (by omega))
          clear HR0 HR2 HR3 HE HNB
          go_wp2_with fail
          go_loopw [13, 14, 15] (fun vo vp vi wr => ∃ j : Nat, vi = .int .i64 j ∧ j ≤ k ∧ vp = .bool (gtB a (L.take j)) ∧ TOwn 35 wr (w.heap.size + 1) vo ((outL ⟨0, a, t⟩ L j).map siV) ∧ Below (w.heap.size + 1) w1 wr) (fun _ _ vi _ => k - (intOf vi).toNat)
          case atStart => exact ⟨0, rfl, Nat.zero_le _, rfl, TOwn.nil _ _ _, Below.refl _ _⟩
          case round =>
            obtain ⟨j, rfl, hj, rfl, hT, hb⟩ := hrel
            have HT := Hid.in hT
            have HB := Hid.in hb
            have HBW : Hid (Below w.heap.size w wr) := HB1.out.trans (hb.mono (Nat.le_succ _))
            have HZwr : Hid (w.heap.size + 1 ≤ wr.heap.size) := by have h5 := hb.size; have h6 := HSZ.out; show _ ≤ _; omega
            have HXr := Hid.in (HX1.out.below hb (Nat.lt_succ_self _))
            obtain ⟨pv, cv, hv, -, -, -⟩ := hT.shape
            have hol : ((outL ⟨0, a, t⟩ L j).map siV).length ≤ 5 := by rw [List.length_map]; exact outL_len _ _ _ (by rw [HL.out]; exact hn6)
            have HOL := Hid.in hol
            obtain ⟨lo, hlo⟩ : ∃ lo, ((outL ⟨0, a, t⟩ L j).map siV).length = lo := ⟨_, rfl⟩
            rw [hlo] at hv
            subst hv
            clear hT hb hol hlo
            have s0 : wr.cell? ⟨w.heap.size, 0, none⟩ = some (.int .i64 0) := by rw [HXr.out.cell]; rfl
            have s1 : wr.cell? ⟨w.heap.size, 1, none⟩ = some (.int .i64 a) := by rw [HXr.out.cell]; rfl
            have s2 : wr.cell? ⟨w.heap.size, 2, none⟩ = some (.int .i64 t) := by rw [HXr.out.cell]; rfl
            by_cases hjl : j < k
            · have hk1 : j < L.length := by rw [HL.out]; exact hjl
              obtain ⟨b, o, rfl, hc⟩ := (H1.out.below HBW.out) (by rw [List.length_map]; omega)
              obtain ⟨c0, c1, c2⟩ := cells3 hc j (by rw [List.length_map]; exact hk1)
              simp only [List.getElem_map, siV] at c0 c1 c2
              clear hc
              cases hg : gtB a (L.take j)
              · by_cases hz : a < L[j].at_
                · have HO := Hid.in (outL_put ⟨0, a, t⟩ L j hk1 hg hz)
                  obtain ⟨x, hx⟩ : ∃ x, x = L[j] := ⟨_, rfl⟩
                  rw [← hx] at c0 c1 c2 HO hz
                  have HXE := Hid.in hx
                  clear hg hx
                  obtain ⟨LQ, hLQ⟩ : ∃ LQ, LQ = (outL ⟨0, a, t⟩ L j).map siV := ⟨_, rfl⟩
                  rw [← hLQ] at HT HOL
                  have HLQ := Hid.in hLQ
                  clear hLQ
                  have HOL2 : Hid ((LQ ++ [siV ⟨0, a, t⟩]).length ≤ 6) := by show _ ≤ _; have := HOL.out; simp; omega
                  go_wp2_with (refine tpush Try.elemSite _ rfl _ _ rfl (w.heap.size + 1) _ LQ rfl (HT.out.alloc _) ⟨wr.heap.size, 0, none⟩ 1 (siV ⟨0, a, t⟩) ⟨rfl, rfl, rfl⟩ rfl (news3 _ _ _) (Nat.le_trans HOL.out (by decide)) (by decide) (by have := HZwr.out; simp; omega) ?_; intro v5 w5 hT5 hg5 hb5; refine Hid.out ?_)
                  refine Lib.hid ?_
                  have HT5 := Hid.in hT5
                  have HB5 := Hid.in (hb5 w1 (HB.out.alloc HZwr.out _))
                  have HBW5 : Hid (Below w.heap.size w w5) := HB1.out.trans (HB5.out.mono (Nat.le_succ _))
                  have HZw5 : Hid (w.heap.size + 1 ≤ w5.heap.size) := by have h5 := HB5.out.size; have h6 := HSZ.out; show _ ≤ _; omega
                  clear hT5 hg5 hb5 s0 s1 s2 c0 c1 c2
                  obtain ⟨b', o', e', hc⟩ := (H1.out.below HBW5.out) (by rw [List.length_map]; omega)
                  obtain ⟨c0, c1, c2⟩ := cells3 hc j (by rw [List.length_map]; exact hk1)
                  injection e' with e'
                  injection e' with e1 e2 _
                  subst e1
                  subst e2
                  simp only [List.getElem_map, siV] at c0 c1 c2
                  rw [← HXE.out] at c0 c1 c2
                  clear hc
                  go_wp2_with (refine tpush Try.elemSite _ rfl _ _ rfl (w.heap.size + 1) _ (LQ ++ [siV ⟨0, a, t⟩]) rfl (HT5.out.alloc _) ⟨w5.heap.size, 0, none⟩ 1 (.int .i64 x.key, .int .i64 x.at_, .int .i64 x.to_) ⟨rfl, rfl, rfl⟩ rfl (news3 _ _ _) (Nat.le_trans HOL2.out (by decide)) (by decide) (by have := HZw5.out; simp; omega) ?_; intro v6 w6 hT6 hg6 hb6; have HT6 := Hid.in hT6; have HB6 := Hid.in (hb6 w1 (HB5.out.alloc HZw5.out _)); clear hT6 hg6 hb6)
                  go_roundw
                  case rel => exact ⟨j + 1, by go_num, by omega, by rw [HO.out.2], by rw [HO.out.1, List.map_append, List.map_append, ← HLQ.out]; exact HT6.out, HB6.out⟩
                  case measure => simp [intOf]; omega
                · have HO := Hid.in (outL_no ⟨0, a, t⟩ L j hk1 hg hz)
                  obtain ⟨x, hx⟩ : ∃ x, x = L[j] := ⟨_, rfl⟩
                  rw [← hx] at c0 c1 c2 HO hz
                  clear hg hx
                  obtain ⟨LQ, hLQ⟩ : ∃ LQ, LQ = (outL ⟨0, a, t⟩ L j).map siV := ⟨_, rfl⟩
                  rw [← hLQ] at HT HOL
                  have HLQ := Hid.in hLQ
                  clear hLQ s0 s1 s2
                  go_wp2_with (refine tpush Try.elemSite _ rfl _ _ rfl (w.heap.size + 1) _ LQ rfl (HT.out.alloc _) ⟨wr.heap.size, 0, none⟩ 1 (.int .i64 x.key, .int .i64 x.at_, .int .i64 x.to_) ⟨rfl, rfl, rfl⟩ rfl (news3 _ _ _) (Nat.le_trans HOL.out (by decide)) (by decide) (by have := HZwr.out; simp; omega) ?_; intro v6 w6 hT6 hg6 hb6; have HT6 := Hid.in hT6; have HB6 := Hid.in (hb6 w1 (HB.out.alloc HZwr.out _)); clear hT6 hg6 hb6)
                  go_roundw
                  case rel => exact ⟨j + 1, by go_num, by omega, by rw [HO.out.2], by rw [HO.out.1, List.map_append, ← HLQ.out]; exact HT6.out, HB6.out⟩
                  case measure => simp [intOf]; omega
              · have HO := Hid.in (outL_yes ⟨0, a, t⟩ L j hk1 hg)
                obtain ⟨x, hx⟩ : ∃ x, x = L[j] := ⟨_, rfl⟩
                rw [← hx] at c0 c1 c2 HO
                clear hg hx
                obtain ⟨LQ, hLQ⟩ : ∃ LQ, LQ = (outL ⟨0, a, t⟩ L j).map siV := ⟨_, rfl⟩
                rw [← hLQ] at HT HOL
                have HLQ := Hid.in hLQ
                clear hLQ s0 s1 s2
                go_wp2_with (refine tpush Try.elemSite _ rfl _ _ rfl (w.heap.size + 1) _ LQ rfl (HT.out.alloc _) ⟨wr.heap.size, 0, none⟩ 1 (.int .i64 x.key, .int .i64 x.at_, .int .i64 x.to_) ⟨rfl, rfl, rfl⟩ rfl (news3 _ _ _) (Nat.le_trans HOL.out (by decide)) (by decide) (by have := HZwr.out; simp; omega) ?_; intro v6 w6 hT6 hg6 hb6; have HT6 := Hid.in hT6; have HB6 := Hid.in (hb6 w1 (HB.out.alloc HZwr.out _)); clear hT6 hg6 hb6)
                all_goals
                  go_roundw
                  case rel => exact ⟨j + 1, by go_num, by omega, by rw [HO.out.2], by rw [HO.out.1, List.map_append, ← HLQ.out]; exact HT6.out, HB6.out⟩
                  case measure => simp [intOf]; omega
            · have hjk : j = k := by omega
              subst hjk
              have HEN := Hid.in (outL_end ⟨0, a, t⟩ L j (by rw [HL.out]; exact Nat.le_refl _))
              cases hg : gtB a (L.take j)
              · have hen := HEN.out.2 hg
                obtain ⟨LQ, hLQ⟩ : ∃ LQ, LQ = (outL ⟨0, a, t⟩ L j).map siV := ⟨_, rfl⟩
                rw [← hLQ] at HT HOL
                have HLQ : Hid (LQ ++ [siV ⟨0, a, t⟩] = (insL ⟨0, a, t⟩ L).map siV) := by rw [hLQ, ← hen, List.map_append]; exact rfl
                clear hLQ hen HEN hg
                go_wp2_with (refine tpush Try.elemSite _ rfl _ _ rfl (w.heap.size + 1) _ LQ rfl (HT.out.alloc _) ⟨wr.heap.size, 0, none⟩ 1 (siV ⟨0, a, t⟩) ⟨rfl, rfl, rfl⟩ rfl (news3 _ _ _) (Nat.le_trans HOL.out (by decide)) (by decide) (by have := HZwr.out; simp; omega) ?_; intro v6 w6 hT6 hg6 hb6; have HT6 := Hid.in hT6; have HB6 := Hid.in (hb6 w1 (HB.out.alloc HZwr.out _)); clear hT6 hg6 hb6)
                refine HI.out _ _ (HB1.out.trans (HB6.out.mono (Nat.le_succ _))) (TOwn.lowB (B := w.heap.size + 1) ?_ (Nat.le_succ _))
                have hh := HT6.out
                rw [HLQ.out] at hh
                exact hh
              · have hen := HEN.out.1 hg
                rw [hen] at HT
                clear hen HEN hg
                go_wp2_with fail
                refine HI.out _ _ (HB1.out.trans (HB.out.mono (Nat.le_succ _))) (TOwn.lowB (B := w.heap.size + 1) ?_ (Nat.le_succ _))
                exact HT.out
        · go_upto_region 14 with fail
          obtain ⟨w1, hw1⟩ : ∃ w1, w1 = w.alloc (.cells #[.int .i64 1, .int .i64 a, .int .i64 t] 35) := ⟨_, rfl⟩
          rw [← hw1]
          have HX1 : Hid (Blk w1 w.heap.size 35 #[.int .i64 1, .int .i64 a, .int .i64 t]) := by rw [hw1]; exact Blk.new _ _ _
          have HB1 : Hid (Below w.heap.size w w1) := by rw [hw1]; exact new_alloc _ _
          have HSZ : Hid (w1.heap.size = w.heap.size + 1) := by rw [hw1]; exact size_one _ _
          clear hw1
          have HI := Hid.in (HR0.out HNB.out (by omega))
          clear HR0 HR2 HR3 HE HNB
          go_wp2_with fail
          go_loopw [13, 14, 15] (fun vo vp vi wr => ∃ j : Nat, vi = .int .i64 j ∧ j ≤ k ∧ vp = .bool (gtB a (L.take j)) ∧ TOwn 35 wr (w.heap.size + 1) vo ((outL ⟨1, a, t⟩ L j).map siV) ∧ Below (w.heap.size + 1) w1 wr) (fun _ _ vi _ => k - (intOf vi).toNat)
          case atStart => exact ⟨0, rfl, Nat.zero_le _, rfl, TOwn.nil _ _ _, Below.refl _ _⟩
          case round =>
            obtain ⟨j, rfl, hj, rfl, hT, hb⟩ := hrel
            have HT := Hid.in hT
            have HB := Hid.in hb
            have HBW : Hid (Below w.heap.size w wr) := HB1.out.trans (hb.mono (Nat.le_succ _))
            have HZwr : Hid (w.heap.size + 1 ≤ wr.heap.size) := by have h5 := hb.size; have h6 := HSZ.out; show _ ≤ _; omega
            have HXr := Hid.in (HX1.out.below hb (Nat.lt_succ_self _))
            obtain ⟨pv, cv, hv, -, -, -⟩ := hT.shape
            have hol : ((outL ⟨1, a, t⟩ L j).map siV).length ≤ 5 := by rw [List.length_map]; exact outL_len _ _ _ (by rw [HL.out]; exact hn6)
            have HOL := Hid.in hol
            obtain ⟨lo, hlo⟩ : ∃ lo, ((outL ⟨1, a, t⟩ L j).map siV).length = lo := ⟨_, rfl⟩
            rw [hlo] at hv
            subst hv
            clear hT hb hol hlo
            have s0 : wr.cell? ⟨w.heap.size, 0, none⟩ = some (.int .i64 1) := by rw [HXr.out.cell]; rfl
            have s1 : wr.cell? ⟨w.heap.size, 1, none⟩ = some (.int .i64 a) := by rw [HXr.out.cell]; rfl
            have s2 : wr.cell? ⟨w.heap.size, 2, none⟩ = some (.int .i64 t) := by rw [HXr.out.cell]; rfl
            by_cases hjl : j < k
            · have hk1 : j < L.length := by rw [HL.out]; exact hjl
              obtain ⟨b, o, rfl, hc⟩ := (H1.out.below HBW.out) (by rw [List.length_map]; omega)
              obtain ⟨c0, c1, c2⟩ := cells3 hc j (by rw [List.length_map]; exact hk1)
              simp only [List.getElem_map, siV] at c0 c1 c2
              clear hc
              cases hg : gtB a (L.take j)
              · by_cases hz : a < L[j].at_
                · have HO := Hid.in (outL_put ⟨1, a, t⟩ L j hk1 hg hz)
                  obtain ⟨x, hx⟩ : ∃ x, x = L[j] := ⟨_, rfl⟩
                  rw [← hx] at c0 c1 c2 HO hz
                  have HXE := Hid.in hx
                  clear hg hx
                  obtain ⟨LQ, hLQ⟩ : ∃ LQ, LQ = (outL ⟨1, a, t⟩ L j).map siV := ⟨_, rfl⟩
                  rw [← hLQ] at HT HOL
                  have HLQ := Hid.in hLQ
                  clear hLQ
                  have HOL2 : Hid ((LQ ++ [siV ⟨1, a, t⟩]).length ≤ 6) := by show _ ≤ _; have := HOL.out; simp; omega
                  go_wp2_with (refine tpush Try.elemSite _ rfl _ _ rfl (w.heap.size + 1) _ LQ rfl (HT.out.alloc _) ⟨wr.heap.size, 0, none⟩ 1 (siV ⟨1, a, t⟩) ⟨rfl, rfl, rfl⟩ rfl (news3 _ _ _) (Nat.le_trans HOL.out (by decide)) (by decide) (by have := HZwr.out; simp; omega) ?_; intro v5 w5 hT5 hg5 hb5; refine Hid.out ?_)
                  refine Lib.hid ?_
                  have HT5 := Hid.in hT5
                  have HB5 := Hid.in (hb5 w1 (HB.out.alloc HZwr.out _))
                  have HBW5 : Hid (Below w.heap.size w w5) := HB1.out.trans (HB5.out.mono (Nat.le_succ _))
                  have HZw5 : Hid (w.heap.size + 1 ≤ w5.heap.size) := by have h5 := HB5.out.size; have h6 := HSZ.out; show _ ≤ _; omega
                  clear hT5 hg5 hb5 s0 s1 s2 c0 c1 c2
                  obtain ⟨b', o', e', hc⟩ := (H1.out.below HBW5.out) (by rw [List.length_map]; omega)
                  obtain ⟨c0, c1, c2⟩ := cells3 hc j (by rw [List.length_map]; exact hk1)
                  injection e' with e'
                  injection e' with e1 e2 _
                  subst e1
                  subst e2
                  simp only [List.getElem_map, siV] at c0 c1 c2
                  rw [← HXE.out] at c0 c1 c2
                  clear hc
                  go_wp2_with (refine tpush Try.elemSite _ rfl _ _ rfl (w.heap.size + 1) _ (LQ ++ [siV ⟨1, a, t⟩]) rfl (HT5.out.alloc _) ⟨w5.heap.size, 0, none⟩ 1 (.int .i64 x.key, .int .i64 x.at_, .int .i64 x.to_) ⟨rfl, rfl, rfl⟩ rfl (news3 _ _ _) (Nat.le_trans HOL2.out (by decide)) (by decide) (by have := HZw5.out; simp; omega) ?_; intro v6 w6 hT6 hg6 hb6; have HT6 := Hid.in hT6; have HB6 := Hid.in (hb6 w1 (HB5.out.alloc HZw5.out _)); clear hT6 hg6 hb6)
                  go_roundw
                  case rel => exact ⟨j + 1, by go_num, by omega, by rw [HO.out.2], by rw [HO.out.1, List.map_append, List.map_append, ← HLQ.out]; exact HT6.out, HB6.out⟩
                  case measure => simp [intOf]; omega
                · have HO := Hid.in (outL_no ⟨1, a, t⟩ L j hk1 hg hz)
                  obtain ⟨x, hx⟩ : ∃ x, x = L[j] := ⟨_, rfl⟩
                  rw [← hx] at c0 c1 c2 HO hz
                  clear hg hx
                  obtain ⟨LQ, hLQ⟩ : ∃ LQ, LQ = (outL ⟨1, a, t⟩ L j).map siV := ⟨_, rfl⟩
                  rw [← hLQ] at HT HOL
                  have HLQ := Hid.in hLQ
                  clear hLQ s0 s1 s2
                  go_wp2_with (refine tpush Try.elemSite _ rfl _ _ rfl (w.heap.size + 1) _ LQ rfl (HT.out.alloc _) ⟨wr.heap.size, 0, none⟩ 1 (.int .i64 x.key, .int .i64 x.at_, .int .i64 x.to_) ⟨rfl, rfl, rfl⟩ rfl (news3 _ _ _) (Nat.le_trans HOL.out (by decide)) (by decide) (by have := HZwr.out; simp; omega) ?_; intro v6 w6 hT6 hg6 hb6; have HT6 := Hid.in hT6; have HB6 := Hid.in (hb6 w1 (HB.out.alloc HZwr.out _)); clear hT6 hg6 hb6)
                  go_roundw
                  case rel => exact ⟨j + 1, by go_num, by omega, by rw [HO.out.2], by rw [HO.out.1, List.map_append, ← HLQ.out]; exact HT6.out, HB6.out⟩
                  case measure => simp [intOf]; omega
              · have HO := Hid.in (outL_yes ⟨1, a, t⟩ L j hk1 hg)
                obtain ⟨x, hx⟩ : ∃ x, x = L[j] := ⟨_, rfl⟩
                rw [← hx] at c0 c1 c2 HO
                clear hg hx
                obtain ⟨LQ, hLQ⟩ : ∃ LQ, LQ = (outL ⟨1, a, t⟩ L j).map siV := ⟨_, rfl⟩
                rw [← hLQ] at HT HOL
                have HLQ := Hid.in hLQ
                clear hLQ s0 s1 s2
                go_wp2_with (refine tpush Try.elemSite _ rfl _ _ rfl (w.heap.size + 1) _ LQ rfl (HT.out.alloc _) ⟨wr.heap.size, 0, none⟩ 1 (.int .i64 x.key, .int .i64 x.at_, .int .i64 x.to_) ⟨rfl, rfl, rfl⟩ rfl (news3 _ _ _) (Nat.le_trans HOL.out (by decide)) (by decide) (by have := HZwr.out; simp; omega) ?_; intro v6 w6 hT6 hg6 hb6; have HT6 := Hid.in hT6; have HB6 := Hid.in (hb6 w1 (HB.out.alloc HZwr.out _)); clear hT6 hg6 hb6)
                all_goals
                  go_roundw
                  case rel => exact ⟨j + 1, by go_num, by omega, by rw [HO.out.2], by rw [HO.out.1, List.map_append, ← HLQ.out]; exact HT6.out, HB6.out⟩
                  case measure => simp [intOf]; omega
            · have hjk : j = k := by omega
              subst hjk
              have HEN := Hid.in (outL_end ⟨1, a, t⟩ L j (by rw [HL.out]; exact Nat.le_refl _))
              cases hg : gtB a (L.take j)
              · have hen := HEN.out.2 hg
                obtain ⟨LQ, hLQ⟩ : ∃ LQ, LQ = (outL ⟨1, a, t⟩ L j).map siV := ⟨_, rfl⟩
                rw [← hLQ] at HT HOL
                have HLQ : Hid (LQ ++ [siV ⟨1, a, t⟩] = (insL ⟨1, a, t⟩ L).map siV) := by rw [hLQ, ← hen, List.map_append]; exact rfl
                clear hLQ hen HEN hg
                go_wp2_with (refine tpush Try.elemSite _ rfl _ _ rfl (w.heap.size + 1) _ LQ rfl (HT.out.alloc _) ⟨wr.heap.size, 0, none⟩ 1 (siV ⟨1, a, t⟩) ⟨rfl, rfl, rfl⟩ rfl (news3 _ _ _) (Nat.le_trans HOL.out (by decide)) (by decide) (by have := HZwr.out; simp; omega) ?_; intro v6 w6 hT6 hg6 hb6; have HT6 := Hid.in hT6; have HB6 := Hid.in (hb6 w1 (HB.out.alloc HZwr.out _)); clear hT6 hg6 hb6)
                refine HI.out _ _ (HB1.out.trans (HB6.out.mono (Nat.le_succ _))) (TOwn.lowB (B := w.heap.size + 1) ?_ (Nat.le_succ _))
                have hh := HT6.out
                rw [HLQ.out] at hh
                exact hh
              · have hen := HEN.out.1 hg
                rw [hen] at HT
                clear hen HEN hg
                go_wp2_with fail
                refine HI.out _ _ (HB1.out.trans (HB.out.mono (Nat.le_succ _))) (TOwn.lowB (B := w.heap.size + 1) ?_ (Nat.le_succ _))
                exact HT.out
theorem radd_any (p : Option Addr) (n c : Nat) (L : List Si) (a t : Int) (up : Bool) (w : World) (hn : L.length = n) (hn6 : n ≤ 4) (hs : Srt L) (hrow : Row3 w p (L.map siV)) :
    Calls Try.prog 7 #[.slice p n c, .int .i64 a, .int .i64 t, .bool up] w (RAddIs (.slice p n c) L a t up w) := by
  by_cases hb : a < 0 ∨ 65531 < a ∨ t < 0 ∨ 65536 < t
  · exact radd_bad p n c L a t up w hb
  · exact radd_good p n c L a t up w hn hn6 hs hrow (by omega) (by omega) (by omega) (by omega)
end Go.Proofs.Ytonkjeoepfkboaa
