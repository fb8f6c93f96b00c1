/- Texts put together: PartsL, BackL, LooseL. -/
import Derived.Test.YtgfmmbbebodapaaGreatDoorKq
import Derived.Test.YtgfmmbbebodapaaGreatDoorKr

/- Two texts behind one another: what they say, as lists. -/
namespace Go.Proofs.YtgfmmbbebodapaaGreatDoor
open Go.RowKit

theorem lines_two (a b : List UInt8) : linesL (a ++ 10 :: b) = linesL (a ++ [10]) ++ linesL b := by
  induction a with
  | nil => simp [linesL]
  | cons c cs ih =>
    simp only [List.cons_append, linesL]
    split
    · rw [ih]; rfl
    · rw [ih]
      have hne : linesL (cs ++ [10]) ≠ [] := by
        cases cs with
        | nil => simp [linesL]
        | cons d ds =>
          simp only [List.cons_append, linesL]
          split
          · simp
          · split <;> simp
      cases h : linesL (cs ++ [10]) with
      | nil => exact absurd h hne
      | cons l ls => rfl
theorem lines_ten (a : List UInt8) : (linesL (a ++ [10])).length = a.count 10 + 1 := by
  induction a with
  | nil => rfl
  | cons c cs ih =>
    simp only [List.cons_append, linesL]
    split
    · rename_i h; subst h; rw [List.length_cons, ih, List.count_cons_self]
    · rename_i h
      rw [List.count_cons_of_ne h]
      cases hl : linesL (cs ++ [10]) with
      | nil => rw [hl] at ih; simp at ih
      | cons l ls => rw [hl] at ih; simpa using ih
theorem lines_more (a : List UInt8) : linesL (a ++ [10]) = linesL a ∨ linesL (a ++ [10]) = linesL a ++ [[]] := by
  induction a with
  | nil => exact .inr rfl
  | cons c cs ih =>
    simp only [List.cons_append, linesL]
    split
    · rcases ih with e | e
      · exact .inl (by rw [e])
      · exact .inr (by rw [e]; rfl)
    · cases hl : linesL cs with
      | nil =>
        have hcs : cs = [] := by
          cases cs with
          | nil => rfl
          | cons d ds =>
            exfalso
            simp only [linesL] at hl
            split at hl
            · cases hl
            · split at hl <;> cases hl
        subst hcs
        exact .inl (by simp [linesL])
      | cons l ls =>
        rw [hl] at ih
        rcases ih with e | e
        · exact .inl (by rw [e])
        · exact .inr (by rw [e]; rfl)

/-- what goes on behind some lines -/
def goOn (n : Nat) (B : List (List UInt8)) : (Int × Nat × Nat) ⊕ (List Src × List Nat) → (Int × Nat × Nat) ⊕ (List Src × List Nat)
  | .inl f => .inl f
  | .inr (xs, ln) => goP n xs ln B
theorem goP_append (A B : List (List UInt8)) : ∀ i acc ln, goP i acc ln (A ++ B) = goOn (i + A.length) B (goP i acc ln A) := by
  induction A with
  | nil => intro i acc ln; rfl
  | cons l A ih =>
    intro i acc ln
    rw [List.cons_append, goP, goP]
    split
    · split
      · split
        · rfl
        · rw [ih, List.length_cons, show i + 1 + A.length = i + (A.length + 1) by omega]
      · rw [ih, List.length_cons, show i + 1 + A.length = i + (A.length + 1) by omega]
    · rfl
theorem lineL_nil : lineL [] = (src0, false, 0, 0) := rfl
theorem goP_empty (i : Nat) (acc : List Src) (ln : List Nat) : goP i acc ln [[]] = .inr (acc, ln) := by
  simp [goP, lineL_nil]
theorem goP_ten (a : List UInt8) : goP 0 [] [] (linesL (a ++ [10])) = goP 0 [] [] (linesL a) := by
  rcases lines_more a with e | e
  · rw [e]
  · rw [e, goP_append]
    cases h : goP 0 [] [] (linesL a) with
    | inl f => rfl
    | inr q => obtain ⟨xs, ln⟩ := q; exact goP_empty _ _ _
theorem goP_inl (B : List (List UInt8)) : ∀ i acc ln f, goP i acc ln B = .inl f → i + 1 ≤ f.2.1 := by
  induction B with
  | nil => intro i acc ln f h; cases h
  | cons l B ih =>
    intro i acc ln f h
    rw [goP] at h
    split at h
    · split at h
      · split at h
        · injection h with h; subst h; exact Nat.le_refl _
        · have := ih _ _ _ _ h; omega
      · have := ih _ _ _ _ h; omega
    · injection h with h; subst h; exact Nat.le_refl _
theorem goP_inr (B : List (List UInt8)) : ∀ i acc ln xs l2, acc.length = ln.length → goP i acc ln B = .inr (xs, l2) → xs.length = l2.length ∧ xs.length ≤ acc.length + B.length := by
  induction B with
  | nil => intro i acc ln xs l2 he h; rw [goP] at h; injection h with h; injection h with h1 h2; subst h1 h2; exact ⟨he, by simp⟩
  | cons l B ih =>
    intro i acc ln xs l2 he h
    rw [goP] at h
    split at h
    · split at h
      · split at h
        · cases h
        · have := ih _ _ _ _ _ (by simp [he]) h
          simp only [List.length_append, List.length_cons, List.length_nil] at *
          exact ⟨this.1, by omega⟩
      · have := ih _ _ _ _ _ he h
        simp only [List.length_cons]
        exact ⟨this.1, by omega⟩
    · cases h
/-- further down, behind other items -/
def shiftP (n : Nat) (xs : List Src) (ln : List Nat) : (Int × Nat × Nat) ⊕ (List Src × List Nat) → (Int × Nat × Nat) ⊕ (List Src × List Nat)
  | .inl f => .inl (f.1, f.2.1 + n, f.2.2)
  | .inr (ys, l3) => .inr (xs ++ ys, ln ++ l3.map (· + n))
theorem goP_shift (n : Nat) (xs : List Src) (ln : List Nat) (B : List (List UInt8)) : ∀ i acc l2, xs.length + acc.length + B.length ≤ 4096 →
    goP (i + n) (xs ++ acc) (ln ++ l2.map (· + n)) B = shiftP n xs ln (goP i acc l2 B) := by
  induction B with
  | nil => intro i acc l2 _; rfl
  | cons l B ih =>
    intro i acc l2 h
    rw [List.length_cons] at h
    rw [goP, goP]
    split
    · split
      · rw [if_neg (by simp; omega), if_neg (by omega)]
        have := ih (i + 1) (acc ++ [(lineL l).1]) (l2 ++ [i + 1]) (by simp; omega)
        rw [← this]
        simp only [List.append_assoc, List.map_append, List.map_cons, List.map_nil]
        rw [show i + 1 + n = i + n + 1 by omega]
      · have := ih (i + 1) acc l2 (by omega)
        rw [← this, show i + 1 + n = i + n + 1 by omega]
    · simp only [shiftP]
      rw [show i + 1 + n = i + n + 1 by omega]
theorem chk_two (ys : List Src) : ∀ (xs : List Src) (i : Nat), (chkAt i xs).1 = 0 → chkAt i (xs ++ ys) = chkAt (i + xs.length) ys := by
  intro xs
  induction xs with
  | nil => intro i _; rfl
  | cons x xs ih =>
    intro i h
    rw [chkAt] at h
    rw [List.cons_append, chkAt]
    split at h
    · simp at h
    rename_i h1
    rw [if_neg h1]
    split at h
    · simp at h
    rename_i h2
    have h3 : ¬ (x.k = 3 ∧ takesB (xs ++ ys) = false) := by
      rintro ⟨e1, e2⟩
      cases xs with
      | nil => exact h2 ⟨e1, rfl⟩
      | cons y ys => exact h2 ⟨e1, e2⟩
    rw [if_neg h3, ih _ h, List.length_cons, show i + 1 + xs.length = i + (xs.length + 1) by omega]
theorem chk_far (n : Nat) : ∀ (ys : List Src) (i : Nat), chkAt (i + n) ys = if (chkAt i ys).1 = 0 then (0, 0) else ((chkAt i ys).1, (chkAt i ys).2 + n) := by
  intro ys
  induction ys with
  | nil => intro i; rfl
  | cons y ys ih =>
    intro i
    rw [chkAt, chkAt]
    split
    · simp
    · split
      · simp
      · rw [show i + n + 1 = i + 1 + n by omega, ih]
theorem chk_zero : ∀ (ys : List Src) (i : Nat), (chkAt i ys).1 = 0 → chkAt i ys = (0, 0) := by
  intro ys
  induction ys with
  | nil => intro i _; rfl
  | cons y ys ih =>
    intro i h
    rw [chkAt] at h ⊢
    split
    · rename_i h1; rw [if_pos h1] at h; simp at h
    · rename_i h1
      rw [if_neg h1] at h
      split
      · rename_i h2; rw [if_pos h2] at h; simp at h
      · rename_i h2; rw [if_neg h2] at h; exact ih _ h
/-- the same further down: what a text's answer becomes behind another text -/
def behind (xs : List Src) (n : Nat) (r : List Src × (Int × Nat × Nat)) : List Src × (Int × Nat × Nat) :=
  if r.2 = (0, 0, 0) then (xs ++ r.1, (0, 0, 0)) else ([], (r.2.1, r.2.2.1 + n, r.2.2.2))
theorem parse_two (a b : List UInt8) (xs : List Src) (hl : a.length + b.length ≤ 4000) (ha : parseL a = (xs, (0, 0, 0))) :
    parseL (a ++ 10 :: b) = behind xs (a.count 10 + 1) (parseL b) := by
  have hcb := linesL_length b
  have hca := linesL_length a
  unfold parseL at ha
  rw [if_neg (by omega)] at ha
  cases hga : goP 0 [] [] (linesL a) with
  | inl f =>
    have := goP_inl _ _ _ _ _ hga
    rw [hga] at ha
    simp only [Prod.mk.injEq] at ha
    rw [ha.2] at this
    simp at this
  | inr q =>
    obtain ⟨xs', ln⟩ := q
    rw [hga] at ha
    simp only at ha
    split at ha
    · rename_i hck
      simp only [Prod.mk.injEq, and_true] at ha
      subst ha
      obtain ⟨hlen, hle⟩ := goP_inr _ _ _ _ _ _ rfl hga
      simp only [List.length_nil, Nat.zero_add] at hle
      unfold checkL at hck
      rw [if_neg (by omega)] at hck
      unfold parseL
      rw [if_neg (by simp; omega), if_neg (by omega), lines_two, goP_append, goP_ten, hga, lines_ten]
      simp only [goOn]
      have hs := goP_shift (a.count 10 + 1) xs' ln (linesL b) 0 [] [] (by simp; omega)
      simp only [List.append_nil, List.map_nil] at hs
      rw [hs]
      cases hgb : goP 0 [] [] (linesL b) with
      | inl f =>
        have := goP_inl _ _ _ _ _ hgb
        simp only [shiftP, behind]
        rw [if_neg]
        intro e; rw [e] at this; simp at this
      | inr q =>
        obtain ⟨ys, l3⟩ := q
        obtain ⟨hlen3, hle3⟩ := goP_inr _ _ _ _ _ _ rfl hgb
        simp only [List.length_nil, Nat.zero_add] at hle3
        have h1 : checkL (xs' ++ ys) = if (checkL ys).1 = 0 then (0, 0) else ((checkL ys).1, (checkL ys).2 + xs'.length) := by
          have e1 : checkL (xs' ++ ys) = chkAt 0 (xs' ++ ys) := by unfold checkL; rw [if_neg (by simp; omega)]
          have e2 : checkL ys = chkAt 0 ys := by unfold checkL; rw [if_neg (by omega)]
          rw [e1, e2, chk_two _ _ _ hck, chk_far]
        simp only [shiftP]
        rw [h1]
        by_cases hz : (checkL ys).1 = 0
        · rw [if_pos hz, if_pos rfl, if_pos hz]; simp [behind]
        · have hix : (checkL ys).2 < ys.length := by
            have hc : checkL ys = chkAt 0 ys := by unfold checkL; rw [if_neg (by omega)]
            rw [hc] at hz ⊢
            have := (chk_idx ys 0 hz).2
            omega
          rw [if_neg hz, if_neg hz, if_neg (by exact hz)]
          simp only [behind]
          rw [if_neg (by intro e; injection e with e1 _; exact hz e1)]
          congr 3
          rw [List.getD_eq_getElem?_getD, List.getElem?_append_right (by omega), show (checkL ys).2 + xs'.length - ln.length = (checkL ys).2 by omega]
          simp [List.getD_eq_getElem?_getD, show (checkL ys).2 < l3.length by omega]
    · simp only [Prod.mk.injEq] at ha
      obtain ⟨_, h1, h2, h3⟩ := ha
      simp at h3

theorem goP_err (B : List (List UInt8)) : ∀ i acc ln f, goP i acc ln B = .inl f → f.1 ≠ 0 ∧ f.2.1 ≤ i + B.length := by
  induction B with
  | nil => intro i acc ln f h; cases h
  | cons l B ih =>
    intro i acc ln f h
    rw [goP] at h
    rw [List.length_cons]
    split at h
    · split at h
      · split at h
        · injection h with h; subst h; exact ⟨by show (3 : Int) ≠ 0; decide, by simp only; omega⟩
        · have := ih _ _ _ _ h; exact ⟨this.1, by omega⟩
      · have := ih _ _ _ _ h; exact ⟨this.1, by omega⟩
    · rename_i h1; injection h with h; subst h; exact ⟨h1, by simp only; omega⟩
theorem goP_lns (B : List (List UInt8)) : ∀ i acc ln xs l2, goP i acc ln B = .inr (xs, l2) → ∀ n ∈ l2, n ∈ ln ∨ n ≤ i + B.length := by
  induction B with
  | nil => intro i acc ln xs l2 h n hn; rw [goP] at h; injection h with h; injection h with h1 h2; subst h2; exact .inl hn
  | cons l B ih =>
    intro i acc ln xs l2 h n hn
    rw [goP] at h
    rw [List.length_cons]
    split at h
    · split at h
      · split at h
        · cases h
        · rcases ih _ _ _ _ _ h n hn with e | e
          · rcases List.mem_append.1 e with e | e
            · exact .inl e
            · rw [List.mem_singleton] at e; exact .inr (by omega)
          · exact .inr (by omega)
      · rcases ih _ _ _ _ _ h n hn with e | e
        · exact .inl e
        · exact .inr (by omega)
    · cases h
theorem parse_err (l : List UInt8) : ((parseL l).2 = (0, 0, 0) ∨ (parseL l).2.1 ≠ 0 ∧ (parseL l).1 = []) ∧ (parseL l).2.2.1 ≤ l.length := by
  have hc := linesL_length l
  unfold parseL
  split
  · exact ⟨.inr ⟨by decide, rfl⟩, Nat.zero_le _⟩
  · cases h : goP 0 [] [] (linesL l) with
    | inl f =>
      have := goP_err _ _ _ _ _ h
      exact ⟨.inr ⟨this.1, rfl⟩, by simp only; omega⟩
    | inr q =>
      obtain ⟨xs, ln⟩ := q
      simp only
      split
      · exact ⟨.inl rfl, Nat.zero_le _⟩
      · rename_i hne
        refine ⟨.inr ⟨hne, rfl⟩, ?_⟩
        simp only
        rw [List.getD_eq_getElem?_getD]
        cases hg : ln[(checkL xs).2]? with
        | none => exact Nat.zero_le _
        | some n =>
          rcases goP_lns _ _ _ _ _ _ h n (List.mem_of_getElem? hg) with e | e
          · simp at e
          · simp only [Option.getD_some]; omega

theorem parse_count (l : List UInt8) : (parseL l).1.length ≤ l.length := by
  have hc := linesL_length l
  unfold parseL
  split
  · exact Nat.zero_le _
  · cases h : goP 0 [] [] (linesL l) with
    | inl f => exact Nat.zero_le _
    | inr q =>
      obtain ⟨xs, ln⟩ := q
      have := (goP_inr _ _ _ _ _ _ rfl h).2
      simp only [List.length_nil, Nat.zero_add] at this
      simp only
      split
      · simp only; omega
      · exact Nat.zero_le _

end Go.Proofs.YtgfmmbbebodapaaGreatDoor

/- Items that are printed are read as they were: as lists. -/
namespace Go.Proofs.YtgfmmbbebodapaaGreatDoor
open Go.RowKit

def No10 (l : List UInt8) : Prop := ∀ c ∈ l, c ≠ 10
theorem no10_append {l m : List UInt8} (h1 : No10 l) (h2 : No10 m) : No10 (l ++ m) := fun c hc => by
  rcases List.mem_append.1 hc with h | h
  · exact h1 c h
  · exact h2 c h
theorem no10_cons {c : UInt8} {l : List UInt8} (h1 : c ≠ 10) (h2 : No10 l) : No10 (c :: l) := fun d hd => by
  rcases List.mem_cons.1 hd with h | h
  · rw [h]; exact h1
  · exact h2 d h
theorem no10_nil : No10 [] := fun c hc => by simp at hc
theorem name_no10 {l : List UInt8} (h : nameB l = true) : No10 l := fun c hc e => by
  subst e
  unfold nameB at h
  rw [Bool.and_eq_true, List.all_eq_true] at h
  obtain ⟨i, hi, hx⟩ := List.getElem_of_mem hc
  have := h.2 i (by rw [List.mem_range]; exact hi)
  rw [okB_iff] at this
  have e2 : l.getD i 0 = 10 := by rw [List.getD_eq_getElem?_getD, List.getElem?_eq_getElem hi, hx]; rfl
  rw [e2] at this
  unfold okAt at this
  have h10 : ((10 : UInt8).toNat : Int) = 10 := rfl
  omega
theorem dec_no10 (u : Nat) : No10 (Lib.decDigits u) := by
  induction u using Nat.strongRecOn with
  | _ u ih =>
    rw [Lib.decDigits]
    have key : ∀ k : Nat, k < 10 → UInt8.ofNat (48 + k) ≠ 10 := fun k hk e => by
      have := congrArg UInt8.toNat e
      rw [UInt8.toNat_ofNat'] at this
      have h10 : (10 : UInt8).toNat = 10 := rfl
      omega
    split
    · rename_i h; exact no10_cons (key u h) no10_nil
    · exact no10_append (ih _ (by omega)) (no10_cons (key _ (Nat.mod_lt _ (by decide))) no10_nil)
theorem itoa_no10 (n : Int) : No10 (Lib.itoa n) := by
  unfold Lib.itoa
  split
  · exact no10_cons (by decide) (dec_no10 _)
  · exact dec_no10 _
/-- names are names, or empty -/
structure Namey (x : Src) : Prop where
  n : x.name.data.toList = [] ∨ nameB x.name.data.toList = true
  t : x.tg.data.toList = [] ∨ nameB x.tg.data.toList = true
theorem srcK_namey (k : Int) : Namey (srcK k) := ⟨.inl rfl, .inl rfl⟩
theorem readL_namey (p : Nat) (x : Src) (hx : Namey x) (f : List UInt8) : Namey (readL p x f).2 := by
  unfold readL
  split
  · split <;> exact ⟨hx.n, hx.t⟩
  split
  · split <;> exact ⟨hx.n, hx.t⟩
  split
  · split
    · rename_i h; exact ⟨.inr h, hx.t⟩
    · exact hx
  split
  · split
    · rename_i h; exact ⟨hx.n, .inr h⟩
    · exact hx
  split
  · exact hx
  split
  · unfold putL; split
    · exact ⟨hx.n, hx.t⟩
    split <;> exact ⟨hx.n, hx.t⟩
  · exact hx
theorem goL_namey : ∀ (fs : List (Nat × List UInt8)) (x : Src) (ps : List Nat) (y : Src), Namey x → goL x ps fs = .inr y → Namey y
  | [], x, ps, y, hx, h => by rw [goL] at h; injection h with h; rw [← h]; exact hx
  | (c, f) :: fs, x, [], y, _, h => by simp [goL] at h
  | (c, f) :: fs, x, p :: ps, y, hx, h => by
    rw [goL] at h
    split at h
    · exact goL_namey fs _ ps y (readL_namey p x hx f) h
    · cases h
theorem formL_namey {f : List UInt8} {x : Src} {ps : List Nat} {n : Nat} (h : formL f = some (x, ps, n)) : Namey x := by
  unfold formL at h
  split at h
  · rename_i i _
    injection h with h
    have h1 : Namey (formW i).1 := by unfold formW; split <;> exact srcK_namey _
    rw [h] at h1
    exact h1
  · split at h
    · rename_i o _
      injection h with h
      have h1 : Namey (formO o).1 := ⟨.inl rfl, .inl rfl⟩
      rw [h] at h1
      exact h1
    · split at h
      · rename_i hc
        injection h with h
        injection h with h1 h2
        rw [← h1]
        exact ⟨.inr hc.2, .inl rfl⟩
      · cases h
theorem lineL_namey (l : List UInt8) : Namey (lineL l).1 := by
  unfold lineL
  split
  · exact srcK_namey 0
  · split
    · exact srcK_namey 0
    · rename_i x ps least hform
      split
      · exact srcK_namey 0
      · rename_i y hgo
        split
        · exact srcK_namey 0
        · exact goL_namey _ _ _ _ (formL_namey hform) hgo
theorem may_namey {x : Src} (h : mayB x = true) : Namey x := by
  have := (mayB_iff x).1 h
  rw [← this.2]; exact lineL_namey _
theorem nm_no10 (o : Nat) : No10 (nm o).data.toList := by
  by_cases h : o < 17
  · have : o = 0 ∨ o = 1 ∨ o = 2 ∨ o = 3 ∨ o = 4 ∨ o = 5 ∨ o = 6 ∨ o = 7 ∨ o = 8 ∨ o = 9 ∨ o = 10 ∨ o = 11 ∨ o = 12 ∨ o = 13 ∨ o = 14 ∨ o = 15 ∨ o = 16 := by omega
    unfold No10
    rcases this with rfl | rfl | rfl | rfl | rfl | rfl | rfl | rfl | rfl | rfl | rfl | rfl | rfl | rfl | rfl | rfl | rfl <;> decide
  · obtain ⟨k, hk⟩ : ∃ k, o = k + 17 := ⟨o - 17, by omega⟩
    rw [hk]; exact no10_nil
theorem head_no10 (x : Src) (hx : Namey x) : No10 (headT x) := by
  have hn : No10 x.name.data.toList := by
    rcases hx.n with e | e
    · rw [e]; exact no10_nil
    · exact name_no10 e
  unfold headT
  split
  · exact no10_append hn (no10_cons (by decide) no10_nil)
  split
  · exact nm_no10 _
  split
  · unfold No10; decide
  split
  · unfold No10; decide
  split
  · unfold No10; decide
  split
  · unfold No10; decide
  split
  · unfold No10; decide
  · exact no10_nil
theorem field_no10 (p : Nat) (x : Src) (hx : Namey x) (i : Nat) : No10 (fieldT p x i) := by
  have hn : No10 x.name.data.toList := by
    rcases hx.n with e | e
    · rw [e]; exact no10_nil
    · exact name_no10 e
  have ht : No10 x.tg.data.toList := by
    rcases hx.t with e | e
    · rw [e]; exact no10_nil
    · exact name_no10 e
  unfold fieldT
  split
  · exact no10_cons (by decide) (itoa_no10 _)
  split
  · exact no10_cons (by decide) (itoa_no10 _)
  split
  · exact itoa_no10 _
  split
  · exact hn
  split
  · exact ht
  split
  · exact itoa_no10 _
  · exact itoa_no10 _
theorem mid_no10 (x : Src) (hx : Namey x) : ∀ k, No10 (midT x k)
  | 0 => by
    have : midT x 0 = headT x := by simp [midT]
    rw [this]; exact head_no10 x hx
  | k + 1 => by
    rw [midT_succ]
    exact no10_append (mid_no10 x hx k) (no10_cons (by decide) (field_no10 _ x hx k))
theorem line_no10 (x : Src) (h : mayB x = true) : No10 (lineT x) := mid_no10 x (may_namey h) _
theorem lines_text : ∀ xs : List Src, (∀ x ∈ xs, mayB x = true) → linesL (textT xs) = xs.map lineT
  | [], _ => rfl
  | x :: xs, h => by
    have e : textT (x :: xs) = lineT x ++ 10 :: textT xs := by simp [textT]
    rw [e, linesL_cut _ _ (line_no10 x (h x (by simp))), lines_text xs fun y hy => h y (by simp [hy])]
    rfl
theorem line_line {x : Src} (h : mayB x = true) : (lineL (lineT x)).1 = x ∧ (lineL (lineT x)).2.1 = true ∧ (lineL (lineT x)).2.2.1 = 0 := by
  have hm := (mayB_iff x).1 h
  refine ⟨hm.2, hm.1, ?_⟩
  have hok : ∀ l, (lineL l).2.1 = true → (lineL l).2.2.1 = 0 := fun l => by
    unfold lineL
    split
    · intro h; cases h
    · split
      · intro h; cases h
      · split
        · intro h; cases h
        · split
          · intro h; cases h
          · intro _; rfl
  exact hok _ hm.1
theorem goP_text : ∀ (xs : List Src), (∀ x ∈ xs, mayB x = true) → ∀ i acc ln, acc.length + xs.length ≤ 4096 → ∃ l2, goP i acc ln (xs.map lineT) = .inr (acc ++ xs, l2)
  | [], _, i, acc, ln, _ => ⟨ln, by simp [goP]⟩
  | x :: xs, h, i, acc, ln, hl => by
    obtain ⟨h1, h2, h3⟩ := line_line (h x (by simp))
    rw [List.length_cons] at hl
    obtain ⟨l2, hg⟩ := goP_text xs (fun y hy => h y (by simp [hy])) (i + 1) (acc ++ [x]) (ln ++ [i + 1]) (by simp; omega)
    refine ⟨l2, ?_⟩
    rw [List.map_cons, goP, if_pos h3, if_pos h2, if_neg (by omega), h1, hg]
    simp
/-- what is printed is read as it was -/
theorem parse_print (xs : List Src) (hc : (checkL xs).1 = 0) (ht : (textT xs).length ≤ 65536) : parseL (textT xs) = (xs, (0, 0, 0)) := by
  have h4 : xs.length ≤ 4096 := by
    by_cases h : xs.length ≤ 4096
    · exact h
    · unfold checkL at hc; rw [if_pos (by omega)] at hc; simp at hc
  have hmay : ∀ x ∈ xs, mayB x = true := by
    have := hc
    unfold checkL at this
    rw [if_neg (by omega)] at this
    exact chk_may xs 0 this
  obtain ⟨l2, hg⟩ := goP_text xs hmay 0 [] [] (by simpa using h4)
  unfold parseL
  rw [if_neg (by omega), lines_text xs hmay, hg]
  simp only [List.nil_append]
  rw [if_pos hc]
/-- what is read may be -/
theorem parse_check (l : List UInt8) (h : (parseL l).2 = (0, 0, 0)) : checkL (parseL l).1 = (0, 0) := by
  unfold parseL at h ⊢
  split
  · rename_i h1; rw [if_pos h1] at h; simp at h
  · rename_i h1
    rw [if_neg h1] at h
    cases hg : goP 0 [] [] (linesL l) with
    | inl f =>
      rw [hg] at h
      have := (goP_err _ _ _ _ _ hg).1
      simp only at h
      rw [h] at this
      simp at this
    | inr q =>
      obtain ⟨xs, ln⟩ := q
      rw [hg] at h
      simp only at h ⊢
      by_cases hc : (checkL xs).1 = 0
      · rw [if_pos hc]
        simp only
        unfold checkL at hc ⊢
        split
        · rename_i h2; rw [if_pos h2] at hc; simp at hc
        · rename_i h2; rw [if_neg h2] at hc; exact chk_zero xs 0 hc
      · rw [if_neg hc] at h
        simp only [Prod.mk.injEq] at h
        exact absurd h.1 hc

end Go.Proofs.YtgfmmbbebodapaaGreatDoor

/- Blanks, remarks and empty lines change nothing: as lists. -/
namespace Go.Proofs.YtgfmmbbebodapaaGreatDoor
open Go.RowKit

def No35 (l : List UInt8) : Prop := ∀ c ∈ l, c ≠ 35
theorem no35_append {l m : List UInt8} (h1 : No35 l) (h2 : No35 m) : No35 (l ++ m) := fun c hc => by
  rcases List.mem_append.1 hc with h | h
  · exact h1 c h
  · exact h2 c h
theorem no35_cons {c : UInt8} {l : List UInt8} (h1 : c ≠ 35) (h2 : No35 l) : No35 (c :: l) := fun d hd => by
  rcases List.mem_cons.1 hd with h | h
  · rw [h]; exact h1
  · exact h2 d h
theorem no35_nil : No35 [] := fun c hc => by simp at hc
theorem name_no35 {l : List UInt8} (h : nameB l = true) : No35 l := fun c hc e => by
  subst e
  unfold nameB at h
  rw [Bool.and_eq_true, List.all_eq_true] at h
  obtain ⟨i, hi, hx⟩ := List.getElem_of_mem hc
  have := h.2 i (by rw [List.mem_range]; exact hi)
  rw [okB_iff] at this
  have e2 : l.getD i 0 = 35 := by rw [List.getD_eq_getElem?_getD, List.getElem?_eq_getElem hi, hx]; rfl
  rw [e2] at this
  unfold okAt at this
  have h35 : ((35 : UInt8).toNat : Int) = 35 := rfl
  omega
theorem dec_no35 (u : Nat) : No35 (Lib.decDigits u) := by
  induction u using Nat.strongRecOn with
  | _ u ih =>
    rw [Lib.decDigits]
    have key : ∀ k : Nat, k < 10 → UInt8.ofNat (48 + k) ≠ 35 := fun k hk e => by
      have := congrArg UInt8.toNat e
      rw [UInt8.toNat_ofNat'] at this
      have h35 : (35 : UInt8).toNat = 35 := rfl
      omega
    split
    · rename_i h; exact no35_cons (key u h) no35_nil
    · exact no35_append (ih _ (by omega)) (no35_cons (key _ (Nat.mod_lt _ (by decide))) no35_nil)
theorem itoa_no35 (n : Int) : No35 (Lib.itoa n) := by
  unfold Lib.itoa
  split
  · exact no35_cons (by decide) (dec_no35 _)
  · exact dec_no35 _
theorem nm_no35 (o : Nat) : No35 (nm o).data.toList := by
  by_cases h : o < 17
  · have : o = 0 ∨ o = 1 ∨ o = 2 ∨ o = 3 ∨ o = 4 ∨ o = 5 ∨ o = 6 ∨ o = 7 ∨ o = 8 ∨ o = 9 ∨ o = 10 ∨ o = 11 ∨ o = 12 ∨ o = 13 ∨ o = 14 ∨ o = 15 ∨ o = 16 := by omega
    unfold No35
    rcases this with rfl | rfl | rfl | rfl | rfl | rfl | rfl | rfl | rfl | rfl | rfl | rfl | rfl | rfl | rfl | rfl | rfl <;> decide
  · obtain ⟨k, hk⟩ : ∃ k, o = k + 17 := ⟨o - 17, by omega⟩
    rw [hk]; exact no35_nil
theorem head_no35 (x : Src) (hx : Namey x) : No35 (headT x) := by
  have hn : No35 x.name.data.toList := by
    rcases hx.n with e | e
    · rw [e]; exact no35_nil
    · exact name_no35 e
  unfold headT
  split
  · exact no35_append hn (no35_cons (by decide) no35_nil)
  split
  · exact nm_no35 _
  split
  · unfold No35; decide
  split
  · unfold No35; decide
  split
  · unfold No35; decide
  split
  · unfold No35; decide
  split
  · unfold No35; decide
  · exact no35_nil
theorem field_no35 (p : Nat) (x : Src) (hx : Namey x) (i : Nat) : No35 (fieldT p x i) := by
  have hn : No35 x.name.data.toList := by
    rcases hx.n with e | e
    · rw [e]; exact no35_nil
    · exact name_no35 e
  have ht : No35 x.tg.data.toList := by
    rcases hx.t with e | e
    · rw [e]; exact no35_nil
    · exact name_no35 e
  unfold fieldT
  split
  · exact no35_cons (by decide) (itoa_no35 _)
  split
  · exact no35_cons (by decide) (itoa_no35 _)
  split
  · exact itoa_no35 _
  split
  · exact hn
  split
  · exact ht
  split
  · exact itoa_no35 _
  · exact itoa_no35 _
theorem mid_no35 (x : Src) (hx : Namey x) : ∀ k, No35 (midT x k)
  | 0 => by
    have : midT x 0 = headT x := by simp [midT]
    rw [this]; exact head_no35 x hx
  | k + 1 => by
    rw [midT_succ]
    exact no35_append (mid_no35 x hx k) (no35_cons (by decide) (field_no35 _ x hx k))
theorem line_no35 (x : Src) (h : mayB x = true) : No35 (lineT x) := mid_no35 x (may_namey h) _

theorem ahead_hash (a b : List UInt8) : ahead (a ++ 35 :: b) = ahead a := by
  induction a with
  | nil => simp [ahead]
  | cons c cs ih =>
    by_cases h : c = 35
    · subst h; simp [ahead]
    · rw [List.cons_append, ahead_cons _ _ h, ahead_cons _ _ h, ih]
def shiftF (d : Nat) (q : Nat × List UInt8) : Nat × List UInt8 := (q.1 + d, q.2)
theorem fldL_shift (d : Nat) : ∀ (l : List UInt8) (p : Nat) (cur : Option (Nat × List UInt8)), fldL (p + d) (cur.map (shiftF d)) l = (fldL p cur l).map (shiftF d)
  | [], p, cur => by cases cur <;> simp [fldL]
  | c :: cs, p, cur => by
    rw [fldL, fldL]
    split
    · have := fldL_shift d cs (p + 1) none
      rw [show p + d + 1 = p + 1 + d by omega]
      simp only [Option.map_none] at this
      rw [this]
      cases cur <;> simp
    · have := fldL_shift d cs (p + 1) (some (one1 p c cur))
      rw [show p + d + 1 = p + 1 + d by omega, ← this]
      congr 1
      cases cur <;> simp [one1, shiftF]
theorem fldL_lead : ∀ (b p : Nat) (l : List UInt8), fldL p none (List.replicate b 32 ++ l) = fldL (p + b) none l
  | 0, p, l => rfl
  | b + 1, p, l => by
    rw [List.replicate_succ, List.cons_append, fldL_blank _ _ _ _ (by decide), fldL_lead b (p + 1) l]
    simp only [Option.toList_none, List.nil_append]
    congr 1; omega
theorem fldL_blanks : ∀ (m : List UInt8) (p : Nat) (cur : Option (Nat × List UInt8)), (∀ c ∈ m, isBlank c = true) → fldL p cur m = cur.toList
  | [], p, cur, _ => rfl
  | c :: cs, p, cur, h => by
    rw [fldL_blank _ _ _ _ (h c (by simp)), fldL_blanks cs _ none fun d hd => h d (by simp [hd])]
    simp
theorem fldL_trail (m : List UInt8) (hm : ∀ c ∈ m, isBlank c = true) : ∀ (l : List UInt8) (p : Nat) (cur : Option (Nat × List UInt8)), fldL p cur (l ++ m) = fldL p cur l
  | [], p, cur => by rw [List.nil_append, fldL_blanks m p cur hm]; rfl
  | c :: cs, p, cur => by
    rw [List.cons_append, fldL, fldL]
    split
    · rw [fldL_trail m hm cs]
    · rw [fldL_trail m hm cs]
/-- a line with blanks ahead and behind, and a remark -/
def looseL (b : Nat) (l note : List UInt8) : List UInt8 := List.replicate b 32 ++ l ++ [9, 32] ++ 35 :: note
theorem fields_loose (b : Nat) (l note : List UInt8) (h : No35 l) : fieldsL (looseL b l note) = (fieldsL l).map (shiftF b) := by
  unfold looseL fieldsL
  rw [ahead_hash, ahead_no _ (by
    intro c hc
    rcases List.mem_append.1 hc with h1 | h1
    · rcases List.mem_append.1 h1 with h2 | h2
      · rw [List.eq_of_mem_replicate h2]; decide
      · exact h c h2
    · simp at h1; rcases h1 with rfl | rfl <;> decide), ahead_no l h, List.append_assoc, fldL_lead, fldL_trail [9, 32] (by decide)]
  have := fldL_shift b l 0 none
  simpa using this
theorem goL_cols : ∀ (fs gs : List (Nat × List UInt8)) (x : Src) (ps : List Nat) (y : Src), fs.map Prod.snd = gs.map Prod.snd → goL x ps fs = .inr y → goL x ps gs = .inr y
  | [], [], x, ps, y, _, h => h
  | [], _ :: _, _, _, _, e, _ => by simp at e
  | _ :: _, [], _, _, _, e, _ => by simp at e
  | (c, f) :: fs, (c2, f2) :: gs, x, [], y, _, h => by simp [goL] at h
  | (c, f) :: fs, (c2, f2) :: gs, x, p :: ps, y, e, h => by
    simp only [List.map_cons, List.cons.injEq] at e
    obtain ⟨rfl, e⟩ := e
    rw [goL] at h ⊢
    split at h
    · rename_i h1; rw [if_pos h1]; exact goL_cols fs gs _ ps y e h
    · cases h
theorem line_cols {l l' : List UInt8} (hf : (fieldsL l').map Prod.snd = (fieldsL l).map Prod.snd) (hok : (lineL l).2.1 = true) : (lineL l').1 = (lineL l).1 ∧ (lineL l').2.1 = true ∧ (lineL l').2.2.1 = 0 := by
  unfold lineL at hok ⊢
  cases h : fieldsL l with
  | nil => rw [h] at hok; simp at hok
  | cons q fs =>
    obtain ⟨c, f⟩ := q
    rw [h] at hok hf
    cases h' : fieldsL l' with
    | nil => rw [h'] at hf; simp at hf
    | cons q' fs' =>
      obtain ⟨c', f'⟩ := q'
      rw [h'] at hf
      simp only [List.map_cons, List.cons.injEq] at hf
      obtain ⟨rfl, hf⟩ := hf
      simp only at hok ⊢
      cases hm : formL f' with
      | none => rw [hm] at hok; simp at hok
      | some t =>
        obtain ⟨x, ps, least⟩ := t
        rw [hm] at hok
        simp only at hok ⊢
        cases hg : goL x ps fs with
        | inl r => rw [hg] at hok; simp at hok
        | inr y =>
          rw [hg] at hok
          rw [goL_cols fs fs' x ps y hf.symm hg]
          have hl : fs'.length = fs.length := by have := congrArg List.length hf; simpa using this
          simp only at hok ⊢
          by_cases h1 : fs.length < least
          · rw [if_pos h1] at hok; simp at hok
          · rw [if_neg h1, if_neg (by omega)]; exact ⟨rfl, rfl, rfl⟩
theorem loose_line {x : Src} (h : mayB x = true) (b : Nat) (note : List UInt8) : (lineL (looseL b (lineT x) note)).1 = x ∧ (lineL (looseL b (lineT x) note)).2.1 = true ∧ (lineL (looseL b (lineT x) note)).2.2.1 = 0 := by
  obtain ⟨h1, h2, _⟩ := line_line h
  have := line_cols (l := lineT x) (l' := looseL b (lineT x) note) (by rw [fields_loose b _ note (line_no35 x h), List.map_map]; rfl) h2
  rw [h1] at this
  exact this
theorem no_fields {l : List UInt8} (h : fieldsL l = []) : lineL l = (src0, false, 0, 0) := by unfold lineL; rw [h]
theorem loose_empty (b : Nat) (note : List UInt8) : lineL (looseL b [] note) = (src0, false, 0, 0) := no_fields (by rw [fields_loose b [] note no35_nil]; rfl)
theorem remark_line (note : List UInt8) : lineL (32 :: 32 :: 35 :: note) = (src0, false, 0, 0) := no_fields (by
  unfold fieldsL
  have := ahead_hash [32, 32] note
  rw [List.cons_append, List.cons_append, List.nil_append] at this
  rw [this]; decide)
/-- the text of a law: each line loosened, an empty line and a remark behind it -/
def looseT (b : Nat) (note : List UInt8) (ls : List (List UInt8)) : List UInt8 := ls.flatMap fun l => looseL b l note ++ 10 :: 10 :: 32 :: 32 :: 35 :: 32 :: (note ++ [10])
theorem lines_loose (b : Nat) (note : List UInt8) (hn : No10 note) : ∀ ls : List (List UInt8), (∀ l ∈ ls, No10 l) → linesL (looseT b note ls) = ls.flatMap fun l => [looseL b l note, [], 32 :: 32 :: 35 :: 32 :: note]
  | [], _ => rfl
  | l :: ls, h => by
    have e : looseT b note (l :: ls) = looseL b l note ++ 10 :: ([] ++ 10 :: ((32 :: 32 :: 35 :: 32 :: note) ++ 10 :: looseT b note ls)) := by simp [looseT]
    have h1 : No10 (looseL b l note) := by
      unfold looseL
      refine no10_append (no10_append (no10_append ?_ (h l (by simp))) (by unfold No10; decide)) (no10_cons (by decide) hn)
      intro c hc; rw [List.eq_of_mem_replicate hc]; decide
    rw [e, linesL_cut _ _ h1, linesL_cut _ _ no10_nil, linesL_cut _ _ (no10_cons (by decide) (no10_cons (by decide) (no10_cons (by decide) (no10_cons (by decide) hn)))), lines_loose b note hn ls fun m hm => h m (by simp [hm])]
    rfl
theorem goP_loose (b : Nat) (note : List UInt8) : ∀ (xs : List Src), (∀ x ∈ xs, mayB x = true) → ∀ i acc ln, acc.length + xs.length ≤ 4096 → ∃ l2, goP i acc ln ((xs.map lineT).flatMap fun l => [looseL b l note, [], 32 :: 32 :: 35 :: 32 :: note]) = .inr (acc ++ xs, l2)
  | [], _, i, acc, ln, _ => ⟨ln, by simp [goP]⟩
  | x :: xs, h, i, acc, ln, hl => by
    obtain ⟨h1, h2, h3⟩ := loose_line (h x (by simp)) b note
    rw [List.length_cons] at hl
    obtain ⟨l2, hg⟩ := goP_loose b note xs (fun y hy => h y (by simp [hy])) (i + 1 + 1 + 1) (acc ++ [x]) (ln ++ [i + 1]) (by simp; omega)
    refine ⟨l2, ?_⟩
    have hr := remark_line (32 :: note)
    rw [List.map_cons, List.flatMap_cons, List.cons_append, goP, if_pos h3, if_pos h2, if_neg (by omega), h1, List.cons_append, goP, lineL_nil]
    simp only [if_true]
    rw [if_neg (by simp), List.cons_append, goP, hr]
    simp only [if_true]
    rw [if_neg (by simp), List.nil_append, hg]
    simp
/-- what is read of the loosened text -/
theorem parse_loose (b : Nat) (note : List UInt8) (hn : No10 note) (xs : List Src) (hc : (checkL xs).1 = 0) (ls : List (List UInt8)) (hls : ls = xs.map lineT ∨ (xs = [] ∧ ls = [[]])) :
    parseL (looseT b note ls) = if 65536 < (looseT b note ls).length then ([], (3, 0, 0)) else (xs, (0, 0, 0)) := by
  have h4 : xs.length ≤ 4096 := by
    by_cases h : xs.length ≤ 4096
    · exact h
    · unfold checkL at hc; rw [if_pos (by omega)] at hc; simp at hc
  have hmay : ∀ x ∈ xs, mayB x = true := by
    have := hc
    unfold checkL at this
    rw [if_neg (by omega)] at this
    exact chk_may xs 0 this
  unfold parseL
  by_cases hbig : 65536 < (looseT b note ls).length
  · rw [if_pos hbig, if_pos hbig]
  · rw [if_neg hbig, if_neg hbig]
    rcases hls with rfl | ⟨rfl, rfl⟩
    · rw [lines_loose b note hn _ (by
        intro l hl
        obtain ⟨x, hx, rfl⟩ := List.mem_map.1 hl
        exact line_no10 x (hmay x hx))]
      obtain ⟨l2, hg⟩ := goP_loose b note xs hmay 0 [] [] (by simpa using h4)
      rw [hg]
      simp only [List.nil_append]
      rw [if_pos hc]
    · rw [lines_loose b note hn [[]] (by intro l hl; rw [List.mem_singleton] at hl; rw [hl]; exact no10_nil)]
      have hr := remark_line (32 :: note)
      have : goP 0 [] [] ([[]].flatMap fun l => [looseL b l note, [], 32 :: 32 :: 35 :: 32 :: note]) = .inr ([], []) := by
        simp [goP, loose_empty, lineL_nil, hr]
      rw [this]
      simp only
      rw [if_pos hc]

end Go.Proofs.YtgfmmbbebodapaaGreatDoor
