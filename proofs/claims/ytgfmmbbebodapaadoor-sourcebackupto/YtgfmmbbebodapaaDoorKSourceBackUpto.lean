/-
  Proved here: the law SourceBack (switchyardlaw04) answers true wherever its arguments hold together at most 1048576 values and letters, and each argument reads afterwards as it read before; the card: what the row lists of the library's variables is tied to the program's text. 
-/
import Derived.Test.YtgfmmbbebodapaaDoorKq
import Derived.Test.YtgfmmbbebodapaaDoorKr
import Derived.Test.YtgfmmbbebodapaaDoorKzd
import Derived.Test.YtgfmmbbebodapaaDoorKt
import Derived.Test.YtgfmmbbebodapaaDoorKs
import Derived.Test.YtgfmmbbebodapaaDoorKze
import Derived.Test.YtgfmmbbebodapaaDoorKu
import Derived.Test.YtgfmmbbebodapaaDoorCards
import Derived.Test.YtgfmmbbebodapaaDoorTie
import Derived.SevenTiedAt

/- Two texts behind one another: what they say, as lists. -/
namespace Go.Proofs.YtgfmmbbebodapaaDoor
open Go.RowKit

theorem lines_two (a b : List UInt8) : linesL (a ++ 10 :: b) = linesL (a ++ [10]) ++ linesL b := by
  induction a with
  | nil => simp [linesL]
  | cons c cs ih =>
    simp only [List.cons_append, linesL]
    split
    · rw [ih]; rfl
    · rw [ih]
      have hne : linesL (cs ++ [10]) ≠ [] := by
        cases cs with
        | nil => simp [linesL]
        | cons d ds =>
          simp only [List.cons_append, linesL]
          split
          · simp
          · split <;> simp
      cases h : linesL (cs ++ [10]) with
      | nil => exact absurd h hne
      | cons l ls => rfl
theorem lines_ten (a : List UInt8) : (linesL (a ++ [10])).length = a.count 10 + 1 := by
  induction a with
  | nil => rfl
  | cons c cs ih =>
    simp only [List.cons_append, linesL]
    split
    · rename_i h; subst h; rw [List.length_cons, ih, List.count_cons_self]
    · rename_i h
      rw [List.count_cons_of_ne h]
      cases hl : linesL (cs ++ [10]) with
      | nil => rw [hl] at ih; simp at ih
      | cons l ls => rw [hl] at ih; simpa using ih
theorem lines_more (a : List UInt8) : linesL (a ++ [10]) = linesL a ∨ linesL (a ++ [10]) = linesL a ++ [[]] := by
  induction a with
  | nil => exact .inr rfl
  | cons c cs ih =>
    simp only [List.cons_append, linesL]
    split
    · rcases ih with e | e
      · exact .inl (by rw [e])
      · exact .inr (by rw [e]; rfl)
    · cases hl : linesL cs with
      | nil =>
        have hcs : cs = [] := by
          cases cs with
          | nil => rfl
          | cons d ds =>
            exfalso
            simp only [linesL] at hl
            split at hl
            · cases hl
            · split at hl <;> cases hl
        subst hcs
        exact .inl (by simp [linesL])
      | cons l ls =>
        rw [hl] at ih
        rcases ih with e | e
        · exact .inl (by rw [e])
        · exact .inr (by rw [e]; rfl)

/-- what goes on behind some lines -/
def goOn (n : Nat) (B : List (List UInt8)) : (Int × Nat × Nat) ⊕ (List Src × List Nat) → (Int × Nat × Nat) ⊕ (List Src × List Nat)
  | .inl f => .inl f
  | .inr (xs, ln) => goP n xs ln B
theorem goP_append (A B : List (List UInt8)) : ∀ i acc ln, goP i acc ln (A ++ B) = goOn (i + A.length) B (goP i acc ln A) := by
  induction A with
  | nil => intro i acc ln; rfl
  | cons l A ih =>
    intro i acc ln
    rw [List.cons_append, goP, goP]
    split
    · split
      · split
        · rfl
        · rw [ih, List.length_cons, show i + 1 + A.length = i + (A.length + 1) by omega]
      · rw [ih, List.length_cons, show i + 1 + A.length = i + (A.length + 1) by omega]
    · rfl
theorem lineL_nil : lineL [] = (src0, false, 0, 0) := rfl
theorem goP_empty (i : Nat) (acc : List Src) (ln : List Nat) : goP i acc ln [[]] = .inr (acc, ln) := by
  simp [goP, lineL_nil]
theorem goP_ten (a : List UInt8) : goP 0 [] [] (linesL (a ++ [10])) = goP 0 [] [] (linesL a) := by
  rcases lines_more a with e | e
  · rw [e]
  · rw [e, goP_append]
    cases h : goP 0 [] [] (linesL a) with
    | inl f => rfl
    | inr q => obtain ⟨xs, ln⟩ := q; exact goP_empty _ _ _
theorem goP_inl (B : List (List UInt8)) : ∀ i acc ln f, goP i acc ln B = .inl f → i + 1 ≤ f.2.1 := by
  induction B with
  | nil => intro i acc ln f h; cases h
  | cons l B ih =>
    intro i acc ln f h
    rw [goP] at h
    split at h
    · split at h
      · split at h
        · injection h with h; subst h; exact Nat.le_refl _
        · have := ih _ _ _ _ h; omega
      · have := ih _ _ _ _ h; omega
    · injection h with h; subst h; exact Nat.le_refl _
theorem goP_inr (B : List (List UInt8)) : ∀ i acc ln xs l2, acc.length = ln.length → goP i acc ln B = .inr (xs, l2) → xs.length = l2.length ∧ xs.length ≤ acc.length + B.length := by
  induction B with
  | nil => intro i acc ln xs l2 he h; rw [goP] at h; injection h with h; injection h with h1 h2; subst h1 h2; exact ⟨he, by simp⟩
  | cons l B ih =>
    intro i acc ln xs l2 he h
    rw [goP] at h
    split at h
    · split at h
      · split at h
        · cases h
        · have := ih _ _ _ _ _ (by simp [he]) h
          simp only [List.length_append, List.length_cons, List.length_nil] at *
          exact ⟨this.1, by omega⟩
      · have := ih _ _ _ _ _ he h
        simp only [List.length_cons]
        exact ⟨this.1, by omega⟩
    · cases h
/-- further down, behind other items -/
def shiftP (n : Nat) (xs : List Src) (ln : List Nat) : (Int × Nat × Nat) ⊕ (List Src × List Nat) → (Int × Nat × Nat) ⊕ (List Src × List Nat)
  | .inl f => .inl (f.1, f.2.1 + n, f.2.2)
  | .inr (ys, l3) => .inr (xs ++ ys, ln ++ l3.map (· + n))
theorem goP_shift (n : Nat) (xs : List Src) (ln : List Nat) (B : List (List UInt8)) : ∀ i acc l2, xs.length + acc.length + B.length ≤ 4096 →
    goP (i + n) (xs ++ acc) (ln ++ l2.map (· + n)) B = shiftP n xs ln (goP i acc l2 B) := by
  induction B with
  | nil => intro i acc l2 _; rfl
  | cons l B ih =>
    intro i acc l2 h
    rw [List.length_cons] at h
    rw [goP, goP]
    split
    · split
      · rw [if_neg (by simp; omega), if_neg (by omega)]
        have := ih (i + 1) (acc ++ [(lineL l).1]) (l2 ++ [i + 1]) (by simp; omega)
        rw [← this]
        simp only [List.append_assoc, List.map_append, List.map_cons, List.map_nil]
        rw [show i + 1 + n = i + n + 1 by omega]
      · have := ih (i + 1) acc l2 (by omega)
        rw [← this, show i + 1 + n = i + n + 1 by omega]
    · simp only [shiftP]
      rw [show i + 1 + n = i + n + 1 by omega]
theorem chk_two (ys : List Src) : ∀ (xs : List Src) (i : Nat), (chkAt i xs).1 = 0 → chkAt i (xs ++ ys) = chkAt (i + xs.length) ys := by
  intro xs
  induction xs with
  | nil => intro i _; rfl
  | cons x xs ih =>
    intro i h
    rw [chkAt] at h
    rw [List.cons_append, chkAt]
    split at h
    · simp at h
    rename_i h1
    rw [if_neg h1]
    split at h
    · simp at h
    rename_i h2
    have h3 : ¬ (x.k = 3 ∧ takesB (xs ++ ys) = false) := by
      rintro ⟨e1, e2⟩
      cases xs with
      | nil => exact h2 ⟨e1, rfl⟩
      | cons y ys => exact h2 ⟨e1, e2⟩
    rw [if_neg h3, ih _ h, List.length_cons, show i + 1 + xs.length = i + (xs.length + 1) by omega]
theorem chk_far (n : Nat) : ∀ (ys : List Src) (i : Nat), chkAt (i + n) ys = if (chkAt i ys).1 = 0 then (0, 0) else ((chkAt i ys).1, (chkAt i ys).2 + n) := by
  intro ys
  induction ys with
  | nil => intro i; rfl
  | cons y ys ih =>
    intro i
    rw [chkAt, chkAt]
    split
    · simp
    · split
      · simp
      · rw [show i + n + 1 = i + 1 + n by omega, ih]
theorem chk_zero : ∀ (ys : List Src) (i : Nat), (chkAt i ys).1 = 0 → chkAt i ys = (0, 0) := by
  intro ys
  induction ys with
  | nil => intro i _; rfl
  | cons y ys ih =>
    intro i h
    rw [chkAt] at h ⊢
    split
    · rename_i h1; rw [if_pos h1] at h; simp at h
    · rename_i h1
      rw [if_neg h1] at h
      split
      · rename_i h2; rw [if_pos h2] at h; simp at h
      · rename_i h2; rw [if_neg h2] at h; exact ih _ h
/-- the same further down: what a text's answer becomes behind another text -/
def behind (xs : List Src) (n : Nat) (r : List Src × (Int × Nat × Nat)) : List Src × (Int × Nat × Nat) :=
  if r.2 = (0, 0, 0) then (xs ++ r.1, (0, 0, 0)) else ([], (r.2.1, r.2.2.1 + n, r.2.2.2))
theorem parse_two (a b : List UInt8) (xs : List Src) (hl : a.length + b.length ≤ 4000) (ha : parseL a = (xs, (0, 0, 0))) :
    parseL (a ++ 10 :: b) = behind xs (a.count 10 + 1) (parseL b) := by
  have hcb := linesL_length b
  have hca := linesL_length a
  unfold parseL at ha
  rw [if_neg (by omega)] at ha
  cases hga : goP 0 [] [] (linesL a) with
  | inl f =>
    have := goP_inl _ _ _ _ _ hga
    rw [hga] at ha
    simp only [Prod.mk.injEq] at ha
    rw [ha.2] at this
    simp at this
  | inr q =>
    obtain ⟨xs', ln⟩ := q
    rw [hga] at ha
    simp only at ha
    split at ha
    · rename_i hck
      simp only [Prod.mk.injEq, and_true] at ha
      subst ha
      obtain ⟨hlen, hle⟩ := goP_inr _ _ _ _ _ _ rfl hga
      simp only [List.length_nil, Nat.zero_add] at hle
      unfold checkL at hck
      rw [if_neg (by omega)] at hck
      unfold parseL
      rw [if_neg (by simp; omega), if_neg (by omega), lines_two, goP_append, goP_ten, hga, lines_ten]
      simp only [goOn]
      have hs := goP_shift (a.count 10 + 1) xs' ln (linesL b) 0 [] [] (by simp; omega)
      simp only [List.append_nil, List.map_nil] at hs
      rw [hs]
      cases hgb : goP 0 [] [] (linesL b) with
      | inl f =>
        have := goP_inl _ _ _ _ _ hgb
        simp only [shiftP, behind]
        rw [if_neg]
        intro e; rw [e] at this; simp at this
      | inr q =>
        obtain ⟨ys, l3⟩ := q
        obtain ⟨hlen3, hle3⟩ := goP_inr _ _ _ _ _ _ rfl hgb
        simp only [List.length_nil, Nat.zero_add] at hle3
        have h1 : checkL (xs' ++ ys) = if (checkL ys).1 = 0 then (0, 0) else ((checkL ys).1, (checkL ys).2 + xs'.length) := by
          have e1 : checkL (xs' ++ ys) = chkAt 0 (xs' ++ ys) := by unfold checkL; rw [if_neg (by simp; omega)]
          have e2 : checkL ys = chkAt 0 ys := by unfold checkL; rw [if_neg (by omega)]
          rw [e1, e2, chk_two _ _ _ hck, chk_far]
        simp only [shiftP]
        rw [h1]
        by_cases hz : (checkL ys).1 = 0
        · rw [if_pos hz, if_pos rfl, if_pos hz]; simp [behind]
        · have hix : (checkL ys).2 < ys.length := by
            have hc : checkL ys = chkAt 0 ys := by unfold checkL; rw [if_neg (by omega)]
            rw [hc] at hz ⊢
            have := (chk_idx ys 0 hz).2
            omega
          rw [if_neg hz, if_neg hz, if_neg (by exact hz)]
          simp only [behind]
          rw [if_neg (by intro e; injection e with e1 _; exact hz e1)]
          congr 3
          rw [List.getD_eq_getElem?_getD, List.getElem?_append_right (by omega), show (checkL ys).2 + xs'.length - ln.length = (checkL ys).2 by omega]
          simp [List.getD_eq_getElem?_getD, show (checkL ys).2 < l3.length by omega]
    · simp only [Prod.mk.injEq] at ha
      obtain ⟨_, h1, h2, h3⟩ := ha
      simp at h3

theorem goP_err (B : List (List UInt8)) : ∀ i acc ln f, goP i acc ln B = .inl f → f.1 ≠ 0 ∧ f.2.1 ≤ i + B.length := by
  induction B with
  | nil => intro i acc ln f h; cases h
  | cons l B ih =>
    intro i acc ln f h
    rw [goP] at h
    rw [List.length_cons]
    split at h
    · split at h
      · split at h
        · injection h with h; subst h; exact ⟨by show (3 : Int) ≠ 0; decide, by simp only; omega⟩
        · have := ih _ _ _ _ h; exact ⟨this.1, by omega⟩
      · have := ih _ _ _ _ h; exact ⟨this.1, by omega⟩
    · rename_i h1; injection h with h; subst h; exact ⟨h1, by simp only; omega⟩
theorem goP_lns (B : List (List UInt8)) : ∀ i acc ln xs l2, goP i acc ln B = .inr (xs, l2) → ∀ n ∈ l2, n ∈ ln ∨ n ≤ i + B.length := by
  induction B with
  | nil => intro i acc ln xs l2 h n hn; rw [goP] at h; injection h with h; injection h with h1 h2; subst h2; exact .inl hn
  | cons l B ih =>
    intro i acc ln xs l2 h n hn
    rw [goP] at h
    rw [List.length_cons]
    split at h
    · split at h
      · split at h
        · cases h
        · rcases ih _ _ _ _ _ h n hn with e | e
          · rcases List.mem_append.1 e with e | e
            · exact .inl e
            · rw [List.mem_singleton] at e; exact .inr (by omega)
          · exact .inr (by omega)
      · rcases ih _ _ _ _ _ h n hn with e | e
        · exact .inl e
        · exact .inr (by omega)
    · cases h
theorem parse_err (l : List UInt8) : ((parseL l).2 = (0, 0, 0) ∨ (parseL l).2.1 ≠ 0 ∧ (parseL l).1 = []) ∧ (parseL l).2.2.1 ≤ l.length := by
  have hc := linesL_length l
  unfold parseL
  split
  · exact ⟨.inr ⟨by decide, rfl⟩, Nat.zero_le _⟩
  · cases h : goP 0 [] [] (linesL l) with
    | inl f =>
      have := goP_err _ _ _ _ _ h
      exact ⟨.inr ⟨this.1, rfl⟩, by simp only; omega⟩
    | inr q =>
      obtain ⟨xs, ln⟩ := q
      simp only
      split
      · exact ⟨.inl rfl, Nat.zero_le _⟩
      · rename_i hne
        refine ⟨.inr ⟨hne, rfl⟩, ?_⟩
        simp only
        rw [List.getD_eq_getElem?_getD]
        cases hg : ln[(checkL xs).2]? with
        | none => exact Nat.zero_le _
        | some n =>
          rcases goP_lns _ _ _ _ _ _ h n (List.mem_of_getElem? hg) with e | e
          · simp at e
          · simp only [Option.getD_some]; omega

theorem parse_count (l : List UInt8) : (parseL l).1.length ≤ l.length := by
  have hc := linesL_length l
  unfold parseL
  split
  · exact Nat.zero_le _
  · cases h : goP 0 [] [] (linesL l) with
    | inl f => exact Nat.zero_le _
    | inr q =>
      obtain ⟨xs, ln⟩ := q
      have := (goP_inr _ _ _ _ _ _ rfl h).2
      simp only [List.length_nil, Nat.zero_add] at this
      simp only
      split
      · simp only; omega
      · exact Nat.zero_le _

end Go.Proofs.YtgfmmbbebodapaaDoor

/- Items that are printed are read as they were: as lists. -/
namespace Go.Proofs.YtgfmmbbebodapaaDoor
open Go.RowKit

def No10 (l : List UInt8) : Prop := ∀ c ∈ l, c ≠ 10
theorem no10_append {l m : List UInt8} (h1 : No10 l) (h2 : No10 m) : No10 (l ++ m) := fun c hc => by
  rcases List.mem_append.1 hc with h | h
  · exact h1 c h
  · exact h2 c h
theorem no10_cons {c : UInt8} {l : List UInt8} (h1 : c ≠ 10) (h2 : No10 l) : No10 (c :: l) := fun d hd => by
  rcases List.mem_cons.1 hd with h | h
  · rw [h]; exact h1
  · exact h2 d h
theorem no10_nil : No10 [] := fun c hc => by simp at hc
theorem name_no10 {l : List UInt8} (h : nameB l = true) : No10 l := fun c hc e => by
  subst e
  unfold nameB at h
  rw [Bool.and_eq_true, List.all_eq_true] at h
  obtain ⟨i, hi, hx⟩ := List.getElem_of_mem hc
  have := h.2 i (by rw [List.mem_range]; exact hi)
  rw [okB_iff] at this
  have e2 : l.getD i 0 = 10 := by rw [List.getD_eq_getElem?_getD, List.getElem?_eq_getElem hi, hx]; rfl
  rw [e2] at this
  unfold okAt at this
  have h10 : ((10 : UInt8).toNat : Int) = 10 := rfl
  omega
theorem dec_no10 (u : Nat) : No10 (Lib.decDigits u) := by
  induction u using Nat.strongRecOn with
  | _ u ih =>
    rw [Lib.decDigits]
    have key : ∀ k : Nat, k < 10 → UInt8.ofNat (48 + k) ≠ 10 := fun k hk e => by
      have := congrArg UInt8.toNat e
      rw [UInt8.toNat_ofNat'] at this
      have h10 : (10 : UInt8).toNat = 10 := rfl
      omega
    split
    · rename_i h; exact no10_cons (key u h) no10_nil
    · exact no10_append (ih _ (by omega)) (no10_cons (key _ (Nat.mod_lt _ (by decide))) no10_nil)
theorem itoa_no10 (n : Int) : No10 (Lib.itoa n) := by
  unfold Lib.itoa
  split
  · exact no10_cons (by decide) (dec_no10 _)
  · exact dec_no10 _
/-- names are names, or empty -/
structure Namey (x : Src) : Prop where
  n : x.name.data.toList = [] ∨ nameB x.name.data.toList = true
  t : x.tg.data.toList = [] ∨ nameB x.tg.data.toList = true
theorem srcK_namey (k : Int) : Namey (srcK k) := ⟨.inl rfl, .inl rfl⟩
theorem readL_namey (p : Nat) (x : Src) (hx : Namey x) (f : List UInt8) : Namey (readL p x f).2 := by
  unfold readL
  split
  · split <;> exact ⟨hx.n, hx.t⟩
  split
  · split <;> exact ⟨hx.n, hx.t⟩
  split
  · split
    · rename_i h; exact ⟨.inr h, hx.t⟩
    · exact hx
  split
  · split
    · rename_i h; exact ⟨hx.n, .inr h⟩
    · exact hx
  split
  · exact hx
  split
  · unfold putL; split
    · exact ⟨hx.n, hx.t⟩
    split <;> exact ⟨hx.n, hx.t⟩
  · exact hx
theorem goL_namey : ∀ (fs : List (Nat × List UInt8)) (x : Src) (ps : List Nat) (y : Src), Namey x → goL x ps fs = .inr y → Namey y
  | [], x, ps, y, hx, h => by rw [goL] at h; injection h with h; rw [← h]; exact hx
  | (c, f) :: fs, x, [], y, _, h => by simp [goL] at h
  | (c, f) :: fs, x, p :: ps, y, hx, h => by
    rw [goL] at h
    split at h
    · exact goL_namey fs _ ps y (readL_namey p x hx f) h
    · cases h
theorem formL_namey {f : List UInt8} {x : Src} {ps : List Nat} {n : Nat} (h : formL f = some (x, ps, n)) : Namey x := by
  unfold formL at h
  split at h
  · rename_i i _
    injection h with h
    have h1 : Namey (formW i).1 := by unfold formW; split <;> exact srcK_namey _
    rw [h] at h1
    exact h1
  · split at h
    · rename_i o _
      injection h with h
      have h1 : Namey (formO o).1 := ⟨.inl rfl, .inl rfl⟩
      rw [h] at h1
      exact h1
    · split at h
      · rename_i hc
        injection h with h
        injection h with h1 h2
        rw [← h1]
        exact ⟨.inr hc.2, .inl rfl⟩
      · cases h
theorem lineL_namey (l : List UInt8) : Namey (lineL l).1 := by
  unfold lineL
  split
  · exact srcK_namey 0
  · split
    · exact srcK_namey 0
    · rename_i x ps least hform
      split
      · exact srcK_namey 0
      · rename_i y hgo
        split
        · exact srcK_namey 0
        · exact goL_namey _ _ _ _ (formL_namey hform) hgo
theorem may_namey {x : Src} (h : mayB x = true) : Namey x := by
  have := (mayB_iff x).1 h
  rw [← this.2]; exact lineL_namey _
theorem nm_no10 (o : Nat) : No10 (nm o).data.toList := by
  by_cases h : o < 17
  · have : o = 0 ∨ o = 1 ∨ o = 2 ∨ o = 3 ∨ o = 4 ∨ o = 5 ∨ o = 6 ∨ o = 7 ∨ o = 8 ∨ o = 9 ∨ o = 10 ∨ o = 11 ∨ o = 12 ∨ o = 13 ∨ o = 14 ∨ o = 15 ∨ o = 16 := by omega
    unfold No10
    rcases this with rfl | rfl | rfl | rfl | rfl | rfl | rfl | rfl | rfl | rfl | rfl | rfl | rfl | rfl | rfl | rfl | rfl <;> decide
  · obtain ⟨k, hk⟩ : ∃ k, o = k + 17 := ⟨o - 17, by omega⟩
    rw [hk]; exact no10_nil
theorem head_no10 (x : Src) (hx : Namey x) : No10 (headT x) := by
  have hn : No10 x.name.data.toList := by
    rcases hx.n with e | e
    · rw [e]; exact no10_nil
    · exact name_no10 e
  unfold headT
  split
  · exact no10_append hn (no10_cons (by decide) no10_nil)
  split
  · exact nm_no10 _
  split
  · unfold No10; decide
  split
  · unfold No10; decide
  split
  · unfold No10; decide
  split
  · unfold No10; decide
  split
  · unfold No10; decide
  · exact no10_nil
theorem field_no10 (p : Nat) (x : Src) (hx : Namey x) (i : Nat) : No10 (fieldT p x i) := by
  have hn : No10 x.name.data.toList := by
    rcases hx.n with e | e
    · rw [e]; exact no10_nil
    · exact name_no10 e
  have ht : No10 x.tg.data.toList := by
    rcases hx.t with e | e
    · rw [e]; exact no10_nil
    · exact name_no10 e
  unfold fieldT
  split
  · exact no10_cons (by decide) (itoa_no10 _)
  split
  · exact no10_cons (by decide) (itoa_no10 _)
  split
  · exact itoa_no10 _
  split
  · exact hn
  split
  · exact ht
  split
  · exact itoa_no10 _
  · exact itoa_no10 _
theorem mid_no10 (x : Src) (hx : Namey x) : ∀ k, No10 (midT x k)
  | 0 => by
    have : midT x 0 = headT x := by simp [midT]
    rw [this]; exact head_no10 x hx
  | k + 1 => by
    rw [midT_succ]
    exact no10_append (mid_no10 x hx k) (no10_cons (by decide) (field_no10 _ x hx k))
theorem line_no10 (x : Src) (h : mayB x = true) : No10 (lineT x) := mid_no10 x (may_namey h) _
theorem lines_text : ∀ xs : List Src, (∀ x ∈ xs, mayB x = true) → linesL (textT xs) = xs.map lineT
  | [], _ => rfl
  | x :: xs, h => by
    have e : textT (x :: xs) = lineT x ++ 10 :: textT xs := by simp [textT]
    rw [e, linesL_cut _ _ (line_no10 x (h x (by simp))), lines_text xs fun y hy => h y (by simp [hy])]
    rfl
theorem line_line {x : Src} (h : mayB x = true) : (lineL (lineT x)).1 = x ∧ (lineL (lineT x)).2.1 = true ∧ (lineL (lineT x)).2.2.1 = 0 := by
  have hm := (mayB_iff x).1 h
  refine ⟨hm.2, hm.1, ?_⟩
  have hok : ∀ l, (lineL l).2.1 = true → (lineL l).2.2.1 = 0 := fun l => by
    unfold lineL
    split
    · intro h; cases h
    · split
      · intro h; cases h
      · split
        · intro h; cases h
        · split
          · intro h; cases h
          · intro _; rfl
  exact hok _ hm.1
theorem goP_text : ∀ (xs : List Src), (∀ x ∈ xs, mayB x = true) → ∀ i acc ln, acc.length + xs.length ≤ 4096 → ∃ l2, goP i acc ln (xs.map lineT) = .inr (acc ++ xs, l2)
  | [], _, i, acc, ln, _ => ⟨ln, by simp [goP]⟩
  | x :: xs, h, i, acc, ln, hl => by
    obtain ⟨h1, h2, h3⟩ := line_line (h x (by simp))
    rw [List.length_cons] at hl
    obtain ⟨l2, hg⟩ := goP_text xs (fun y hy => h y (by simp [hy])) (i + 1) (acc ++ [x]) (ln ++ [i + 1]) (by simp; omega)
    refine ⟨l2, ?_⟩
    rw [List.map_cons, goP, if_pos h3, if_pos h2, if_neg (by omega), h1, hg]
    simp
/-- what is printed is read as it was -/
theorem parse_print (xs : List Src) (hc : (checkL xs).1 = 0) (ht : (textT xs).length ≤ 65536) : parseL (textT xs) = (xs, (0, 0, 0)) := by
  have h4 : xs.length ≤ 4096 := by
    by_cases h : xs.length ≤ 4096
    · exact h
    · unfold checkL at hc; rw [if_pos (by omega)] at hc; simp at hc
  have hmay : ∀ x ∈ xs, mayB x = true := by
    have := hc
    unfold checkL at this
    rw [if_neg (by omega)] at this
    exact chk_may xs 0 this
  obtain ⟨l2, hg⟩ := goP_text xs hmay 0 [] [] (by simpa using h4)
  unfold parseL
  rw [if_neg (by omega), lines_text xs hmay, hg]
  simp only [List.nil_append]
  rw [if_pos hc]
/-- what is read may be -/
theorem parse_check (l : List UInt8) (h : (parseL l).2 = (0, 0, 0)) : checkL (parseL l).1 = (0, 0) := by
  unfold parseL at h ⊢
  split
  · rename_i h1; rw [if_pos h1] at h; simp at h
  · rename_i h1
    rw [if_neg h1] at h
    cases hg : goP 0 [] [] (linesL l) with
    | inl f =>
      rw [hg] at h
      have := (goP_err _ _ _ _ _ hg).1
      simp only at h
      rw [h] at this
      simp at this
    | inr q =>
      obtain ⟨xs, ln⟩ := q
      rw [hg] at h
      simp only at h ⊢
      by_cases hc : (checkL xs).1 = 0
      · rw [if_pos hc]
        simp only
        unfold checkL at hc ⊢
        split
        · rename_i h2; rw [if_pos h2] at hc; simp at hc
        · rename_i h2; rw [if_neg h2] at hc; exact chk_zero xs 0 hc
      · rw [if_neg hc] at h
        simp only [Prod.mk.injEq] at h
        exact absurd h.1 hc

end Go.Proofs.YtgfmmbbebodapaaDoor

/- switchyardlaw04.SourceBack answers true. -/
namespace Go.Proofs.YtgfmmbbebodapaaDoor
open Go.RowKit

theorem parse_few (l : List UInt8) : (parseL l).1.length ≤ 65536 := by
  by_cases h : 65536 < l.length
  · have : parseL l = ([], (3, 0, 0)) := if_pos h
    rw [this]; exact Nat.zero_le _
  · have := parse_count l
    omega
/-- what Print answers is a text that is read as it was, or an error -/
theorem print_cases (xs : List Src) : ((printL xs).2 = 0 ∧ (printL xs).1 = textT xs ∧ parseL (textT xs) = (xs, (0, 0, 0))) ∨ ((printL xs).2 ≠ 0 ∧ (printL xs).1 = [] ∧ ((checkL xs).1 = 0 → (printL xs).2 = 3)) := by
  unfold printL
  by_cases h : (checkL xs).1 = 0
  · rw [if_pos h]
    by_cases h2 : 65536 < (textT xs).length
    · rw [if_pos h2]; exact .inr ⟨by decide, rfl, fun _ => rfl⟩
    · rw [if_neg h2]; exact .inl ⟨rfl, rfl, parse_print xs h (by omega)⟩
  · rw [if_neg h]; exact .inr ⟨h, rfl, fun e => absurd e h⟩
theorem parse_len {l : List UInt8} {xs : List Src} (h : parseL l = (xs, (0, 0, 0))) : l.length ≤ 65536 := by
  by_cases hl : 65536 < l.length
  · have : parseL l = ([], (3, 0, 0)) := if_pos hl
    rw [this] at h
    simp at h
  · omega
/-- a list of items that a call has made, as one that came in -/
theorem own_items {w : World} {B : Nat} {v : Value} {L : List (Src × Value)} {xs : List Src} (h : IOwn w B v L) (hm : L.map Prod.fst = xs) (hf : ∀ x ∈ xs, Fit x) : ∃ p c, v = .slice p xs.length c ∧ xs.length ≤ c ∧ c ≤ 9223372036854775807 ∧ Items w p xs := by
  obtain ⟨p, c, hv, h1, h2, -⟩ := h.shape
  have hl : L.length = xs.length := by have := congrArg List.length hm; rw [List.length_map] at this; exact this
  have hi := h.items (fun q hq => hf q.1 (by rw [← hm]; exact List.mem_map_of_mem hq)) hv
  rw [hm] at hi
  rw [hl] at hv h1
  exact ⟨p, c, hv, h1, Nat.le_trans h2 (by decide), hi⟩

set_option maxRecDepth 20000 in
set_option maxHeartbeats 2000000 in
theorem sourceBack_any (p : Option Addr) (n c : Nat) (xs : List Src) (s : ByteArray) (w : World) (he : Env w) (hn : xs.length = n) (hnc : n ≤ c) (hc : c ≤ 1048576) (hs : s.size ≤ 9223372036854775807) (hx : Items w p xs) :
    Calls Tryd.prog 3 #[.slice p n c, .string s] w fun E w' => E = .returned (.bool true) ∧ Below w.heap.size w w' := by
  have hCp := copyItems_any p n c xs w hn (by omega) hx
  have hP1 := fun (p1 : Option Addr) (c1 : Nat) W h1 h2 h3 (h4 : Items W p1 xs) => print_any p1 n c1 xs W h1 hn h2 h3 h4
  have hA := fun W h => awake_any W h
  have HX := Hid.in hx
  have HF : Hid (∀ x ∈ xs, Fit x) := hx.fit
  have HN := Hid.in hn
  have HPC := Hid.in (print_cases xs)
  clear hx hn
  obtain ⟨pt, hpt⟩ : ∃ pt, pt = (printL xs).1 := ⟨_, rfl⟩
  obtain ⟨pe, hpe⟩ : ∃ pe, pe = (printL xs).2 := ⟨_, rfl⟩
  rw [← hpt, ← hpe] at hP1 HPC
  clear hpt hpe
  go_enter Tryd.func3, Tryd.ntmps3
  go_upto_if 24 with (first
    | (go_at_call 5; refine hCp.mono ?_; rintro E w1 ⟨v1, L1, rfl, hm1, hI1, hb1⟩; obtain ⟨p1, c1, hv1, hc11, hc12, hi1⟩ := own_items hI1 hm1 HF.out; rw [HN.out] at hv1 hc11; subst hv1; have HI1 := Hid.in hi1; have HE1 := Hid.in (he.below hb1); have HB1 := Hid.in hb1; clear hm1 hI1 hb1 hi1)
    | (go_at_call 4; refine (hP1 p1 c1 _ HE1.out hc11 (by omega) HI1.out).mono ?_; rintro E w2 ⟨rfl, hb2⟩; have HE2 := Hid.in (HE1.out.below hb2); have HB2 := Hid.in (below_step HB1.out hb2); clear hb2))
  clear hP1 hCp
  go_cut [5] from 6 to 38 (fun _ wx => Below w.heap.size w wx)
  case first =>
    rcases HPC.out with ⟨h0, h1, h2⟩ | ⟨h0, h1, -⟩
    · have hPr := parse_any (bytesOf pt) w2 HE2.out (by rw [bytesOf_size, h1]; have := parse_len h2; omega)
      rw [bytesOf_list, h1, h2] at hPr
      rw [← h1] at hPr
      clear h1 h2 HPC
      subst h0
      generalize bytesOf pt = bt at *
      go_wp2_with (first
        | (go_at_call 6; refine hPr.mono ?_; rintro E w3 ⟨v3, L3, rfl, hm3, hI3, hF3, hb3⟩; obtain ⟨p3, c3, hv3, hc31, hc32, hi3⟩ := own_items hI3 hm3 HF.out; rw [HN.out] at hv3 hc31; subst hv3; have HI3 := Hid.in hi3; have HB3 := Hid.in (below_step HB2.out hb3); clear hm3 hI3 hF3 hb3 hi3)
        | (refine step_store_new rfl 28 (.tmp 8) (.tmp 29) rfl rfl rfl (faultC (0, 0, 0)) rfl Tryd.sz28 rfl (fault_one _) ?_; refine Hid.out ?_))
      refine Lib.hid ?_
      have hF := Blk.new w3 28 (faultC (0, 0, 0))
      have f0 : (w3.alloc (.cells (faultC (0, 0, 0)) 28)).cell? ⟨w3.heap.size, 0, none⟩ = some (.int .i64 0) := hF.cell 0
      have f1 : (w3.alloc (.cells (faultC (0, 0, 0)) 28)).cell? ⟨w3.heap.size, 1, none⟩ = some (.int .i64 0) := hF.cell 1
      have f2 : (w3.alloc (.cells (faultC (0, 0, 0)) 28)).cell? ⟨w3.heap.size, 2, none⟩ = some (.int .i64 0) := hF.cell 2
      have HB4 := Hid.in (below_alloc HB3.out (.cells (faultC (0, 0, 0)) 28))
      have hS := sameItems_yes p p3 n c c3 xs (w3.alloc (.cells (faultC (0, 0, 0)) 28)) HN.out (by omega) (fun x hx' => Nat.le_trans (HF.out x hx').dz (by decide)) (HX.out.below HB4.out) (HI3.out.below (new_alloc _ _))
      clear hF HB3 hPr
      generalize w3.alloc (.cells (faultC (0, 0, 0)) 28) = w4 at *
      generalize w3.heap.size = g3 at *
      go_wp2_with (go_at_call 7; refine hS.mono ?_; rintro E w5 ⟨rfl, hb5⟩; have HB5 := Hid.in (below_step HB4.out hb5); clear hb5)
      go_meet
      case rel => exact HB5.out
    · clear h1
      go_wp2_with fail
      go_meet
      case rel => exact HB2.out
  case rest =>
    have HBC := Hid.in hcut
    have HEC := Hid.in (he.keep hcut he.lt)
    have hPs := fun h => parse_any s wc h hs
    have hER := parse_err s.data.toList
    have HCK := Hid.in (parse_check s.data.toList)
    have HFW := Hid.in (parse_few s.data.toList)
    clear hcut HE2 HB2 HPC HX HF HN
    generalize parseL s.data.toList = r at *
    obtain ⟨ys, e, l, cl⟩ := r
    simp only at hER HCK HFW
    rcases hER.1 with h0 | ⟨h0, h00⟩
    · simp only [Prod.mk.injEq] at h0
      obtain ⟨rfl, rfl, rfl⟩ := h0
      have HCK0 := Hid.in (HCK.out rfl)
      have HPC := Hid.in (print_cases ys)
      clear hER HCK
      go_wp2_with (first
        | (go_at_call 6; refine (hPs HEC.out).mono ?_; rintro E w3 ⟨v3, L3, rfl, hm3, hI3, hF3, hb3⟩; simp only at hm3; have hf3 : ∀ x ∈ ys, Fit x := (fun x hx => (by rw [← hm3] at hx; obtain ⟨q, hq, e⟩ := List.mem_map.1 hx; rw [← e]; exact hF3 q hq)); obtain ⟨p3, c3, hv3, hc31, hc32, hi3⟩ := own_items hI3 hm3 hf3; subst hv3; have HI3 := Hid.in hi3; have HF3 := Hid.in hf3; have HE3 := Hid.in (HEC.out.below hb3); have HB3 := Hid.in (below_step HBC.out hb3); clear hm3 hI3 hF3 hb3 hi3 hf3)
        | (refine step_store_new rfl 28 (.tmp 10) (.tmp 43) rfl rfl rfl (faultC (0, 0, 0)) rfl Tryd.sz28 rfl (fault_one _) ?_; refine Hid.out ?_))
      refine Lib.hid ?_
      have hF := Blk.new w3 28 (faultC (0, 0, 0))
      have f0 : (w3.alloc (.cells (faultC (0, 0, 0)) 28)).cell? ⟨w3.heap.size, 0, none⟩ = some (.int .i64 0) := hF.cell 0
      have f1 : (w3.alloc (.cells (faultC (0, 0, 0)) 28)).cell? ⟨w3.heap.size, 1, none⟩ = some (.int .i64 0) := hF.cell 1
      have f2 : (w3.alloc (.cells (faultC (0, 0, 0)) 28)).cell? ⟨w3.heap.size, 2, none⟩ = some (.int .i64 0) := hF.cell 2
      have HB4 := Hid.in (below_alloc HB3.out (.cells (faultC (0, 0, 0)) 28))
      have HE4 := Hid.in (HE3.out.below (new_alloc w3 (.cells (faultC (0, 0, 0)) 28)))
      have HI4 := Hid.in (HI3.out.below (new_alloc w3 (.cells (faultC (0, 0, 0)) 28)))
      clear hF HB3 HE3 HI3 hPs
      generalize w3.alloc (.cells (faultC (0, 0, 0)) 28) = w4 at *
      generalize w3.heap.size = g3 at *
      obtain ⟨ny, hny⟩ : ∃ ny, ny = ys.length := ⟨_, rfl⟩
      rw [← hny] at hc31
      rw [← hny]
      have hCp := fun W h => copyItems_any p3 ny c3 ys W hny.symm (by have := HFW.out; omega) h
      have hCk := fun (p1 : Option Addr) (c1 : Nat) W h1 h2 h3 (h4 : Items W p1 ys) => check_any p1 ny c1 ys W h1 hny.symm h2 h3 h4
      have hPr := fun (p1 : Option Addr) (c1 : Nat) W h1 h2 h3 (h4 : Items W p1 ys) => print_any p1 ny c1 ys W h1 hny.symm h2 h3 h4
      rw [HCK0.out] at hCk
      have HNY := Hid.in hny
      clear hny
      obtain ⟨pt2, hpt⟩ : ∃ pt, pt = (printL ys).1 := ⟨_, rfl⟩
      obtain ⟨pe2, hpe⟩ : ∃ pe, pe = (printL ys).2 := ⟨_, rfl⟩
      rw [← hpt, ← hpe] at hPr HPC
      clear hpt hpe
      go_upto_region 10 with (first
        | (go_at_call 5; refine (hCp _ HI4.out).mono ?_; rintro E w5 ⟨v5, L5, rfl, hm5, hI5, hb5⟩; obtain ⟨p5, c5, hv5, hc51, hc52, hi5⟩ := own_items hI5 hm5 HF3.out; rw [← HNY.out] at hv5 hc51; subst hv5; have HI5 := Hid.in hi5; have HE5 := Hid.in (HE4.out.below hb5); have HB5 := Hid.in (below_step HB4.out hb5); have HO5 := Hid.in (HI4.out.below hb5); clear hm5 hI5 hb5 hi5)
        | (go_at_call 9; refine (hCk p5 c5 _ HE5.out hc51 (by omega) HI5.out).mono ?_; rintro E w6 ⟨rfl, hb6⟩; have HE6 := Hid.in (HE5.out.below hb6); have HB6 := Hid.in (below_step HB5.out hb6); have HO6 := Hid.in (HO5.out.below hb6); clear hb6))
      clear f0 f1 f2
      go_upto_region 11 with (first
        | (go_at_call 5; refine (hCp _ HO6.out).mono ?_; rintro E w7 ⟨v7, L7, rfl, hm7, hI7, hb7⟩; obtain ⟨p7, c7, hv7, hc71, hc72, hi7⟩ := own_items hI7 hm7 HF3.out; rw [← HNY.out] at hv7 hc71; subst hv7; have HI7 := Hid.in hi7; have HE7 := Hid.in (HE6.out.below hb7); have HB7 := Hid.in (below_step HB6.out hb7); have HO7 := Hid.in (HO6.out.below hb7); clear hm7 hI7 hb7 hi7)
        | (go_at_call 4; refine (hPr p7 c7 _ HE7.out hc71 (by omega) HI7.out).mono ?_; rintro E w8 ⟨rfl, hb8⟩; have HE8 := Hid.in (HE7.out.below hb8); have HB8 := Hid.in (below_step HB7.out hb8); have HO8 := Hid.in (HO7.out.below hb8); clear hb8))
      clear hCp hCk hPr
      rcases HPC.out with ⟨h0, h1, h2⟩ | ⟨h0, -, h3⟩
      · have hPr := parse_any (bytesOf pt2) w8 HE8.out (by rw [bytesOf_size, h1]; have := parse_len h2; omega)
        rw [bytesOf_list, h1, h2] at hPr
        rw [← h1] at hPr
        clear h1 h2 HPC
        subst h0
        generalize bytesOf pt2 = bt at *
        go_wp2_with (first
          | (go_at_call 6; refine hPr.mono ?_; rintro E w9 ⟨v9, L9, rfl, hm9, hI9, hF9, hb9⟩; obtain ⟨p9, c9, hv9, hc91, hc92, hi9⟩ := own_items hI9 hm9 HF3.out; rw [← HNY.out] at hv9 hc91; subst hv9; have HI9 := Hid.in hi9; have HO9 := Hid.in (HO8.out.below hb9); have HE9 := Hid.in (HE8.out.below hb9); have HB9 := Hid.in (below_step HB8.out hb9); clear hm9 hI9 hF9 hb9 hi9)
          | (refine step_store_new rfl 28 (.tmp 16) (.tmp 86) rfl rfl rfl (faultC (0, 0, 0)) rfl Tryd.sz28 rfl (fault_one _) ?_; refine Hid.out ?_))
        refine Lib.hid ?_
        have hF := Blk.new w9 28 (faultC (0, 0, 0))
        have f0 : (w9.alloc (.cells (faultC (0, 0, 0)) 28)).cell? ⟨w9.heap.size, 0, none⟩ = some (.int .i64 0) := hF.cell 0
        have f1 : (w9.alloc (.cells (faultC (0, 0, 0)) 28)).cell? ⟨w9.heap.size, 1, none⟩ = some (.int .i64 0) := hF.cell 1
        have f2 : (w9.alloc (.cells (faultC (0, 0, 0)) 28)).cell? ⟨w9.heap.size, 2, none⟩ = some (.int .i64 0) := hF.cell 2
        have HB10 := Hid.in (below_alloc HB9.out (.cells (faultC (0, 0, 0)) 28))
        have HE10 := Hid.in (HE9.out.below (new_alloc w9 (.cells (faultC (0, 0, 0)) 28)))
        have hS := sameItems_yes p3 p9 ny c3 c9 ys (w9.alloc (.cells (faultC (0, 0, 0)) 28)) HNY.out.symm (by have := HFW.out; have := HNY.out; omega) (fun x hx' => Nat.le_trans (HF3.out x hx').dz (by decide)) (HO9.out.below (new_alloc _ _)) (HI9.out.below (new_alloc _ _))
        clear hF HB9 HE9 hPr
        generalize w9.alloc (.cells (faultC (0, 0, 0)) 28) = w10 at *
        generalize w9.heap.size = g9 at *
        go_wp2_with (first
          | (go_at_call 7; refine hS.mono ?_; rintro E w11 ⟨rfl, hb11⟩; have HB11 := Hid.in (below_step HB10.out hb11); have HE11 := Hid.in (HE10.out.below hb11); clear hb11)
          | (go_at_call 8; refine (hA _ HE11.out).mono ?_; rintro E w12 ⟨rfl, hb12⟩))
        go_ret
        exact ⟨rfl, below_step HB11.out hb12⟩
      · have h3' := h3 (by rw [HCK0.out])
        subst h3'
        clear h0 h3 HPC
        go_wp2_with (go_at_call 8; refine (hA _ HE8.out).mono ?_; rintro E w12 ⟨rfl, hb12⟩)
        go_ret
        exact ⟨rfl, below_step HB8.out hb12⟩
    · have he0 : ¬ e = 0 := h0
      subst h00
      clear h0 hER HCK HFW
      go_wp2_with (first
        | (go_at_call 6; refine (hPs HEC.out).mono ?_; rintro E w3 ⟨v3, L3, rfl, hm3, hI3, -, hb3⟩; have hl3 : L3.length = 0 := (by have := congrArg List.length hm3; rw [List.length_map] at this; exact this); obtain ⟨p3, c3, hv3, -, -, -⟩ := hI3.shape; rw [hl3] at hv3; subst hv3; have HE3 := Hid.in (HEC.out.below hb3); have HB3 := Hid.in (below_step HBC.out hb3); clear hm3 hI3 hb3 hl3)
        | (refine step_store_new rfl 28 (.tmp 10) (.tmp 43) rfl rfl rfl (faultC (e, l, cl)) rfl Tryd.sz28 rfl (fault_one _) ?_; refine Hid.out ?_))
      refine Lib.hid ?_
      have hF := Blk.new w3 28 (faultC (e, l, cl))
      have f0 : (w3.alloc (.cells (faultC (e, l, cl)) 28)).cell? ⟨w3.heap.size, 0, none⟩ = some (.int .i64 e) := hF.cell 0
      have f1 : (w3.alloc (.cells (faultC (e, l, cl)) 28)).cell? ⟨w3.heap.size, 1, none⟩ = some (.int .i64 l) := hF.cell 1
      have f2 : (w3.alloc (.cells (faultC (e, l, cl)) 28)).cell? ⟨w3.heap.size, 2, none⟩ = some (.int .i64 cl) := hF.cell 2
      have HB4 := Hid.in (below_alloc HB3.out (.cells (faultC (e, l, cl)) 28))
      have HE4 := Hid.in (HE3.out.below (new_alloc w3 (.cells (faultC (e, l, cl)) 28)))
      clear hF HB3 HE3 hPs
      generalize w3.alloc (.cells (faultC (e, l, cl)) 28) = w4 at *
      generalize w3.heap.size = g3 at *
      go_wp2_with (go_at_call 8; refine (hA _ HE4.out).mono ?_; rintro E w5 ⟨rfl, hb5⟩)
      go_ret
      exact ⟨rfl, below_step HB4.out hb5⟩

end Go.Proofs.YtgfmmbbebodapaaDoor

/-
  Proved here: the law SourceBack (switchyardlaw04) answers true wherever its arguments hold together at most 1048576 values and letters, and each argument reads afterwards as it read before; the card: what the row lists of the library's variables is tied to the program's text. 
-/
namespace Go.Proofs.YtgfmmbbebodapaaDoor
open Go.ChangeShapes Go.WideShapes Go.ChangeAt Go.RowKit
open Go.ChangeMaps (open_string shut_string)

theorem sourceBackUpto_reads (os : Os) {H : Type} (enc : TypeId × Value → H) : ∃ places, DataW.whole enc Tryd.prog ((laidWorld os).forCall (fun _ _ => 0) ⟨#[], #[.slice none 0 0, .string ByteArray.empty], []⟩).memory Tryd.f3.params.toList (Rows.OpenSpec.upto Rows.sourceBackSpec).vars false (#[.slice none 0 0, .string ByteArray.empty] : Array Value).toList 8 = some ([.nil, .lit (.string [])], [], places) :=
  ⟨[], by kernel_rfl⟩

set_option maxRecDepth 100000 in
theorem sourceBackUpto_lifted (os : Os) (started : os.Started) (H : Type) (enc : TypeId × Value → H) (F : Stop.Interp) :
    ReturnsInHanded {} Tryd.checked os 3 .any ((Rows.OpenSpec.upto Rows.sourceBackSpec).preRow enc Tryd.prog Tryd.f3 Rows.sourceBackUptoRow.domain false Rows.sourceBackUptoRow.laid) (((Rows.OpenSpec.upto Rows.sourceBackSpec).at F).post enc Tryd.prog Tryd.f3 false true false false) := by
  obtain ⟨places, hx⟩ := sourceBackUpto_reads os enc
  refine returnsInHanded_of_row (C := Tryd.checked) (s := (Rows.OpenSpec.upto Rows.sourceBackSpec)) Tryd.own started (by kernel_rfl) Tryd.func3
    (witness_row_atRef (enc := enc) (C := Tryd.checked) false (laidWorld os) #[.slice none 0 0, .string ByteArray.empty] rfl (by kernel_rfl) (by kernel_rfl) (by kernel_rfl)
      (OpenSpec.preRow_of_cond 8 hx (by kernel_rfl) (fun k hk => by cases hk; kernel_rfl) (by kernel_rfl) (laid_met os _))) ?_
  intro W base args ds gs before hval0 hW _ hcond hsz0 hL _ _
  have hV := env_of hL
  have hk := hcond _ rfl
  have hW' := hW
  obtain ⟨p, q, hA0, hVv, rfl, hfz, hnd⟩ := hW
  have hA : DataW.TrodAll enc Tryd.prog W 0 (fun _ => true) true Tryd.f3.params.toList args.toList ds p := hA0
  have hval : ∀ (j : Nat) t v, Tryd.f3.params[j]? = some t → args[j]? = some v → Value.okWide Tryd.prog W .any base t v := hval0
  rw [Tryd.params3] at hA hval
  obtain ⟨v0, vs0, d0, ds0, p0, q0, hargs, rfl, rfl, h0, r0⟩ := trodAll_cons hA
  obtain ⟨v1, vs1, d1, ds1, p1, q1, rfl, rfl, rfl, h1, r1⟩ := trodAll_cons r0
  obtain ⟨rfl, rfl, rfl⟩ := trodAll_nil r1
  obtain rfl : args = #[v0, v1] := by cases args; simp_all
  obtain ⟨rfl, rfl⟩ := trodVars_none hVv
  obtain ⟨a0, n0, c0, rfl⟩ := okWide_slice Tryd.underlying22 (hval 0 22 v0 rfl rfl)
  have k0 := h0
  have lt0 : ∀ x ∈ p0, x.block < W.heap.size := by obtain ⟨m, hm⟩ := k0; exact DataW.trod_lt m _ _ _ hm
  obtain ⟨x0, hx0, hl0, hc0, hr0⟩ := opened_items h0 (bulk_one (d := d0) hk (by simp))
  obtain ⟨s1, rfl, rfl, rfl, hs1⟩ := open_string Tryd.underlying9 (hval 1 9 v1 rfl rfl) h1
  have hc1 := bulk_string (s := s1) hk (by simp)
  refine (sourceBack_any a0 n0 c0 x0 s1 W hV hx0 hl0 hc0 (by omega) hr0).mono fun e W' ⟨he, bel⟩ => ?_
  subst he
  exact ⟨_, rfl, _, _, _, [], _, [], hW', trodAll_mk1 (shut_bool Tryd.underlying4 _), (trodAll_cons_mk (Below.trod Tryd.laidOut (by kernel_rfl) (of_decide_eq_true (by kernel_rfl)) k0 bel lt0) (trodAll_cons_mk (shut_string Tryd.underlying9 hs1) trodAll_mk0)), rfl, bel.frame _, fun h => by cases h⟩

theorem sourceBackUpto_said : Rows.SourceBackUptoSaid :=
  OpenClaim.holds_of_cond 3 Tryd.f3 rfl rfl rfl rfl rfl rfl rfl ⟨rfl, rfl, rfl, rfl, rfl⟩ rfl rfl rfl rfl rfl (by kernel_rfl) Tryd.func3 (by kernel_rfl)
    (of_decide_eq_true (by kernel_rfl)) (by unfold Func.isWrapper; first | (rw [if_pos (by decide +kernel)]; kernel_rfl) | (rw [if_neg (by decide +kernel)]; exact ⟨rfl, rfl⟩))
    (fun os started H enc _ F => by rw [OpenClaim.pre_eq_preRow]; exact sourceBackUpto_lifted os started H enc F)

theorem sourceBackUpto_plain (f : FuncId) (fn : Func) (hf : Tryd.pinned.checked.prog.funcNamed "switchyard/switchyardlaw04.SourceBack" = some f) (hfn : Tryd.pinned.checked.prog.funcs[f]? = some fn) :
    true = Tryd.pinned.checked.prog.looks [] ∧ ∀ (j : Nat) t, fn.params[j]? = some t → Tryd.pinned.checked.prog.wantsStandIn t = false := by
  obtain rfl : f = 3 := Option.some.inj ((show Tryd.prog.funcNamed "switchyard/switchyardlaw04.SourceBack" = some 3 by kernel_rfl).symm.trans hf) |>.symm
  obtain rfl : fn = Tryd.f3 := (Option.some.inj (Tryd.func3.symm.trans hfn)).symm
  refine ⟨by kernel_rfl, fun j t ht => ?_⟩
  rw [Tryd.params3] at ht
  rcases j with _ | _ | j
  · obtain rfl : t = 22 := by simpa using ht.symm
    exact (show Tryd.prog.wantsStandIn 22 = false by kernel_rfl)
  · obtain rfl : t = 9 := by simpa using ht.symm
    exact (show Tryd.prog.wantsStandIn 9 = false by kernel_rfl)
  · simp at ht

theorem sourceBackUpto_holds : Rows.SourceBackUptoCardSaid :=
  Claim7.holds_tied_plain_at .later [] _ _ _ _ sourceBackUpto_said (fun _ h => by cases h) (by kernel_rfl) (fun _ h => by cases h) sourceBackUpto_row_tie rfl ⟨rfl, rfl⟩ (by kernel_rfl) rfl sourceBackUpto_plain (by kernel_rfl)
#print axioms sourceBackUpto_holds

end Go.Proofs.YtgfmmbbebodapaaDoor
