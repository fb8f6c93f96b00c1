/- A line's fields: each at its place, behind the one ahead of it; the fields of what is put together again. -/
import Derived.Test.YtaabdffplfifkaaDoorWFields
import Derived.Lib.Join
namespace Go.Proofs.YtaabdffplfifkaaDoor
open Go.RowKit

/-- fields that stand in A, the first at e or behind it, each behind the one ahead -/
def Chain (A : List UInt8) : Nat → List (Nat × List UInt8) → Prop
  | _, [] => True
  | e, f :: fs => f.2 ≠ [] ∧ (∀ c ∈ f.2, isBlank c = false) ∧ e ≤ f.1 ∧ f.1 + f.2.length ≤ A.length ∧ piece A f.1 (f.1 + f.2.length) = f.2 ∧ Chain A (f.1 + f.2.length) fs

theorem chain_fld (A : List UInt8) : ∀ (l : List UInt8) (p e : Nat) (cur : Option (Nat × List UInt8)), A.drop p = l → p ≤ A.length → e ≤ p →
    (∀ f, cur = some f → f.2 ≠ [] ∧ (∀ c ∈ f.2, isBlank c = false) ∧ e ≤ f.1 ∧ f.1 + f.2.length = p ∧ piece A f.1 p = f.2) → Chain A e (fldL p cur l) := by
  intro l
  induction l with
  | nil =>
    intro p e cur hd hp he hc
    cases cur with
    | none => exact trivial
    | some f =>
      obtain ⟨h1, h2, h3, h4, h5⟩ := hc f rfl
      refine ⟨h1, h2, h3, by omega, by rw [h4]; exact h5, trivial⟩
  | cons c cs ih =>
    intro p e cur hd hp he hc
    have hlt : p < A.length := by
      rcases Nat.lt_or_ge p A.length with h | h
      · exact h
      · rw [List.drop_eq_nil_of_le h] at hd; cases hd
    rw [List.drop_eq_getElem_cons hlt] at hd
    injection hd with hc0 hcs
    by_cases hb : isBlank c = true
    · rw [fldL_blank p cur c cs hb]
      cases cur with
      | none => exact ih (p + 1) e none hcs hlt (by omega) (fun f h => by cases h)
      | some f =>
        obtain ⟨h1, h2, h3, h4, h5⟩ := hc f rfl
        refine ⟨h1, h2, h3, by omega, by rw [h4]; exact h5, ?_⟩
        exact ih (p + 1) _ none hcs hlt (by omega) (fun f h => by cases h)
    · have hb' : isBlank c = false := by simpa using hb
      cases cur with
      | none =>
        rw [fldL_none p c cs hb']
        refine ih (p + 1) e _ hcs hlt (by omega) (fun f h => ?_)
        injection h with h
        subst h
        refine ⟨by simp, ?_, he, rfl, ?_⟩
        · intro x hx; simp at hx; rw [hx]; exact hb'
        · rw [piece_snoc A p p (Nat.le_refl _) hlt, piece_self, hc0]; rfl
      | some f0 =>
        obtain ⟨h1, h2, h3, h4, h5⟩ := hc f0 rfl
        rw [fldL_some p f0 c cs hb']
        refine ih (p + 1) e _ hcs hlt (by omega) (fun f h => ?_)
        injection h with h
        subst h
        refine ⟨by simp, ?_, h3, by simp; omega, ?_⟩
        · intro x hx
          simp at hx
          rcases hx with hx | hx
          · exact h2 x hx
          · rw [hx]; exact hb'
        · rw [piece_snoc A f0.1 p (by omega) hlt, h5, hc0]

theorem chain_fields (l : List UInt8) : Chain (ahead l) 0 (fieldsL l) :=
  chain_fld _ _ 0 0 none rfl (Nat.zero_le _) (Nat.le_refl _) (fun f h => by cases h)

theorem ahead_hash (a b : List UInt8) : ahead (a ++ 35 :: b) = ahead a := by
  induction a with
  | nil => simp [ahead]
  | cons c cs ih =>
    by_cases h : c = 35
    · subst h; simp [ahead]
    · rw [List.cons_append, ahead_cons c _ h, ahead_cons c _ h, ih]
theorem fields_hash (a b : List UInt8) : fieldsL (a ++ 35 :: b) = fieldsL a := by unfold fieldsL; rw [ahead_hash]

theorem chain_each {A : List UInt8} : ∀ {fs : List (Nat × List UInt8)} {e : Nat}, Chain A e fs → ∀ f ∈ fs, f.2 ≠ [] ∧ (∀ c ∈ f.2, isBlank c = false) ∧ (∀ c ∈ f.2, c ∈ A)
  | [], _, _, f, hf => by cases hf
  | g :: fs, e, h, f, hf => by
    obtain ⟨h1, h2, h3, h4, h5, h6⟩ := h
    rcases List.mem_cons.1 hf with rfl | hf
    · refine ⟨h1, h2, fun c hc => ?_⟩
      rw [← h5] at hc
      exact List.mem_of_mem_drop (List.mem_of_mem_take hc)
    · exact chain_each h6 f hf

/-- the bytes of the fields: none is a blank or 35 -/
theorem fields_each (l : List UInt8) (f : Nat × List UInt8) (hf : f ∈ fieldsL l) : f.2 ≠ [] ∧ ∀ c ∈ f.2, isBlank c = false ∧ c ≠ 35 := by
  obtain ⟨h1, h2, h3⟩ := chain_each (chain_fields l) f hf
  exact ⟨h1, fun c hc => ⟨h2 c hc, ahead_all l c (h3 c hc)⟩⟩

theorem join_cons2 (x y : List UInt8) (r : List (List UInt8)) (sep : List UInt8) : Lib.join (x :: y :: r) sep = x ++ (sep ++ Lib.join (y :: r) sep) := by
  simp [Lib.join, List.intercalate, List.intersperse]

/-- fields put together with blanks between them are read as they were -/
theorem fld_join : ∀ (xs : List (List UInt8)) (p : Nat), (∀ x ∈ xs, x ≠ [] ∧ ∀ c ∈ x, isBlank c = false) → (fldL p none (Lib.join xs [9, 32] ++ [13])).map (·.2) = xs
  | [], p, _ => by
    rw [Lib.join_nil, List.nil_append, fldL_blank p none 13 [] rfl]; rfl
  | [x], p, h => by
    obtain ⟨h1, h2⟩ := h x (by simp)
    rw [Lib.join_one, fldL_open x [13] p h1 h2, fldL_blank _ _ 13 [] rfl]; rfl
  | x :: y :: r, p, h => by
    obtain ⟨h1, h2⟩ := h x (by simp)
    rw [join_cons2, List.append_assoc, fldL_open x _ p h1 h2]
    rw [show [9, 32] ++ Lib.join (y :: r) [9, 32] ++ [13] = 9 :: 32 :: (Lib.join (y :: r) [9, 32] ++ [13]) from rfl]
    rw [fldL_blank _ _ 9 _ rfl, fldL_blank _ _ 32 _ rfl]
    have ih := fld_join (y :: r) (p + x.length + 1 + 1) (fun z hz => h z (by simp [hz]))
    simp only [Option.toList, List.map_append, List.map_cons, List.map_nil, List.nil_append, ih]
    rfl

theorem join_mem : ∀ (xs : List (List UInt8)) (sep : List UInt8) (c : UInt8), c ∈ Lib.join xs sep → c ∈ sep ∨ ∃ x ∈ xs, c ∈ x
  | [], sep, c, h => by rw [Lib.join_nil] at h; cases h
  | [x], sep, c, h => by rw [Lib.join_one] at h; exact .inr ⟨x, by simp, h⟩
  | x :: y :: r, sep, c, h => by
    rw [join_cons2] at h
    rcases List.mem_append.1 h with h | h
    · exact .inr ⟨x, by simp, h⟩
    · rcases List.mem_append.1 h with h | h
      · exact .inl h
      · rcases join_mem (y :: r) sep c h with h | ⟨z, hz, hc⟩
        · exact .inl h
        · exact .inr ⟨z, by simp [hz], hc⟩

theorem fields_join (xs : List (List UInt8)) (h : ∀ x ∈ xs, x ≠ [] ∧ ∀ c ∈ x, isBlank c = false ∧ c ≠ 35) :
    (fieldsL ([32, 32] ++ Lib.join xs [9, 32] ++ [13])).map (·.2) = xs := by
  unfold fieldsL
  rw [ahead_no]
  · rw [show [32, 32] ++ Lib.join xs [9, 32] ++ [13] = 32 :: 32 :: (Lib.join xs [9, 32] ++ [13]) from rfl]
    rw [fldL_blank _ _ 32 _ rfl, fldL_blank _ _ 32 _ rfl]
    exact fld_join xs _ (fun x hx => ⟨(h x hx).1, fun c hc => ((h x hx).2 c hc).1⟩)
  · intro c hc
    rcases List.mem_append.1 hc with hc | hc
    · rcases List.mem_append.1 hc with hc | hc
      · simp at hc; rw [hc]; decide
      · rcases join_mem xs _ c hc with hc | ⟨x, hx, hc⟩
        · simp at hc; rcases hc with rfl | rfl <;> decide
        · exact ((h x hx).2 c hc).2
    · simp at hc; rw [hc]; decide

/-- how long what is put together is: the fields and two bytes for each -/
theorem join_size : ∀ (xs : List (List UInt8)), (Lib.join xs [9, 32]).length ≤ (xs.map (·.length)).sum + 2 * xs.length
  | [] => by rw [Lib.join_nil]; simp
  | [x] => by rw [Lib.join_one]; simp
  | x :: y :: r => by
    rw [join_cons2]
    have := join_size (y :: r)
    simp at this ⊢
    omega
theorem chain_sum {A : List UInt8} : ∀ {fs : List (Nat × List UInt8)} {e : Nat}, Chain A e fs → e ≤ A.length → e + ((fs.map (·.2)).map (·.length)).sum ≤ A.length
  | [], e, _, he => by simpa using he
  | f :: fs, e, h, _ => by
    obtain ⟨h1, h2, h3, h4, h5, h6⟩ := h
    have := chain_sum h6 h4
    simp only [List.map_cons, List.sum_cons]
    omega

end Go.Proofs.YtaabdffplfifkaaDoor
