/- What Take answers, as lists. -/
import Derived.Test.YtnpaijbkhmnfpaaGreatRTk
namespace Go.Proofs.YtnpaijbkhmnfpaaGreat
open Go.RowKit Go.Maps

/-- what a list of granules may hold -/
def LnW (L : List Ln) : Prop := ∀ x ∈ L, i64W x.g ∧ F8 x.f
theorem granF8 {xs : List Int} (h : Byt xs) (k : Nat) : F8 (granF xs k) := ⟨h _, h _, h _, h _⟩
theorem findL_mem {L : List Ln} {g : Int} {f : F4} (h : findL L g = some f) : ∃ x ∈ L, x.f = f := by
  unfold findL at h
  rw [Option.map_eq_some_iff] at h
  obtain ⟨x, h1, h2⟩ := h
  exact ⟨x, List.mem_of_find?_eq_some h1, h2⟩
theorem takR_held {L : List Ln} {xs : List Int} {g : Int} {f : F4} (h : findL L g = some f) : takR L xs g true = ⟨f, true, 0, L⟩ := by unfold takR; rw [h]
theorem takR_in {L : List Ln} {xs : List Int} {g : Int} {hold : Bool} (h : ((findL L g).isSome && hold) = false) (hg : 0 ≤ g ∧ g < 16384) : takR L xs g hold = ⟨granF xs g.toNat, false, 0, takL g (granF xs g.toNat) L⟩ := by
  unfold takR
  split
  · rename_i f e; simp [e] at h
  · rw [if_pos hg]
theorem takR_out {L : List Ln} {xs : List Int} {g : Int} {hold : Bool} (h : ((findL L g).isSome && hold) = false) (hg : ¬ (0 ≤ g ∧ g < 16384)) : takR L xs g hold = ⟨zF, false, 2, L⟩ := by
  unfold takR
  split
  · rename_i f e; simp [e] at h
  · rw [if_neg hg]
theorem takR_cases (L : List Ln) (g : Int) (hold : Bool) : (∃ f, findL L g = some f ∧ hold = true) ∨ ((findL L g).isSome && hold) = false := by
  cases h : findL L g with
  | none => exact .inr rfl
  | some f =>
    cases hold with
    | true => exact .inl ⟨f, rfl, rfl⟩
    | false => exact .inr rfl
theorem takR_ok {L : List Ln} {xs : List Int} {g : Int} {hold : Bool} (h : LnW L) (hx : Byt xs) (hg : i64W g) : F8 (takR L xs g hold).f ∧ LnW (takR L xs g hold).L ∧ (takR L xs g hold).L.length ≤ L.length + 1 := by
  rcases takR_cases L g hold with ⟨f, hf, rfl⟩ | hno
  · rw [takR_held hf]
    obtain ⟨x, hx1, rfl⟩ := findL_mem hf
    exact ⟨(h x hx1).2, h, Nat.le_succ _⟩
  · by_cases hi : 0 ≤ g ∧ g < 16384
    · rw [takR_in hno hi]
      refine ⟨granF8 hx _, fun y hy => ?_, takL_len _ _ _⟩
      rcases takL_mem hy with rfl | hy
      · exact ⟨hg, granF8 hx _⟩
      · exact h y hy
    · rw [takR_out hno hi]
      exact ⟨⟨⟨Int.le_refl 0, by show (0 : Int) ≤ 255; decide⟩, ⟨Int.le_refl 0, by show (0 : Int) ≤ 255; decide⟩, ⟨Int.le_refl 0, by show (0 : Int) ≤ 255; decide⟩, ⟨Int.le_refl 0, by show (0 : Int) ≤ 255; decide⟩⟩, h, Nat.le_succ _⟩

end Go.Proofs.YtnpaijbkhmnfpaaGreat
