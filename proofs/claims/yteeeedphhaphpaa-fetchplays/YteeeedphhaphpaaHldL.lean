/- FetchHolds, as lists. -/
import Derived.Test.YteeeedphhaphpaaFetM
namespace Go.Proofs.Yteeeedphhaphpaa
open Go.RowKit Go.Maps

theorem stp_in {L : List Ln} {xs : List Int} {pc : Nat} (hold : Bool) (h : pc < xs.length) : stpR L xs pc [] hold = ⟨outF [] (takR L xs ((pc / 4 : Nat) : Int) hold).f (pc % 4), ((pc / 4 : Nat) : Int), (takR L xs ((pc / 4 : Nat) : Int) hold).is, 0, (takR L xs ((pc / 4 : Nat) : Int) hold).L⟩ := by
  unfold stpR
  rw [if_neg (by rw [done_nil]; decide), if_neg (by simp; omega)]
  rfl
theorem stp_far {L : List Ln} {xs : List Int} {pc : Nat} (hold : Bool) (h : xs.length ≤ pc) : stpR L xs pc [] hold = ⟨[], 0, false, 210, L⟩ := by
  unfold stpR
  rw [if_neg (by rw [done_nil]; decide), if_pos (by simpa using h)]
theorem stp_new {xs : List Int} {pc : Nat} (hold : Bool) (h : pc < xs.length) (hx : xs.length ≤ 2000) : stpR [] xs pc [] hold = ⟨outF [] (granF xs (pc / 4)) (pc % 4), ((pc / 4 : Nat) : Int), false, 0, [⟨((pc / 4 : Nat) : Int), granF xs (pc / 4)⟩]⟩ := by
  rw [stp_in hold h, takR_in (by simp [findL]) (by omega)]
  rfl
theorem stp_old {xs : List Int} {pc : Nat} {f : F4} (h : pc < xs.length) : stpR [⟨((pc / 4 : Nat) : Int), f⟩] xs pc [] true = ⟨outF [] f (pc % 4), ((pc / 4 : Nat) : Int), true, 0, [⟨((pc / 4 : Nat) : Int), f⟩]⟩ := by
  rw [stp_in true h, takR_held (f := f) (by rw [findL_cons, if_pos rfl])]
theorem stp_now {xs : List Int} {pc : Nat} {f : F4} (h : pc < xs.length) (hx : xs.length ≤ 2000) : stpR [⟨((pc / 4 : Nat) : Int), f⟩] xs pc [] false = ⟨outF [] (granF xs (pc / 4)) (pc % 4), ((pc / 4 : Nat) : Int), false, 0, [⟨((pc / 4 : Nat) : Int), granF xs (pc / 4)⟩]⟩ := by
  rw [stp_in false h, takR_in (by simp) (by omega), Int.toNat_natCast]
  simp only [takL]
  rw [if_neg (Int.lt_irrefl _), if_pos trivial]
theorem out_first {xs : List Int} {pc : Nat} : 0 < (outF [] (granF xs (pc / 4)) (pc % 4)).length ∧ (outF [] (granF xs (pc / 4)) (pc % 4)).getD 0 0 = xs.getD pc 0 := by
  have hr : pc % 4 < 4 := Nat.mod_lt _ (by decide)
  have h1 := (outF_more done_nil (granF xs (pc / 4)) hr).1
  refine ⟨h1, ?_⟩
  have e : (outF [] (granF xs (pc / 4)) (pc % 4)).getD 0 0 = (f4L (granF xs (pc / 4))).getD (pc % 4) 0 := by
    unfold outF
    have h2 := (lenB_in (fstB [] (granF xs (pc / 4)) (pc % 4))).1
    simp only [List.nil_append, List.getD, List.getElem?_take_of_lt (show 0 < lenB (fstB [] (granF xs (pc / 4)) (pc % 4)) from h2), List.getElem?_drop, Nat.add_zero]
  rw [e, gran_at _ _ hr]
  congr 1
  omega
theorem putA_at {xs : List Int} {a : Nat} {z : Int} (h : a < xs.length) : (putA xs a [z]).getD a 0 = z := by
  unfold putA
  simp [List.getD, show min a xs.length = a by omega]
theorem putA_len1 {xs : List Int} {a : Nat} {z : Int} (h : a < xs.length) : (putA xs a [z]).length = xs.length := putA_len (by simp; omega)

end Go.Proofs.Yteeeedphhaphpaa
