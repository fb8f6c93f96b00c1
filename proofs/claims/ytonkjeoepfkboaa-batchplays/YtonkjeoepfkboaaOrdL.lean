/- The order of adding plays no part: lists. -/
import Derived.Test.YtonkjeoepfkboaaBatF
import Derived.Test.YtonkjeoepfkboaaOpenS
namespace Go.Proofs.Ytonkjeoepfkboaa
open Go.RowKit

def stO (x : OpD) : Si := ⟨dirK x.up, x.at_, x.to_⟩
theorem insL_perm (s : Si) : ∀ L : List Si, (insL s L).Perm (s :: L)
  | [] => List.Perm.refl _
  | x :: L => by
    unfold insL
    split
    · exact List.Perm.refl _
    · exact ((insL_perm s L).cons x).trans (List.Perm.swap s x L)
theorem Srt.pair {L : List Si} (h : Srt L) : L.Pairwise (fun a b => a.at_ ≤ b.at_ ∧ a.at_ ≠ b.at_) := by
  rw [List.pairwise_iff_getElem]
  intro i j hi hj hij
  have := h.gap i j hj hij
  exact ⟨by omega, by omega⟩
theorem srt_eq {A B : List Si} (hA : Srt A) (hB : Srt B) (h : A.Perm B) : A = B :=
  List.Perm.eq_of_pairwise (fun a b _ _ h1 h2 => by exfalso; obtain ⟨h3, h4⟩ := h1; obtain ⟨h5, _⟩ := h2; omega) hA.pair hB.pair h
theorem ord_fst {X : List OpD} {A : List Si} {i : Nat} (hi : i < X.length) (h : A.Perm ((X.take i).map stO)) : (insL (stO X[i]) A).Perm ((X.take (i + 1)).map stO) := by
  rw [List.take_succ_eq_append_getElem hi, List.map_append]
  refine (insL_perm _ _).trans ((h.cons _).trans ?_)
  exact (List.perm_append_singleton (stO X[i]) _).symm
theorem ord_snd {X : List OpD} {B : List Si} {i : Nat} (hi : i < X.length) (h : B.Perm ((X.drop (X.length - i)).map stO)) : (insL (stO (X[X.length - 1 - i]'(by omega))) B).Perm ((X.drop (X.length - (i + 1))).map stO) := by
  have e : X.drop (X.length - (i + 1)) = X[X.length - 1 - i]'(by omega) :: X.drop (X.length - i) := by
    have := List.drop_eq_getElem_cons (l := X) (i := X.length - (i + 1)) (by omega)
    rw [this]
    have e1 : X.length - (i + 1) = X.length - 1 - i := by omega

    simp only [e1]
    congr 2
    omega
  rw [e, List.map_cons]
  exact (insL_perm _ _).trans (h.cons _)
theorem find_own {A : List Si} (h : Srt A) (i : Nat) (hi : i < A.length) : fndB A A[i].at_ = true ∧ fndI A A[i].at_ = i :=
  fnd_first hi rfl (fun j hj => by have := h.gap j i hi hj; omega)
theorem find_in {A : List Si} {a : Int} (h : fndB A a = true) : ∃ hl : fndI A a < A.length, (A[fndI A a]'hl).at_ = a := by
  unfold fndI
  rw [if_pos h]
  obtain ⟨i, hi, e⟩ := (fndB_iff A a).1 h
  have hl : A.findIdx (fun x => decide (x.at_ = a)) < A.length := List.findIdx_lt_length.2 ⟨A[i], List.getElem_mem hi, by simpa using e⟩
  refine ⟨hl, ?_⟩
  have := List.findIdx_getElem (w := hl)
  simpa using this
theorem find_no {A : List Si} {a : Int} (h : fndB A a = false) : fndI A a = 0 := by unfold fndI; rw [if_neg (by rw [h]; decide)]
theorem Scr.below {w w' : World} {p : Option Addr} {L : List OpD} (h : Scr w p L) (hb : Below w.heap.size w w') : Scr w' p L := fun h0 => by
  obtain ⟨b, o, e, h1⟩ := h h0
  refine ⟨b, o, e, fun i y hy => ?_⟩
  obtain ⟨⟨c0, c1, c2, c3⟩, hW⟩ := h1 i y hy
  refine ⟨⟨?_, ?_, ?_, ?_⟩, hW⟩
  · exact (hb.cell (p := ⟨b, o + i * 4, none⟩) (cell_lt c0)).trans c0
  · exact (hb.cell (p := ⟨b, o + i * 4 + 1, none⟩) (cell_lt c1)).trans c1
  · exact (hb.cell (p := ⟨b, o + i * 4 + 2, none⟩) (cell_lt c2)).trans c2
  · exact (hb.cell (p := ⟨b, o + i * 4 + 3, none⟩) (cell_lt c3)).trans c3
end Go.Proofs.Ytonkjeoepfkboaa
