/- switchyardref14.Do: small steps. -/
import Derived.Test.YtdbpeigcnhhpmaaRDoL
namespace Go.Proofs.Ytdbpeigcnhhpmaa
open Go.RowKit

theorem Try.sz40 : (Try.prog.info? 40).map (·.size) = some 7 := by kernel_rfl
theorem rgA_one (R : List Int) (v : Value) (h : v.oneCell' = true) : (rgA R v).all (·.oneCell') = true := by
  rw [Array.all_eq_true']
  intro x hx
  simp only [rgA, List.mem_toArray, List.mem_append, List.mem_singleton] at hx
  rcases hx with hx | rfl
  · exact one_wrds R x hx
  · exact h
theorem POwnV.some_ {w : World} {B k c : Nat} {p : Option Addr} {S : List Int} (h : POwnV w B (.slice p (k + 1) c) S) (hS : S.length = k + 1) : ∃ g, k < c ∧ c ≤ maxLen ∧ p = some ⟨g, 0, none⟩ := by
  rcases h.shape with ⟨e, _⟩ | ⟨g', cap, e, ho⟩
  · cases e
  · injection e with e _ e3
    obtain ⟨cur, _, _, h3, h4, _⟩ := ho.parts
    exact ⟨g', by omega, by omega, e⟩
theorem RSx.stack {w wr : World} {q gx : Nat} {o a b n : Int} {R S : List Int} {v : Value} {E : Array Value} (h : RSx w q o a b n R v S gx E wr) (v' : Value) (S' : List Int) (hne : v'.ownBlock ≠ some gx) (ho : POwnV wr (q + 4) v S → POwnV wr (q + 4) v' S') :
    RSx w q o a b n R v' S' gx E (wr.setCell ⟨q + 1, 8, none⟩ v') := by
  refine ⟨⟨h.st.bi.other (by omega) _ _, ?_, h.st.b8.other (by omega) _ _, h.st.b9.other (by omega) _ _, (ho h.st.ow).keptFar (grown_setCell _ _ _ _) (by omega), ?_, h.st.len⟩, h.bx.other (by have := h.ge; omega) _ _, h.ge, hne⟩
  · have := h.st.br.set 8 v'; rw [rgA_stack R _ _ h.st.len] at this; exact this
  · exact h.st.bel.grown (grown_setCell _ _ _ _) (by have := h.st.bi.lt; omega) (fun k hk => by cases hk; omega)

end Go.Proofs.Ytdbpeigcnhhpmaa
