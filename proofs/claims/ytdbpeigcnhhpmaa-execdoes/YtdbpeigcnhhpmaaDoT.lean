/- What Do answers, in one word (shown in DoA); registers that are answered; small steps of the laws' walks. -/
import Derived.Test.YtdbpeigcnhhpmaaDoM
namespace Go.Proofs.Ytdbpeigcnhhpmaa
open Go.RowKit

/-- function f answers doL -/
def DoIs (f : Nat) : Prop := ∀ (o a b : Nat) (n pc : Int) (R S D : List Int) (p q : Option Addr) (s c d dc : Nat) (w : World), o ≤ 255 → a ≤ 255 → b ≤ 255 → (0 ≤ pc ∧ pc ≤ 4294967295) → (-2147483648 ≤ n ∧ n ≤ 2147483647) →
    R.length = 8 → S.length = s → s * 4 ≤ 140737488355324 → D.length = d → d ≤ 140737488355328 → PRow w p S → Row w q D → Byt D →
    Calls Try.prog f #[ins o a b n, .int .u32 pc, rgV R (.slice p s c), .slice q d dc] w fun e w' => (∃ v, e = .returned (.tuple #[rgV (doL o a b n pc R S D).1 v, .agg (effA (doL o a b n pc R S D).2.2)]) ∧ POwnV w' w.heap.size v (doL o a b n pc R S D).2.1) ∧ Below w.heap.size w w'

/-- what is answered are registers again -/
theorem wds_set {R : List Int} (h : Wds R) (i : Nat) (x : Int) (hx : 0 ≤ x ∧ x ≤ 4294967295) : Wds (R.set i x) := fun y hy => by
  rcases List.mem_or_eq_of_mem_set hy with hy | rfl
  · exact h y hy
  · exact hx
theorem wds_getD {R : List Int} (h : Wds R) (i : Nat) : 0 ≤ R.getD i 0 ∧ R.getD i 0 ≤ 4294967295 := by
  by_cases hi : i < R.length
  · have := h R[i] (List.getElem_mem hi)
    simpa [List.getD, hi] using this
  · simp [List.getD, List.getElem?_eq_none (show R.length ≤ i by omega)]
theorem doL_regs (o a b : Nat) (n pc : Int) (R S D : List Int) (lR : R.length = 8) (hR : Wds R) (hD : Byt D) : (doL o a b n pc R S D).1.length = 8 ∧ Wds (doL o a b n pc R S D).1 := by
  have h4 := n4_bd hD 0
  have ha := wds_getD hR a
  have hb := wds_getD hR b
  unfold doL
  split
  · unfold doR
    (repeat' split) <;> simp only [List.length_set, lR, true_and] <;> first | exact hR | exact wds_set hR _ _ (by omega)
  · exact ⟨lR, hR⟩
theorem doL_stack (o a b : Nat) (n pc : Int) (R S D : List Int) : (doL o a b n pc R S D).2.1.length ≤ S.length + 1 := by
  unfold doL
  split
  · unfold doS
    (repeat' split) <;> simp <;> omega
  · simp

abbrev Z8 : List Int := [0, 0, 0, 0, 0, 0, 0, 0]
abbrev zA (v : Value) : Array Value := #[.int .u32 0, .int .u32 0, .int .u32 0, .int .u32 0, .int .u32 0, .int .u32 0, .int .u32 0, .int .u32 0, v]
theorem two_blk (w : World) (A E : Array Value) : Blk ((w.alloc (.cells A 32)).alloc (.cells E 37)) w.heap.size 32 A ∧ Blk ((w.alloc (.cells A 32)).alloc (.cells E 37)) (w.heap.size + 1) 37 E ∧ Below w.heap.size w ((w.alloc (.cells A 32)).alloc (.cells E 37)) := by
  refine ⟨(Blk.new w 32 A).grow (new_alloc _ _), ?_, below_alloc (new_alloc _ _) _⟩
  have := Blk.new (w.alloc (.cells A 32)) 37 E
  rw [size_one] at this
  exact this

/-- Do, its answer given -/
theorem do_at {f : Nat} (hdo : DoIs f) (o a b : Nat) (n pc : Int) (R S D R' S' : List Int) (E' : Eff) (p q : Option Addr) (s c d dc : Nat) (w : World) (hE : doL o a b n pc R S D = (R', S', E')) (ho : o ≤ 255) (ha : a ≤ 255) (hb : b ≤ 255) (hpc : 0 ≤ pc ∧ pc ≤ 4294967295) (hn : -2147483648 ≤ n ∧ n ≤ 2147483647)
    (lR : R.length = 8) (hS : S.length = s) (hs : s * 4 ≤ 140737488355324) (hD : D.length = d) (hd : d ≤ 140737488355328) (hr : PRow w p S) (hrd : Row w q D) (hbd : Byt D) :
    Calls Try.prog f #[ins o a b n, .int .u32 pc, rgV R (.slice p s c), .slice q d dc] w fun e w' => ∃ p' c', e = .returned (.tuple #[rgV R' (.slice p' S'.length c'), .agg (effA E')]) ∧ PRow w' p' S' ∧ POwnV w' w.heap.size (.slice p' S'.length c') S' ∧ Below w.heap.size w w' := by
  refine (hdo o a b n pc R S D p q s c d dc w ho ha hb hpc hn lR hS hs hD hd hr hrd hbd).mono ?_
  rw [hE]
  rintro e w' ⟨⟨v, rfl, hv⟩, hb'⟩
  have hv' := hv
  obtain ⟨p', c', rfl, hr', -⟩ := hv.slice
  exact ⟨p', c', rfl, hr', hv', hb'⟩
theorem byt_nil : Byt [] := fun i => by simp
theorem row_nil (w : World) (p : Option Addr) : Row w p [] := fun h => absurd h (Nat.lt_irrefl 0)
theorem prow_nil (w : World) (p : Option Addr) : PRow w p [] := fun h => absurd h (Nat.lt_irrefl 0)
theorem prow_one (w : World) (x : Int) : PRow (w.alloc (.cells #[.int .u32 x] 25)) (some ⟨w.heap.size, 0, none⟩) [x] := fun _ => ⟨w.heap.size, 0, rfl, fun i hi => by
  have h0 : i = 0 := by simp at hi; omega
  subst h0
  exact (Blk.new w 25 #[.int .u32 x]).cell 0⟩

theorem aw1 : doL 12 0 0 3 10 Z8 [] [] = (Z8, [15], goE 18) := by rfl
theorem aw2 : doL 13 0 0 0 18 Z8 [15] [] = (Z8, [], goE 15) := by rfl
theorem aw3 : doL 13 0 0 0 18 Z8 [] [] = (Z8, [], { goE 19 with ht := true }) := by rfl
theorem aw4 : doL 14 1 0 8 0 Z8 [] [1, 2, 3, 4] = ([0, 67305985, 0, 0, 0, 0, 0, 0], [], goE 6) := by rfl
theorem aw5 : doL 11 0 0 (-5) 100 Z8 [] [] = (Z8, [], goE 100) := by rfl
theorem aw6 : spanN 11 0 0 0 = 5 := by rfl

end Go.Proofs.Ytdbpeigcnhhpmaa
