/- slices.Sorted(maps.Keys(l.held)): the granules that are held, rising. -/
import Derived.Test.YtnpaijbkhmnfpaaGreatLinW
import Derived.Test.YtnpaijbkhmnfpaaGreatShelfA
import Derived.Shelf.SlIterI.Nil
import Derived.Shelf.SortM.Plain
import Derived.Shelf.SortM.SortNone
import Derived.Ground.GgzProg
import Derived.Ground.SlgmProg
namespace Go.Proofs.YtnpaijbkhmnfpaaGreat
open Go.RowKit Go.Maps Go.WideMaps Go.Sort Go.Shelf


theorem Tryz.sortsL (m : Nat) : AnyZI.SortsIn Tryz.prog Tryz.sortedL_ren Fence.wide m :=
  ⟨fun blk off cap ss W hH hblk hsz => callsIn_wide.2 (AnyM.slices_Sort_int Tryz.sortL blk off cap ss W hH hblk hsz),
   fun p cap W => callsIn_wide.2 (AnyM.slices_Sort_int_none Tryz.sortL p cap W)⟩

theorem keys_any (mb : Option Nat) (W : World) : Calls Tryz.prog 87 #[.map mb] W fun e w' => e = .returned (.func (.func 118) #[] #[.pointer (some ⟨W.heap.size, 0, none⟩)]) ∧ w' = W.alloc (.cells #[.map mb] 145) :=
  (callsIn_wide (n := 5)).1 (AnyZI.keys_in Tryz.keysL Fence.wide 5 trivial rfl mb W)

theorem keys_lin (L : List Ln) : intKeys (linD L) = L.map Ln.g := by
  show (L.map fun x => (ik x.g, fD x.f)).map (fun p => Go.intOf p.1) = _
  rw [List.map_map]
  rfl
theorem sorted_lin {L : List Ln} (h : Ris L) {ss : List Int} (hp : ss.Perm (intKeys (linD L))) : ss.mergeSort (fun x y => decide (x ≤ y)) = L.map Ln.g := by
  rw [keys_lin] at hp
  have h1 : (ss.mergeSort (fun x y => decide (x ≤ y))).Pairwise (fun x y => decide (x ≤ y) = true) := List.pairwise_mergeSort (fun a b c h1 h2 => by simp only [decide_eq_true_eq] at *; omega) (fun a b => by simp only [Bool.or_eq_true, decide_eq_true_eq]; omega) ss
  have h2 : (L.map Ln.g).Pairwise (fun x y => decide (x ≤ y) = true) := by
    rw [List.pairwise_map]
    exact h.imp fun hab => by simp only [decide_eq_true_eq]; omega
  refine List.Perm.eq_of_pairwise (fun a b _ _ hab hba => by simp only [decide_eq_true_eq] at hab hba; omega) h1 h2 ((List.mergeSort_perm ss _).trans hp)

set_option maxHeartbeats 1000000 in
theorem sorted_any (B q b : Nat) (L : List Ln) (w : World) (h : LinAt w B q b L) (hl : L.length ≤ 1048576) :
    Calls Tryz.prog 86 #[.func (.func 118) #[] #[.pointer (some ⟨w.heap.size, 0, none⟩)]] (w.alloc (.cells #[.map (some b)] 145)) fun e w' => ∃ v, e = .returned v ∧ w'.ownsRow w.heap.size 3 1 v L.length ((L.map Ln.g).map encZ) ∧ Below w.heap.size w w' := by
  have hown := h.map
  have hbl := hown.lt
  have hseq : SeqGives Fence.wide 2 Tryz.prog 118 #[.pointer (some ⟨w.heap.size, 0, none⟩)] encZ (fun ss => ss.Perm (intKeys (linD L))) (Maps.size (linD L)) (w.alloc (.cells #[.map (some b)] 145)) :=
    AnyZI.keys_gives (ρ := Tryz.keysL_ren) { Tryz.keysL with } Fence.wide _ trivial rfl (by omega) w.heap.size b L.length (linD L) _ (by simp) (by simp) (by
      obtain ⟨es, clock, hb, Ft, hs, hD⟩ := hown
      exact ⟨es, clock, (Below.heap_alloc _ _ b hbl).trans hb, Ft, hs, hD⟩)
  have cS := AnyZI.sorted_in Tryz.sortedL Fence.wide 5 trivial trivial trivial trivial rfl (by omega) (Tryz.sortsL _) (enters_of Tryz.func117 (by kernel_rfl) rfl) 118 #[.pointer (some ⟨w.heap.size, 0, none⟩)] trivial (enters_of Tryz.func118 (by kernel_rfl) rfl) _ _ (by rw [size_lin]; unfold maxLen; omega) (by rw [size_lin]; omega) _ hseq
  change CallsIn _ _ Tryz.prog 86 _ _ _ at cS
  refine ((callsIn_wide (n := 5)).1 cS).mono fun e w' ⟨v, ss, he, hS, hrow, _, hb⟩ => ?_
  have hlen : ss.length = L.length := by rw [hS.length_eq, keys_lin, List.length_map]
  rw [sorted_lin h.ris hS, hlen] at hrow
  exact ⟨v, he, ownsRow_base_a hrow (by simp), ((Below.refl _ w).alloc (Nat.le_refl _) _).trans (hb.mono (by simp))⟩

end Go.Proofs.YtnpaijbkhmnfpaaGreat
