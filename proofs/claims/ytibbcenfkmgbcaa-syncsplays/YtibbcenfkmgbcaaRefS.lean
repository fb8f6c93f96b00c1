/- The document's rounds: New, Send, Drop. -/
import Derived.Test.YtibbcenfkmgbcaaRefR
namespace Go.Proofs.Ytibbcenfkmgbcaa
open Go.RowKit

theorem ne_of_type {w : World} {B g c k : Nat} {T : TypeId} {xs : List Value} {cs : Array Value} (h : GOwn 4 w B g c xs) (hb : Blk w k T cs) (hT : T ≠ 4) : g ≠ k := by
  rintro rfl
  obtain ⟨cur, -, h2, -⟩ := h.parts
  rw [show w.heap[g]? = _ from hb] at h2
  injection h2 with h2
  injection h2 with _ h3
  exact hT h3
theorem GOwnV.kept4 {w w' : World} {B k : Nat} {v : Value} {xs : List Value} {T : TypeId} {cs : Array Value} (h : GOwnV 4 w B v xs) (hb : Blk w k T cs) (hT : T ≠ 4) (hg : w.grownBy w' (some k)) : GOwnV 4 w' B v xs := by
  rcases h.shape with ⟨rfl, rfl⟩ | ⟨g, cap, rfl, ho⟩
  · exact GOwnV.nil _ _ _
  · exact (ho.grown hg (ne_of_type ho hb hT)).val

set_option maxHeartbeats 400000 in
theorem rnew_ok (h : Nat) (w : World) (hh : h ≤ 8) :
    Calls Try.prog 15 #[.int .i64 h] w fun e w' => ∃ g, e = .returned (.tuple #[.agg #[.int .i64 0, .slice (some ⟨g, 0, none⟩) h h], .int .i64 0]) ∧ GOwn 4 w' w.heap.size g h (flgs (List.replicate h false)) ∧ Below w.heap.size w w' := by
  have h0 : ¬ (h : Int) < 0 := by omega
  have h8 : ¬ (8 : Int) < h := by omega
  go_enter Try.func15, Try.ntmps15
  go_wp2_with (at_make; refine Hid.out ?_)
  refine Lib.hid ?_
  refine wp_makeB rfl _ _ rfl h h h rfl rfl rfl rfl (by omega) ?_
  intro w1 HO HB
  have HN : Hid (Blk w1 w.heap.size 37 #[.int .i64 0, .slice none 0 0]) := (Blk.new w 37 _).grow HB.out
  have HBB := Hid.in (below_step (new_alloc w (.cells #[.int .i64 0, .slice none 0 0] 37)) HB.out)
  rw [size_one] at HO
  rw [size_one]
  clear HB
  have c0 := HN.out.cell 0
  have c1 := HN.out.cell 1
  have f0 := HN.out.free 0
  have f1 := HN.out.free 1
  go_wp2_with fail
  have HB2 : Hid (Blk ((w1.setCell ⟨w.heap.size, 0, none⟩ (.int .i64 0)).setCell ⟨w.heap.size, 1, none⟩ (.slice (some ⟨w.heap.size + 1, 0, none⟩) h h)) w.heap.size 37 #[.int .i64 0, .slice (some ⟨w.heap.size + 1, 0, none⟩) h h]) := (HN.out.set 0 _).set 1 _
  have hg2 := (grown_setCell w1 w.heap.size 0 (.int .i64 0)).trans (grown_setCell _ w.heap.size 1 (.slice (some ⟨w.heap.size + 1, 0, none⟩) h h))
  generalize (w1.setCell ⟨w.heap.size, 0, none⟩ (.int .i64 0)).setCell ⟨w.heap.size, 1, none⟩ (.slice (some ⟨w.heap.size + 1, 0, none⟩) h h) = w2 at *
  have d0 := HB2.out.cell 0
  have d1 := HB2.out.cell 1
  have HO2 : Hid (GOwn 4 w2 w.heap.size (w.heap.size + 1) h (flgs (List.replicate h false))) := (HO.out.grown hg2 (by omega)).lower (by omega)
  have HBL := Hid.in (below_kept HBB.out hg2 (Nat.le_refl _))
  clear hg2 HO HBB HN c0 c1 f0 f1
  exact bodyPost_ret (v := .tuple #[.agg #[.int .i64 0, .slice (some ⟨w.heap.size + 1, 0, none⟩) h h], .int .i64 0]) (by simp [results, Try.results15, go_sem, d0, d1]) rfl ⟨_, rfl, HO2.out, HBL.out⟩

end Go.Proofs.Ytibbcenfkmgbcaa
