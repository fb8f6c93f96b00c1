/- What cache's New, Has, Flush and Copy answer. -/
import Derived.Test.YtnpaijbkhmnfpaaGreatLinW
import Derived.Test.YtnpaijbkhmnfpaaGreatShelfA
import Derived.Deep.DeepCutAuto
import Derived.BigQuiet
namespace Go.Proofs.YtnpaijbkhmnfpaaGreat
open Go.RowKit Go.Maps Go.WideMaps Go.Shelf Go.ChangeMaps


set_option maxHeartbeats 400000 in
theorem lnew_any (w : World) : Calls Tryz.prog 40 #[] w fun e w' => ∃ q b, e = .returned (.pointer (some ⟨q, 0, none⟩)) ∧ LinAt w' w.heap.size q b [] ∧ Below w.heap.size w w' := by
  have hmm := @run_makeMap Tryz.prog
  go_enter Tryz.func40, Tryz.ntmps40
  go_wp2
  go_ret
  have hb := new_alloc (w.alloc (.map #[] 0)) (.cells #[.map (some w.heap.size)] 147)
  refine ⟨_, w.heap.size, rfl, ⟨by have h := Blk.new (w.alloc (.map #[] 0)) 147 #[.map (some w.heap.size)]; rw [size_one] at h; exact h, ?_, .nil, by simp, Nat.le_refl _⟩, below_step (new_alloc w _) hb⟩
  obtain ⟨es, c, e, h2⟩ := World.ownsMap_made w Tryz.prog 3 fElem
  exact ⟨es, c, (hb.block _ (by simp)).trans e, h2⟩

set_option maxHeartbeats 400000 in
theorem flush_any (B q b : Nat) (L : List Ln) (w : World) (h : LinAt w B q b L) :
    Calls Tryz.prog 50 #[.pointer (some ⟨q, 0, none⟩)] w fun e w' => e = .returned (.int .i64 L.length) ∧ LinAt w' B q b [] ∧ w.grownBy w' (some b) := by
  have hc := lnone_no q b w (h.blk.cell 0)
  have c0 : w.cell? ⟨q, 0, none⟩ = some (.map (some b)) := h.blk.cell 0
  have hlen := fun ty => h.len ty w rfl
  obtain ⟨w', hcl, hL, hgr⟩ := h.clear 0
  have HL := Hid.in hL
  have HG := Hid.in hgr
  clear hL hgr h
  go_enter Tryz.func50, Tryz.ntmps50
  go_wp2_with (go_at_call 85; refine hc.mono ?_; rintro e w1 ⟨rfl, rfl⟩)
  go_ret
  exact ⟨rfl, HL.out, HG.out⟩

set_option maxHeartbeats 400000 in
theorem lcopy_any (B q b : Nat) (L : List Ln) (w : World) (h : LinAt w B q b L) :
    Calls Tryz.prog 51 #[.pointer (some ⟨q, 0, none⟩)] w fun e w' => ∃ q' b', e = .returned (.pointer (some ⟨q', 0, none⟩)) ∧ LinAt w' w.heap.size q' b' L ∧ Below w.heap.size w w' := by
  have hc := lnone_no q b w (h.blk.cell 0)
  have c0 : w.cell? ⟨q, 0, none⟩ = some (.map (some b)) := h.blk.cell 0
  have hcon := AnyW.maps_Clone_owns Tryz.cloneL 3 fElem b L.length (linD L) w h.map
  change Calls Tryz.prog 88 _ _ _ at hcon
  have hris := h.ris
  clear h
  go_enter Tryz.func51, Tryz.ntmps51
  go_wp2_with (first
    | (go_at_call 85; refine hc.mono ?_; rintro e w1 ⟨rfl, rfl⟩)
    | (go_at_call 88; refine hcon.mono ?_; rintro e w2 ⟨rfl, h1, -, hB⟩; have H1 := Hid.in h1; have HB := Hid.in hB; clear h1 hB hcon))
  go_ret
  have hb := new_alloc w2 (.cells #[.map (some w1.heap.size)] 147)
  refine ⟨_, w1.heap.size, rfl, ⟨Blk.new _ 147 _, ?_, hris, HB.out.size, Nat.le_refl _⟩, below_step HB.out hb⟩
  obtain ⟨es, c, e, h2⟩ := H1.out
  exact ⟨es, c, (hb.block _ H1.out.lt).trans e, h2⟩

end Go.Proofs.YtnpaijbkhmnfpaaGreat
