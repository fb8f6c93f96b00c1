/- What cache's New, Has, Flush and Copy answer. -/
import Derived.Test.YteeeedphhaphpaaLinW
import Derived.Test.YteeeedphhaphpaaShelfA
import Derived.Deep.DeepCutAuto
import Derived.BigQuiet
namespace Go.Proofs.Yteeeedphhaphpaa
open Go.RowKit Go.Maps Go.WideMaps Go.Shelf Go.ChangeMaps


set_option maxHeartbeats 400000 in
theorem lnew_any (w : World) : Calls Try.prog 26 #[] w fun e w' => ∃ q b, e = .returned (.pointer (some ⟨q, 0, none⟩)) ∧ LinAt w' w.heap.size q b [] ∧ Below w.heap.size w w' := by
  have hmm := @run_makeMap Try.prog
  go_enter Try.func26, Try.ntmps26
  go_wp2
  go_ret
  have hb := new_alloc (w.alloc (.map #[] 0)) (.cells #[.map (some w.heap.size)] 37)
  refine ⟨_, w.heap.size, rfl, ⟨by have h := Blk.new (w.alloc (.map #[] 0)) 37 #[.map (some w.heap.size)]; rw [size_one] at h; exact h, ?_, .nil, by simp, Nat.le_refl _⟩, below_step (new_alloc w _) hb⟩
  obtain ⟨es, c, e, h2⟩ := World.ownsMap_made w Try.prog 3 fElem
  exact ⟨es, c, (hb.block _ (by simp)).trans e, h2⟩

set_option maxHeartbeats 400000 in
theorem flush_any (B q b : Nat) (L : List Ln) (w : World) (h : LinAt w B q b L) :
    Calls Try.prog 23 #[.pointer (some ⟨q, 0, none⟩)] w fun e w' => e = .returned (.int .i64 L.length) ∧ LinAt w' B q b [] ∧ w.grownBy w' (some b) := by
  have hc := lnone_no q b w (h.blk.cell 0)
  have c0 : w.cell? ⟨q, 0, none⟩ = some (.map (some b)) := h.blk.cell 0
  have hlen := fun ty => h.len ty w rfl
  obtain ⟨w', hcl, hL, hgr⟩ := h.clear 0
  have HL := Hid.in hL
  have HG := Hid.in hgr
  clear hL hgr h
  go_enter Try.func23, Try.ntmps23
  go_wp2_with (go_at_call 34; refine hc.mono ?_; rintro e w1 ⟨rfl, rfl⟩)
  go_ret
  exact ⟨rfl, HL.out, HG.out⟩

end Go.Proofs.Yteeeedphhaphpaa
