/- What cache's New, Has, Flush and Copy answer. -/
import Derived.Test.YtndgcfbndlahbaaLinW
import Derived.Test.YtndgcfbndlahbaaShelfA
import Derived.Deep.DeepCutAuto
import Derived.BigQuiet
namespace Go.Proofs.Ytndgcfbndlahbaa
open Go.RowKit Go.Maps Go.WideMaps Go.Shelf Go.ChangeMaps


set_option maxHeartbeats 400000 in
theorem lnew_any (w : World) : Calls Try.prog 8 #[] w fun e w' => ∃ q b, e = .returned (.pointer (some ⟨q, 0, none⟩)) ∧ LinAt w' w.heap.size q b [] ∧ Below w.heap.size w w' := by
  have hmm := @run_makeMap Try.prog
  go_enter Try.func8, Try.ntmps8
  go_wp2
  go_ret
  have hb := new_alloc (w.alloc (.map #[] 0)) (.cells #[.map (some w.heap.size)] 55)
  refine ⟨_, w.heap.size, rfl, ⟨by have h := Blk.new (w.alloc (.map #[] 0)) 55 #[.map (some w.heap.size)]; rw [size_one] at h; exact h, ?_, .nil, by simp, Nat.le_refl _⟩, below_step (new_alloc w _) hb⟩
  obtain ⟨es, c, e, h2⟩ := World.ownsMap_made w Try.prog 3 fElem
  exact ⟨es, c, (hb.block _ (by simp)).trans e, h2⟩

set_option maxHeartbeats 400000 in
theorem has_any (B q b : Nat) (L : List Ln) (g : Int) (w : World) (h : LinAt w B q b L) (hg : i64W g) :
    Calls Try.prog 16 #[.pointer (some ⟨q, 0, none⟩), .int .i64 g] w fun e w' => e = .returned (.bool (findL L g).isSome) ∧ Below w.heap.size w w' := by
  have hc := lnone_no q b w (h.blk.cell 0)
  have c0 : w.cell? ⟨q, 0, none⟩ = some (.map (some b)) := h.blk.cell 0
  obtain ⟨f, -, hr⟩ := h.look g hg
  have hr1 := hr w rfl
  have hr2 := hr (w.alloc (.cells #[.int .u8 0, .int .u8 0, .int .u8 0, .int .u8 0] 34)) ((new_alloc w _).block _ h.map.lt)
  clear hr h
  generalize (findL L g).isSome = ok at *
  go_enter Try.func16, Try.ntmps16
  go_wp2_with (go_at_call 22; refine hc.mono ?_; rintro e w1 ⟨rfl, rfl⟩)
  go_ret
  exact ⟨rfl, new_alloc _ _⟩

set_option maxHeartbeats 400000 in
theorem flush_any (B q b : Nat) (L : List Ln) (w : World) (h : LinAt w B q b L) :
    Calls Try.prog 11 #[.pointer (some ⟨q, 0, none⟩)] w fun e w' => e = .returned (.int .i64 L.length) ∧ LinAt w' B q b [] ∧ w.grownBy w' (some b) := by
  have hc := lnone_no q b w (h.blk.cell 0)
  have c0 : w.cell? ⟨q, 0, none⟩ = some (.map (some b)) := h.blk.cell 0
  have hlen := fun ty => h.len ty w rfl
  obtain ⟨w', hcl, hL, hgr⟩ := h.clear 0
  have HL := Hid.in hL
  have HG := Hid.in hgr
  clear hL hgr h
  go_enter Try.func11, Try.ntmps11
  go_wp2_with (go_at_call 22; refine hc.mono ?_; rintro e w1 ⟨rfl, rfl⟩)
  go_ret
  exact ⟨rfl, HL.out, HG.out⟩

set_option maxHeartbeats 400000 in
theorem lcopy_any (B q b : Nat) (L : List Ln) (w : World) (h : LinAt w B q b L) :
    Calls Try.prog 13 #[.pointer (some ⟨q, 0, none⟩)] w fun e w' => ∃ q' b', e = .returned (.pointer (some ⟨q', 0, none⟩)) ∧ LinAt w' w.heap.size q' b' L ∧ Below w.heap.size w w' := by
  have hc := lnone_no q b w (h.blk.cell 0)
  have c0 : w.cell? ⟨q, 0, none⟩ = some (.map (some b)) := h.blk.cell 0
  have hcon := AnyW.maps_Clone_owns Try.cloneL 3 fElem b L.length (linD L) w h.map
  change Calls Try.prog 26 _ _ _ at hcon
  have hris := h.ris
  clear h
  go_enter Try.func13, Try.ntmps13
  go_wp2_with (first
    | (go_at_call 22; refine hc.mono ?_; rintro e w1 ⟨rfl, rfl⟩)
    | (go_at_call 26; refine hcon.mono ?_; rintro e w2 ⟨rfl, h1, -, hB⟩; have H1 := Hid.in h1; have HB := Hid.in hB; clear h1 hB hcon))
  go_ret
  have hb := new_alloc w2 (.cells #[.map (some w1.heap.size)] 55)
  refine ⟨_, w1.heap.size, rfl, ⟨Blk.new _ 55 _, ?_, hris, HB.out.size, Nat.le_refl _⟩, below_step HB.out hb⟩
  obtain ⟨es, c, e, h2⟩ := H1.out
  exact ⟨es, c, (hb.block _ H1.out.lt).trans e, h2⟩

end Go.Proofs.Ytndgcfbndlahbaa
