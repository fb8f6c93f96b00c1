/- cache's Lines in memory; New, Has, Flush, Copy, none. -/
import Derived.Test.YtnpaijbkhmnfpaaGreatLinL
import Derived.Test.YtnpaijbkhmnfpaaGreatBlk
import Derived.Test.YtnpaijbkhmnfpaaGreatMem2
import Derived.Shelf.SlMaps.Clone
import Derived.Shelf.Lay
namespace Go.Proofs.YtnpaijbkhmnfpaaGreat
open Go.RowKit Go.Maps Go.WideMaps Go.Shelf Go.ChangeMaps

theorem law3 : Keyed Tryz.prog 3 := int_keyed Tryz.underlying3
theorem zero34 (w : World) : (zeroValue 92).run Tryz.prog w = .ok (fV ⟨0, 0, 0, 0⟩) w := by kernel_rfl
theorem Tryz.und145 : Tryz.prog.underlying 145 = some (.map 3 92) := by kernel_rfl

/-- lines in block q, their map in block b -/
structure LinAt (w : World) (B q b : Nat) (L : List Ln) : Prop where
  blk : Blk w q 147 #[.map (some b)]
  map : w.ownsMap Tryz.prog 3 fElem b L.length (linD L)
  ris : Ris L
  hq : B ≤ q
  hb : B ≤ b
theorem LinAt.isMap {w : World} {B q b : Nat} {L : List Ln} (h : LinAt w B q b L) : ∃ es c, w.heap[b]? = some (.map es c) := by
  obtain ⟨es, c, e, _⟩ := h.map
  exact ⟨es, c, e⟩
theorem LinAt.below {w w' : World} {B q b : Nat} {L : List Ln} (h : LinAt w B q b L) (hb : Below w.heap.size w w') : LinAt w' B q b L := by
  obtain ⟨es, c, e, h2⟩ := h.map
  exact ⟨h.blk.grow hb, ⟨es, c, (hb.block b h.map.lt).trans e, h2⟩, h.ris, h.hq, h.hb⟩
theorem LinAt.keeps {G : Nat → Prop} {w w' : World} {B q b : Nat} {L : List Ln} (h : LinAt w B q b L) (hk : Keeps G w w') (h1 : ¬ G q) (h2 : ¬ G b) : LinAt w' B q b L := by
  obtain ⟨es, c, e, h3⟩ := h.map
  exact ⟨(hk.block q h.blk.lt h1).trans h.blk, ⟨es, c, (hk.block b h.map.lt h2).trans e, h3⟩, h.ris, h.hq, h.hb⟩
theorem LinAt.drewN {w : World} {B q b : Nat} {L : List Ln} (h : LinAt w B q b L) (n : Nat) : LinAt (w.drewN n) B q b L := ⟨h.blk, h.map, h.ris, h.hq, h.hb⟩
theorem LinAt.lower {w : World} {B B' q b : Nat} {L : List Ln} (h : LinAt w B q b L) (hB : B' ≤ B) : LinAt w B' q b L := ⟨h.blk, h.map, h.ris, Nat.le_trans hB h.hq, Nat.le_trans hB h.hb⟩
theorem LinAt.ne {w : World} {B q b : Nat} {L : List Ln} (h : LinAt w B q b L) : q ≠ b := fun e => by
  obtain ⟨es, c, e1⟩ := h.isMap
  have e2 : w.heap[q]? = _ := h.blk
  rw [e, e1] at e2
  cases e2
theorem owns_size {w : World} {b n : Nat} {D : DataW Unit} (h : w.ownsMap Tryz.prog 3 fElem b n D) : w.ownsMap Tryz.prog 3 fElem b (Maps.size D) D := by
  obtain ⟨es, c, e, F, hs, rfl⟩ := h
  exact ⟨es, c, e, F, by rw [size_eq, length_read]; exact Nat.le_refl _, rfl⟩
theorem size_lin (L : List Ln) : Maps.size (linD L) = L.length := by unfold linD; rw [size_eq, List.length_map]

/-- 'was, ok := l.held[g]' -/
theorem LinAt.look {w : World} {B q b : Nat} {L : List Ln} (h : LinAt w B q b L) (g : Int) (hg : i64W g) : ∃ f : F4, (∀ d, findL L g = some d → f = d) ∧ ∀ W : World, W.heap[b]? = w.heap[b]? → (Instr.lookup 145 (.map (some b)) (.int .i64 g) true).run Tryz.prog W = .ok (.tuple #[.agg #[.int .u8 f.a, .int .u8 f.b, .int .u8 f.c, .int .u8 f.d], .bool (findL L g).isSome]) W := by
  have hk : keyOf Tryz.prog 3 (.int .i64 g) = some (ik g) := keyOf_int_mk Tryz.underlying3 (WalkArith.wf_i64 (by unfold i64W at hg; omega))
  have hall : ∀ W : World, W.heap[b]? = w.heap[b]? → ∃ t : F4, fD t = (linD L).atKey (ik g) (fD ⟨0, 0, 0, 0⟩) ∧ (Instr.lookup 145 (.map (some b)) (.int .i64 g) true).run Tryz.prog W = .ok (.tuple #[fV t, .bool (has (linD L) (ik g))]) W := fun W hW => by
    obtain ⟨es, clock, e1, e2⟩ := h.map
    have h1' : W.ownsMap Tryz.prog 3 fElem b L.length (linD L) := ⟨es, clock, hW.trans e1, e2⟩
    obtain ⟨v, ps, hrun, hv⟩ := h1'.look_ok law3 Tryz.und145 (zero34 W) (fElem_mk _) hk
    obtain ⟨t, rfl, hz⟩ := fElem_inv hv
    exact ⟨t, (congrArg Prod.fst hz).symm, hrun⟩
  obtain ⟨t, ht, _⟩ := hall w rfl
  refine ⟨t, fun d hd => fD_inj (ht.trans ?_), fun W hW => ?_⟩
  · rw [at_lin, hd]; rfl
  · obtain ⟨t', ht', hr⟩ := hall W hW
    have e : t' = t := fD_inj (ht'.trans ht.symm)
    subst e
    rw [← has_lin]
    exact hr
/-- 'l.held[g]' -/
theorem LinAt.look1 {w : World} {B q b : Nat} {L : List Ln} (h : LinAt w B q b L) (g : Int) (hg : i64W g) (f : F4) (hf : findL L g = some f) : ∀ W : World, W.heap[b]? = w.heap[b]? → (Instr.lookup 145 (.map (some b)) (.int .i64 g) false).run Tryz.prog W = .ok (.agg #[.int .u8 f.a, .int .u8 f.b, .int .u8 f.c, .int .u8 f.d]) W := fun W hW => by
  have hk : keyOf Tryz.prog 3 (.int .i64 g) = some (ik g) := keyOf_int_mk Tryz.underlying3 (WalkArith.wf_i64 (by unfold i64W at hg; omega))
  obtain ⟨es, clock, e1, e2⟩ := h.map
  have h1' : W.ownsMap Tryz.prog 3 fElem b L.length (linD L) := ⟨es, clock, hW.trans e1, e2⟩
  obtain ⟨v, ps, hrun, hv⟩ := h1'.lookup law3 Tryz.und145 (zero34 W) (fElem_mk _) hk
  obtain ⟨t, rfl, hz⟩ := fElem_inv hv
  have hz := congrArg Prod.fst hz
  dsimp only at hz
  rw [at_lin, hf] at hz
  have e : f = t := fD_inj hz
  subst e
  exact hrun
/-- 'l.held[g] = now' -/
theorem LinAt.put {w : World} {B q b : Nat} {L : List Ln} (h : LinAt w B q b L) (g : Int) (hg : i64W g) (f : F4) (hl : L.length ≤ 1048576) : ∃ w', (Instr.mapUpdate 145 (.map (some b)) (.int .i64 g) (.agg #[.int .u8 f.a, .int .u8 f.b, .int .u8 f.c, .int .u8 f.d])).run Tryz.prog w = .ok () w' ∧ LinAt w' B q b (takL g f L) ∧ w.grownBy w' (some b) := by
  have hk : keyOf Tryz.prog 3 (.int .i64 g) = some (ik g) := keyOf_int_mk Tryz.underlying3 (WalkArith.wf_i64 (by unfold i64W at hg; omega))
  obtain ⟨w', hr, ho, hgr⟩ := h.map.update law3 Tryz.und145 (by unfold maxLen; omega) hk (fElem_mk f)
  have e := put_lin h.ris g f (ho.canon law3)
  rw [e] at ho
  have ho := owns_size ho
  rw [size_lin] at ho
  exact ⟨w', hr, ⟨h.blk.kept hgr (fun e => h.ne (by injection e)), ho, takL_ris g f L h.ris, h.hq, h.hb⟩, hgr⟩
/-- 'len(l.held)' -/
theorem LinAt.len {w : World} {B q b : Nat} {L : List Ln} (h : LinAt w B q b L) (ty : TypeId) : ∀ W : World, W.heap[b]? = w.heap[b]? → (Builtin.len_ #[145] ty #[.map (some b)]).run Tryz.prog W = .ok (.int .i64 L.length) W := fun W hW => by
  obtain ⟨es, clock, e1, e2⟩ := h.map
  have h1' : W.ownsMap Tryz.prog 3 fElem b L.length (linD L) := ⟨es, clock, hW.trans e1, e2⟩
  rw [h1'.len Tryz.und145 ty, size_lin]
/-- 'clear(l.held)' -/
theorem LinAt.clear {w : World} {B q b : Nat} {L : List Ln} (h : LinAt w B q b L) (ty : TypeId) : ∃ w', (Builtin.clear_ #[145] ty #[.map (some b)]).run Tryz.prog w = .ok (.tuple #[]) w' ∧ LinAt w' B q b [] ∧ w.grownBy w' (some b) := by
  obtain ⟨es, clock, hb⟩ := h.isMap
  have hg : w.grownBy (setBlock w b (.map #[] clock)) (some b) := ⟨rfl, rfl, rfl, by simp [setBlock], fun i _ hi => heap_setBlock_other hb _ (fun e => hi (by rw [e]))⟩
  refine ⟨setBlock w b (.map #[] clock), ?_, ⟨h.blk.kept hg (fun e => h.ne (by injection e)), ⟨#[], clock, heap_setBlock_same hb _, ⟨by simp, MapKept.stamped_empty clock, by simp⟩, Nat.le_refl _, rfl⟩, .nil, h.hq, h.hb⟩, hg⟩
  simp [Builtin.clear_, run_underlying Tryz.und145, MapKept.run_getObj_map hb, MapKept.run_setObj_map _ hb, setBlock, Result.andThen, go_sem]

set_option maxHeartbeats 400000 in
theorem lnone_no (q b : Nat) (w : World) (hc : w.cell? ⟨q, 0, none⟩ = some (.map (some b))) :
    Calls Tryz.prog 85 #[.pointer (some ⟨q, 0, none⟩)] w fun e w' => e = .returned (.bool false) ∧ w' = w := by
  have hq := fun w => run_eql_map_nil_sl (P := Tryz.prog) w 145 _ _ (some b) Tryz.und145
  go_enter Tryz.func85, Tryz.ntmps85
  go_wp2
  go_ret
  exact ⟨rfl, rfl⟩
set_option maxHeartbeats 400000 in
theorem lnone_zero (q : Nat) (w : World) (hc : w.cell? ⟨q, 0, none⟩ = some (.map none)) :
    Calls Tryz.prog 85 #[.pointer (some ⟨q, 0, none⟩)] w fun e w' => e = .returned (.bool true) ∧ w' = w := by
  have hq := fun w => run_eql_map_nil_sl (P := Tryz.prog) w 145 _ _ none Tryz.und145
  go_enter Tryz.func85, Tryz.ntmps85
  go_wp2
  go_ret
  exact ⟨rfl, rfl⟩
set_option maxHeartbeats 400000 in
theorem lnone_nil (w : World) : Calls Tryz.prog 85 #[.pointer none] w fun e w' => e = .returned (.bool true) ∧ w' = w := by
  go_enter Tryz.func85, Tryz.ntmps85
  go_wp2
  go_ret
  exact ⟨rfl, rfl⟩

end Go.Proofs.YtnpaijbkhmnfpaaGreat
