/- Texts put together: LinE, LinW. -/
import Derived.Test.YtnpaijbkhmnfpaaGreatKad
import Derived.Lib.Hide
import Derived.Test.YtnpaijbkhmnfpaaGreatKaa
import Derived.Test.YtnpaijbkhmnfpaaGreatKab
import Derived.Shelf.SlMaps.Clone
import Derived.Shelf.Lay

/- Rows of granules, whoever made them; SameLines, switchyardref12.Find. -/
namespace Go.Proofs.YtnpaijbkhmnfpaaGreat
open Go.RowKit Go.Maps

theorem eq_four_at (n : Nat) (f : F4) (h : (0 ≤ f.a ∧ f.a ≤ 255) ∧ (0 ≤ f.b ∧ f.b ≤ 255) ∧ (0 ≤ f.c ∧ f.c ≤ 255) ∧ (0 ≤ f.d ∧ f.d ≤ 255)) (w : World) : (Op.equalIn (n + 2) 92 (.agg #[.int .u8 f.a, .int .u8 f.b, .int .u8 f.c, .int .u8 f.d]) (.agg #[.int .u8 f.a, .int .u8 f.b, .int .u8 f.c, .int .u8 f.d])).run Tryz.prog w = .ok true w := by
  obtain ⟨a, b, c, d⟩ := f
  obtain ⟨ha, hb, hc, hd⟩ := h
  dsimp only at *
  obtain ⟨i0, hi, hz0, hz1, hz2⟩ := info_parts Tryz.info5
  rw [run_equalIn_array (P := Tryz.prog) w (n + 1) (e := 5) (n := 4) _ _ Tryz.und92 hi]
  obtain ⟨r, h1, h2⟩ := run_eqItems_plain (P := Tryz.prog) w n Tryz.plain5 #[.int .u8 a, .int .u8 b, .int .u8 c, .int .u8 d] #[.int .u8 a, .int .u8 b, .int .u8 c, .int .u8 d] (D := 1) (D' := 1) (List.range 4) [[.int .u8 a], [.int .u8 b], [.int .u8 c], [.int .u8 d]] [[.int .u8 a], [.int .u8 b], [.int .u8 c], [.int .u8 d]] (by simp [Tryz.cells5', List.range, List.range.loop, Program.keyLits, Tryz.underlying5, u8_wf ha, u8_wf hb, u8_wf hc, u8_wf hd]) (by simp [Tryz.cells5', List.range, List.range.loop, Program.keyLits, Tryz.underlying5, u8_wf ha, u8_wf hb, u8_wf hc, u8_wf hd])
  rw [h1, h2.2 rfl]
/-- four bytes that bytes are -/
def F8 (f : F4) : Prop := (0 ≤ f.a ∧ f.a ≤ 255) ∧ (0 ≤ f.b ∧ f.b ≤ 255) ∧ (0 ≤ f.c ∧ f.c ≤ 255) ∧ (0 ≤ f.d ∧ f.d ≤ 255)

/-- a list of granules in memory, whoever made it -/
def LRow (w : World) (p : Option Addr) (L : List Ln) : Prop :=
  0 < L.length → ∃ b o, p = some ⟨b, o, none⟩ ∧ ∀ i (hi : i < L.length) j, j < 5 → w.cell? ⟨b, o + i * 5 + j, none⟩ = (l5 L[i])[j]?
theorem LRow.below {w w' : World} {p : Option Addr} {L : List Ln} (h : LRow w p L) (hb : Below w.heap.size w w') : LRow w' p L := fun h0 => by
  obtain ⟨b, o, e, h1⟩ := h h0
  refine ⟨b, o, e, fun i hi j hj => ?_⟩
  have h2 := h1 i hi j hj
  obtain ⟨u, hu⟩ : ∃ u, (l5 L[i])[j]? = some u := ⟨_, List.getElem?_eq_getElem (show j < 5 from hj)⟩
  rw [hu] at h2 ⊢
  exact (hb.cell (p := ⟨b, o + i * 5 + j, none⟩) (cell_lt h2)).trans h2
theorem LRow.five {w : World} {p : Option Addr} {L : List Ln} (h : LRow w p L) (h0 : 0 < L.length) : ∃ b o, p = some ⟨b, o, none⟩ ∧ ∀ i (hi : i < L.length), w.cell? ⟨b, o + i * 5, none⟩ = some (.int .i64 L[i].g) ∧ w.cell? ⟨b, o + i * 5 + 1, none⟩ = some (.int .u8 L[i].f.a) ∧ w.cell? ⟨b, o + i * 5 + 2, none⟩ = some (.int .u8 L[i].f.b) ∧ w.cell? ⟨b, o + i * 5 + 3, none⟩ = some (.int .u8 L[i].f.c) ∧ w.cell? ⟨b, o + i * 5 + 4, none⟩ = some (.int .u8 L[i].f.d) := by
  obtain ⟨b, o, e, hc⟩ := h h0
  exact ⟨b, o, e, fun i hi => ⟨hc i hi 0 (by omega), hc i hi 1 (by omega), hc i hi 2 (by omega), hc i hi 3 (by omega), hc i hi 4 (by omega)⟩⟩
theorem LOwn.row5 {T : TypeId} {w : World} {B : Nat} {v : Value} {L : List Ln} (h : LOwn T w B v L) : ∃ p cap, v = .slice p L.length cap ∧ L.length ≤ cap ∧ cap ≤ maxLen ∧ LRow w p L := by
  obtain ⟨p, cap, e, h1, h2, h3⟩ := h.shape
  refine ⟨p, cap, e, h1, h2, fun h0 => ?_⟩
  obtain ⟨g, e2, -, -, h4⟩ := h3 h0
  exact ⟨g, 0, e2, fun i hi j hj => by rw [Nat.zero_add]; exact h4 i hi j hj⟩

/-- the place of a granule, or -1 -/
def fidx (L : List Ln) (g : Int) : Int := match L.findIdx? fun x => decide (x.g = g) with
  | some k => k
  | none => -1
theorem fidx_some {L : List Ln} {g : Int} {k : Nat} (h : k < L.length) (he : L[k].g = g) (ha : ∀ i (hi : i < L.length), i < k → L[i].g ≠ g) : fidx L g = k ∧ findL L g = some L[k].f := by
  have h1 : L.findIdx? (fun x => decide (x.g = g)) = some k := by
    rw [List.findIdx?_eq_some_iff_getElem]
    exact ⟨h, by simpa using he, fun j hj => by simpa using ha j (by omega) hj⟩
  refine ⟨by unfold fidx; rw [h1], ?_⟩
  unfold findL
  have h2 : L.find? (fun x => decide (x.g = g)) = some L[k] := by
    rw [List.find?_eq_some_iff_getElem]
    exact ⟨by simpa using he, k, h, rfl, fun j hj => by simpa using ha j (by omega) hj⟩
  rw [h2]; rfl
theorem fidx_none {L : List Ln} {g : Int} (ha : ∀ i (hi : i < L.length), L[i].g ≠ g) : fidx L g = -1 ∧ findL L g = none := by
  have h1 : L.findIdx? (fun x => decide (x.g = g)) = none := by
    rw [List.findIdx?_eq_none_iff]
    intro x hx
    obtain ⟨i, hi, rfl⟩ := List.getElem_of_mem hx
    simpa using ha i hi
  refine ⟨by unfold fidx; rw [h1], ?_⟩
  unfold findL
  have h2 : L.find? (fun x => decide (x.g = g)) = none := by
    rw [List.find?_eq_none]
    intro x hx
    obtain ⟨i, hi, rfl⟩ := List.getElem_of_mem hx
    simpa using ha i hi
  rw [h2]; rfl

set_option maxRecDepth 4000 in
set_option maxHeartbeats 1000000 in
theorem rfind_any (p : Option Addr) (n c : Nat) (L : List Ln) (g : Int) (w : World) (hn : L.length = n) (hn6 : n ≤ 9223372036854775807) (hr : LRow w p L) :
    Calls Tryz.prog 120 #[.slice p n c, .int .i64 g] w fun e w' => e = .returned (.int .i64 (fidx L g)) ∧ w' = w := by
  have HN := Hid.in hn
  have HR := Hid.in hr
  clear hn hr
  go_enter Tryz.func120, Tryz.ntmps120
  go_wp2_with fail
  go_loopw [5] (fun vi wr => ∃ j : Nat, vi = .int .i64 j ∧ j ≤ n ∧ (∀ i (hi : i < L.length), i < j → L[i].g ≠ g) ∧ wr = w) (fun vi _ => n - (intOf vi).toNat)
  case atStart => exact ⟨0, rfl, Nat.zero_le _, fun i _ h => absurd h (Nat.not_lt_zero _), rfl⟩
  case round =>
    obtain ⟨j, rfl, hj, hgo, rfl⟩ := hrel
    have HGO := Hid.in hgo
    clear hgo
    by_cases hlt : j < n
    · have hjL : j < L.length := by rw [HN.out]; exact hlt
      obtain ⟨b, o, rfl, hcc⟩ := HR.out.five (by omega)
      obtain ⟨c0, -⟩ := hcc j hjL
      clear hcc
      by_cases he : L[j].g = g
      · have HE := Hid.in (fidx_some hjL he HGO.out).1
        rw [he] at c0
        have g1 : (g == g) = true := by simp
        go_wp2_with fail
        go_ret
        exact ⟨by rw [HE.out]; rfl, rfl⟩
      · have HG2 : Hid (∀ i (hi : i < L.length), i < j + 1 → L[i].g ≠ g) := fun i hi h => by
          by_cases e : i = j
          · subst e; exact he
          · exact HGO.out i hi (by omega)
        generalize L[j].g = lg at *
        have g1 : (lg == g) = false := by simpa using he
        go_wp2_with fail
        go_roundw
        case rel => exact ⟨j + 1, by go_num, by omega, HG2.out, trivial⟩
        case measure => simp [intOf]; omega
    · have HE := Hid.in (fidx_none (L := L) (g := g) (fun i hi => HGO.out i hi (by rw [HN.out] at hi; omega))).1
      go_wp2_with fail
      go_ret
      exact ⟨by rw [HE.out]; rfl, rfl⟩

set_option maxRecDepth 4000 in
set_option maxHeartbeats 1000000 in
theorem sameLines_self (p q : Option Addr) (n c d : Nat) (L : List Ln) (w : World) (hn : L.length = n) (hn6 : n ≤ 9223372036854775807) (h1 : LRow w p L) (h2 : LRow w q L) (hb : ∀ x ∈ L, F8 x.f) :
    Calls Tryz.prog 52 #[.slice p n c, .slice q n d] w fun e w' => e = .returned (.bool true) ∧ ∃ m, w' = w.drewN m := by
  have HN := Hid.in hn
  have HR := Hid.in h1
  have HQ := Hid.in h2
  have HF := Hid.in hb
  clear hn h1 h2 hb
  have g0 : (n != n) = false := by simp
  go_enter Tryz.func52, Tryz.ntmps52
  go_wp2_with fail
  go_loopw [5] (fun vi wr => ∃ j m : Nat, vi = .int .i64 j ∧ j ≤ n ∧ wr = w.drewN m) (fun vi _ => n - (intOf vi).toNat)
  case atStart => exact ⟨0, 0, rfl, Nat.zero_le _, rfl⟩
  case round =>
    obtain ⟨j, m, rfl, hj, rfl⟩ := hrel
    by_cases hlt : j < n
    · have hjL : j < L.length := by rw [HN.out]; exact hlt
      obtain ⟨b, o, rfl, hcc⟩ := HR.out.five (by omega)
      obtain ⟨b', o', rfl, hcd⟩ := HQ.out.five (by omega)
      obtain ⟨c0, c1, c2, c3, c4⟩ := hcc j hjL
      obtain ⟨d0, d1, d2, d3, d4⟩ := hcd j hjL
      have heq := eq_four_at 9997 L[j].f (HF.out _ (List.getElem_mem hjL))
      clear hcc hcd
      generalize L[j] = x at *
      obtain ⟨xg, xa, xb, xc, xd⟩ := x
      dsimp only at *
      have g1 : (xg == xg) = true := by simp
      go_wp2_with fail
      go_quiet (fail)
      go_wp2_with fail
      go_roundw
      case rel => exact ⟨j + 1, _, by go_num, by omega, rfl⟩
      case measure => simp [intOf]; omega
    · go_wp2_with fail
      go_ret
      exact ⟨rfl, _, rfl⟩

end Go.Proofs.YtnpaijbkhmnfpaaGreat

/- cache's Lines in memory; New, Has, Flush, Copy, none. -/
namespace Go.Proofs.YtnpaijbkhmnfpaaGreat
open Go.RowKit Go.Maps Go.WideMaps Go.Shelf Go.ChangeMaps

theorem law3 : Keyed Tryz.prog 3 := int_keyed Tryz.underlying3
theorem zero34 (w : World) : (zeroValue 92).run Tryz.prog w = .ok (fV ⟨0, 0, 0, 0⟩) w := by kernel_rfl
theorem Tryz.und145 : Tryz.prog.underlying 145 = some (.map 3 92) := by kernel_rfl

/-- lines in block q, their map in block b -/
structure LinAt (w : World) (B q b : Nat) (L : List Ln) : Prop where
  blk : Blk w q 147 #[.map (some b)]
  map : w.ownsMap Tryz.prog 3 fElem b L.length (linD L)
  ris : Ris L
  hq : B ≤ q
  hb : B ≤ b
theorem LinAt.isMap {w : World} {B q b : Nat} {L : List Ln} (h : LinAt w B q b L) : ∃ es c, w.heap[b]? = some (.map es c) := by
  obtain ⟨es, c, e, _⟩ := h.map
  exact ⟨es, c, e⟩
theorem LinAt.below {w w' : World} {B q b : Nat} {L : List Ln} (h : LinAt w B q b L) (hb : Below w.heap.size w w') : LinAt w' B q b L := by
  obtain ⟨es, c, e, h2⟩ := h.map
  exact ⟨h.blk.grow hb, ⟨es, c, (hb.block b h.map.lt).trans e, h2⟩, h.ris, h.hq, h.hb⟩
theorem LinAt.keeps {G : Nat → Prop} {w w' : World} {B q b : Nat} {L : List Ln} (h : LinAt w B q b L) (hk : Keeps G w w') (h1 : ¬ G q) (h2 : ¬ G b) : LinAt w' B q b L := by
  obtain ⟨es, c, e, h3⟩ := h.map
  exact ⟨(hk.block q h.blk.lt h1).trans h.blk, ⟨es, c, (hk.block b h.map.lt h2).trans e, h3⟩, h.ris, h.hq, h.hb⟩
theorem LinAt.drewN {w : World} {B q b : Nat} {L : List Ln} (h : LinAt w B q b L) (n : Nat) : LinAt (w.drewN n) B q b L := ⟨h.blk, h.map, h.ris, h.hq, h.hb⟩
theorem LinAt.lower {w : World} {B B' q b : Nat} {L : List Ln} (h : LinAt w B q b L) (hB : B' ≤ B) : LinAt w B' q b L := ⟨h.blk, h.map, h.ris, Nat.le_trans hB h.hq, Nat.le_trans hB h.hb⟩
theorem LinAt.ne {w : World} {B q b : Nat} {L : List Ln} (h : LinAt w B q b L) : q ≠ b := fun e => by
  obtain ⟨es, c, e1⟩ := h.isMap
  have e2 : w.heap[q]? = _ := h.blk
  rw [e, e1] at e2
  cases e2
theorem owns_size {w : World} {b n : Nat} {D : DataW Unit} (h : w.ownsMap Tryz.prog 3 fElem b n D) : w.ownsMap Tryz.prog 3 fElem b (Maps.size D) D := by
  obtain ⟨es, c, e, F, hs, rfl⟩ := h
  exact ⟨es, c, e, F, by rw [size_eq, length_read]; exact Nat.le_refl _, rfl⟩
theorem size_lin (L : List Ln) : Maps.size (linD L) = L.length := by unfold linD; rw [size_eq, List.length_map]

/-- 'was, ok := l.held[g]' -/
theorem LinAt.look {w : World} {B q b : Nat} {L : List Ln} (h : LinAt w B q b L) (g : Int) (hg : i64W g) : ∃ f : F4, (∀ d, findL L g = some d → f = d) ∧ ∀ W : World, W.heap[b]? = w.heap[b]? → (Instr.lookup 145 (.map (some b)) (.int .i64 g) true).run Tryz.prog W = .ok (.tuple #[.agg #[.int .u8 f.a, .int .u8 f.b, .int .u8 f.c, .int .u8 f.d], .bool (findL L g).isSome]) W := by
  have hk : keyOf Tryz.prog 3 (.int .i64 g) = some (ik g) := keyOf_int_mk Tryz.underlying3 (WalkArith.wf_i64 (by unfold i64W at hg; omega))
  have hall : ∀ W : World, W.heap[b]? = w.heap[b]? → ∃ t : F4, fD t = (linD L).atKey (ik g) (fD ⟨0, 0, 0, 0⟩) ∧ (Instr.lookup 145 (.map (some b)) (.int .i64 g) true).run Tryz.prog W = .ok (.tuple #[fV t, .bool (has (linD L) (ik g))]) W := fun W hW => by
    obtain ⟨es, clock, e1, e2⟩ := h.map
    have h1' : W.ownsMap Tryz.prog 3 fElem b L.length (linD L) := ⟨es, clock, hW.trans e1, e2⟩
    obtain ⟨v, ps, hrun, hv⟩ := h1'.look_ok law3 Tryz.und145 (zero34 W) (fElem_mk _) hk
    obtain ⟨t, rfl, hz⟩ := fElem_inv hv
    exact ⟨t, (congrArg Prod.fst hz).symm, hrun⟩
  obtain ⟨t, ht, _⟩ := hall w rfl
  refine ⟨t, fun d hd => fD_inj (ht.trans ?_), fun W hW => ?_⟩
  · rw [at_lin, hd]; rfl
  · obtain ⟨t', ht', hr⟩ := hall W hW
    have e : t' = t := fD_inj (ht'.trans ht.symm)
    subst e
    rw [← has_lin]
    exact hr
/-- 'l.held[g]' -/
theorem LinAt.look1 {w : World} {B q b : Nat} {L : List Ln} (h : LinAt w B q b L) (g : Int) (hg : i64W g) (f : F4) (hf : findL L g = some f) : ∀ W : World, W.heap[b]? = w.heap[b]? → (Instr.lookup 145 (.map (some b)) (.int .i64 g) false).run Tryz.prog W = .ok (.agg #[.int .u8 f.a, .int .u8 f.b, .int .u8 f.c, .int .u8 f.d]) W := fun W hW => by
  have hk : keyOf Tryz.prog 3 (.int .i64 g) = some (ik g) := keyOf_int_mk Tryz.underlying3 (WalkArith.wf_i64 (by unfold i64W at hg; omega))
  obtain ⟨es, clock, e1, e2⟩ := h.map
  have h1' : W.ownsMap Tryz.prog 3 fElem b L.length (linD L) := ⟨es, clock, hW.trans e1, e2⟩
  obtain ⟨v, ps, hrun, hv⟩ := h1'.lookup law3 Tryz.und145 (zero34 W) (fElem_mk _) hk
  obtain ⟨t, rfl, hz⟩ := fElem_inv hv
  have hz := congrArg Prod.fst hz
  dsimp only at hz
  rw [at_lin, hf] at hz
  have e : f = t := fD_inj hz
  subst e
  exact hrun
/-- 'l.held[g] = now' -/
theorem LinAt.put {w : World} {B q b : Nat} {L : List Ln} (h : LinAt w B q b L) (g : Int) (hg : i64W g) (f : F4) (hl : L.length ≤ 1048576) : ∃ w', (Instr.mapUpdate 145 (.map (some b)) (.int .i64 g) (.agg #[.int .u8 f.a, .int .u8 f.b, .int .u8 f.c, .int .u8 f.d])).run Tryz.prog w = .ok () w' ∧ LinAt w' B q b (takL g f L) ∧ w.grownBy w' (some b) := by
  have hk : keyOf Tryz.prog 3 (.int .i64 g) = some (ik g) := keyOf_int_mk Tryz.underlying3 (WalkArith.wf_i64 (by unfold i64W at hg; omega))
  obtain ⟨w', hr, ho, hgr⟩ := h.map.update law3 Tryz.und145 (by unfold maxLen; omega) hk (fElem_mk f)
  have e := put_lin h.ris g f (ho.canon law3)
  rw [e] at ho
  have ho := owns_size ho
  rw [size_lin] at ho
  exact ⟨w', hr, ⟨h.blk.kept hgr (fun e => h.ne (by injection e)), ho, takL_ris g f L h.ris, h.hq, h.hb⟩, hgr⟩
/-- 'len(l.held)' -/
theorem LinAt.len {w : World} {B q b : Nat} {L : List Ln} (h : LinAt w B q b L) (ty : TypeId) : ∀ W : World, W.heap[b]? = w.heap[b]? → (Builtin.len_ #[145] ty #[.map (some b)]).run Tryz.prog W = .ok (.int .i64 L.length) W := fun W hW => by
  obtain ⟨es, clock, e1, e2⟩ := h.map
  have h1' : W.ownsMap Tryz.prog 3 fElem b L.length (linD L) := ⟨es, clock, hW.trans e1, e2⟩
  rw [h1'.len Tryz.und145 ty, size_lin]
/-- 'clear(l.held)' -/
theorem LinAt.clear {w : World} {B q b : Nat} {L : List Ln} (h : LinAt w B q b L) (ty : TypeId) : ∃ w', (Builtin.clear_ #[145] ty #[.map (some b)]).run Tryz.prog w = .ok (.tuple #[]) w' ∧ LinAt w' B q b [] ∧ w.grownBy w' (some b) := by
  obtain ⟨es, clock, hb⟩ := h.isMap
  have hg : w.grownBy (setBlock w b (.map #[] clock)) (some b) := ⟨rfl, rfl, rfl, by simp [setBlock], fun i _ hi => heap_setBlock_other hb _ (fun e => hi (by rw [e]))⟩
  refine ⟨setBlock w b (.map #[] clock), ?_, ⟨h.blk.kept hg (fun e => h.ne (by injection e)), ⟨#[], clock, heap_setBlock_same hb _, ⟨by simp, MapKept.stamped_empty clock, by simp⟩, Nat.le_refl _, rfl⟩, .nil, h.hq, h.hb⟩, hg⟩
  simp [Builtin.clear_, run_underlying Tryz.und145, MapKept.run_getObj_map hb, MapKept.run_setObj_map _ hb, setBlock, Result.andThen, go_sem]

set_option maxHeartbeats 400000 in
theorem lnone_no (q b : Nat) (w : World) (hc : w.cell? ⟨q, 0, none⟩ = some (.map (some b))) :
    Calls Tryz.prog 85 #[.pointer (some ⟨q, 0, none⟩)] w fun e w' => e = .returned (.bool false) ∧ w' = w := by
  have hq := fun w => run_eql_map_nil_sl (P := Tryz.prog) w 145 _ _ (some b) Tryz.und145
  go_enter Tryz.func85, Tryz.ntmps85
  go_wp2
  go_ret
  exact ⟨rfl, rfl⟩
set_option maxHeartbeats 400000 in
theorem lnone_zero (q : Nat) (w : World) (hc : w.cell? ⟨q, 0, none⟩ = some (.map none)) :
    Calls Tryz.prog 85 #[.pointer (some ⟨q, 0, none⟩)] w fun e w' => e = .returned (.bool true) ∧ w' = w := by
  have hq := fun w => run_eql_map_nil_sl (P := Tryz.prog) w 145 _ _ none Tryz.und145
  go_enter Tryz.func85, Tryz.ntmps85
  go_wp2
  go_ret
  exact ⟨rfl, rfl⟩
set_option maxHeartbeats 400000 in
theorem lnone_nil (w : World) : Calls Tryz.prog 85 #[.pointer none] w fun e w' => e = .returned (.bool true) ∧ w' = w := by
  go_enter Tryz.func85, Tryz.ntmps85
  go_wp2
  go_ret
  exact ⟨rfl, rfl⟩

end Go.Proofs.YtnpaijbkhmnfpaaGreat
