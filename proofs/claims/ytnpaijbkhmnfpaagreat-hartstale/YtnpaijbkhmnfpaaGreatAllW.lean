/- What cache's All answers; what Has, Flush, Copy and All answer of what are no lines. -/
import Derived.Test.YtnpaijbkhmnfpaaGreatLinK
import Derived.Test.YtnpaijbkhmnfpaaGreatLinX
import Derived.Test.YtnpaijbkhmnfpaaGreatGen
import Derived.Test.YtnpaijbkhmnfpaaGreatW5
namespace Go.Proofs.YtnpaijbkhmnfpaaGreat
open Go.RowKit Go.Maps Go.WideMaps Go.Shelf

theorem own_block {w : World} {B : Nat} {T : TypeId} {z : Nat} {v : Value} {n : Nat} {xs : List Value} (h : w.ownsRow B T z v n xs) : v = .slice none 0 0 ∨ ∃ g cur, v.ownBlock = some g ∧ B ≤ g ∧ w.heap[g]? = some (.cells cur T (0, 0)) := by
  rcases h.2 with ⟨e1, _⟩ | ⟨g, cap, cur, e1, e2, e3, _⟩
  · exact .inl e1
  · exact .inr ⟨g, cur, by rw [e1]; rfl, e2, e3⟩
theorem rows_apart {w : World} {B B' : Nat} {T T' : TypeId} {z z' : Nat} {v v' : Value} {n n' : Nat} {xs xs' : List Value} (h : w.ownsRow B T z v n xs) (h' : w.ownsRow B' T' z' v' n' xs') (hne : T ≠ T') : v = .slice none 0 0 ∨ v.ownBlock ≠ v'.ownBlock := by
  rcases own_block h with e | ⟨g, cur, e1, -, e2⟩
  · exact .inl e
  · refine .inr fun e => ?_
    rcases own_block h' with e' | ⟨g', cur', e3, -, e4⟩
    · rw [e', e1] at e; cases e
    · rw [e1, e3] at e
      injection e with e
      rw [e, e4] at e2
      injection e2 with e2
      injection e2 with _ e2
      exact hne e2.symm
theorem kept_row {w w' : World} {B : Nat} {T : TypeId} {z : Nat} {v : Value} {n : Nat} {xs : List Value} {row : Option Nat} (h : w.ownsRow B T z v n xs) (hg : w.grownBy w' row) (hr : v = .slice none 0 0 ∨ v.ownBlock ≠ row) : w'.ownsRow B T z v n xs :=
  World.ownsRow.kept h hg (hr.imp (fun e => by rw [e]; rfl) id)
theorem keys_kept {w w' : World} {B B' : Nat} {v v' : Value} {xs : List Value} {L : List Ln} (hk : GOwnV 3 w B v xs) (ho : LOwn 94 w B' v' L) (hg : w.grownBy w' v'.ownBlock) : GOwnV 3 w' B v xs := kept_row hk hg (rows_apart hk ho (by decide))
theorem findL_at : ∀ {L : List Ln}, Ris L → ∀ {k : Nat} (hk : k < L.length), findL L L[k].g = some L[k].f
  | [], _, k, hk => absurd hk (by simp)
  | x :: L, h, 0, _ => by rw [findL_cons]; exact if_pos rfl
  | x :: L, h, k + 1, hk => by
    have h := List.pairwise_cons.1 h
    have hk' : k < L.length := by simpa using hk
    rw [findL_cons]
    have h1 := h.1 _ (List.getElem_mem hk')
    rw [List.getElem_cons_succ, if_neg (by omega)]
    exact findL_at h.2 hk'

set_option maxRecDepth 4000 in
set_option maxHeartbeats 2000000 in
theorem all_any (B q b : Nat) (L : List Ln) (w : World) (h : LinAt w B q b L) (hl : L.length ≤ 1000000) (h64 : ∀ x ∈ L, i64W x.g) :
    Calls Tryz.prog 49 #[.pointer (some ⟨q, 0, none⟩)] w fun e w' => ∃ v, e = .returned v ∧ LOwn 94 w' w.heap.size v L ∧ Below w.heap.size w w' := by
  have hc := lnone_no q b w (h.blk.cell 0)
  have c0 : w.cell? ⟨q, 0, none⟩ = some (.map (some b)) := h.blk.cell 0
  have hlen := fun ty => h.len ty w rfl
  have HL := Hid.in h
  have H64 := Hid.in h64
  clear h h64
  obtain ⟨hu, z, hzc, hinfo⟩ := Tryz.elemLine
  obtain ⟨i0, hi, hz0, hz1, hz2⟩ := info_parts hinfo
  obtain ⟨n, hn⟩ : ∃ n, L.length = n := ⟨_, rfl⟩
  have HN := Hid.in hn
  rw [hn] at hlen hl
  clear hn
  go_enter Tryz.func49, Tryz.ntmps49
  go_upto_region 4 with (first
    | (go_at_call 85; refine hc.mono ?_; rintro e w0 ⟨rfl, rfl⟩)
    | (at_make; refine wpList_make_own _ rfl _ _ 48 rfl w0.heap.size 94 i0 z 5 hu hi hz0 hz1 _ _ _ n rfl rfl rfl (by rw [hz2]; omega) (by unfold maxLen; omega) (Nat.le_refl _) ?_; intro w1 hown hgrow; have HB1 := Hid.in ((Below.refl w0.heap.size w0).grown hgrow (Nat.le_refl _) (by simp)); have HO1 : Hid (LOwn 94 w1 w0.heap.size (.slice (some ⟨w0.heap.size, 0, none⟩) 0 n) []) := hown; clear hown hgrow))
  have HL1 := Hid.in (HL.out.below HB1.out)
  have d0 : w1.cell? ⟨q, 0, none⟩ = some (.map (some b)) := HL1.out.blk.cell 0
  have hso := sorted_any B q b L w1 HL1.out (by rw [HN.out]; omega)
  clear c0 hc hlen hi hz0 hz1 hz2 hzc hinfo hu
  go_wp2_with (first
    | (go_at_call 87; refine (keys_any (some b) w1).mono ?_; rintro e w2 ⟨rfl, rfl⟩)
    | (go_at_call 86; refine hso.mono ?_; rintro e w2 ⟨v2, rfl, hrow, hb2⟩; have hk2 : GOwnV 3 w2 w1.heap.size v2 ((L.map Ln.g).map encZ) := (by unfold GOwnV; rw [List.length_map, List.length_map]; exact hrow); obtain ⟨p2, e2, hv2, -, -, -⟩ := hk2.slice; rw [List.length_map, List.length_map, HN.out] at hv2; subst hv2; have HK2 := Hid.in hk2; have HB2 := Hid.in (below_step HB1.out hb2); have HO2 := Hid.in (HO1.out.below hb2); clear hk2 hrow hb2 hso))
  clear d0 HL1
  have hsz1 := HB1.out.size
  go_loopw [3, 21] (fun v3 vi wr => ∃ k : Nat, vi = .int .i64 k ∧ k ≤ n ∧ LOwn 94 wr w0.heap.size v3 (L.take k) ∧ GOwnV 3 wr w1.heap.size (.slice p2 n e2) ((L.map Ln.g).map encZ) ∧ Below w0.heap.size w0 wr) (fun _ vi _ => n - (intOf vi).toNat)
  case atStart => exact ⟨0, rfl, Nat.zero_le _, HO2.out, HK2.out, HB2.out⟩
  case round =>
    obtain ⟨k, rfl, hk, ho, hkr, hb⟩ := hrel
    have HO := Hid.in ho
    have HK := Hid.in hkr
    have HB := Hid.in hb
    clear ho hkr hb
    by_cases hlt : k < n
    · have hkL : k < L.length := by rw [HN.out]; exact hlt
      have HLr := Hid.in (HL.out.below HB.out)
      obtain ⟨p', c', e0, hrow, -, -⟩ := HK.out.slice
      have e1 : p' = p2 := by injection e0 with e; exact e.symm
      clear e0
      subst e1
      obtain ⟨bk, ok, rfl, hcell⟩ := hrow (by simp; omega)
      have d1 := hcell k (by simp; omega)
      rw [List.getElem?_map, List.getElem?_map, List.getElem?_eq_getElem hkL, Option.map_some, Option.map_some] at d1
      clear hrow hcell
      have d0 : wr.cell? ⟨q, 0, none⟩ = some (.map (some b)) := HLr.out.blk.cell 0
      have hlk := HLr.out.look1 L[k].g (H64.out _ (List.getElem_mem hkL)) L[k].f (findL_at HL.out.ris hkL) wr rfl
      have HT : Hid (L.take (k + 1) = L.take k ++ [L[k]]) := List.take_succ_eq_append_getElem hkL
      have HTL : Hid ((L.take k).length ≤ 1048576) := by have : (L.take k).length ≤ 1048576 := (by rw [List.length_take]; omega); exact this
      have hsz := HB.out.size
      generalize L[k] = x at *
      obtain ⟨xg, xa, xb, xc, xd⟩ := x
      dsimp only [encZ] at d1 hlk
      have hnews := news5 wr ⟨xg, ⟨xa, xb, xc, xd⟩⟩ 94
      dsimp only at hnews
      go_wp2_with (at_builtin; refine lpush Tryz.elemLine _ rfl _ _ rfl w0.heap.size _ (L.take k) rfl (HO.out.alloc _) ⟨wr.heap.size, 0, none⟩ 1 ⟨xg, ⟨xa, xb, xc, xd⟩⟩ rfl hnews HTL.out (by decide) (by rw [size_one]; omega) ?_; intro v6 w6 hT6 hg6 hb6; have HK6 := Hid.in (keys_kept (HK.out.alloc _) (HO.out.alloc _) hg6); have HT6 := Hid.in hT6; have HB6 := Hid.in (hb6 w0 (below_alloc HB.out _)); clear hT6 hg6 hb6)
      go_roundw
      case rel => exact ⟨k + 1, by go_num, by omega, by rw [HT.out]; exact HT6.out, HK6.out, HB6.out⟩
      case measure => simp [intOf]; omega
    · have HE : Hid (L.take k = L) := List.take_of_length_le (by rw [HN.out]; omega)
      rw [HE.out] at HO
      go_wp2_with fail
      go_ret
      exact ⟨_, rfl, HO.out, HB.out⟩

/-- no lines: nil, or such as no call made -/
def NoLin (w : World) (p : Option Addr) : Prop := ∀ W, Below w.heap.size w W → Calls Tryz.prog 85 #[.pointer p] W fun e w' => e = .returned (.bool true) ∧ w' = W
theorem noLin_nil (w : World) : NoLin w none := fun W _ => lnone_nil W
theorem noLin_zero {w : World} {q : Nat} (h : Blk w q 147 #[.map none]) : NoLin w (some ⟨q, 0, none⟩) := fun W hb => lnone_zero q W ((h.grow hb).cell 0)
theorem NoLin.below {w w' : World} {p : Option Addr} (h : NoLin w p) (hb : Below w.heap.size w w') : NoLin w' p := fun W hW => h W (below_step hb hW)
set_option maxHeartbeats 400000 in
theorem flush_none (p : Option Addr) (w : World) (h : NoLin w p) : Calls Tryz.prog 50 #[.pointer p] w fun e w' => e = .returned (.int .i64 0) ∧ w' = w := by
  have hc := h w (below_self _)
  clear h
  go_enter Tryz.func50, Tryz.ntmps50
  go_wp2_with (go_at_call 85; refine hc.mono ?_; rintro e w1 ⟨rfl, rfl⟩)
  go_ret
  exact ⟨rfl, rfl⟩
set_option maxHeartbeats 400000 in
theorem all_none (p : Option Addr) (w : World) (h : NoLin w p) : Calls Tryz.prog 49 #[.pointer p] w fun e w' => e = .returned (.slice none 0 0) ∧ w' = w := by
  have hc := h w (below_self _)
  clear h
  go_enter Tryz.func49, Tryz.ntmps49
  go_wp2_with (go_at_call 85; refine hc.mono ?_; rintro e w1 ⟨rfl, rfl⟩)
  go_ret
  exact ⟨rfl, rfl⟩

end Go.Proofs.YtnpaijbkhmnfpaaGreat
