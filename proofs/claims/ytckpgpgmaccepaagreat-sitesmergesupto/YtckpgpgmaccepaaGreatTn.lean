/- Texts put together: PutW, AddW, MrgL, MrgM. -/
import Derived.Test.YtckpgpgmaccepaaGreatTm
import Derived.Deep.RegionHeld3
import Derived.Deep.DeepCutAuto
import Derived.Test.YtckpgpgmaccepaaGreatTa
import Derived.Test.YtckpgpgmaccepaaGreatTl


namespace Go.Proofs.YtckpgpgmaccepaaGreat
open Go.RowKit Go.Maps Go.WideMaps

theorem atF_at {T : List Si} {a : Int} {u : Si} (h : atF T a = some u) : u.at_ = a := by
  have := List.find?_some h
  simpa using this

theorem SitAt.grow {w : World} {b : Nat} {T : List Si} (h : SitAt w b T) (n : Nat) : SitAt (w.drewN n) b T := h

theorem SitAt.look {w : World} {b : Nat} {T : List Si} (hown : SitAt w b T) (i : Int) (hs : i64W i) : ∃ t : Si, (∀ d, atF T i = some d → t = d) ∧ ∀ W : World, W.heap[b]? = w.heap[b]? → (Instr.lookup 74 (.map (some b)) (.int .i64 i) true).run Tryz.prog W = .ok (.tuple #[.agg #[.int .i64 t.key, .int .i64 t.at_, .int .i64 t.to_], .bool (atF T i).isSome]) W := by
  obtain ⟨D, h1, h2⟩ := hown
  have hk : keyOf Tryz.prog 3 (.int .i64 i) = some (ik i) := keyOf_int_mk Tryz.underlying3 (WalkArith.wf_i64 (by unfold i64W at hs; omega))
  have hall : ∀ W : World, W.heap[b]? = w.heap[b]? → ∃ t : Si, siD t = D.atKey (ik i) (siD ⟨0, 0, 0⟩) ∧ (Instr.lookup 74 (.map (some b)) (.int .i64 i) true).run Tryz.prog W = .ok (.tuple #[sV t, .bool (has D (ik i))]) W := fun W hW => by
    obtain ⟨es, clock, e1, e2⟩ := h1
    have h1' : W.ownsMap Tryz.prog 3 siElem b T.length D := ⟨es, clock, hW.trans e1, e2⟩
    obtain ⟨v, ps, hrun, hv⟩ := h1'.look_ok law3 Tryz.underlying74 (zero34 W) (siElem_mk _) hk
    obtain ⟨t, rfl, hz⟩ := siElem_inv hv
    exact ⟨t, (congrArg Prod.fst hz).symm, hrun⟩
  obtain ⟨t, ht, _⟩ := hall w rfl
  refine ⟨t, fun d hd => siD_inj (ht.trans ((h2 i).2 d hd)), fun W hW => ?_⟩
  obtain ⟨t', ht', hr⟩ := hall W hW
  have e : t' = t := siD_inj (ht'.trans ht.symm)
  subst e
  rw [← (h2 i).1]
  exact hr

theorem SitAt.put {w : World} {b : Nat} {T : List Si} (hown : SitAt w b T) (sk sa st : Int) (hs : i64W sa) (hn : atF T sa = none) (hl : T.length ≤ 1048576) : ∃ w', (Instr.mapUpdate 74 (.map (some b)) (.int .i64 sa) (.agg #[.int .i64 sk, .int .i64 sa, .int .i64 st])).run Tryz.prog w = .ok () w' ∧ SitAt w' b (T ++ [⟨sk, sa, st⟩]) ∧ w.grownBy w' (some b) := by
  obtain ⟨D, h1, h2⟩ := hown
  obtain ⟨w', hrun, r1, r2⟩ := h1.update law3 Tryz.underlying74 (by unfold maxLen; omega) (keyOf_int_mk Tryz.underlying3 (a := sa) (WalkArith.wf_i64 (by unfold i64W at hs; omega))) (siElem_mk ⟨sk, sa, st⟩)
  exact ⟨w', hrun, ⟨_, by rw [List.length_append]; exact r1, h2.add h1.isMap ⟨sk, sa, st⟩ hn⟩, r2⟩

theorem cells_ne {w : World} {i j : Nat} {a b : Array Value} {T U : TypeId} {f g : Nat × Nat} (h1 : w.heap[i]? = some (.cells a T f)) (h2 : w.heap[j]? = some (.cells b U g)) (hne : T ≠ U) : i ≠ j := fun e => by
  subst e
  rw [h1] at h2
  injection h2 with h2
  injection h2 with _ h2 _
  exact hne h2
theorem map_ne {w : World} {i j : Nat} {a : Array Value} {T : TypeId} {f : Nat × Nat} (h1 : w.heap[i]? = some (.cells a T f)) (h2 : ∃ es c, w.heap[j]? = some (.map es c)) : i ≠ j := fun e => by
  subst e
  obtain ⟨es, c, h2⟩ := h2
  rw [h1] at h2
  cases h2
/-- the table behind 't.sites = append(t.sites, s)' -/
theorem tbl_end {wc w5 : World} {B t kb nb mb : Nat} {vn v0 v1 : Value} {ks : List ByteArray} {T T' : List Si} (ob : Obj) (hN : NumAt wc B kb nb vn ks) (hM : SitAt wc mb T') (hO : TOwn 34 wc B v0 (T.map siV)) (hbt : Blk wc t 76 #[.pointer (some ⟨kb, 0, none⟩), v0, .map (some mb)])
    (hx : B ≤ t ∧ B ≤ mb ∧ mb ≠ nb) (hg : (wc.alloc ob).grownBy w5 v0.ownBlock) (hT5 : TOwn 34 w5 B v1 (T'.map siV)) (hk5 : Blk w5 t 76 #[.pointer (some ⟨kb, 0, none⟩), v0, .map (some mb)]) :
    TblAt (w5.setCell ⟨t, 1, none⟩ v1) B t kb nb mb vn v1 ks T' ∧ Keeps (GT t kb nb mb vn v0) wc (w5.setCell ⟨t, 1, none⟩ v1) := by
  have hK : Keeps (fun j => v0.ownBlock = some j ∨ j = t) wc (w5.setCell ⟨t, 1, none⟩ v1) := (((Keeps.refl _ wc).alloc ob).grown hg (fun k e => .inl (.inl e))).setCell t 1 v1 (.inl (.inr rfl))
  have hno : ∀ j cur e fr, wc.heap[j]? = some (.cells cur e fr) → e ≠ 34 → e ≠ 76 → ¬ (v0.ownBlock = some j ∨ j = t) := fun j cur e fr hj h1 h2 hh => by
    rcases hh with hh | hh
    · rcases hO.block with e0 | ⟨g, cur, e1, _, e3⟩
      · rw [e0] at hh; cases hh
      · rw [e1] at hh; injection hh with hh
        exact cells_ne hj e3 h1 hh.symm
    · exact cells_ne hj hbt h2 hh
  have hnm : ∀ j, (∃ es c, wc.heap[j]? = some (.map es c)) → ¬ (v0.ownBlock = some j ∨ j = t) := fun j hj hh => by
    rcases hh with hh | hh
    · rcases hO.block with e0 | ⟨g, cur, e1, _, e3⟩
      · rw [e0] at hh; cases hh
      · rw [e1] at hh; injection hh with hh
        exact map_ne e3 hj hh
    · exact map_ne hbt hj hh.symm
  refine ⟨⟨hk5.set 1 v1, hN.keeps hK (hno _ _ _ _ hN.blk (by decide) (by decide)) (hnm _ hN.map.isMap) (fun g hg => ?_), ?_, hM.keeps hK (hnm _ hM.isMap), hx.1, hx.2.1, hx.2.2⟩, hK.mono (fun j hj => ?_)⟩
  · rcases hN.own.block with e | ⟨g', cur, e1, _, e3⟩
    · rw [e] at hg; cases hg
    · rw [e1] at hg; injection hg with hg; subst hg
      exact hno _ _ _ _ e3 (by decide) (by decide)
  · refine hT5.keeps (G := fun j => j = t) ((Keeps.refl _ w5).setCell t 1 v1 (.inl rfl)) (fun g hg => ?_)
    rcases hT5.block with e | ⟨g', cur, e1, _, e3⟩
    · rw [e] at hg; cases hg
    · rw [e1] at hg; injection hg with hg; subst hg
      exact cells_ne e3 hk5 (by decide)
  · rcases hj with hj | hj
    · exact .inr (.inr (.inr (.inr (.inr hj))))
    · exact .inl hj

set_option maxRecDepth 20000 in
set_option maxHeartbeats 4000000 in
theorem put_any (B t kb nb mb : Nat) (vn vs : Value) (ks : List ByteArray) (T : List Si) (s : Si) (w : World) (h : TblAt w B t kb nb mb vn vs ks T) (hs : Near s) (hl : T.length ≤ 1000000) :
    Calls Tryz.prog 62 #[.pointer (some ⟨t, 0, none⟩), sV s] w fun E w' => E = .returned (.int .i64 (stepS s ks T).e) ∧ ((stepS s ks T).e = 0 → ∃ vs', TblAt w' B t kb nb mb vn vs' ks (stepS s ks T).si) ∧ Keeps (GT t kb nb mb vn vs) w w' := by
  have hW : i64W s.at_ := by unfold i64W; unfold Near at hs; omega
  have hfar := fun W => inReach_any s W hs
  clear hs
  obtain ⟨sk, sa, st⟩ := s
  simp only at hW
  obtain ⟨r, hr⟩ : ∃ r, stepS ⟨sk, sa, st⟩ ks T = r := ⟨_, rfl⟩
  rw [hr]
  have HRR := Hid.in hr
  clear hr
  show Calls Tryz.prog 62 #[.pointer (some ⟨t, 0, none⟩), .agg #[.int .i64 sk, .int .i64 sa, .int .i64 st]] w _
  have HW1 := Hid.in (new_alloc w (.cells #[.int .i64 sk, .int .i64 sa, .int .i64 st] 34))
  have HT1 := Hid.in (h.below HW1.out)
  have HS1 := Hid.in (Blk.new w 34 #[.int .i64 sk, .int .i64 sa, .int .i64 st])
  have HK1 : Hid (Keeps (GT t kb nb mb vn vs) w (w.alloc (.cells #[.int .i64 sk, .int .i64 sa, .int .i64 st] 34))) := Keeps.ofBelow HW1.out
  clear h
  go_enter Tryz.func62, Tryz.ntmps62
  go_upto_region 1 with fail
  have hsz1 := HW1.out.size
  have hsl := HS1.out.lt
  generalize w.alloc (.cells #[.int .i64 sk, .int .i64 sa, .int .i64 st] 34) = w1 at *
  generalize w.heap.size = gs at *
  have c2 : w1.cell? ⟨t, 2, none⟩ = some (.map (some mb)) := HT1.out.blk.cell 2
  have d1 : w1.cell? ⟨gs, 1, none⟩ = some (.int .i64 sa) := HS1.out.cell 1
  have HW2 := Hid.in (new_alloc w1.drew (.cells #[.int .i64 0, .int .i64 0, .int .i64 0] 34))
  obtain ⟨tt, htt, hl1⟩ := HT1.out.map.look sa hW
  have hl3 : Sem.run Tryz.prog (Instr.lookup 74 (Value.map (some mb)) (Value.int .i64 sa) true) ((w1.alloc (.cells #[.int .i64 0, .int .i64 0, .int .i64 0] 34)).drew) = .ok (.tuple #[.agg #[.int .i64 tt.key, .int .i64 tt.at_, .int .i64 tt.to_], .bool (atF T sa).isSome]) ((w1.alloc (.cells #[.int .i64 0, .int .i64 0, .int .i64 0] 34)).drew) :=
    hl1 _ ((new_alloc w1 _).block _ HT1.out.map.lt)
  have hl2 : Sem.run Tryz.prog (Instr.lookup 74 (Value.map (some mb)) (Value.int .i64 sa) true) w1.drew = .ok (.tuple #[.agg #[.int .i64 tt.key, .int .i64 tt.at_, .int .i64 tt.to_], .bool (atF T sa).isSome]) w1.drew := hl1 _ rfl
  have c2a : (w1.alloc (.cells #[.int .i64 0, .int .i64 0, .int .i64 0] 34)).cell? ⟨t, 2, none⟩ = some (.map (some mb)) := (HT1.out.blk.grow (new_alloc _ _)).cell 2
  have d1a : (w1.alloc (.cells #[.int .i64 0, .int .i64 0, .int .i64 0] 34)).cell? ⟨gs, 1, none⟩ = some (.int .i64 sa) := (HS1.out.grow (new_alloc _ _)).cell 1
  have HTT := Hid.in htt
  clear hl1 htt
  obtain ⟨tk, ta, tto⟩ := tt
  dsimp only at hl2 hl3
  generalize hok : (atF T sa).isSome = ok at *
  have HOK := Hid.in hok
  clear hok
  go_cut [5, 6] (fun p o wx => p = .pointer (some ⟨w1.heap.size, 0, none⟩) ∧ o = .bool ok ∧ wx = (w1.alloc (.cells #[.int .i64 tk, .int .i64 ta, .int .i64 tto] 34)).drew)
  case first =>
    go_region_law (fail)
    all_goals
      go_wp2_with fail
      go_meet
      case rel => exact ⟨rfl, rfl, rfl⟩
  case rest =>
    obtain ⟨rfl, rfl, rfl⟩ := hcut
    have HWK : Hid (Keeps (GT t kb nb mb vn vs) w ((w1.alloc (.cells #[.int .i64 tk, .int .i64 ta, .int .i64 tto] 34)).drew)) := ((HK1.out.alloc _).drew)
    have HB2 := Hid.in (below_draws (new_alloc w1 (.cells #[.int .i64 tk, .int .i64 ta, .int .i64 tto] 34)) 1)
    have HS2 : Hid (Blk ((w1.alloc (.cells #[.int .i64 tk, .int .i64 ta, .int .i64 tto] 34)).drew) gs 34 #[.int .i64 sk, .int .i64 sa, .int .i64 st]) := HS1.out.grow HB2.out
    have HU2 : Hid (Blk ((w1.alloc (.cells #[.int .i64 tk, .int .i64 ta, .int .i64 tto] 34)).drew) w1.heap.size 34 #[.int .i64 tk, .int .i64 ta, .int .i64 tto]) := Blk.new w1 34 _
    have HT2 : Hid (TblAt ((w1.alloc (.cells #[.int .i64 tk, .int .i64 ta, .int .i64 tto] 34)).drew) B t kb nb mb vn vs ks T) := HT1.out.below HB2.out
    have hsz2 := HB2.out.size
    change w1.heap.size ≤ ((w1.alloc (.cells #[.int .i64 tk, .int .i64 ta, .int .i64 tto] 34)).drew).heap.size at hsz2
    clear c2 d1 hl2 hl3 c2a d1a HW2 HS1 HT1 HB2 HW1
    generalize (w1.alloc (.cells #[.int .i64 tk, .int .i64 ta, .int .i64 tto] 34)).drew = w2 at *
    generalize w1.heap.size = g2 at *
    have s0 : w2.cell? ⟨gs, 0, none⟩ = some (.int .i64 sk) := HS2.out.cell 0
    have s1 : w2.cell? ⟨gs, 1, none⟩ = some (.int .i64 sa) := HS2.out.cell 1
    have s2 : w2.cell? ⟨gs, 2, none⟩ = some (.int .i64 st) := HS2.out.cell 2
    have q0 : w2.cell? ⟨g2, 0, none⟩ = some (.int .i64 tk) := HU2.out.cell 0
    have q1 : w2.cell? ⟨g2, 1, none⟩ = some (.int .i64 ta) := HU2.out.cell 1
    have q2 : w2.cell? ⟨g2, 2, none⟩ = some (.int .i64 tto) := HU2.out.cell 2
    cases ok with
    | true =>
      obtain ⟨u, hu⟩ := Option.isSome_iff_exists.1 HOK.out
      have hua := atF_at hu
      have hut := HTT.out u hu
      subst hut
      dsimp only at hua
      subst hua
      have HV : Hid (r = if (⟨tk, ta, tto⟩ : Si) = ⟨sk, ta, st⟩ then ⟨T, ks, 0⟩ else ⟨[], [], 180⟩) := by
        have e : stepS ⟨sk, ta, st⟩ ks T = if (⟨tk, ta, tto⟩ : Si) = ⟨sk, ta, st⟩ then ⟨T, ks, 0⟩ else ⟨[], [], 180⟩ := by
          unfold stepS
          unfold atF at hu
          dsimp only
          rw [hu]
        rw [← HRR.out]; exact e
      clear hu HTT HRR HOK
      by_cases h0 : tk = sk
      · subst h0
        by_cases h1 : tto = st
        · subst h1
          have HV2 : Hid (r = ⟨T, ks, 0⟩) := HV.out.trans (if_pos rfl)
          go_wp2_with fail
          go_ret
          exact ⟨by rw [HV2.out]; rfl, fun _ => ⟨vs, by rw [HV2.out]; exact HT2.out⟩, HWK.out⟩
        · have HV2 : Hid (r = ⟨[], [], 180⟩) := HV.out.trans (if_neg (fun e => h1 (by injection e)))
          go_wp2_with fail
          go_ret
          exact ⟨by rw [HV2.out]; rfl, (fun e => by rw [HV2.out] at e; cases e), HWK.out⟩
      · have HV2 : Hid (r = ⟨[], [], 180⟩) := HV.out.trans (if_neg (fun e => h0 (by injection e)))
        go_wp2_with fail
        go_ret
        exact ⟨by rw [HV2.out]; rfl, (fun e => by rw [HV2.out] at e; cases e), HWK.out⟩
    | false =>
      have hnone : atF T sa = none := Option.isNone_iff_eq_none.1 (by have := HOK.out; cases hh : atF T sa with | none => rfl | some _ => rw [hh] at this; cases this)
      have HV : Hid (r = if farS ⟨sk, sa, st⟩ = true then ⟨[], [], 181⟩ else if T.length = 256 then ⟨[], [], 3⟩ else ⟨T ++ [⟨sk, sa, st⟩], ks, 0⟩) := by
        have e : stepS ⟨sk, sa, st⟩ ks T = if farS ⟨sk, sa, st⟩ = true then ⟨[], [], 181⟩ else if T.length = 256 then ⟨[], [], 3⟩ else ⟨T ++ [⟨sk, sa, st⟩], ks, 0⟩ := by
          unfold stepS
          unfold atF at hnone
          dsimp only
          rw [hnone]
        rw [← HRR.out]; exact e
      have hf2 := hfar w2
      clear HTT HRR HOK q0 q1 q2 HU2 hfar
      cases hf : farS ⟨sk, sa, st⟩ with
      | true =>
        rw [hf] at hf2
        have HV2 : Hid (r = ⟨[], [], 181⟩) := HV.out.trans (if_pos hf)
        go_wp2_with (go_at_call 74; refine hf2.mono ?_; rintro e w3 ⟨rfl, hb3⟩; have HB3 := Hid.in hb3; clear hb3 hf2)
        go_ret
        exact ⟨by rw [HV2.out]; rfl, (fun e => by rw [HV2.out] at e; cases e), HWK.out.trans (Keeps.ofBelow HB3.out)⟩
      | false =>
        rw [hf] at hf2
        have HV2 : Hid (r = if T.length = 256 then ⟨[], [], 3⟩ else ⟨T ++ [⟨sk, sa, st⟩], ks, 0⟩) := HV.out.trans (if_neg (by rw [hf]; decide))
        clear HV
        obtain ⟨p0, d0, hv, -, -, -⟩ := HT2.out.own.shape
        rw [List.length_map] at hv
        subst hv
        have HC : Hid (∀ W, Below w2.heap.size w2 W → W.cell? ⟨t, 1, none⟩ = some (.slice p0 T.length d0) ∧ W.cell? ⟨t, 2, none⟩ = some (.map (some mb)) ∧ W.cell? ⟨gs, 0, none⟩ = some (.int .i64 sk) ∧ W.cell? ⟨gs, 1, none⟩ = some (.int .i64 sa) ∧ W.cell? ⟨gs, 2, none⟩ = some (.int .i64 st)) := fun W hb =>
          ⟨(HT2.out.blk.grow hb).cell 1, (HT2.out.blk.grow hb).cell 2, (HS2.out.grow hb).cell 0, (HS2.out.grow hb).cell 1, (HS2.out.grow hb).cell 2⟩
        by_cases h256 : T.length = 256
        · have HV3 : Hid (r = ⟨[], [], 3⟩) := HV2.out.trans (if_pos h256)
          have hz : ((T.length : Int) = 256) = True := by simp [h256]
          have hi : (T.length : Int) = 256 := by omega
          go_wp2_with (go_at_call 74; refine hf2.mono ?_; rintro e w3 ⟨rfl, hb3⟩; have HB3 := Hid.in hb3; obtain ⟨k1, k2, k3, k4, k5⟩ := HC.out _ hb3; clear hb3 hf2)
          go_ret
          exact ⟨by rw [HV3.out]; rfl, (fun e => by rw [HV3.out] at e; cases e), HWK.out.trans (Keeps.ofBelow HB3.out)⟩
        · have HV3 : Hid (r = ⟨T ++ [⟨sk, sa, st⟩], ks, 0⟩) := HV2.out.trans (if_neg h256)
          have hi : ¬ (T.length : Int) = 256 := by omega
          go_wp2_with (go_at_call 74; refine hf2.mono ?_; rintro e w3 ⟨rfl, hb3⟩; have HB3 := Hid.in hb3; obtain ⟨k1, k2, k3, k4, k5⟩ := HC.out _ hb3; clear hb3 hf2)
          have HT3 := Hid.in (HT2.out.below HB3.out)
          have HS3 := Hid.in (HS2.out.grow HB3.out)
          have HK3 := Hid.in (HWK.out.trans (Keeps.ofBelow HB3.out))
          obtain ⟨w4, hup, hm4, hg4⟩ := SitAt.put (w := w3.drew) (HT3.out.map.grow 1) sk sa st hW hnone (by omega)
          have HM4 := Hid.in hm4
          have HG4 : Hid (w3.grownBy w4 (some mb)) := ⟨hg4.os, hg4.tape, hg4.output, hg4.size, hg4.block⟩
          clear hm4 hg4 s0 s1 s2 HC HT2 HS2 HWK HB3
          go_cut [4] (fun v wx => v = .int .i64 0 ∧ wx = w4)
          case first =>
            go_region_law (fail)
            all_goals
              go_wp2_with fail
              go_meet
              case rel => exact ⟨rfl, rfl⟩
          case rest =>
            obtain ⟨rfl, rfl⟩ := hcut
            clear hup k1 k2 k3 k4 k5
            have hne : t ≠ mb := fun e => by
              obtain ⟨es, c, e1⟩ := HT3.out.map.isMap
              have e2 : w3.heap[t]? = _ := HT3.out.blk
              rw [e, e1] at e2
              cases e2
            have hgmb : gs ≠ mb := fun e => by
              obtain ⟨es, c, e1⟩ := HT3.out.map.isMap
              have e2 : w3.heap[gs]? = _ := HS3.out
              rw [e, e1] at e2
              cases e2
            have HBT : Hid (Blk wc t 76 #[.pointer (some ⟨kb, 0, none⟩), .slice p0 T.length d0, .map (some mb)]) := HT3.out.blk.kept HG4.out (fun e => hne (by injection e))
            have HBS : Hid (Blk wc gs 34 #[.int .i64 sk, .int .i64 sa, .int .i64 st]) := HS3.out.kept HG4.out (fun e => hgmb (by injection e))
            have HK4 : Hid (Keeps (GT t kb nb mb vn (.slice p0 T.length d0)) w wc) := HK3.out.grown HG4.out (fun j e => by injection e with e; subst e; exact .inl (.inr (.inr (.inr (.inl rfl)))))
            have hKm : Keeps (fun j => j = mb) w3 wc := (Keeps.refl _ _).grown HG4.out (fun j e => by injection e with e; exact .inl e.symm)
            have hnm : ∀ j cur e fr, w3.heap[j]? = some (.cells cur e fr) → ¬ j = mb := fun j cur e fr hj ej => by
              obtain ⟨es, c, e1⟩ := HT3.out.map.isMap
              rw [ej, e1] at hj
              cases hj
            have HO4 : Hid (TOwn 34 wc B (.slice p0 T.length d0) (T.map siV)) := HT3.out.own.keeps hKm (fun g hg => by
              rcases HT3.out.own.block with e | ⟨g', cur, e1, _, e3⟩
              · rw [e] at hg; cases hg
              · rw [e1] at hg; injection hg with hg; subst hg; exact hnm _ _ _ _ e3)
            have HN4 : Hid (NumAt wc B kb nb vn ks) := HT3.out.num.keeps hKm (hnm _ _ _ _ HT3.out.num.blk) (fun e => HT3.out.hne e.symm) (fun g hg => by
              rcases HT3.out.num.own.block with e | ⟨g', cur, e1, _, e3⟩
              · rw [e] at hg; cases hg
              · rw [e1] at hg; injection hg with hg; subst hg; exact hnm _ _ _ _ e3)
            have HX : Hid (B ≤ t ∧ B ≤ mb ∧ mb ≠ nb) := ⟨HT3.out.ht, HT3.out.hmb, HT3.out.hne⟩
            have hsz4 : B ≤ wc.heap.size := by
              have h1 := HT3.out.ht
              have h2 := HBT.out.lt
              omega
            clear HT3 HS3 HK3 HG4 hKm hnm hnone hf hi h256 hW HV2
            have c1 : wc.cell? ⟨t, 1, none⟩ = some (.slice p0 T.length d0) := HBT.out.cell 1
            have s0 : wc.cell? ⟨gs, 0, none⟩ = some (.int .i64 sk) := HBS.out.cell 0
            have s1 : wc.cell? ⟨gs, 1, none⟩ = some (.int .i64 sa) := HBS.out.cell 1
            have s2 : wc.cell? ⟨gs, 2, none⟩ = some (.int .i64 st) := HBS.out.cell 2
            have HW5 := Hid.in (new_alloc wc (.cells #[.int .i64 sk, .int .i64 sa, .int .i64 st] 34))
            have c1a : (wc.alloc (.cells #[.int .i64 sk, .int .i64 sa, .int .i64 st] 34)).cell? ⟨t, 1, none⟩ = some (.slice p0 T.length d0) := (HBT.out.grow HW5.out).cell 1
            have HTO : Hid ((Value.slice p0 T.length d0).ownBlock ≠ some t) := fun e => by
              rcases HO4.out.block with e0 | ⟨g', cur, e1, _, e3⟩
              · rw [e0] at e; cases e
              · rw [e1] at e; injection e with e; subst e
                have e2 : wc.heap[g']? = _ := HBT.out
                rw [e2] at e3
                injection e3 with e3
                injection e3 with _ e3 _
                cases e3
            have hnews := news3 wc (.int .i64 sk, .int .i64 sa, .int .i64 st) 34
            have hlm : (T.map siV).length ≤ 1048576 := by rw [List.length_map]; omega
            go_upto_region 11 with fail
            go_region_law (refine step_tpush Tryz.elemSite _ (by rfl) _ _ (by rfl) B (.slice p0 T.length d0) (T.map siV) (by rfl) ((HO4.out.alloc _).drewN 1) ⟨wc.heap.size, 0, none⟩ 1 (.int .i64 sk, .int .i64 sa, .int .i64 st) ⟨rfl, rfl, rfl⟩ (by rfl) hnews hlm (by decide) (by simp; omega) ?_; intro g5 cap5 w5 hT5 hg5 hb5; rw [List.length_map] at hT5; rw [List.length_map]; have hk5 := (HBT.out.grow HW5.out).kept (w' := w5) ⟨hg5.os, hg5.tape, hg5.output, hg5.size, hg5.block⟩ (fun e => HTO.out e.symm); have e5 := hk5.cell 1; have f5 := hk5.free 1; have HT5 := Hid.in hT5; have HG5 := Hid.in hg5; have HBK5 := Hid.in hk5; clear hT5 hg5 hb5 hk5)
            all_goals
              have hend := tbl_end (w5 := w5) (T' := T ++ [⟨sk, sa, st⟩]) (.cells #[.int .i64 sk, .int .i64 sa, .int .i64 st] 34) HN4.out HM4.out HO4.out HBT.out HX.out ⟨HG5.out.os, HG5.out.tape, HG5.out.output, HG5.out.size, HG5.out.block⟩ (by rw [List.map_append]; exact HT5.out) HBK5.out
              have HE1 := Hid.in hend.1
              have HE2 := Hid.in (HK4.out.trans hend.2)
              clear hend HT5 HG5 HBK5 e5 f5
              generalize w5.setCell ⟨t, 1, none⟩ (.slice (some ⟨g5, 0, none⟩) (T.length + 1) cap5) = w6 at *
              go_wp2_with fail
              go_ret
              exact ⟨by rw [HV3.out]; rfl, fun _ => ⟨_, by rw [HV3.out]; exact HE1.out⟩, HE2.out⟩

end Go.Proofs.YtckpgpgmaccepaaGreat

/- sites.table.add. -/
namespace Go.Proofs.YtckpgpgmaccepaaGreat
open Go.RowKit Go.Maps Go.WideMaps

/-- a resolver in memory, and what it says -/
structure ResAt (w : World) (b1 b2 bo bg n m : Nat) (f g : ByteArray → Option Int) : Prop where
  h1 : Blk w b1 64 #[.map (some bo)]
  h2 : Blk w b2 64 #[.map (some bg)]
  hf : PlcAt w bo n f
  hg : PlcAt w bg m g
theorem ResAt.below {w w' : World} {b1 b2 bo bg n m : Nat} {f g : ByteArray → Option Int} (h : ResAt w b1 b2 bo bg n m f g) (hb : Below w.heap.size w w') : ResAt w' b1 b2 bo bg n m f g :=
  ⟨h.h1.grow hb, h.h2.grow hb, h.hf.below hb, h.hg.below hb⟩
theorem ResAt.keeps {w w' : World} {b1 b2 bo bg n m : Nat} {f g : ByteArray → Option Int} {G : Nat → Prop} (h : ResAt w b1 b2 bo bg n m f g) (hk : Keeps G w w') (g1 : ¬ G b1) (g2 : ¬ G b2) (g3 : ¬ G bo) (g4 : ¬ G bg) : ResAt w' b1 b2 bo bg n m f g :=
  ⟨h.h1.keeps hk g1, h.h2.keeps hk g2, h.hf.keeps hk g3, h.hg.keeps hk g4⟩
/-- the table's blocks are none of the resolver's -/
theorem ResAt.tbl {w w' : World} {b1 b2 bo bg n m : Nat} {f g : ByteArray → Option Int} {B t kb nb mb : Nat} {vn vs : Value} {ks : List ByteArray} {T : List Si} (h : ResAt w b1 b2 bo bg n m f g) (ht : TblAt w B t kb nb mb vn vs ks T) (hk : Keeps (GT t kb nb mb vn vs) w w') (h1 : bo ≠ nb ∧ bo ≠ mb) (h2 : bg ≠ nb ∧ bg ≠ mb) : ResAt w' b1 b2 bo bg n m f g := by
  obtain ⟨es, c, e1⟩ := h.hf.isMap
  obtain ⟨es', c', e2⟩ := h.hg.isMap
  exact h.keeps hk (ht.notCells h.h1 (by decide)) (ht.notCells h.h2 (by decide)) (ht.notMap e1 h1.1 h1.2) (ht.notMap e2 h2.1 h2.2)

theorem stepS_ks {s : Si} {ks : List ByteArray} {T : List Si} (h : (stepS s ks T).e = 0) : (stepS s ks T).ks = ks := by
  unfold stepS at *
  split at h <;> split at h <;> first | (simp at h; done) | skip
  · simp_all
  · split at h
    · simp at h
    · simp_all
/-- a mark's answer by a resolver -/
def resP (f g : ByteArray → Option Int) (s : ByteArray) : Int × Int := match resF f g s with
  | some a => (a, 0)
  | none => (0, 171)

/-- the table after its numbering has got a name -/
theorem TblAt.named {w w' : World} {B t kb nb mb : Nat} {vn vs v' : Value} {ks ks' : List ByteArray} {T : List Si} (h : TblAt w B t kb nb mb vn vs ks T) (hN : NumAt w' B kb nb v' ks') (hk : Keeps (fun b => b = kb ∨ b = nb ∨ vn.ownBlock = some b) w w') :
    TblAt w' B t kb nb mb v' vs ks' T ∧ Keeps (GT t kb nb mb vn vs) w w' := by
  have hno : ∀ j cur e fr, w.heap[j]? = some (.cells cur e fr) → e ≠ 79 → e ≠ 9 → ¬ (j = kb ∨ j = nb ∨ vn.ownBlock = some j) := fun j cur e fr hj h1 h2 hh => by
    rcases hh with hh | hh | hh
    · exact cells_ne hj h.num.blk h1 hh
    · exact map_ne hj h.num.map.isMap hh
    · rcases h.num.own.block with e0 | ⟨g, cur, e1, _, e3⟩
      · rw [e0] at hh; cases hh
      · rw [e1] at hh; injection hh with hh
        exact cells_ne hj e3 h2 hh.symm
  have hmb : ¬ (mb = kb ∨ mb = nb ∨ vn.ownBlock = some mb) := fun hh => by
    rcases hh with hh | hh | hh
    · exact map_ne h.num.blk h.map.isMap hh.symm
    · exact h.hne hh
    · rcases h.num.own.block with e0 | ⟨g, cur, e1, _, e3⟩
      · rw [e0] at hh; cases hh
      · rw [e1] at hh; injection hh with hh
        exact map_ne e3 h.map.isMap hh
  refine ⟨⟨h.blk.keeps hk (hno _ _ _ _ h.blk (by decide) (by decide)), hN, h.own.keeps hk (fun g hg => ?_), h.map.keeps hk hmb, h.ht, h.hmb, h.hne⟩, hk.mono (fun j hj => ?_)⟩
  · rcases h.own.block with e | ⟨g', cur, e1, _, e3⟩
    · rw [e] at hg; cases hg
    · rw [e1] at hg; injection hg with hg; subst hg
      exact hno _ _ _ _ e3 (by decide) (by decide)
  · rcases hj with hj | hj | hj
    · exact .inr (.inl hj)
    · exact .inr (.inr (.inl hj))
    · exact .inr (.inr (.inr (.inr (.inl hj))))

/-- blocks that the table may have written to -/
def GB (B nb mb : Nat) (w : World) (j : Nat) : Prop := B ≤ j ∧ ((∃ cur e fr, w.heap[j]? = some (.cells cur e fr) ∧ (e = 76 ∨ e = 79 ∨ e = 9 ∨ e = 34)) ∨ j = nb ∨ j = mb)
def KeepsT (B nb mb : Nat) (w w' : World) : Prop := Keeps (GB B nb mb w) w w'
theorem KeepsT.of {w w' : World} {B t kb nb mb : Nat} {vn vs : Value} {ks : List ByteArray} {T : List Si} (h : TblAt w B t kb nb mb vn vs ks T) (hk : Keeps (GT t kb nb mb vn vs) w w') : KeepsT B nb mb w w' :=
  hk.mono (fun j hj => ⟨(h.kinds hj).1, by
    rcases (h.kinds hj).2 with ⟨cur, e, h1, h2⟩ | ⟨_, h1⟩
    · exact .inl ⟨cur, e, _, h1, h2⟩
    · exact .inr h1⟩)
theorem KeepsT.trans {B nb mb : Nat} {a b c : World} (h : KeepsT B nb mb a b) (k : KeepsT B nb mb b c) : KeepsT B nb mb a c :=
  ⟨k.os.trans h.os, k.tape.trans h.tape, k.output.trans h.output, Nat.le_trans h.size k.size, fun j hj hn => (k.block j (Nat.lt_of_lt_of_le hj h.size) (fun hg => hn ⟨hg.1, by
    have e := h.block j hj hn
    rcases hg.2 with ⟨cur, e', fr, h1, h2⟩ | hg
    · exact .inl ⟨cur, e', fr, by rw [← e]; exact h1, h2⟩
    · exact .inr hg⟩)).trans (h.block j hj hn)⟩
theorem KeepsT.ofBelow {B nb mb : Nat} {a b : World} (h : Below a.heap.size a b) : KeepsT B nb mb a b := Keeps.ofBelow h
theorem KeepsT.notCells {B nb mb : Nat} {w : World} {j : Nat} {cur : Array Value} {e : TypeId} {fr : Nat × Nat} (hj : w.heap[j]? = some (.cells cur e fr)) (he : e ≠ 76 ∧ e ≠ 79 ∧ e ≠ 9 ∧ e ≠ 34) (h1 : j ≠ nb) (h2 : j ≠ mb) : ¬ GB B nb mb w j := fun hg => by
  rcases hg.2 with ⟨cur', e', fr', h3, h4⟩ | hg | hg
  · rw [hj] at h3
    injection h3 with h3
    injection h3 with _ h3 _
    subst h3
    rcases h4 with h4 | h4 | h4 | h4
    · exact he.1 h4
    · exact he.2.1 h4
    · exact he.2.2.1 h4
    · exact he.2.2.2 h4
  · exact h1 hg
  · exact h2 hg
theorem KeepsT.notMap {B nb mb : Nat} {w : World} {j : Nat} (hj : ∃ es c, w.heap[j]? = some (.map es c)) (h1 : j ≠ nb) (h2 : j ≠ mb) : ¬ GB B nb mb w j := fun hg => by
  obtain ⟨es, c, hj⟩ := hj
  rcases hg.2 with ⟨cur', e', fr', h3, h4⟩ | hg | hg
  · rw [hj] at h3
    cases h3
  · exact h1 hg
  · exact h2 hg
theorem KeepsT.below {B nb mb : Nat} {w w' : World} (h : KeepsT B nb mb w w') (hB : B ≤ w.heap.size) : Below B w w' := Keeps.below h hB (fun _ hj => hj.1)
theorem ResAt.keepsT {w w' : World} {b1 b2 bo bg n m : Nat} {f g : ByteArray → Option Int} {B nb mb : Nat} (h : ResAt w b1 b2 bo bg n m f g) (hk : KeepsT B nb mb w w') (h0 : ∃ es c, w.heap[nb]? = some (.map es c)) (h0' : ∃ es c, w.heap[mb]? = some (.map es c)) (h1 : bo ≠ nb ∧ bo ≠ mb) (h2 : bg ≠ nb ∧ bg ≠ mb) : ResAt w' b1 b2 bo bg n m f g :=
  h.keeps hk (KeepsT.notCells h.h1 (by decide) (map_ne h.h1 h0) (map_ne h.h1 h0')) (KeepsT.notCells h.h2 (by decide) (map_ne h.h2 h0) (map_ne h.h2 h0')) (KeepsT.notMap h.hf.isMap h1.1 h1.2) (KeepsT.notMap h.hg.isMap h2.1 h2.2)

set_option maxRecDepth 20000 in
set_option maxHeartbeats 4000000 in
theorem add_any (B t kb nb mb b1 b2 bo bg n m : Nat) (f g : ByteArray → Option Int) (vn vs : Value) (ks : List ByteArray) (T : List Si) (x : Mk) (b : Nat) (w : World) (h : TblAt w B t kb nb mb vn vs ks T) (hR : ResAt w b1 b2 bo bg n m f g) (h1 : bo ≠ nb ∧ bo ≠ mb) (h2 : bg ≠ nb ∧ bg ≠ mb)
    (hb : b ≤ 65536) (hx : 0 ≤ x.at_ ∧ x.at_ ≤ 65536) (hk : x.key.size ≤ 281474976710656) (ht : x.to_.size ≤ maxLen) (hr : ∀ d, resF f g x.to_ = some d → 0 ≤ d ∧ d ≤ 200000) (hl : T.length ≤ 1000000) (hks : ks.length ≤ 1000000) (hB : B ≤ w.heap.size) :
    Calls Tryz.prog 31 #[.pointer (some ⟨t, 0, none⟩), .agg #[.int .i64 x.at_, .string x.key, .string x.to_], .int .i64 b, .func (Fn.func 61) #[] #[.pointer (some ⟨b1, 0, none⟩), .pointer (some ⟨b2, 0, none⟩)]] w
      fun E w' => E = .returned (.int .i64 (stepM (resP f g) b T ks x).e) ∧ ((stepM (resP f g) b T ks x).e = 0 → ∃ vn' vs', TblAt w' B t kb nb mb vn' vs' (stepM (resP f g) b T ks x).ks (stepM (resP f g) b T ks x).si) ∧ KeepsT B nb mb w w' := by
  obtain ⟨xa, xk, xt⟩ := x
  simp only at hx hk ht hr
  obtain ⟨r, hrr⟩ : ∃ r, stepM (resP f g) b T ks ⟨xa, xk, xt⟩ = r := ⟨_, rfl⟩
  rw [hrr]
  have HRR := Hid.in hrr
  clear hrr
  have HW1 := Hid.in (new_alloc w (.cells #[.int .i64 xa, .string xk, .string xt] 58))
  have HT1 := Hid.in (h.below HW1.out)
  have HR1 := Hid.in (hR.below HW1.out)
  have HS1 := Hid.in (Blk.new w 58 #[.int .i64 xa, .string xk, .string xt])
  have HK1 : Hid (KeepsT B nb mb w (w.alloc (.cells #[.int .i64 xa, .string xk, .string xt] 58))) := KeepsT.ofBelow HW1.out
  have hB1 : B ≤ (w.alloc (.cells #[.int .i64 xa, .string xk, .string xt] 58)).heap.size := by rw [size_one]; omega
  have HH1 := Hid.in h1
  have HH2 := Hid.in h2
  clear h hR h1 h2 HW1 hB
  go_enter Tryz.func31, Tryz.ntmps31
  go_upto_region 1 with fail
  generalize w.alloc (.cells #[.int .i64 xa, .string xk, .string xt] 58) = w1 at *
  generalize w.heap.size = gs at *
  have c0 : w1.cell? ⟨t, 0, none⟩ = some (.pointer (some ⟨kb, 0, none⟩)) := HT1.out.blk.cell 0
  have d1 : w1.cell? ⟨gs, 1, none⟩ = some (.string xk) := HS1.out.cell 1
  have hnum := number_any B kb nb vn ks xk w1.drew ⟨HT1.out.num.blk, HT1.out.num.map, HT1.out.num.own, HT1.out.num.hk, HT1.out.num.hbm⟩ hk (by omega) hB1
  go_cut [9] (fun v wx => v = .int .i64 (idxK (addK ks xk) xk : Nat) ∧ (∃ v', NumAt wx B kb nb v' (addK ks xk)) ∧ Keeps (fun b => b = kb ∨ b = nb ∨ vn.ownBlock = some b) w1 wx)
  case first =>
    go_region_with (go_at_call 40; refine hnum.mono ?_; rintro e w2 ⟨rfl, hN2, hk2⟩; have HN2 := Hid.in hN2; have HK2 : Hid (Keeps (fun b => b = kb ∨ b = nb ∨ vn.ownBlock = some b) w1 w2) := ⟨hk2.os, hk2.tape, hk2.output, hk2.size, hk2.block⟩; clear hN2 hk2)
    all_goals
      go_wp2_with fail
      go_meet
      case rel => exact ⟨rfl, HN2.out, HK2.out⟩
  case rest =>
    obtain ⟨rfl, ⟨v', hN⟩, hk2⟩ := hcut
    obtain ⟨hT2, hK2⟩ := HT1.out.named hN hk2
    have hKT := KeepsT.of HT1.out hK2
    have HR2 : Hid (ResAt wc b1 b2 bo bg n m f g) := HR1.out.keepsT hKT HT1.out.num.map.isMap HT1.out.map.isMap HH1.out HH2.out
    have HS2 : Hid (Blk wc gs 58 #[.int .i64 xa, .string xk, .string xt]) := HS1.out.keeps hKT (KeepsT.notCells HS1.out (by decide) (map_ne HS1.out HT1.out.num.map.isMap) (map_ne HS1.out HT1.out.map.isMap))
    have HK2 := Hid.in (KeepsT.trans HK1.out hKT)
    have HT2 := Hid.in hT2
    have s0 : wc.cell? ⟨gs, 0, none⟩ = some (.int .i64 xa) := HS2.out.cell 0
    have s2 : wc.cell? ⟨gs, 2, none⟩ = some (.string xt) := HS2.out.cell 2
    clear hN hk2 hT2 hK2 hKT c0 d1 hnum HT1 HR1 HS1 HK1
    have HIK : Hid (idxK (addK ks xk) xk ≤ 1000001) := by
      have e1 : idxK (addK ks xk) xk ≤ (addK ks xk).length := List.findIdx_le_length
      have e2 : (addK ks xk).length ≤ ks.length + 1 := by unfold addK; split <;> simp
      have e3 : idxK (addK ks xk) xk ≤ 1000001 := by omega
      exact e3
    generalize hik : idxK (addK ks xk) xk = ik0 at *
    by_cases h64 : 64 ≤ ik0
    · have HV : Hid (r = ⟨[], [], 3⟩) := by
        have e : stepM (resP f g) b T ks ⟨xa, xk, xt⟩ = ⟨[], [], 3⟩ := by unfold stepM; dsimp only; rw [hik, if_pos h64]
        rw [← HRR.out]; exact e
      have hi : (64 : Int) ≤ (ik0 : Int) := by omega
      go_wp2_with fail
      go_ret
      exact ⟨by rw [HV.out]; rfl, (fun e => by rw [HV.out] at e; cases e), HK2.out⟩
    · have hi : ¬ (64 : Int) ≤ (ik0 : Int) := by omega
      have hcl := clos61 b1 b2 bo bg n m f g xt wc ht HR2.out.h1 HR2.out.h2 HR2.out.hf HR2.out.hg
      cases hres : resF f g xt with
      | none =>
        have HV : Hid (r = ⟨[], [], 171⟩) := by
          have e : stepM (resP f g) b T ks ⟨xa, xk, xt⟩ = ⟨[], [], 171⟩ := by
            unfold stepM resP
            dsimp only
            rw [hik, if_neg h64, hres]
            exact if_pos (by decide)
          rw [← HRR.out]; exact e
        rw [hres] at hcl
        go_wp2_with (go_at_call 61; refine hcl.mono ?_; rintro e w3 ⟨c, rfl, hc, rfl⟩; clear hcl hc)
        go_ret
        exact ⟨by rw [HV.out]; rfl, (fun e => by rw [HV.out] at e; cases e), HK2.out⟩
      | some d =>
        have hd := hr d hres
        have HV : Hid (r = stepS ⟨(ik0 : Nat), (b : Int) + xa, d⟩ (addK ks xk) T) := by
          have e : stepM (resP f g) b T ks ⟨xa, xk, xt⟩ = stepS ⟨(ik0 : Nat), (b : Int) + xa, d⟩ (addK ks xk) T := by
            unfold stepM resP
            dsimp only
            rw [hik, if_neg h64, hres]
            exact if_neg (fun e => e rfl)
          rw [← HRR.out]; exact e
        rw [hres] at hcl
        have hput := put_any B t kb nb mb v' vs (addK ks xk) T ⟨(ik0 : Nat), (b : Int) + xa, d⟩ wc HT2.out (by unfold Near; dsimp only; omega) hl
        rw [← HV.out] at hput
        have hwr : IntKind.i64.wrap ((b : Int) + xa) = (b : Int) + xa := by rw [IntKind.wrap_i64]; omega
        go_wp2_with (first
          | (go_at_call 61; refine hcl.mono ?_; rintro e w3 ⟨c, rfl, hc, rfl⟩; have hcd := hc d rfl; subst hcd; clear hcl hc)
          | (go_at_call 62; refine hput.mono ?_; rintro e w4 ⟨rfl, ht4, hk4⟩; have HT4 := Hid.in ht4; have HK4 := Hid.in (KeepsT.trans HK2.out (KeepsT.of HT2.out hk4)); clear ht4 hk4 hput))
        go_ret
        refine ⟨rfl, fun e => ?_, HK4.out⟩
        obtain ⟨vs', h5⟩ := HT4.out e
        refine ⟨v', vs', ?_⟩
        have e2 : r.ks = addK ks xk := by
          rw [HV.out] at e ⊢
          exact stepS_ks e
        rw [e2]
        exact h5

end Go.Proofs.YtckpgpgmaccepaaGreat

/- What the maps of places say is what symbols.Resolve says (lists alone). -/
namespace Go.Proofs.YtckpgpgmaccepaaGreat
open Go.RowKit

theorem plcF_take (g : Sy → Bool) (L : List Sy) (hn : ((L.filter g).map Sy.name).Nodup) (s : ByteArray) : ∀ k, k ≤ L.length → plcF g (L.take k) s = ((L.take k).find? fun x => g x && decide (x.name = s)).map Sy.at_
  | 0, _ => by simp [plcF]
  | k + 1, hk => by
    have hkL : k < L.length := by omega
    have ih := plcF_take g L hn s k (by omega)
    rw [List.take_succ_eq_append_getElem hkL, plcF_snoc, List.find?_append]
    by_cases hg : g L[k] = true
    · rw [if_pos hg]
      unfold putF
      by_cases e : s = L[k].name
      · rw [if_pos e]
        have hno : ((L.take k).find? fun x => g x && decide (x.name = s)) = none := by
          rw [List.find?_eq_none]
          intro x hx hh
          simp only [Bool.and_eq_true, decide_eq_true_eq] at hh
          have hsplit : L = L.take k ++ L[k] :: L.drop (k + 1) := by
            rw [← List.drop_eq_getElem_cons hkL, List.take_append_drop]
          rw [hsplit, List.filter_append, List.map_append, List.nodup_append] at hn
          refine hn.2.2 x.name (List.mem_map.2 ⟨x, List.mem_filter.2 ⟨hx, hh.1⟩, rfl⟩) L[k].name ?_ (hh.2.trans e)
          exact List.mem_map.2 ⟨L[k], List.mem_filter.2 ⟨List.mem_cons_self, hg⟩, rfl⟩
        rw [hno]
        simp [hg, e]
      · rw [if_neg e, ih]
        have : ([L[k]].find? fun x => g x && decide (x.name = s)) = none := by simp [Ne.symm e]
        rw [this, Option.or_none]
    · rw [if_neg hg, ih]
      have : ([L[k]].find? fun x => g x && decide (x.name = s)) = none := by simp [hg]
      rw [this, Option.or_none]
theorem plcF_find (g : Sy → Bool) (L : List Sy) (hn : ((L.filter g).map Sy.name).Nodup) (s : ByteArray) : plcF g L s = (L.find? fun x => g x && decide (x.name = s)).map Sy.at_ := by
  have := plcF_take g L hn s L.length (Nat.le_refl _)
  rwa [List.take_length] at this

theorem findN_mov (b : Nat) (s : ByteArray) : ∀ L : List Sy, findN (L.map (movS b)) s = (findN L s).map fun a => (b : Int) + a
  | [] => rfl
  | x :: L => by
    have ih := findN_mov b s L
    unfold findN at *
    rw [List.map_cons, List.find?_cons, List.find?_cons]
    by_cases e : x.name = s
    · rw [decide_eq_true e, show decide ((movS b x).name = s) = true from decide_eq_true e]
      rfl
    · rw [decide_eq_false e, show decide ((movS b x).name = s) = false from decide_eq_false e]
      exact ih

/-- the labels that are left: this unit's, then the others' -/
theorem labs_drop : ∀ (xs : List Ob) (e i : Nat) (h : i < xs.length), (labs e xs).drop (cntAt xs i) = xs[i].sy.map (movS (nextS (endAt e xs i))) ++ (labs e xs).drop (cntAt xs (i + 1))
  | o :: os, e, 0, _ => by
    show (o.sy.map (movS (nextS e)) ++ labs (nextS e + o.bs.length) os).drop 0 = o.sy.map (movS (nextS e)) ++ (o.sy.map (movS (nextS e)) ++ labs (nextS e + o.bs.length) os).drop (o.sy.length + cntAt os 0)
    rw [cntAt_zero, List.drop_zero, Nat.add_zero]
    congr 1
    have : o.sy.length = (o.sy.map (movS (nextS e))).length := by simp
    rw [this, List.drop_left]
  | o :: os, e, i + 1, h => by
    have ih := labs_drop os (nextS e + o.bs.length) i (by simpa using h)
    show (o.sy.map (movS (nextS e)) ++ labs (nextS e + o.bs.length) os).drop (o.sy.length + cntAt os i) = (os[i]'(by simpa using h)).sy.map (movS (nextS (endAt (nextS e + o.bs.length) os i))) ++ (o.sy.map (movS (nextS e)) ++ labs (nextS e + o.bs.length) os).drop (o.sy.length + cntAt os (i + 1))
    have e1 : o.sy.length = (o.sy.map (movS (nextS e))).length := by simp
    rw [e1, List.drop_length_add_append, List.drop_length_add_append]
    exact ih

/-- the maps' answer is the chapter's -/
theorem res_maps {xs : List Ob} (h : (tabL xs).e = 0) {i : Nat} (hi : i < xs.length) (s : ByteArray) :
    resP (plcF (fun _ => true) (xs[i].sy.map (movS (nextS (endAt 0 xs i))))) (plcF Sy.g (labs 0 xs)) s = resL xs i s := by
  obtain ⟨-, ht, hk, -, hnd⟩ := tab_good h
  have e1 : ((i : Int)).toNat = i := by simp
  have hown : plcF (fun _ => true) (xs[i].sy.map (movS (nextS (endAt 0 xs i)))) s = (findN xs[i].sy s).map fun a => ((nextS (endAt 0 xs i) : Nat) : Int) + a := by
    rw [plcF_find, ← findN_mov]
    · unfold findN
      simp
    · have e : ((xs[i].sy.map (movS (nextS (endAt 0 xs i)))).filter fun _ => true).map Sy.name = names xs[i].sy := by
        rw [List.filter_eq_self.2 (fun _ _ => rfl), List.map_map]
        rfl
      rw [e]
      exact ok_nodup (hk _ (List.getElem_mem hi))
  have hglo : plcF Sy.g (labs 0 xs) s = findG (labs 0 xs) s := plcF_find Sy.g _ hnd s
  have hbeg : ((tabL xs).ss.getD i 0) = nextS (endAt 0 xs i) := by
    rw [ht]
    show (begs 0 xs).getD i 0 = _
    rw [List.getD_eq_getElem?_getD, List.getElem?_eq_getElem (by rw [begs_len]; exact hi), Option.getD_some, begs_at xs 0 i hi]
  have hts : (tabL xs).ts = labs 0 xs := by rw [ht]
  unfold resP resF resL
  rw [hown, hglo, if_neg (by simpa using h), dif_pos ⟨Int.natCast_nonneg i, by exact_mod_cast hi⟩]
  simp only [e1]
  rw [hbeg, hts]
  cases hf : findN xs[i].sy s with
  | some a => rfl
  | none =>
    simp only [Option.map_none]
    cases hg : findG (labs 0 xs) s with
    | some a => rfl
    | none => rfl

end Go.Proofs.YtckpgpgmaccepaaGreat

/- What a right table gives Merge: names and places in their bounds; one mark at a time (lists alone). -/
namespace Go.Proofs.YtckpgpgmaccepaaGreat
open Go.RowKit

theorem rm_names (bs : List Int) (fs : List Fx) : ∀ (M : List Mk) (least : Int), rmL bs fs least M = true → ∀ m ∈ M, m.key.size ≤ 16 ∧ m.to_.size ≤ 16
  | [], _, _, m, hm => by cases hm
  | x :: M, least, h, m, hm => by
    unfold rmL at h
    rw [Bool.and_eq_true] at h
    rcases List.mem_cons.1 hm with rfl | hm
    · have h1 := h.1
      unfold mrkB at h1
      simp only [Bool.and_eq_true] at h1
      exact ⟨((nmB_iff _).1 h1.1.1.1.1).2.2, ((nmB_iff _).1 h1.1.1.1.2).2.2⟩
    · exact rm_names bs fs M _ h.2 m hm
/-- a right unit's mark -/
theorem ok_mk {o : Ob} (h : okO o = true) {m : Mk} (hm : m ∈ o.mk_) : m.key.size ≤ 16 ∧ m.to_.size ≤ 16 ∧ 0 ≤ m.at_ ∧ m.at_ ≤ 65536 := by
  have h1 := st_in (ok_mark h hm)
  have h2 := (ok_parts h).1
  unfold okO at h
  rw [Bool.and_eq_true] at h
  obtain ⟨h3, h4⟩ := rm_names _ _ _ _ h.2 m hm
  exact ⟨h3, h4, h1.1, by omega⟩
theorem ok_few {o : Ob} (h : okO o = true) : o.mk_.length ≤ 4096 := by
  unfold okO at h
  simp only [Bool.and_eq_true, decide_eq_true_eq] at h
  omega
/-- the labels of a right table -/
theorem labs_fit {xs : List Ob} (h : (tabL xs).e = 0) : ∀ s ∈ labs 0 xs, s.name.size ≤ maxLen ∧ -9223372036854775808 ≤ s.at_ ∧ s.at_ ≤ 9223372036854775807 := fun s hs => by
  have h1 := labs_in h hs
  refine ⟨?_, by omega, by omega⟩
  have hk := (tab_good h).2.2.1
  have : ∀ (ys : List Ob) (e : Nat), (∀ y ∈ ys, okO y = true) → s ∈ labs e ys → s.name.size ≤ 16 := by
    intro ys
    induction ys with
    | nil => intro e _ hs; cases hs
    | cons o os ih =>
      intro e hy hs
      rcases List.mem_append.1 (show s ∈ o.sy.map (movS (nextS e)) ++ labs (nextS e + o.bs.length) os from hs) with hs | hs
      · obtain ⟨x, hx, rfl⟩ := List.mem_map.1 hs
        exact (ok_parts (hy o List.mem_cons_self)).2.2.2.2 x hx
      · exact ih _ (fun y hy' => hy y (List.mem_cons_of_mem _ hy')) hs
  have h2 := this xs 0 hk hs
  unfold maxLen
  omega
theorem cntAt_bound : ∀ (xs : List Ob), (∀ x ∈ xs, okO x = true) → ∀ i, i ≤ xs.length → cntAt xs i ≤ i * 4096
  | _, _, 0, _ => by rw [cntAt_zero]; exact Nat.zero_le _
  | o :: os, hk, i + 1, h => by
    show o.sy.length + cntAt os i ≤ (i + 1) * 4096
    have h1 := cntAt_bound os (fun x hx => hk x (List.mem_cons_of_mem _ hx)) i (by simpa using h)
    have h2 := (ok_parts (hk o List.mem_cons_self)).2.1
    rw [Nat.add_mul]
    omega
theorem labs_few {xs : List Ob} (h : (tabL xs).e = 0) : (labs 0 xs).length ≤ 65536 := by
  obtain ⟨h1, -, hk, -, -⟩ := tab_good h
  rw [labs_len]
  have := cntAt_bound xs hk xs.length (Nat.le_refl _)
  omega
/-- what the maps say lies in memory -/
theorem resF_in {xs : List Ob} (h : (tabL xs).e = 0) {i : Nat} (hi : i < xs.length) {s : ByteArray} {d : Int} (hd : resF (plcF (fun _ => true) (xs[i].sy.map (movS (nextS (endAt 0 xs i))))) (plcF Sy.g (labs 0 xs)) s = some d) : 0 ≤ d ∧ d ≤ 200000 := by
  have h1 := res_maps h hi s
  have h2 : resP (plcF (fun _ => true) (xs[i].sy.map (movS (nextS (endAt 0 xs i))))) (plcF Sy.g (labs 0 xs)) s = (d, 0) := by unfold resP; rw [hd]
  rw [h2] at h1
  have h3 := res_in h (u := (i : Int)) (s := s) (by rw [← h1])
  rw [← h1] at h3
  have h4 : 0 ≤ d ∧ d ≤ 65536 := h3
  omega
/-- one mark more -/
theorem marksS_step {res : ByteArray → Int × Int} {b : Nat} {T : List Si} {ks : List ByteArray} {M : List Mk} {j : Nat} (hj : j < M.length) : marksS res b T ks (M.drop j) = if (stepM res b T ks M[j]).e ≠ 0 then stepM res b T ks M[j] else marksS res b (stepM res b T ks M[j]).si (stepM res b T ks M[j]).ks (M.drop (j + 1)) := by
  rw [List.drop_eq_getElem_cons hj]; rfl
/-- one unit more -/
theorem unitsS_step {xs : List Ob} {T : List Si} {ks : List ByteArray} {i : Nat} (hi : i < xs.length) : unitsS xs i T ks (xs.drop i) =
    if (marksS (resL xs i) ((tabL xs).ss.getD i 0) T ks xs[i].mk_).e ≠ 0 then ⟨[], [], (marksS (resL xs i) ((tabL xs).ss.getD i 0) T ks xs[i].mk_).e, i⟩
    else unitsS xs (i + 1) (marksS (resL xs i) ((tabL xs).ss.getD i 0) T ks xs[i].mk_).si (marksS (resL xs i) ((tabL xs).ss.getD i 0) T ks xs[i].mk_).ks (xs.drop (i + 1)) := by
  rw [List.drop_eq_getElem_cons hi]; rfl
/-- sorted by whatever means, it is the chapter's order -/
theorem sort_same {T T' : List Si} (hd : T.Pairwise fun a b => a.at_ ≠ b.at_) (h1 : T'.Perm T) (h2 : T'.Pairwise fun a b => ltS b a = false) : T' = sortS T := by
  have hd' : T'.Pairwise fun a b => a.at_ ≠ b.at_ := (h1.pairwise_iff (fun h => h.symm)).2 hd
  have h3 : T'.Pairwise fun a b => ltS a b = true := (hd'.and h2).imp fun ⟨h3, h4⟩ => ltS_total (Ne.symm h3) h4
  exact sorted_same _ _ h3 (sortS_sorted T hd) (h1.trans (sortS_perm T).symm)

end Go.Proofs.YtckpgpgmaccepaaGreat
