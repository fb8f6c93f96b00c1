/- Texts put together: HrtF. -/
import Derived.Test.YtnpaijbkhmnfpaaGreatKao

/- do: bytes that are no instruction; a breakpoint. -/
namespace Go.Proofs.YtnpaijbkhmnfpaaGreat
open Go.RowKit Go.Maps

theorem TrV.hart {w w' : World} {v : Value} {tr : Option Nat} {h l : Nat} {id st pc : Int} {R : List Int} {vS vH : Value} (k : TrV w v tr) (hB : Blk w h 56 (hrA id st pc R vS vH l)) (hk : Keeps (fun j => j = h) w w') : TrV w' v tr := by
  rcases k with k | ⟨c, t, h1, h2, h3⟩
  · exact .inl k
  · refine .inr ⟨c, t, h1, ?_, h3⟩
    have hne : c ≠ h := fun e => by
      subst e
      have : w.cell? ⟨c, 0, none⟩ = some (.int .i64 id) := hB.cell 0
      rw [h2] at this
      simp at this
    have := hk.block c (cell_lt h2) hne
    unfold World.cell? at h2 ⊢
    dsimp only at h2 ⊢
    rw [this]; exact h2

/-- how do stands behind its first two statements -/
structure DoS (w : World) (G : Nat → Prop) (B B' q mg h l b gi : Nat) (id st : Int) (pc : Nat) (R S : List Int) (L : List Ln) (xs : List Int) (pS : Option Addr) (cS : Nat) (o a b' n : Int) (w3 : World) : Prop where
  bh : Blk w3 h 56 (hrA id st pc R (.slice pS S.length cS) (.slice none 0 0) l)
  bi : Blk w3 gi 117 #[.int .u8 o, .int .u8 a, .int .u8 b', .int .i32 n]
  rs : PRow w3 pS S
  of : Off G pS S.length
  lin : LinAt w3 B l b L
  mem : Mem w3 B' q mg xs
  kp : Keeps (fun j => j = h) w w3
  gh : G h
  gb : G b
  gl : ¬ G l
  gq : ¬ G q
  gm : G mg
  le : B ≤ h
  nb : h ≠ b
  nm : h ≠ mg
  nbm : b ≠ mg
  lt : ∀ j, G j → j < w.heap.size
  ge : w.heap.size ≤ gi

theorem DoS.hat {w w3 w4 : World} {G : Nat → Prop} {B B' q mg h l b gi : Nat} {id st st' : Int} {pc pc' cS : Nat} {R S : List Int} {L : List Ln} {xs : List Int} {pS : Option Addr} {o a b' n : Int} (k : DoS w G B B' q mg h l b gi id st pc R S L xs pS cS o a b' n w3)
    (hb : Blk w4 h 56 (hrA id st' pc' R (.slice pS S.length cS) (.slice none 0 0) l)) (hk : Keeps (fun j => j = h) w3 w4) :
    HAt w4 G B h l b id ⟨st', pc', R, S, [], L⟩ ∧ Mem w4 B' q mg xs ∧ Keeps (fun j => j = h ∨ j = mg) w w4 :=
  ⟨⟨⟨pS, cS, none, 0, hb, k.rs.off k.of (hk.wider (fun _ (e : _ = h) => e ▸ k.gh)), fun h => absurd h (Nat.lt_irrefl 0), k.of, Off.zero _ _⟩, k.lin.keeps hk (fun e => k.gl (e ▸ k.gh)) (fun e => k.nb e.symm), k.gh, k.gb, k.gl, k.le⟩,
    k.mem.keeps hk (fun e => k.gq (e ▸ k.gh)) (fun e => k.nm e.symm), (k.kp.trans' hk).wider (fun _ e => .inl e)⟩

set_option maxHeartbeats 4000000 in
set_option maxRecDepth 8000 in
theorem hdo_bad (B B' q mg h l b : Nat) (G : Nat → Prop) (id : Int) (H : Hs) (xs : List Int) (v : Value) (tr : Option Nat) (w : World) (hh : HAt w G B h l b id H) (hm : Mem w B' q mg xs) (hG : ∀ j, G j → j < w.heap.size) (gm : G mg) (gq : ¬ G q) (_hx6 : xs.length ≤ 65536) (_hbx : Byt xs) (hok : HsOk 1000000 H) (ht : TrV w v tr) (hcase : ¬ (dec H.hv).e = 0) :
    Calls Tryz.prog 45 #[.pointer (some ⟨h, 0, none⟩), .pointer (some ⟨q, 0, none⟩), v] w fun e w' => ∃ vv, e = .returned vv ∧ EOwn 41 w' w.heap.size vv (insH id (nilH H) xs tr (dec H.hv)).ev ∧ HAt w' G B h l b id (insH id (nilH H) xs tr (dec H.hv)).h ∧ Mem w' B' q mg (insH id (nilH H) xs tr (dec H.hv)).xs ∧ Keeps (fun j => j = h ∨ j = mg) w w' := by
  obtain ⟨st, pc, R, S, hv, L⟩ := H
  dsimp only [nilH] at hok ⊢
  obtain ⟨hpc, lR, wR, wS, lS, bH, lH, wL, lL⟩ := hok
  dsimp only at hpc lR wR wS lS bH lH wL lL
  obtain ⟨pS, cS, pH, cH, hB, hPS, hRH, oS, oH⟩ := hh.blk
  dsimp only at hB hPS hRH oS oH
  have hlin := hh.lin
  dsimp only at hlin
  have hD := decode_any pH hv.length cH hv w rfl (by omega) hRH bH
  have HDB : Hid _ := dec_bounds bH
  have HT := Hid.in ht
  have HNM : Hid (h ≠ mg) := fun e => by
    obtain ⟨cur, _, e2, _⟩ := hm.own.parts
    rw [← e, show w.heap[h]? = _ from hB] at e2
    simp at e2
  have HNBM : Hid (b ≠ mg) := fun e => by
    obtain ⟨es, cc, e1⟩ := hlin.isMap
    obtain ⟨cur, _, e2, _⟩ := hm.own.parts
    rw [← e, e1] at e2
    cases e2
  have HHB : Hid (h ≠ b) := hh.ne
  have HCS := Hid.in hcase
  dsimp only at HCS
  clear hcase
  generalize dec hv = d at *
  obtain ⟨o, a, b', n, le, e⟩ := d
  dsimp only [decV, decT] at hD HDB HCS ⊢
  have c12 : w.cell? ⟨h, 12, none⟩ = some (.slice pH hv.length cH) := hB.cell 12
  have HBK := Hid.in hB
  have HPS := Hid.in hPS
  have HLN := Hid.in hlin
  have HM := Hid.in hm
  have HG4 : Hid (G h ∧ G b ∧ ¬ G l ∧ B ≤ h) := ⟨hh.gh, hh.gb, hh.gl, hh.bh⟩
  have HGG : Hid ((∀ j, G j → j < w.heap.size) ∧ G mg ∧ ¬ G q) := ⟨hG, gm, gq⟩
  have HOS := Hid.in oS
  have HWR : Hid (R.length = 8 ∧ Wds R ∧ Wds S ∧ S.length ≤ 64) := ⟨lR, wR, wS, lS⟩
  clear hh hm hB hPS hRH oS oH hlin hG gm gq ht lR wR wS lS bH lH wL lL
  go_enter Tryz.func45, Tryz.ntmps45
  go_wp2_with (go_at_call 70; refine Hid.out ?_)
  refine Lib.hid ?_
  (with_reducible refine hD.mono ?_)
  rintro E w1 ⟨rfl, hb1⟩
  clear hD c12
  have HB1 := Hid.in (below_alloc hb1 (.cells #[.int .u8 o, .int .u8 a, .int .u8 b', .int .i32 n] 117))
  have HI1 := Hid.in (Blk.new w1 117 #[.int .u8 o, .int .u8 a, .int .u8 b', .int .i32 n])
  have HSZ := Hid.in hb1.size
  clear hb1
  go_upto_region 2 with fail
  generalize w1.heap.size = gi at *
  generalize w1.alloc (.cells #[.int .u8 o, .int .u8 a, .int .u8 b', .int .i32 n] 117) = w2 at *
  have f12 : w2.cell? ⟨h, 12, none⟩ = some (.slice pH hv.length cH) := (HBK.out.grow HB1.out).cell 12
  have zf : w2.frozen? ⟨h, 12, none⟩ = false := (HBK.out.grow HB1.out).free 12
  have HS : Hid (DoS w G B B' q mg h l b gi id st pc R S L xs pS cS o a b' n (w2.setCell ⟨h, 12, none⟩ (.slice none 0 0))) := by
    have hk := keeps_set (G := fun j => j = h) w2 h 12 (.slice none 0 0) rfl
    have hkG : Keeps G w2 _ := hk.wider (fun _ (e : _ = h) => e ▸ HG4.out.1)
    have hlt : h < w.heap.size := HBK.out.lt
    exact ⟨(HBK.out.grow HB1.out).set 12 (.slice none 0 0), HI1.out.other (by have := HSZ.out; omega) _ _, (HPS.out.below HB1.out).off HOS.out hkG, HOS.out, (HLN.out.below HB1.out).keeps hk (fun e => HG4.out.2.2.1 (e ▸ HG4.out.1)) (fun e => HHB.out e.symm),
      (HM.out.below HB1.out).keeps hk (fun e => HGG.out.2.2 (e ▸ HG4.out.1)) (fun e => HNM.out e.symm), (Keeps.ofBelow HB1.out).trans' hk, HG4.out.1, HG4.out.2.1, HG4.out.2.2.1, HGG.out.2.2, HGG.out.2.1, HG4.out.2.2.2, HHB.out, HNM.out, HNBM.out, HGG.out.1, HSZ.out⟩
  have HT3 : Hid (TrV (w2.setCell ⟨h, 12, none⟩ (.slice none 0 0)) v tr) := (HT.out.below HB1.out).hart (HBK.out.grow HB1.out) (keeps_set (G := fun j => j = h) w2 h 12 (.slice none 0 0) rfl)
  go_upto_region 3 with fail
  generalize w2.setCell ⟨h, 12, none⟩ (.slice none 0 0) = w3 at *
  clear HB1 HI1 HSZ f12 zf HBK HPS HLN HM HG4 HGG HOS HHB HNM HNBM HT
  have he : ¬ e = 0 := HCS.out
  have g0 : (e != 0) = true := by simpa using he
  have hF := hfault_any h l id st pc 120 R (.slice pS S.length cS) (.slice none 0 0) w3 HS.out.bh (by omega) (by omega)
  go_wp2_with (go_at_call 79; refine Hid.out ?_)
  refine Lib.hid ?_
  (with_reducible refine hF.mono ?_)
  rintro E w4 ⟨g4, rfl, ho4, hb4, hk4⟩
  have HO4 := Hid.in ho4
  have HB4 := Hid.in hb4
  have HK4 := Hid.in hk4
  clear ho4 hb4 hk4 hF
  go_wp2_with fail
  go_ret
  obtain ⟨m1, m2, m3⟩ := HS.out.hat HB4.out HK4.out
  rw [show insH id ⟨st, pc, R, S, [], L⟩ xs tr ⟨o, a, b', n, le, e⟩ = fltH id ⟨st, pc, R, S, [], L⟩ xs 120 from if_neg he]
  exact ⟨_, rfl, HO4.out.lower HS.out.kp.size, m1, m2, m3⟩

set_option maxHeartbeats 4000000 in
set_option maxRecDepth 8000 in
theorem hdo_brk (B B' q mg h l b : Nat) (G : Nat → Prop) (id : Int) (H : Hs) (xs : List Int) (v : Value) (tr : Option Nat) (w : World) (hh : HAt w G B h l b id H) (hm : Mem w B' q mg xs) (hG : ∀ j, G j → j < w.heap.size) (gm : G mg) (gq : ¬ G q) (_hx6 : xs.length ≤ 65536) (_hbx : Byt xs) (hok : HsOk 1000000 H) (ht : TrV w v tr) (hcase : (dec H.hv).e = 0 ∧ (dec H.hv).o = 4) :
    Calls Tryz.prog 45 #[.pointer (some ⟨h, 0, none⟩), .pointer (some ⟨q, 0, none⟩), v] w fun e w' => ∃ vv, e = .returned vv ∧ EOwn 41 w' w.heap.size vv (insH id (nilH H) xs tr (dec H.hv)).ev ∧ HAt w' G B h l b id (insH id (nilH H) xs tr (dec H.hv)).h ∧ Mem w' B' q mg (insH id (nilH H) xs tr (dec H.hv)).xs ∧ Keeps (fun j => j = h ∨ j = mg) w w' := by
  obtain ⟨st, pc, R, S, hv, L⟩ := H
  dsimp only [nilH] at hok ⊢
  obtain ⟨hpc, lR, wR, wS, lS, bH, lH, wL, lL⟩ := hok
  dsimp only at hpc lR wR wS lS bH lH wL lL
  obtain ⟨pS, cS, pH, cH, hB, hPS, hRH, oS, oH⟩ := hh.blk
  dsimp only at hB hPS hRH oS oH
  have hlin := hh.lin
  dsimp only at hlin
  have hD := decode_any pH hv.length cH hv w rfl (by omega) hRH bH
  have HDB : Hid _ := dec_bounds bH
  have HT := Hid.in ht
  have HNM : Hid (h ≠ mg) := fun e => by
    obtain ⟨cur, _, e2, _⟩ := hm.own.parts
    rw [← e, show w.heap[h]? = _ from hB] at e2
    simp at e2
  have HNBM : Hid (b ≠ mg) := fun e => by
    obtain ⟨es, cc, e1⟩ := hlin.isMap
    obtain ⟨cur, _, e2, _⟩ := hm.own.parts
    rw [← e, e1] at e2
    cases e2
  have HHB : Hid (h ≠ b) := hh.ne
  have HCS := Hid.in hcase
  dsimp only at HCS
  clear hcase
  generalize dec hv = d at *
  obtain ⟨o, a, b', n, le, e⟩ := d
  dsimp only [decV, decT] at hD HDB HCS ⊢
  have c12 : w.cell? ⟨h, 12, none⟩ = some (.slice pH hv.length cH) := hB.cell 12
  have HBK := Hid.in hB
  have HPS := Hid.in hPS
  have HLN := Hid.in hlin
  have HM := Hid.in hm
  have HG4 : Hid (G h ∧ G b ∧ ¬ G l ∧ B ≤ h) := ⟨hh.gh, hh.gb, hh.gl, hh.bh⟩
  have HGG : Hid ((∀ j, G j → j < w.heap.size) ∧ G mg ∧ ¬ G q) := ⟨hG, gm, gq⟩
  have HOS := Hid.in oS
  have HWR : Hid (R.length = 8 ∧ Wds R ∧ Wds S ∧ S.length ≤ 64) := ⟨lR, wR, wS, lS⟩
  clear hh hm hB hPS hRH oS oH hlin hG gm gq ht lR wR wS lS bH lH wL lL
  go_enter Tryz.func45, Tryz.ntmps45
  go_wp2_with (go_at_call 70; refine Hid.out ?_)
  refine Lib.hid ?_
  (with_reducible refine hD.mono ?_)
  rintro E w1 ⟨rfl, hb1⟩
  clear hD c12
  have HB1 := Hid.in (below_alloc hb1 (.cells #[.int .u8 o, .int .u8 a, .int .u8 b', .int .i32 n] 117))
  have HI1 := Hid.in (Blk.new w1 117 #[.int .u8 o, .int .u8 a, .int .u8 b', .int .i32 n])
  have HSZ := Hid.in hb1.size
  clear hb1
  go_upto_region 2 with fail
  generalize w1.heap.size = gi at *
  generalize w1.alloc (.cells #[.int .u8 o, .int .u8 a, .int .u8 b', .int .i32 n] 117) = w2 at *
  have f12 : w2.cell? ⟨h, 12, none⟩ = some (.slice pH hv.length cH) := (HBK.out.grow HB1.out).cell 12
  have zf : w2.frozen? ⟨h, 12, none⟩ = false := (HBK.out.grow HB1.out).free 12
  have HS : Hid (DoS w G B B' q mg h l b gi id st pc R S L xs pS cS o a b' n (w2.setCell ⟨h, 12, none⟩ (.slice none 0 0))) := by
    have hk := keeps_set (G := fun j => j = h) w2 h 12 (.slice none 0 0) rfl
    have hkG : Keeps G w2 _ := hk.wider (fun _ (e : _ = h) => e ▸ HG4.out.1)
    have hlt : h < w.heap.size := HBK.out.lt
    exact ⟨(HBK.out.grow HB1.out).set 12 (.slice none 0 0), HI1.out.other (by have := HSZ.out; omega) _ _, (HPS.out.below HB1.out).off HOS.out hkG, HOS.out, (HLN.out.below HB1.out).keeps hk (fun e => HG4.out.2.2.1 (e ▸ HG4.out.1)) (fun e => HHB.out e.symm),
      (HM.out.below HB1.out).keeps hk (fun e => HGG.out.2.2 (e ▸ HG4.out.1)) (fun e => HNM.out e.symm), (Keeps.ofBelow HB1.out).trans' hk, HG4.out.1, HG4.out.2.1, HG4.out.2.2.1, HGG.out.2.2, HGG.out.2.1, HG4.out.2.2.2, HHB.out, HNM.out, HNBM.out, HGG.out.1, HSZ.out⟩
  have HT3 : Hid (TrV (w2.setCell ⟨h, 12, none⟩ (.slice none 0 0)) v tr) := (HT.out.below HB1.out).hart (HBK.out.grow HB1.out) (keeps_set (G := fun j => j = h) w2 h 12 (.slice none 0 0) rfl)
  go_upto_region 3 with fail
  generalize w2.setCell ⟨h, 12, none⟩ (.slice none 0 0) = w3 at *
  clear HB1 HI1 HSZ f12 zf HBK HPS HLN HM HG4 HGG HOS HHB HNM HNBM HT
  obtain ⟨he, ho⟩ := HCS.out
  have g0 : (e != 0) = false := by simpa using he
  have g1 : (o == 4) = true := by simpa using ho
  have i0 : w3.cell? ⟨gi, 0, none⟩ = some (.int .u8 o) := HS.out.bi.cell 0
  have HF : Hid (insH id ⟨st, pc, R, S, [], L⟩ xs tr ⟨o, a, b', n, le, e⟩ = folH id ⟨st, pc, R, S, [], L⟩ xs tr) := (if_pos he).trans (if_pos ho)
  have HSP : Hid ((∀ h0 : tr = none, TrV w3 v none) ∧ ∀ z, tr = some z → TrV w3 v (some z)) := ⟨fun h0 => h0 ▸ HT3.out, fun z h0 => h0 ▸ HT3.out⟩
  rcases Option.eq_none_or_eq_some tr with htr | ⟨z, htr⟩
  · have hF := follow_none h l id st pc R (.slice pS S.length cS) (.slice none 0 0) v w3 HS.out.bh (by omega) (HSP.out.1 htr)
    have HTR := Hid.in htr
    clear htr
    go_wp2_with (go_at_call 81; refine Hid.out ?_)
    refine Lib.hid ?_
    (with_reducible refine hF.mono ?_)
    rintro E w4 ⟨g4, rfl, ho4, hb4, hk4⟩
    have HO4 := Hid.in ho4
    have HB4 := Hid.in hb4
    have HK4 := Hid.in hk4
    clear ho4 hb4 hk4 hF
    go_wp2_with fail
    go_ret
    obtain ⟨m1, m2, m3⟩ := HS.out.hat HB4.out HK4.out
    rw [HF.out, HTR.out]
    exact ⟨_, rfl, HO4.out.lower HS.out.kp.size, m1, m2, m3⟩
  · have hF := follow_some h l z id st pc R (.slice pS S.length cS) (.slice none 0 0) v w3 HS.out.bh (by omega) (HSP.out.2 z htr)
    have HTR := Hid.in htr
    clear htr
    go_wp2_with (go_at_call 81; refine Hid.out ?_)
    refine Lib.hid ?_
    (with_reducible refine hF.mono ?_)
    rintro E w4 ⟨g4, rfl, ho4, hb4, hk4⟩
    have HO4 := Hid.in ho4
    have HB4 := Hid.in hb4
    have HK4 := Hid.in hk4
    clear ho4 hb4 hk4 hF
    go_wp2_with fail
    go_ret
    obtain ⟨m1, m2, m3⟩ := HS.out.hat HB4.out HK4.out
    rw [HF.out, HTR.out]
    exact ⟨_, rfl, HO4.out.lower HS.out.kp.size, m1, m2, m3⟩

end Go.Proofs.YtnpaijbkhmnfpaaGreat
