/- Texts put together: RefJ, RefK, RefL. -/
import Derived.Test.YthjbdbmncfbihaaGreatDoorKx
import Derived.Test.YthjbdbmncfbihaaGreatDoorKk

/- switchyardref04.Line: the fields behind the first one. -/
namespace Go.Proofs.YthjbdbmncfbihaaGreatDoor
open Go.RowKit

theorem ask_three (p : Nat) : ∃ v0 v1 v2, askV p = .agg #[v0, v1, v2] ∧ askC p = [v0, v1, v2] := by
  have h := askC_len p
  unfold askC at h ⊢
  cases hv : askV p with
  | agg c =>
    rw [hv] at h
    simp only at h ⊢
    obtain ⟨l⟩ := c
    match l, h with
    | [a, b, c], _ => exact ⟨a, b, c, rfl, rfl⟩
  | _ => rw [hv] at h; simp at h
theorem readL_five (y : Src) (f : List UInt8) (p : Nat) (h : p = 5) : readL p y f = readL 5 y f := by rw [h]
set_option maxRecDepth 20000 in
set_option maxHeartbeats 2000000 in
theorem refLine_once (s : ByteArray) (w : World) (hs : (s.size + 1) * 16 ≤ 140737488355328) (c0 : Nat) (f0 : List UInt8) (fs : List (Nat × List UInt8)) (hf : fieldsL s.data.toList = (c0, f0) :: fs) (hl0 : fs.length + 1 ≤ 140737488355328) (hf0 : (bytesOf f0).size ≤ 281474976710656) (hfz : ∀ q ∈ fs, (bytesOf q.2).size ≤ 281474976710656) (hlab : labB f0 = false) (x : Src) (ps : List Nat) (hask : askL f0 = some (ps, false)) (hform : formL f0 = some (x, ps, ps.length)) (hp8 : ∀ p ∈ ps, p < 8) (hpl : ps.length ≤ 2) :
    Calls Tryz.prog 39 #[.string s] w (LineIs (endL fs.length ps.length s.size (goL x ps fs)) w) := by
  have hF := fun W => refFields_any s W hs
  rw [hf] at hF
  have hA := fun W => asks_any (bytesOf f0) W
  rw [bytesOf_list, hask] at hA
  have HFM := Hid.in hform
  have HLN := Hid.in hlab
  obtain ⟨R, hR⟩ : ∃ R, endL fs.length ps.length s.size (goL x ps fs) = R := ⟨_, rfl⟩
  rw [hR]
  have HR := Hid.in hR
  clear hR
  have HLB := Hid.in (lab_iff f0 _ rfl)
  have HLF := Hid.in hlab
  clear hf hlab hask hform
  obtain ⟨n, hn⟩ : ∃ n, n = fs.length := ⟨_, rfl⟩
  obtain ⟨F, hFE⟩ : ∃ F, F = bytesOf f0 := ⟨_, rfl⟩
  rw [← hFE] at HLB hf0 hA
  rw [← hn] at hl0
  have HFE := Hid.in hFE
  have HNN := Hid.in hn
  clear hFE hn
  go_enter Tryz.func39, Tryz.ntmps39
  go_upto_region 5 with (go_at_call 50; refine (hF _).mono ?_; rintro e w1 ⟨vf, vc, rfl, hvf, hvc, hb1⟩; have HB : Hid (Blk w1 w.heap.size 28 item0) := (Blk.new w 28 item0).grow hb1; have HW := Hid.in (below_step (new_alloc w (.cells item0 28)) hb1); obtain ⟨fb, fcap, cb, ccap, rfl, rfl, g1, g2, g3, g4, g5, g6, hcf, hcc, g7, g8⟩ := fields_N HNN.out HFE.out hvf hvc; have HH : Hid (RHead w1 w.heap.size fb cb F c0 fs) := ⟨HB.out, hcf, hcc, g7, g8, fun e => by rw [e] at g2; simp at g2; omega⟩; clear hvf hvc hb1 g7 g8 hcc HB g1 g2)
  clear hF
  go_cut [47] from 28 to 46 (fun b wx => b = .bool false ∧ wx = w1)
  case first =>
    by_cases h1 : 1 < F.size
    · have htn : ((F.size : Int) - 1).toNat = F.size - 1 := by omega
      by_cases h58 : F[F.size - 1]'(by omega) = 58
      · have h58' : ((F[F.size - 1]'(by omega)).toNat : Int) = 58 := by rw [h58]; rfl
        have hnm : ¬ NameP (F.extract 0 (F.size - 1)) := fun e => by have := HLB.out.2 ⟨h1, h58, e⟩; rw [HLF.out] at this; cases this
        have hN := fun W => refName_no (F.extract 0 (F.size - 1)) W (by simp; omega) hnm
        clear h58 hnm
        go_wp2_with (go_at_call 51; refine (hN _).mono ?_; rintro e w2 ⟨rfl, rfl⟩)
        go_meet
        case rel => exact ⟨rfl, rfl⟩
      · have h58' : ¬ ((F[F.size - 1]'(by omega)).toNat : Int) = 58 := fun e => h58 (by
          apply UInt8.toNat_inj.1
          have : ((58 : UInt8).toNat : Int) = 58 := rfl
          omega)
        clear h58
        go_wp2_with fail
        go_meet
        case rel => exact ⟨rfl, rfl⟩
    · have h1' : ¬ (1 : Int) < (F.size : Int) := by omega
      go_wp2_with fail
      go_meet
      case rel => exact ⟨rfl, rfl⟩
  case rest =>
    obtain ⟨rfl, rfl⟩ := hcut
    have hcf := HH.out.one
    obtain ⟨np, hnp⟩ : ∃ np, ps.length = np := ⟨_, rfl⟩
    rw [hnp] at hpl
    have HNP := Hid.in hnp
    clear hnp
    go_upto_region 12 with (go_at_call 52; refine (hA _).mono ?_; rintro e w2 ⟨hb2, v2, rfl, hask2⟩; have HH2 := Hid.in (HH.out.grow hb2); have HW2 := Hid.in (below_step HW.out hb2); have HA2 := Hid.in hask2; obtain ⟨pa, hpa⟩ := hask2.shape; rw [HNP.out] at hpa; subst hpa; clear hb2 hask2)
    clear hcf HH HW
    go_wp2_with fail
    go_loopw [12] (fun i wr => ∃ (k : Nat) (y : Src), k ≤ n ∧ i = .int .i64 ((k : Int) + 1) ∧ Below w2.heap.size w2 wr ∧ goL x ps fs = goL y (ps.drop k) (fs.drop k)) (fun i _ => n + 1 - (intOf i).toNat)
    case atStart => exact ⟨0, x, Nat.zero_le _, rfl, below_self _, rfl⟩
    case round =>
      obtain ⟨k, y, hk, rfl, hbk, hgo⟩ := hrel
      have HBK := Hid.in hbk
      have HGO := Hid.in hgo
      clear hbk hgo
      have hwk := wrapK k (by omega)
      have hnf := HNN.out
      by_cases hlt : k < n
      · have hltf : k < fs.length := by omega
        have htn : ((k : Int) + 1).toNat = k + 1 := by omega
        have hk0 : (0 : Int) ≤ (k : Int) + 1 := by omega
        have hkn : (k : Int) + 1 < (n : Int) + 1 := by omega
        have ct := (HH2.out.grow HBK.out).txt k hltf
        by_cases hp : k < ps.length
        · have HST := Hid.in (goL_step y ps fs k hltf hp)
          have hknp : k < np := by rw [← HNP.out]; exact hp
          have hfit := fun q => fits_any ps[k] (hp8 _ (List.getElem_mem hp)) y (bytesOf fs[k].2) (hfz _ (List.getElem_mem hltf)) (wr.drewN q)
          rw [bytesOf_list] at hfit
          have HST2 := HST
          clear HST
          obtain ⟨v0, v1, v2', hv, hvc⟩ := ask_three ps[k]
          rw [hv] at hfit
          obtain ⟨ga, hga, -, hgw, hac⟩ := HA2.out.cells (by omega)
          rw [HNP.out] at hga
          injection hga with hga
          have hknI : (k : Int) < (np : Int) := by omega
          subst hga
          have a0 : wr.cell? ⟨ga, k * 3, none⟩ = some v0 := (HBK.out.cell (p := ⟨ga, k * 3, none⟩) hgw).trans ((hac k hp 0 (by decide)).trans (by rw [hvc]; rfl))
          have a1 : wr.cell? ⟨ga, k * 3 + 1, none⟩ = some v1 := (HBK.out.cell (p := ⟨ga, k * 3 + 1, none⟩) hgw).trans ((hac k hp 1 (by decide)).trans (by rw [hvc]; rfl))
          have a2 : wr.cell? ⟨ga, k * 3 + 2, none⟩ = some v2' := (HBK.out.cell (p := ⟨ga, k * 3 + 2, none⟩) hgw).trans ((hac k hp 2 (by decide)).trans (by rw [hvc]; rfl))
          clear hac hvc hv
          generalize readL ps[k] y fs[k].2 = er at *
          obtain ⟨er, z⟩ := er
          simp only at hfit
          generalize bytesOf fs[k].2 = fk at *
          clear hnf hp
          by_cases he : er = 0
          · subst he
            go_wp2_with fail
            go_region_law (go_simp; go_at_call 53; refine (hfit 1).mono ?_; rintro e w5 ⟨rfl, hb5⟩; have HB5 := Hid.in hb5; clear hb5)
            all_goals
              go_wp2_with fail
              go_roundw
              case rel => exact ⟨k + 1, z, by omega, by go_num, (below_drewN HBK.out 1).trans (HB5.out.mono (by have := HBK.out.size; exact this)), by rw [HGO.out, HST2.out]; simp⟩
              case measure => simp [intOf]; omega
          · have HRR : Hid (R = (src0, false, er, fs[k].1 + 1)) := by
              have : R = _ := HR.out.symm
              rw [this, HGO.out, HST2.out, if_neg he]; rfl
            go_wp2_with fail
            go_region_law (go_simp; go_at_call 53; refine (hfit 1).mono ?_; rintro e w5 ⟨rfl, hb5⟩; have HB5 := Hid.in hb5; clear hb5)
            all_goals
              go_wp2_with fail
              have hb6 : Below w2.heap.size w2 w5 := (below_drewN HBK.out 1).trans (HB5.out.mono (by have := HBK.out.size; exact this))
              have hH5 := HH2.out.grow hb6
              obtain ⟨d0, d1, d2, d3, d4, d5, d6, d7, d8⟩ := blk9 hH5.res
              obtain ⟨e0, e1, e2, e3, e4, e5, e6, e7, e8⟩ := free9 hH5.res
              have cc := hH5.col k hltf
              have hne : ¬ cb = w.heap.size := hH5.cr
              have hne' : ¬ w.heap.size = cb := fun e => hne e.symm
              have HRES := Hid.in hH5.res
              have HBF : Hid (Below w.heap.size w w5) := below_step HW2.out hb6
              clear hH5 hfit ct a0 a1 a2 hb6
              generalize fs[k].1 = ck at *
              go_region
              all_goals
                go_wp2
                obtain ⟨w6, he6, hB6, hg6⟩ := set9 HRES.out
                rw [he6]
                have hld := load28 (w := w6.drew) hB6 rfl
                rw [HRR.out]
                exact bodyPost_ret (v := LineV (src0, false, er, ck + 1) nilV) (by simp [results, Tryz.results39, asAddr, hld]; rfl) rfl (LineIs.zero (below_draws (HBF.out.trans (below_grown hg6 (Nat.le_refl _) HBF.out.size)) 1))
        · have HMN := Hid.in (goL_many y ps fs k hltf hp)
          have HRR : Hid (R = (src0, false, 140, fs[k].1 + 1)) := by
            have : R = _ := HR.out.symm
            rw [this, HGO.out, HMN.out]; rfl
          have hkk : ¬ (k : Int) < (np : Int) := by rw [HNP.out] at hp; omega
          skip
          have hH5 := HH2.out.grow HBK.out
          obtain ⟨d0, d1, d2, d3, d4, d5, d6, d7, d8⟩ := blk9 hH5.res
          obtain ⟨e0, e1, e2, e3, e4, e5, e6, e7, e8⟩ := free9 hH5.res
          have cc := hH5.col k hltf
          have hne : ¬ cb = w.heap.size := hH5.cr
          have hne' : ¬ w.heap.size = cb := fun e => hne e.symm
          have HRES := Hid.in hH5.res
          have HBF : Hid (Below w.heap.size w wr) := below_step HW2.out HBK.out
          clear hH5 ct hp hnf HMN
          generalize fs[k].1 = ck at *
          go_wp2_with fail
          go_region
          all_goals
            go_wp2
            obtain ⟨w6, he6, hB6, hg6⟩ := set9 HRES.out
            rw [he6]
            have hld := load28 (w := w6.drew) hB6 rfl
            rw [HRR.out]
            exact bodyPost_ret (v := LineV (src0, false, 140, ck + 1) nilV) (by simp [results, Tryz.results39, asAddr, hld]; rfl) rfl (LineIs.zero (below_draws (HBF.out.trans (below_grown hg6 (Nat.le_refl _) HBF.out.size)) 1))
      · have hkn : k = n := by omega
        have hend := goL_end y ps fs k (by omega)
        have hgy : goL x ps fs = .inr y := HGO.out.trans hend
        have hH5 := HH2.out.grow HBK.out
        have HRES := Hid.in hH5.res
        have HBF : Hid (Below w.heap.size w wr) := below_step HW2.out HBK.out
        by_cases hle : n < np
        · have HRR : Hid (R = (src0, false, 140, s.size + 1)) := by
            have : R = _ := HR.out.symm
            rw [this, hgy, endL, if_pos (by rw [HNP.out]; omega)]; exact rfl
          clear hend hgy hH5 hnf
          subst hkn
          have hss : IntKind.i64.wrap ((s.size : Int) + 1) = (s.size : Int) + 1 := wrapK s.size (by omega)
          go_wp2_with (refine step_store_blk HRES.out rfl 28 (.tmp 2) (.tmp 121) rfl rfl rfl item0 rfl Tryz.sz28 rfl zero_one ?_; intro w6 hB6 hg6)
          have hld := load28 hB6 rfl
          rw [HRR.out]
          exact bodyPost_ret (v := LineV (src0, false, 140, s.size + 1) nilV) (by simp [results, Tryz.results39, asAddr, hld]; rfl) rfl (LineIs.zero (HBF.out.trans (below_grown hg6 (Nat.le_refl _) HBF.out.size)))
        · have HRR : Hid (R = (y, true, 0, 0)) := by
            have : R = _ := HR.out.symm
            rw [this, hgy, endL, if_neg (by rw [HNP.out]; omega)]; exact rfl
          have hI := item_any f0 fs x y ps ps.length fb (n + 1) fcap wr HFM.out HLN.out hgy (by rw [HNP.out]; omega) (by omega) g5 hl0 hfz (by rw [← HFE.out]; exact hH5.one) hH5.txt
          clear hend hgy hH5 hnf
          subst hkn
          go_wp2_with (first
            | (go_at_call 54; refine hI.mono ?_; rintro e w6 ⟨d6, rfl, hd6, hb6⟩; have HRES6 := Hid.in (HRES.out.grow hb6); have HBF6 := Hid.in (below_step HBF.out hb6); have HD6 := Hid.in (hd6.lowerV HBF.out.size); have HDN := Hid.in (hd6.not_low HRES.out.lt); obtain ⟨q6, m6, c6, rfl⟩ : ∃ q m c, d6 = .slice q m c := (by obtain ⟨q, cp, e, _⟩ := hd6.slice; exact ⟨q, _, cp, e⟩); clear hb6 hd6)
            | (refine step_store_blk HRES6.out rfl 28 (.tmp 2) (.tmp 126) rfl rfl rfl (cellsOf y (.slice q6 m6 c6)) rfl Tryz.sz28 rfl (cells_one _ _ _ _) ?_; intro w7 hB7 hg7))
          have hld := load28 hB7 rfl
          rw [HRR.out]
          exact bodyPost_ret (v := LineV (y, true, 0, 0) (.slice q6 m6 c6)) (by simp [results, Tryz.results39, asAddr, hld]; rfl) rfl ⟨_, rfl, HD6.out.grownOther hg7 (.inr HDN.out.symm), HBF6.out.trans (below_grown hg7 (Nat.le_refl _) HBF6.out.size)⟩

end Go.Proofs.YthjbdbmncfbihaaGreatDoor

/- switchyardref04.Line: bytes behind the first field. -/
namespace Go.Proofs.YthjbdbmncfbihaaGreatDoor
open Go.RowKit

set_option maxRecDepth 20000 in
set_option maxHeartbeats 2000000 in
theorem refLine_many (s : ByteArray) (w : World) (hs : (s.size + 1) * 16 ≤ 140737488355328) (c0 : Nat) (f0 : List UInt8) (fs : List (Nat × List UInt8)) (hf : fieldsL s.data.toList = (c0, f0) :: fs) (hl0 : fs.length + 1 ≤ 140737488355328) (hf0 : (bytesOf f0).size ≤ 281474976710656) (hfz : ∀ q ∈ fs, (bytesOf q.2).size ≤ 281474976710656) (hlab : labB f0 = false) (x : Src) (hask : askL f0 = some ([5], true)) (hform : formL f0 = some (x, (List.replicate 64 5), 1)) :
    Calls Tryz.prog 39 #[.string s] w (LineIs (endL fs.length 1 s.size (goL x (List.replicate 64 5) fs)) w) := by
  have hF := fun W => refFields_any s W hs
  rw [hf] at hF
  have hA := fun W => asks_any (bytesOf f0) W
  rw [bytesOf_list, hask] at hA
  have HFM := Hid.in hform
  have HLN := Hid.in hlab
  obtain ⟨R, hR⟩ : ∃ R, endL fs.length 1 s.size (goL x (List.replicate 64 5) fs) = R := ⟨_, rfl⟩
  rw [hR]
  have HR := Hid.in hR
  clear hR
  have HLB := Hid.in (lab_iff f0 _ rfl)
  have HLF := Hid.in hlab
  clear hf hlab hask hform
  obtain ⟨n, hn⟩ : ∃ n, n = fs.length := ⟨_, rfl⟩
  obtain ⟨F, hFE⟩ : ∃ F, F = bytesOf f0 := ⟨_, rfl⟩
  rw [← hFE] at HLB hf0 hA
  rw [← hn] at hl0
  have HFE := Hid.in hFE
  have HNN := Hid.in hn
  clear hFE hn
  go_enter Tryz.func39, Tryz.ntmps39
  go_upto_region 5 with (go_at_call 50; refine (hF _).mono ?_; rintro e w1 ⟨vf, vc, rfl, hvf, hvc, hb1⟩; have HB : Hid (Blk w1 w.heap.size 28 item0) := (Blk.new w 28 item0).grow hb1; have HW := Hid.in (below_step (new_alloc w (.cells item0 28)) hb1); obtain ⟨fb, fcap, cb, ccap, rfl, rfl, g1, g2, g3, g4, g5, g6, hcf, hcc, g7, g8⟩ := fields_N HNN.out HFE.out hvf hvc; have HH : Hid (RHead w1 w.heap.size fb cb F c0 fs) := ⟨HB.out, hcf, hcc, g7, g8, fun e => by rw [e] at g2; simp at g2; omega⟩; clear hvf hvc hb1 g7 g8 hcc HB g1 g2)
  clear hF
  go_cut [47] from 28 to 46 (fun b wx => b = .bool false ∧ wx = w1)
  case first =>
    by_cases h1 : 1 < F.size
    · have htn : ((F.size : Int) - 1).toNat = F.size - 1 := by omega
      by_cases h58 : F[F.size - 1]'(by omega) = 58
      · have h58' : ((F[F.size - 1]'(by omega)).toNat : Int) = 58 := by rw [h58]; rfl
        have hnm : ¬ NameP (F.extract 0 (F.size - 1)) := fun e => by have := HLB.out.2 ⟨h1, h58, e⟩; rw [HLF.out] at this; cases this
        have hN := fun W => refName_no (F.extract 0 (F.size - 1)) W (by simp; omega) hnm
        clear h58 hnm
        go_wp2_with (go_at_call 51; refine (hN _).mono ?_; rintro e w2 ⟨rfl, rfl⟩)
        go_meet
        case rel => exact ⟨rfl, rfl⟩
      · have h58' : ¬ ((F[F.size - 1]'(by omega)).toNat : Int) = 58 := fun e => h58 (by
          apply UInt8.toNat_inj.1
          have : ((58 : UInt8).toNat : Int) = 58 := rfl
          omega)
        clear h58
        go_wp2_with fail
        go_meet
        case rel => exact ⟨rfl, rfl⟩
    · have h1' : ¬ (1 : Int) < (F.size : Int) := by omega
      go_wp2_with fail
      go_meet
      case rel => exact ⟨rfl, rfl⟩
  case rest =>
    obtain ⟨rfl, rfl⟩ := hcut
    have hcf := HH.out.one
    go_upto_region 12 with (go_at_call 52; refine (hA _).mono ?_; rintro e w2 ⟨hb2, v2, rfl, hask2⟩; have HH2 := Hid.in (HH.out.grow hb2); have HW2 := Hid.in (below_step HW.out hb2); have HA2 := Hid.in hask2; obtain ⟨pa, hpa⟩ := hask2.shape;  subst hpa; clear hb2 hask2)
    clear hcf HH HW
    go_wp2_with fail
    go_loopw [12] (fun i wr => ∃ (k : Nat) (y : Src), k ≤ n ∧ i = .int .i64 ((k : Int) + 1) ∧ Below w2.heap.size w2 wr ∧ goL x (List.replicate 64 5) fs = goL y ((List.replicate 64 5).drop k) (fs.drop k)) (fun i _ => n + 1 - (intOf i).toNat)
    case atStart => exact ⟨0, x, Nat.zero_le _, rfl, below_self _, rfl⟩
    case round =>
      obtain ⟨k, y, hk, rfl, hbk, hgo⟩ := hrel
      have HBK := Hid.in hbk
      have HGO := Hid.in hgo
      clear hbk hgo
      have hwk := wrapK k (by omega)
      have hnf := HNN.out
      by_cases hlt : k < n
      · have hltf : k < fs.length := by omega
        have htn : ((k : Int) + 1).toNat = k + 1 := by omega
        have hk0 : (0 : Int) ≤ (k : Int) + 1 := by omega
        have hkn : (k : Int) + 1 < (n : Int) + 1 := by omega
        have ct := (HH2.out.grow HBK.out).txt k hltf
        by_cases hp : k < (List.replicate 64 5).length
        · have HST := Hid.in (goL_step y (List.replicate 64 5) fs k hltf hp)
          have hk64 : k < 64 := by simpa using hp
          have hfit := fun q => fits_any 5 (by decide) y (bytesOf fs[k].2) (hfz _ (List.getElem_mem hltf)) (wr.drewN q)
          rw [bytesOf_list] at hfit
          have HPK : Hid ((List.replicate 64 5)[k]'hp = 5) := List.getElem_replicate _
          have hst := HST.out
          rw [readL_five y _ _ HPK.out] at hst
          have HST2 := Hid.in hst
          clear hst HST HPK
          obtain ⟨v0, v1, v2', hv, hvc⟩ := ask_three 5
          rw [hv] at hfit
          obtain ⟨ga, hga, -, hgw, hac⟩ := HA2.out.cells (by decide)
          injection hga with hga
          subst hga
          have a0 : wr.cell? ⟨ga, 0, none⟩ = some v0 := (HBK.out.cell (p := ⟨ga, 0, none⟩) hgw).trans ((hac 0 (by decide) 0 (by decide)).trans (by rw [show [5][0] = 5 from rfl, hvc]; rfl))
          have a1 : wr.cell? ⟨ga, 1, none⟩ = some v1 := (HBK.out.cell (p := ⟨ga, 1, none⟩) hgw).trans ((hac 0 (by decide) 1 (by decide)).trans (by rw [show [5][0] = 5 from rfl, hvc]; rfl))
          have a2 : wr.cell? ⟨ga, 2, none⟩ = some v2' := (HBK.out.cell (p := ⟨ga, 2, none⟩) hgw).trans ((hac 0 (by decide) 2 (by decide)).trans (by rw [show [5][0] = 5 from rfl, hvc]; rfl))
          have h64 : (k : Int) + 1 ≤ 64 := by omega
          clear hac hvc hv
          generalize readL 5 y fs[k].2 = er at *
          obtain ⟨er, z⟩ := er
          simp only at hfit
          generalize bytesOf fs[k].2 = fk at *
          clear hnf hp
          by_cases he : er = 0
          · subst he
            go_wp2_with fail
            go_region_law (go_simp; go_at_call 53; refine (hfit 1).mono ?_; rintro e w5 ⟨rfl, hb5⟩; have HB5 := Hid.in hb5; clear hb5)
            all_goals
              go_wp2_with fail
              go_roundw
              case rel => exact ⟨k + 1, z, by omega, by go_num, (below_drewN HBK.out 1).trans (HB5.out.mono (by have := HBK.out.size; exact this)), by rw [HGO.out, HST2.out]; simp⟩
              case measure => simp [intOf]; omega
          · have HRR : Hid (R = (src0, false, er, fs[k].1 + 1)) := by
              have : R = _ := HR.out.symm
              rw [this, HGO.out, HST2.out, if_neg he]; rfl
            go_wp2_with fail
            go_region_law (go_simp; go_at_call 53; refine (hfit 1).mono ?_; rintro e w5 ⟨rfl, hb5⟩; have HB5 := Hid.in hb5; clear hb5)
            all_goals
              go_wp2_with fail
              have hb6 : Below w2.heap.size w2 w5 := (below_drewN HBK.out 1).trans (HB5.out.mono (by have := HBK.out.size; exact this))
              have hH5 := HH2.out.grow hb6
              obtain ⟨d0, d1, d2, d3, d4, d5, d6, d7, d8⟩ := blk9 hH5.res
              obtain ⟨e0, e1, e2, e3, e4, e5, e6, e7, e8⟩ := free9 hH5.res
              have cc := hH5.col k hltf
              have hne : ¬ cb = w.heap.size := hH5.cr
              have hne' : ¬ w.heap.size = cb := fun e => hne e.symm
              have HRES := Hid.in hH5.res
              have HBF : Hid (Below w.heap.size w w5) := below_step HW2.out hb6
              clear hH5 hfit ct a0 a1 a2 hb6
              generalize fs[k].1 = ck at *
              go_region
              all_goals
                go_wp2
                obtain ⟨w6, he6, hB6, hg6⟩ := set9 HRES.out
                rw [he6]
                have hld := load28 (w := w6.drew) hB6 rfl
                rw [HRR.out]
                exact bodyPost_ret (v := LineV (src0, false, er, ck + 1) nilV) (by simp [results, Tryz.results39, asAddr, hld]; rfl) rfl (LineIs.zero (below_draws (HBF.out.trans (below_grown hg6 (Nat.le_refl _) HBF.out.size)) 1))
        · have HMN := Hid.in (goL_many y (List.replicate 64 5) fs k hltf hp)
          have HRR : Hid (R = (src0, false, 140, fs[k].1 + 1)) := by
            have : R = _ := HR.out.symm
            rw [this, HGO.out, HMN.out]; rfl
          have hkk : ¬ (k : Int) < (1 : Int) := by simp at hp; omega
          have h64 : ¬ (k : Int) + 1 ≤ 64 := by simp at hp; omega
          have hH5 := HH2.out.grow HBK.out
          obtain ⟨d0, d1, d2, d3, d4, d5, d6, d7, d8⟩ := blk9 hH5.res
          obtain ⟨e0, e1, e2, e3, e4, e5, e6, e7, e8⟩ := free9 hH5.res
          have cc := hH5.col k hltf
          have hne : ¬ cb = w.heap.size := hH5.cr
          have hne' : ¬ w.heap.size = cb := fun e => hne e.symm
          have HRES := Hid.in hH5.res
          have HBF : Hid (Below w.heap.size w wr) := below_step HW2.out HBK.out
          clear hH5 ct hp hnf HMN
          generalize fs[k].1 = ck at *
          go_wp2_with fail
          go_region
          all_goals
            go_wp2
            obtain ⟨w6, he6, hB6, hg6⟩ := set9 HRES.out
            rw [he6]
            have hld := load28 (w := w6.drew) hB6 rfl
            rw [HRR.out]
            exact bodyPost_ret (v := LineV (src0, false, 140, ck + 1) nilV) (by simp [results, Tryz.results39, asAddr, hld]; rfl) rfl (LineIs.zero (below_draws (HBF.out.trans (below_grown hg6 (Nat.le_refl _) HBF.out.size)) 1))
      · have hkn : k = n := by omega
        have hend := goL_end y (List.replicate 64 5) fs k (by omega)
        have hgy : goL x (List.replicate 64 5) fs = .inr y := HGO.out.trans hend
        have hH5 := HH2.out.grow HBK.out
        have HRES := Hid.in hH5.res
        have HBF : Hid (Below w.heap.size w wr) := below_step HW2.out HBK.out
        by_cases hle : n < 1
        · have HRR : Hid (R = (src0, false, 140, s.size + 1)) := by
            have : R = _ := HR.out.symm
            rw [this, hgy, endL, if_pos (by omega)]; exact rfl
          clear hend hgy hH5 hnf
          subst hkn
          have hss : IntKind.i64.wrap ((s.size : Int) + 1) = (s.size : Int) + 1 := wrapK s.size (by omega)
          go_wp2_with (refine step_store_blk HRES.out rfl 28 (.tmp 2) (.tmp 121) rfl rfl rfl item0 rfl Tryz.sz28 rfl zero_one ?_; intro w6 hB6 hg6)
          have hld := load28 hB6 rfl
          rw [HRR.out]
          exact bodyPost_ret (v := LineV (src0, false, 140, s.size + 1) nilV) (by simp [results, Tryz.results39, asAddr, hld]; rfl) rfl (LineIs.zero (HBF.out.trans (below_grown hg6 (Nat.le_refl _) HBF.out.size)))
        · have HRR : Hid (R = (y, true, 0, 0)) := by
            have : R = _ := HR.out.symm
            rw [this, hgy, endL, if_neg (by omega)]; exact rfl
          have hI := item_any f0 fs x y (List.replicate 64 5) 1 fb (n + 1) fcap wr HFM.out HLN.out hgy (by omega) (by omega) g5 hl0 hfz (by rw [← HFE.out]; exact hH5.one) hH5.txt
          clear hend hgy hH5 hnf
          subst hkn
          go_wp2_with (first
            | (go_at_call 54; refine hI.mono ?_; rintro e w6 ⟨d6, rfl, hd6, hb6⟩; have HRES6 := Hid.in (HRES.out.grow hb6); have HBF6 := Hid.in (below_step HBF.out hb6); have HD6 := Hid.in (hd6.lowerV HBF.out.size); have HDN := Hid.in (hd6.not_low HRES.out.lt); obtain ⟨q6, m6, c6, rfl⟩ : ∃ q m c, d6 = .slice q m c := (by obtain ⟨q, cp, e, _⟩ := hd6.slice; exact ⟨q, _, cp, e⟩); clear hb6 hd6)
            | (refine step_store_blk HRES6.out rfl 28 (.tmp 2) (.tmp 126) rfl rfl rfl (cellsOf y (.slice q6 m6 c6)) rfl Tryz.sz28 rfl (cells_one _ _ _ _) ?_; intro w7 hB7 hg7))
          have hld := load28 hB7 rfl
          rw [HRR.out]
          exact bodyPost_ret (v := LineV (y, true, 0, 0) (.slice q6 m6 c6)) (by simp [results, Tryz.results39, asAddr, hld]; rfl) rfl ⟨_, rfl, HD6.out.grownOther hg7 (.inr HDN.out.symm), HBF6.out.trans (below_grown hg7 (Nat.le_refl _) HBF6.out.size)⟩

end Go.Proofs.YthjbdbmncfbihaaGreatDoor

/- switchyardref04.Line answers what source.Line does, for every line. -/
namespace Go.Proofs.YthjbdbmncfbihaaGreatDoor
open Go.RowKit

theorem nm_last (o : Nat) (h1 : 1 ≤ o) (h2 : o < 17) : labB (nm o).data.toList = false := by
  have : o = 1 ∨ o = 2 ∨ o = 3 ∨ o = 4 ∨ o = 5 ∨ o = 6 ∨ o = 7 ∨ o = 8 ∨ o = 9 ∨ o = 10 ∨ o = 11 ∨ o = 12 ∨ o = 13 ∨ o = 14 ∨ o = 15 ∨ o = 16 := by omega
  rcases this with rfl | rfl | rfl | rfl | rfl | rfl | rfl | rfl | rfl | rfl | rfl | rfl | rfl | rfl | rfl | rfl <;> decide
theorem wd_last (i : Nat) (h : i < 5) : labB (wd i).data.toList = false := by
  have : i = 0 ∨ i = 1 ∨ i = 2 ∨ i = 3 ∨ i = 4 := by omega
  rcases this with rfl | rfl | rfl | rfl | rfl <;> decide
theorem lab_dropLast (f0 : List UInt8) : (bytesOf f0).extract 0 ((bytesOf f0).size - 1) = bytesOf f0.dropLast := by
  rw [extract_piece, bytesOf_list, bytesOf_size]
  unfold piece
  rw [List.drop_zero, Nat.sub_zero, List.dropLast_eq_take]
theorem plO_short (o : Nat) : (plO o).length ≤ 2 := plO_len o

theorem refLine_any (s : ByteArray) (w : World) (hs : (s.size + 1) * 16 ≤ 140737488355328) :
    Calls Tryz.prog 39 #[.string s] w (LineIs (lineL s.data.toList) w) := by
  have hl := Lib.size_eq s
  unfold lineL
  have hc := fields_count s.data.toList
  have hfit := fields_fit s.data.toList
  cases hf : fieldsL s.data.toList with
  | nil => exact refLine_empty s w hs hf
  | cons q fs =>
    obtain ⟨c0, f0⟩ := q
    rw [hf] at hc hfit
    simp only [List.length_cons] at hc
    have h0 := hfit (c0, f0) (by simp)
    simp only at h0 ⊢
    have hf0 : (bytesOf f0).size ≤ 281474976710656 := by rw [bytesOf_size]; omega
    have hfz : ∀ q ∈ fs, (bytesOf q.2).size ≤ 281474976710656 := fun q hq => by
      have := hfit q (List.mem_cons_of_mem _ hq)
      rw [bytesOf_size]; omega
    have hend : ∀ n least r, endL n least s.size r = (match r with | .inl (e, c) => (src0, false, e, c) | .inr y => if n < least then (src0, false, 140, s.data.toList.length + 1) else (y, true, 0, 0)) := fun n least r => by
      rw [← hl]; cases r <;> rfl
    cases hw : wdL f0 with
    | some i =>
      obtain ⟨hi, hb⟩ := wd_of hw
      have hlb : labB f0 = false := by
        have := wd_last i hi
        rw [← hb, bytesOf_list] at this; exact this
      have hfm : formL f0 = some (formW i) := by unfold formL; rw [hw]
      rw [hfm]
      have : i = 0 ∨ i = 1 ∨ i = 2 ∨ i = 3 ∨ i = 4 := by omega
      rcases this with rfl | rfl | rfl | rfl | rfl
      · have := refLine_once s w hs c0 f0 fs hf (by omega) hf0 hfz hlb (srcK 3) [3, 4] (by unfold askL; rw [hw]; rfl) hfm (by decide) (by decide)
        rw [hend] at this; exact this
      · have := refLine_many s w hs c0 f0 fs hf (by omega) hf0 hfz hlb (srcK 4) (by unfold askL; rw [hw]; rfl) hfm
        rw [hend] at this; exact this
      · have := refLine_once s w hs c0 f0 fs hf (by omega) hf0 hfz hlb (srcK 5) [6] (by unfold askL; rw [hw]; rfl) hfm (by decide) (by decide)
        rw [hend] at this; exact this
      · have := refLine_once s w hs c0 f0 fs hf (by omega) hf0 hfz hlb (srcK 6) [7] (by unfold askL; rw [hw]; rfl) hfm (by decide) (by decide)
        rw [hend] at this; exact this
      · have := refLine_once s w hs c0 f0 fs hf (by omega) hf0 hfz hlb (srcK 7) [3] (by unfold askL; rw [hw]; rfl) hfm (by decide) (by decide)
        rw [hend] at this; exact this
    | none =>
      cases ho : opL f0 with
      | some o =>
        obtain ⟨h1, h2, hb⟩ := op_of ho
        have hlb : labB f0 = false := by
          have := nm_last o h1 h2
          rw [← hb, bytesOf_list] at this; exact this
        have hfm : formL f0 = some (formO o) := by unfold formL; rw [hw]; simp only [ho]
        rw [hfm]
        have := refLine_once s w hs c0 f0 fs hf (by omega) hf0 hfz hlb { srcK 2 with o := o } (plO o) (by unfold askL; rw [hw]; simp only [ho]) hfm (plO_lt o) (plO_len o)
        rw [hend] at this; exact this
      | none =>
        have hask : askL f0 = none := by unfold askL; rw [hw]; simp only [ho]
        cases hlb : labB f0 with
        | false =>
          have hfm : formL f0 = none := by
            unfold formL; rw [hw]; simp only [ho]
            rw [if_neg]
            rintro ⟨e1, e2⟩
            unfold labB at hlb
            rw [e2] at hlb
            simp [e1] at hlb
          rw [hfm]
          exact refLine_none s w hs c0 f0 fs hf (by omega) hf0 hlb hask
        | true =>
          have hfm : formL f0 = some ({ srcK 1 with name := bytesOf f0.dropLast }, [], 0) := by
            unfold formL; rw [hw]; simp only [ho]
            unfold labB at hlb
            rw [Bool.and_eq_true, decide_eq_true_eq] at hlb
            rw [if_pos hlb]
          rw [hfm]
          cases fs with
          | nil =>
            have := refLine_label1 s w hs c0 f0 [] hf (by simp) hf0 hlb rfl
            rw [lab_dropLast] at this
            exact this
          | cons q fs =>
            obtain ⟨c1, f1⟩ := q
            exact refLine_label2 s w hs c0 f0 ((c1, f1) :: fs) hf (by simp at hc ⊢; omega) hf0 hlb (by simp) c1 rfl

end Go.Proofs.YthjbdbmncfbihaaGreatDoor
