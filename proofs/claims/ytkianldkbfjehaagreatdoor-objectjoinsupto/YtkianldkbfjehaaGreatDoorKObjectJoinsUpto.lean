/-
  Proved here: the law ObjectJoins (switchyardlaw06) answers true wherever its arguments hold together at most 1048576 values and letters, and each argument reads afterwards as it read before; the card: what the row lists of the library's variables is tied to the program's text. 
-/
import Derived.Test.YtkianldkbfjehaaGreatDoorKzzf
import Derived.Test.YtkianldkbfjehaaGreatDoorKzza
import Derived.Test.YtkianldkbfjehaaGreatDoorKzzc
import Derived.Test.YtkianldkbfjehaaGreatDoorKze
import Derived.Test.YtkianldkbfjehaaGreatDoorKzj
import Derived.Test.YtkianldkbfjehaaGreatDoorCards
import Derived.Test.YtkianldkbfjehaaGreatDoorTie
import Derived.SevenTiedAt

/- switchyardlaw06.ObjectJoins answers true. -/
namespace Go.Proofs.YtkianldkbfjehaaGreatDoor
open Go.RowKit

theorem IOwn.lower {w : World} {B B' : Nat} {v : Value} {L : List (Src × Value)} (h : IOwn w B v L) (hB : B' ≤ B) : IOwn w B' v L :=
  ⟨⟨h.row.1, h.row.2.imp id fun ⟨g, cap, cur, e1, e2, e3⟩ => ⟨g, cap, cur, e1, Nat.le_trans hB e2, e3⟩⟩, fun q hq => (h.dat q hq).lowerV hB⟩
theorem al64_fit : Fit al64 := ⟨by decide, by decide, by decide, by decide, by decide, by decide, by decide, by decide, by decide, by decide, by decide, by decide, fun i => by simp [al64], by decide, by decide, by decide⟩
theorem ob_small {xs : List Src} (h : (makeE xs).1 = 0) : (makeO xs).bs.length ≤ 65536 ∧ (makeO xs).sy.length ≤ 4096 ∧ (makeO xs).fx.length ≤ 4096 ∧ (makeO xs).mk_.length ≤ 4096 := by
  have := make_right h
  unfold okO at this
  simp only [Bool.and_eq_true, decide_eq_true_eq] at this
  exact this.1.1.1

set_option maxRecDepth 20000 in
set_option maxHeartbeats 8000000 in
theorem joins_walk (p q : Option Addr) (n c m d : Nat) (xs ys : List Src) (w : World) (he : Env w) (hn : xs.length = n) (hm : ys.length = m) (hnm : n ≤ 1048576) (hmm : m ≤ 1048576) (hx : Items w p xs) (hy : Items w q ys) :
    Calls Tryz.prog 6 #[.slice p n c, .slice q m d] w fun E w' => E = .returned (.bool true) ∧ Below w.heap.size w w' := by
  have hC := fun W hX => copyItems_any p n c xs W hn (by omega) hX
  have hD := fun W hX => copyItems_any q m d ys W hm (by omega) hX
  obtain ⟨xa, hxa⟩ : ∃ xa, xs ++ [al64] = xa := ⟨_, rfl⟩
  have hla : xa.length = n + 1 := by rw [← hxa, List.length_append, hn]; rfl
  have hfa : ∀ x ∈ xa, Fit x := fun x hx' => by
    rw [← hxa] at hx'
    rcases List.mem_append.1 hx' with h | h
    · exact items_fit hx x h
    · rw [List.mem_singleton] at h; subst h; exact al64_fit
  have hfy : ∀ x ∈ ys, Fit x := items_fit hy
  have hM1 := fun p' c' W hW h1 h2 hX => make_any p' (n + 1) c' xa W hW hla h1 h2 hX
  have hM2 := fun p' c' W hW h1 h2 hX => make_any p' m c' ys W hW hm h1 h2 hX
  have hA := awake_any
  have HE := Hid.in he
  have HX := Hid.in hx
  have HY := Hid.in hy
  have HXA := Hid.in hxa
  have HFA := Hid.in (make_fit hfa)
  have HFB := Hid.in (make_fit hfy)
  have HN := Hid.in hn
  have HM := Hid.in hm
  have HLA := Hid.in hla
  have HFX := Hid.in hfa
  have HFY := Hid.in hfy
  clear he hx hy hxa hn hm hla hfa hfy
  unfold MakeIs at hM1 hM2
  have HSA : Hid ((makeE xa).1 = 0 → (makeO xa).bs.length ≤ 65536 ∧ (makeO xa).sy.length ≤ 4096 ∧ (makeO xa).fx.length ≤ 4096 ∧ (makeO xa).mk_.length ≤ 4096) := fun h => ob_small h
  have HSB : Hid ((makeE ys).1 = 0 → (makeO ys).bs.length ≤ 65536 ∧ (makeO ys).sy.length ≤ 4096 ∧ (makeO ys).fx.length ≤ 4096 ∧ (makeO ys).mk_.length ≤ 4096) := fun h => ob_small h
  obtain ⟨A, hAA⟩ : ∃ A, makeO xa = A := ⟨_, rfl⟩
  obtain ⟨B, hBB⟩ : ∃ B, makeO ys = B := ⟨_, rfl⟩
  obtain ⟨e1, he1⟩ : ∃ e, (makeE xa).1 = e := ⟨_, rfl⟩
  obtain ⟨e2, he2⟩ : ∃ e, (makeE ys).1 = e := ⟨_, rfl⟩
  obtain ⟨f1, hf1⟩ : ∃ e, (makeE xa).2 = e := ⟨_, rfl⟩
  obtain ⟨f2, hf2⟩ : ∃ e, (makeE ys).2 = e := ⟨_, rfl⟩
  rw [hAA, he1, hf1] at hM1
  rw [hBB, he2, hf2] at hM2
  rw [hAA, he1] at HSA
  rw [hBB, he2] at HSB
  rw [hAA] at HFA
  rw [hBB] at HFB
  have HAA := Hid.in hAA
  have HBB := Hid.in hBB
  have HE1 := Hid.in he1
  have HE2 := Hid.in he2
  clear hAA hBB he1 he2 hf1 hf2
  go_enter Tryz.func6, Tryz.ntmps6
  go_upto_region 3 with (first
    | (go_at_call 7; refine (hC _ HX.out).mono ?_; rintro E w1 ⟨v1, L1, rfl, hm1, hi1, hb1⟩; have HI1 := Hid.in hi1; have HB1 := Hid.in hb1; have HM1 := Hid.in hm1; have hl1 : L1.length = n := (by rw [← HN.out, ← hm1, List.length_map]); have HL1 := Hid.in hl1; clear hi1 hb1 hm1 hl1)
    | (at_builtin; refine gpush9 _ rfl _ _ rfl w.heap.size v1 L1 rfl (HI1.out.below (new_alloc w1 _)) w1.heap.size al64 none 0 0 rfl (Blk.new w1 57 _) (GOwnV.nil _ _ _) (by rw [HL1.out]; omega) (by have := HB1.out.size; simp; omega) ?_; intro v2 w2 hI2 hg2 hb2; obtain ⟨p2, c2, hv2, h21, h22, hx2⟩ := hI2.asList (xs := xa) (by rw [List.map_append, HM1.out]; exact HXA.out) HFX.out; rw [HLA.out] at hv2 h21; subst hv2; have h23 : c2 ≤ 9223372036854775807 := max63 h22; have HI2 := Hid.in hI2; have HX2 := Hid.in hx2; have HB2 := Hid.in (hb2 w (below_alloc HB1.out _)); clear hI2 hg2 hb2 hx2 h22)
    | (go_at_call 8; refine (hM1 _ _ _ (HE.out.below HB2.out) h21 h23 HX2.out).mono ?_; rintro E w3 ⟨⟨vb, vs, vf, vm, rfl, hO3⟩, hb3⟩; obtain ⟨pb, ps, pf, pm, cb, cs, cf, cm, ⟨hv1, hv2, hv3, hv4⟩, -⟩ := hO3.inn HFA.out; subst hv1 hv2 hv3 hv4; have HO3 := Hid.in (hO3.lower HB2.out.size); have HB3 := Hid.in (below_step HB2.out hb3); have HI3 := Hid.in (HI2.out.below hb3); clear hO3 hb3))
  have HK4 := Hid.in (Blk.new w3 29 (obA pb ps pf pm A.bs.length cb A.sy.length cs A.fx.length cf A.mk_.length cm))
  have HO4 := Hid.in (HO3.out.below (new_alloc w3 (.cells (obA pb ps pf pm A.bs.length cb A.sy.length cs A.fx.length cf A.mk_.length cm) 29)))
  have HI4 := Hid.in (HI3.out.below (new_alloc w3 (.cells (obA pb ps pf pm A.bs.length cb A.sy.length cs A.fx.length cf A.mk_.length cm) 29)))
  have HB4 := Hid.in (below_alloc HB3.out (.cells (obA pb ps pf pm A.bs.length cb A.sy.length cs A.fx.length cf A.mk_.length cm) 29))
  generalize w3.alloc (.cells (obA pb ps pf pm A.bs.length cb A.sy.length cs A.fx.length cf A.mk_.length cm) 29) = w4 at *
  generalize w3.heap.size = ga at *
  clear HI1 HB1 HX2 HB2 HO3 HB3 HI3 hC hM1 HX HI2 h21 h23
  have HY4 := Hid.in (HY.out.below HB4.out)
  go_upto_region 4 with (first
    | (go_at_call 7; refine (hD _ HY4.out).mono ?_; rintro E w5 ⟨v5, L5, rfl, hm5, hi5, hb5⟩; obtain ⟨p5, c5, hv5, h51, h52, hx5⟩ := hi5.asList hm5 HFY.out; rw [HM.out] at hv5 h51; subst hv5; have h53 : c5 ≤ 9223372036854775807 := max63 h52; have HX5 := Hid.in hx5; have HC5 := Hid.in hb5; have HB5 := Hid.in (below_step HB4.out hb5); clear hi5 hb5 hm5 hx5 h52)
    | (go_at_call 8; refine (hM2 _ _ _ (HE.out.below HB5.out) h51 h53 HX5.out).mono ?_; rintro E w6 ⟨⟨vb, vs, vf, vm, rfl, hO6⟩, hb6⟩; obtain ⟨qb, qs, qf, qm, db, ds, df, dm, ⟨hv1, hv2, hv3, hv4⟩, -⟩ := hO6.inn HFB.out; subst hv1 hv2 hv3 hv4; have HO6 := Hid.in (hO6.lower HB5.out.size); have HC6 := Hid.in (below_step HC5.out hb6); have HB6 := Hid.in (below_step HB5.out hb6); clear hO6 hb6))
  have HKB := Hid.in (Blk.new w6 29 (obA qb qs qf qm B.bs.length db B.sy.length ds B.fx.length df B.mk_.length dm))
  have HN7 := Hid.in (new_alloc w6 (.cells (obA qb qs qf qm B.bs.length db B.sy.length ds B.fx.length df B.mk_.length dm) 29))
  have HC7 := Hid.in (below_step HC6.out HN7.out)
  have HB7 := Hid.in (below_step HB6.out HN7.out)
  have HOB := Hid.in (HO6.out.below HN7.out)
  generalize w6.alloc (.cells (obA qb qs qf qm B.bs.length db B.sy.length ds B.fx.length df B.mk_.length dm) 29) = w7 at *
  generalize w6.heap.size = gb at *
  have HKA := Hid.in (HK4.out.grow HC7.out)
  have HOA := Hid.in (HO4.out.below HC7.out)
  have HI7 := Hid.in (HI4.out.below HC7.out)
  clear HK4 HO4 HI4 HB4 HY4 HX5 HC5 HB5 HO6 HC6 HB6 HN7 HC7 h51 h53 hM2
  have a0 : w7.cell? ⟨ga, 0, none⟩ = some (.slice pb A.bs.length cb) := HKA.out.cell 0
  have b0 : w7.cell? ⟨gb, 0, none⟩ = some (.slice qb B.bs.length db) := HKB.out.cell 0
  have hla1 : A.bs.length ≤ 9223372036854775807 := by obtain ⟨p', c', e, -, k1, k2⟩ := HOA.out.b.slice2; exact Nat.le_trans k1 (max63 k2)
  have hlb1 : B.bs.length ≤ 9223372036854775807 := by obtain ⟨p', c', e, -, k1, k2⟩ := HOB.out.b.slice2; exact Nat.le_trans k1 (max63 k2)
  by_cases h1 : e1 = 0
  · subst h1
    by_cases h2 : e2 = 0
    · subst h2
      obtain ⟨sa1, sa2, sa3, sa4⟩ := HSA.out rfl
      obtain ⟨sb1, sb2, sb3, sb4⟩ := HSB.out rfl
      by_cases h3 : n + 1 + m ≤ 4096
      · by_cases h4 : A.bs.length + B.bs.length ≤ 65536
        · skip
          have a1 : w7.cell? ⟨ga, 1, none⟩ = some (.slice ps A.sy.length cs) := HKA.out.cell 1
          have b1 : w7.cell? ⟨gb, 1, none⟩ = some (.slice qs B.sy.length ds) := HKB.out.cell 1
          have HRA : Hid (Row3 w7 ps (A.sy.map syV)) := HOA.out.s.rowAt
          have HRB : Hid (Row3 w7 qs (B.sy.map syV)) := HOB.out.s.rowAt
          go_wp2_with fail
          go_loopw [11] (fun vi wr => ∃ i z : Nat, vi = .int .i64 i ∧ i ≤ A.sy.length ∧ ApartN A.sy B.sy i ∧ wr = w7.drewN z) (fun vi _ => A.sy.length - (intOf vi).toNat)
          case atStart => exact ⟨0, 0, rfl, Nat.zero_le _, fun _ _ _ _ h => absurd h (Nat.not_lt_zero _), rfl⟩
          case round =>
            obtain ⟨i, z, rfl, hi, hap, rfl⟩ := hrel
            have HAP := Hid.in hap
            clear hap
            by_cases hlt : i < A.sy.length
            · go_wp2_with fail
              go_loopw [12] (fun vk wr => ∃ k z : Nat, vk = .int .i64 k ∧ k ≤ B.sy.length ∧ ApartK A.sy[i].name B.sy k ∧ wr = w7.drewN z) (fun vk _ => B.sy.length - (intOf vk).toNat)
              case atStart => exact ⟨0, z, rfl, Nat.zero_le _, fun _ _ h => absurd h (Nat.not_lt_zero _), rfl⟩
              case round =>
                obtain ⟨k, z2, rfl, hk, hak, rfl⟩ := hrel
                have HAK := Hid.in hak
                clear hak
                by_cases hlk : k < B.sy.length
                · obtain ⟨ba, oa, hpa, hca⟩ := HRA.out (by rw [List.length_map]; omega)
                  obtain ⟨bb, ob, hpb, hcb⟩ := HRB.out (by rw [List.length_map]; omega)
                  obtain ⟨c0, -, -⟩ := cells3 hca i (by rw [List.length_map]; exact hlt)
                  obtain ⟨d0, -, -⟩ := cells3 hcb k (by rw [List.length_map]; exact hlk)
                  simp only [List.getElem_map, syV] at c0 d0
                  have HNX := Hid.in (fun e => HAK.out.step hlk e)
                  rw [hpa] at a1
                  rw [hpb] at b1
                  clear hca hcb hpa hpb
                  generalize A.sy[i].name = na at *
                  generalize B.sy[k].name = nb at *
                  by_cases he : na = nb
                  · subst he
                    have HBx := Hid.in (fun q => below_draws HB7.out q)
                    go_upto_region 12 with fail
                    go_quiet (fail)
                    go_wp2_with (go_at_call 12; refine (hA _ (HE.out.below (HBx.out _))).mono ?_; rintro E w8 ⟨rfl, hb8⟩; have HB8 := Hid.in (below_step (HBx.out _) hb8); clear hb8)
                    go_ret
                    exact ⟨rfl, HB8.out⟩
                  · have hsl := text_ne3 he
                    have hsb : (na.toList == nb.toList) = false := by simpa using hsl
                    have hsd : decide (na.toList = nb.toList) = false := decide_eq_false hsl
                    clear hA
                    go_upto_region 12 with fail
                    go_quiet (fail)
                    go_wp2_with fail
                    go_roundw
                    case rel => exact ⟨k + 1, z2 + nq, by go_num, by omega, HNX.out he, by simp⟩
                    case measure => simp [intOf]; omega
                · obtain rfl : k = B.sy.length := by omega
                  go_wp2_with fail
                  go_roundw
                  case rel => exact ⟨i + 1, z2, by go_num, by omega, HAP.out.step hlt HAK.out, rfl⟩
                  case measure => simp [intOf]; omega
            · obtain rfl : i = A.sy.length := by omega
              have hla := HLA.out
              have hmy := HM.out
              obtain ⟨hj1, hj2⟩ := joined HAA.out HBB.out HE1.out HE2.out (by rw [← HXA.out]; exact align_mult al64_good rfl rfl) hla hmy h3 h4 HAP.out
              have hM3 := fun p' c' W hW h1 h2 hX => make_any p' (n + 1 + m) c' (xa ++ ys) W hW (by rw [List.length_append, hla, hmy]) h1 h2 hX
              unfold MakeIs at hM3
              rw [hj1, hj2] at hM3
              have HFJ : Hid (ObF (joinO A B)) := by
                have := make_fit (xs := xa ++ ys) (fun x hx => by
                  rcases List.mem_append.1 hx with h | h
                  · exact HFX.out x h
                  · exact HFY.out x h)
                rw [hj2] at this
                exact this
              clear hj1 hj2 hla hmy a0 b0 a1 b1
              obtain ⟨J, hJ⟩ : ∃ J, joinO A B = J := ⟨_, rfl⟩
              rw [hJ] at hM3 HFJ
              have HJ := Hid.in hJ
              clear hJ HRA HRB
              have HK8 := Hid.in (HKA.out.grow (below_draws (below_self w7) z))
              have HKB8 := Hid.in (HKB.out.grow (below_draws (below_self w7) z))
              have HOA8 := Hid.in (HOA.out.below (below_draws (below_self w7) z))
              have HOB8 := Hid.in (HOB.out.below (below_draws (below_self w7) z))
              have HI8 := Hid.in (HI7.out.below (below_draws (below_self w7) z))
              have HB8 := Hid.in (below_draws HB7.out z)
              clear HKA HKB HOA HOB HI7 HB7
              generalize w7.drewN z = w8 at *
              have HY8 := Hid.in (HY.out.below HB8.out)
              have a1 : w8.cell? ⟨ga, 1, none⟩ = some (.slice ps A.sy.length cs) := HK8.out.cell 1
              have HMAP : Hid ((L1 ++ [(al64, Value.slice none 0 0)]).map Prod.fst = xa) := by
                show (L1 ++ [(al64, Value.slice none 0 0)]).map Prod.fst = xa
                rw [List.map_append, HM1.out]; exact HXA.out
              go_upto_region 15 with (first
                | (go_at_call 7; refine (hD _ HY8.out).mono ?_; rintro E w9 ⟨v9, L9, rfl, hm9, hi9, hb9⟩; have hl9 : L9.length = m := (by rw [← HM.out, ← hm9, List.length_map]); have HL9 := Hid.in hl9; have HM9 := Hid.in hm9; have HI9 := Hid.in (hi9.lower HB8.out.size); have HIL := Hid.in (HI8.out.below hb9); have HK9 := Hid.in (HK8.out.grow hb9); have HKB9 := Hid.in (HKB8.out.grow hb9); have HOA9 := Hid.in (HOA8.out.below hb9); have HOB9 := Hid.in (HOB8.out.below hb9); have HB9 := Hid.in (below_step HB8.out hb9); clear hi9 hb9 hm9 hl9)
                | (at_builtin; refine gappend9 _ rfl _ _ rfl w.heap.size (.slice p2 (n + 1) c2) v9 (L1 ++ [(al64, .slice none 0 0)]) L9 rfl rfl HIL.out HI9.out (by rw [List.length_append, HL1.out, HL9.out]; show n + 1 + m ≤ _; omega) HB9.out.size ?_; intro v10 w10 hI10 hg10 hb10; obtain ⟨p10, c10, hv10, h101, h102, hx10⟩ := hI10.asList (xs := xa ++ ys) (by rw [List.map_append, HMAP.out, HM9.out]) (fun x hx => (List.mem_append.1 hx).elim (HFX.out x) (HFY.out x)); rw [List.length_append, HLA.out, HM.out] at hv10 h101; subst hv10; have h103 : c10 ≤ 9223372036854775807 := max63 h102; have HX10 := Hid.in hx10; have HB10 := Hid.in (hb10 w HB9.out); have HOA10 := Hid.in (HOA9.out.kept9 HIL.out hg10); have HOB10 := Hid.in (HOB9.out.kept9 HIL.out hg10); have HK10 := Hid.in (HK9.out.kept hg10 (blk_not_row HIL.out.row HK9.out (by decide))); have HKB10 := Hid.in (HKB9.out.kept hg10 (blk_not_row HIL.out.row HKB9.out (by decide))); clear hI10 hg10 hb10 hx10 h102)
                | (go_at_call 8; refine (hM3 _ _ _ (HE.out.below HB10.out) h101 h103 HX10.out).mono ?_; rintro E w11 ⟨⟨vb, vs, vf, vm, rfl, hO11⟩, hb11⟩; obtain ⟨tb, ts, tf, tm, ub, us, uf, um, ⟨hv1, hv2, hv3, hv4⟩, -⟩ := hO11.inn HFJ.out; subst hv1 hv2 hv3 hv4; have HOJ11 := Hid.in hO11; have HOA11 := Hid.in (HOA10.out.below hb11); have HOB11 := Hid.in (HOB10.out.below hb11); have HK11 := Hid.in (HK10.out.grow hb11); have HKB11 := Hid.in (HKB10.out.grow hb11); have HB11 := Hid.in (below_step HB10.out hb11); clear hO11 hb11))
              have HN12 := Hid.in (new_alloc w11 (.cells (obA tb ts tf tm J.bs.length ub J.sy.length us J.fx.length uf J.mk_.length um) 29))
              have HKJ := Hid.in (Blk.new w11 29 (obA tb ts tf tm J.bs.length ub J.sy.length us J.fx.length uf J.mk_.length um))
              generalize w11.alloc (.cells (obA tb ts tf tm J.bs.length ub J.sy.length us J.fx.length uf J.mk_.length um) 29) = w12 at *
              have HOJ := Hid.in (HOJ11.out.below HN12.out)
              have HOA := Hid.in (HOA11.out.below HN12.out)
              have HOB := Hid.in (HOB11.out.below HN12.out)
              have HKA := Hid.in (HK11.out.grow HN12.out)
              have HKB := Hid.in (HKB11.out.grow HN12.out)
              have HB12 := Hid.in (below_step HB11.out HN12.out)
              generalize w11.heap.size = gj at *
              clear HK8 HKB8 HOA8 HOB8 HI8 HB8 HY8 HL9 HM9 HI9 HIL HK9 HKB9 HOA9 HOB9 HB9 HX10 HB10 HOA10 HOB10 HK10 HKB10 HOJ11 HOA11 HOB11 HK11 HKB11 HB11 HN12 h101 h103 hM3 hD HY HFX HFY a1
              have a0 : w12.cell? ⟨ga, 0, none⟩ = some (.slice pb A.bs.length cb) := HKA.out.cell 0
              have a1 : w12.cell? ⟨ga, 1, none⟩ = some (.slice ps A.sy.length cs) := HKA.out.cell 1
              have a2 : w12.cell? ⟨ga, 2, none⟩ = some (.slice pf A.fx.length cf) := HKA.out.cell 2
              have a3 : w12.cell? ⟨ga, 3, none⟩ = some (.slice pm A.mk_.length cm) := HKA.out.cell 3
              have hCO := copyObject_any A pb ps pf pm A.bs.length cb A.sy.length cs A.fx.length cf A.mk_.length cm w12 (HOA.out.innAt HFA.out) (by omega) (by omega) (by omega) (by omega)
              go_upto_region 17 with (go_at_call 13; refine hCO.mono ?_; rintro E w13 ⟨⟨vb, vs, vf, vm, rfl, hO13⟩, hb13⟩; obtain ⟨rb, rs, rf, rm, kb, ks, kf, km, ⟨hv1, hv2, hv3, hv4⟩, -⟩ := hO13.inn HFA.out; subst hv1 hv2 hv3 hv4; have HO13 := Hid.in hO13; have HB13 := Hid.in hb13; clear hO13 hb13)
              have HW14 : Hid (WantAt (w13.alloc (.cells (obA rb rs rf rm A.bs.length kb A.sy.length ks A.fx.length kf A.mk_.length km) 29)) w12.heap.size w13.heap.size A (.slice rb A.bs.length kb) (.slice rs A.sy.length ks) (.slice rf A.fx.length kf) (.slice rm A.mk_.length km)) := ⟨Blk.new w13 29 _, HO13.out.below (new_alloc w13 _), HB13.out.size⟩
              have HB14 : Hid (Below w12.heap.size w12 (w13.alloc (.cells (obA rb rs rf rm A.bs.length kb A.sy.length ks A.fx.length kf A.mk_.length km) 29))) := below_alloc HB13.out _
              generalize w13.alloc (.cells (obA rb rs rf rm A.bs.length kb A.sy.length ks A.fx.length kf A.mk_.length km) 29) = w14 at *
              generalize w13.heap.size = gw at *
              clear HO13 HB13 hCO a0 a1 a2 a3
              have g0 : w14.cell? ⟨gw, 0, none⟩ = some (.slice rb A.bs.length kb) := HW14.out.box.cell 0
              have b0 : w14.cell? ⟨gb, 0, none⟩ = some (.slice qb B.bs.length db) := (HKB.out.below HB14.out HKB.out.lt).cell 0
              have HRB := Hid.in (HOB.out.b.rowAt)
              go_upto_region 18 with (at_builtin; refine wp_push_row_g _ rfl _ _ rfl w12.heap.size (.slice rb A.bs.length kb) A.bs rfl HW14.out.own.b qb B.bs.length db B.bs rfl rfl (HRB.out.1.below HB14.out) HRB.out.2 (by omega) HB14.out.size ?_; intro v15 w15 ho15 hg15 hb15; obtain ⟨p15, n15, c15, hv15⟩ := ho15.isSlice; subst hv15; have HK15 := Hid.in (HW14.out.box.kept hg15 (blk_not_row HW14.out.own.b HW14.out.box (by decide))); have x0 : w15.cell? ⟨gw, 0, none⟩ = some (.slice rb A.bs.length kb) := HK15.out.cell 0; have z0 := HK15.out.free 0; have HB15 := Hid.in (hb15 w12 HB14.out); have HW15 := Hid.in (HW14.out.setB ho15 hg15); clear ho15 hg15 hb15)
              have HB16 := Hid.in (below_set HB15.out gw 0 (.slice p15 n15 c15) HW14.out.low HB15.out.size)
              generalize w15.setCell ⟨gw, 0, none⟩ (.slice p15 n15 c15) = w16 at *
              clear HK15 x0 z0 HB15 HB14 g0 b0
              have HLOW : Hid (w12.heap.size ≤ gw) := HW14.out.low
              clear HW14
              have HOKB : Hid ((∀ s ∈ B.sy, 0 ≤ s.at_ ∧ s.at_ ≤ 65536) ∧ (∀ s ∈ B.fx, 0 ≤ s.at_ ∧ s.at_ ≤ 65536) ∧ ∀ s ∈ B.mk_, 0 ≤ s.at_ ∧ s.at_ ≤ 65536) := by
                have := make_right HE2.out
                rw [HBB.out] at this
                exact ok_bound this
              have HW16 := HW15
              clear HW15
              have HR1 := Hid.in (HOB.out.s.rowAt)
              have HR2 := Hid.in (HOB.out.f.rowAt)
              have HR3 := Hid.in (HOB.out.m.rowAt)
              have b1 : w16.cell? ⟨gb, 1, none⟩ = some (.slice qs B.sy.length ds) := (HKB.out.below HB16.out HKB.out.lt).cell 1
              go_wp2_with fail
              clear b1
              go_loopw [118] (fun vi wr => ∃ (k : Nat) (vb vs vf vm : Value), vi = .int .i64 k ∧ k ≤ B.sy.length ∧ WantAt wr w12.heap.size gw ⟨A.bs ++ B.bs, A.sy ++ (B.sy.take k).map (onS A.bs.length), A.fx, A.mk_⟩ vb vs vf vm ∧ Below w12.heap.size w12 wr) (fun vi _ => B.sy.length - (intOf vi).toNat)
              case atStart => exact ⟨0, _, _, _, _, rfl, Nat.zero_le _, by simpa using HW16.out, HB16.out⟩
              case round =>
                clear HW16 HB16
                obtain ⟨k, vb, vs, vf, vm, rfl, hk, hW, hB⟩ := hrel
                have HW := Hid.in hW
                have HB := Hid.in hB
                clear hW hB
                obtain ⟨pv, nv, cv, hvv⟩ := HW.out.own.s.isSlice
                subst hvv
                by_cases hlk : k < B.sy.length
                · obtain ⟨bb, ob, hpb, hcb⟩ := (HR1.out.below HB.out) (by rw [List.length_map]; omega)
                  subst hpb
                  obtain ⟨c0, c1, c2⟩ := cells3 hcb k (by rw [List.length_map]; exact hlk)
                  simp only [List.getElem_map, syV] at c0 c1 c2
                  obtain ⟨hs0, hs1⟩ := HOKB.out.1 B.sy[k] (List.getElem_mem hlk)
                  have HTK := Hid.in (take_on (onS A.bs.length) syV A.sy B.sy k hlk)
                  have hln : (A.sy ++ (B.sy.take k).map (onS A.bs.length)).length ≤ 1048576 := by rw [List.length_append, List.length_map, List.length_take]; omega
                  clear hcb
                  generalize B.sy[k] = s at *
                  obtain ⟨sn, sa, sg⟩ := s
                  simp only at c0 c1 c2 hs0 hs1
                  go_upto_region 21 with fail
                  have HS1 := Hid.in (Blk.new wr 36 #[.string sn, .int .i64 sa, .bool sg])
                  have HC1 := Hid.in (new_alloc wr (.cells #[.string sn, .int .i64 sa, .bool sg] 36))
                  generalize wr.alloc (.cells #[.string sn, .int .i64 sa, .bool sg] 36) = w1 at *
                  have s1 : w1.cell? ⟨wr.heap.size, 1, none⟩ = some (.int .i64 sa) := HS1.out.cell 1
                  have f1 := HS1.out.free 1
                  clear c0 c1 c2
                  go_upto_region 22 with fail
                  have HS2 : Hid (Blk (w1.setCell ⟨wr.heap.size, 1, none⟩ (.int .i64 (sa + (A.bs.length : Nat)))) wr.heap.size 36 #[.string sn, .int .i64 (sa + (A.bs.length : Nat)), .bool sg]) := HS1.out.set 1 (.int .i64 (sa + (A.bs.length : Nat)))
                  have HC2 := Hid.in (below_set HC1.out wr.heap.size 1 (.int .i64 (sa + (A.bs.length : Nat))) (Nat.le_refl _) HC1.out.size)
                  generalize w1.setCell ⟨wr.heap.size, 1, none⟩ (.int .i64 (sa + (A.bs.length : Nat))) = w2 at *
                  have HW2 := Hid.in (HW.out.grow HC2.out)
                  have HB2 := Hid.in (below_step HB.out HC2.out)
                  clear HS1 HC1 s1 f1 HW
                  have t0 : w2.cell? ⟨wr.heap.size, 0, none⟩ = some (.string sn) := HS2.out.cell 0
                  have t1 : w2.cell? ⟨wr.heap.size, 1, none⟩ = some (.int .i64 (sa + (A.bs.length : Nat))) := HS2.out.cell 1
                  have t2 : w2.cell? ⟨wr.heap.size, 2, none⟩ = some (.bool sg) := HS2.out.cell 2
                  have g1 : w2.cell? ⟨gw, 1, none⟩ = some (.slice pv nv cv) := HW2.out.box.cell 1
                  generalize wr.heap.size = gs at *
                  go_wp2_with (at_builtin; refine tpush Tryz.elemSym _ rfl _ _ rfl w12.heap.size (.slice pv nv cv) ((A.sy ++ (B.sy.take k).map (onS A.bs.length)).map syV) rfl (HW2.out.own.s.alloc _) ⟨w2.heap.size, 0, none⟩ 1 (.string sn, .int .i64 (sa + (A.bs.length : Nat)), .bool sg) ⟨rfl, rfl, rfl⟩ rfl (news3 w2 (.string sn, .int .i64 (sa + (A.bs.length : Nat)), .bool sg) 36) (by rw [List.length_map]; exact hln) (by decide) (by have := HB2.out.size; simp; omega) ?_; intro v4 w4 ho4 hg4 hb4; obtain ⟨p4, n4, c4, hv4⟩ := ho4.isSlice; subst hv4; have ho4' : TOwn 36 w4 w12.heap.size (.slice p4 n4 c4) ((A.sy ++ (B.sy.take (k + 1)).map (onS A.bs.length)).map syV) := (by rw [← HTK.out]; exact ho4); have HW3 := Hid.in (HW2.out.grow (new_alloc w2 (.cells #[.string sn, .int .i64 (sa + (A.bs.length : Nat)), .bool sg] 36))); have HK4 := Hid.in (HW3.out.box.kept hg4 (blk_not_row HW3.out.own.s HW3.out.box (by decide))); have x1 : w4.cell? ⟨gw, 1, none⟩ = some (.slice pv nv cv) := HK4.out.cell 1; have z1 := HK4.out.free 1; have HB4 := Hid.in (hb4 w12 (below_alloc HB2.out _)); have HW4 := Hid.in (HW3.out.setS ho4' hg4); clear ho4 ho4' hg4 hb4)
                  have HB5 := Hid.in (below_set HB4.out gw 1 (.slice p4 n4 c4) HLOW.out HB4.out.size)
                  generalize w4.setCell ⟨gw, 1, none⟩ (.slice p4 n4 c4) = w5 at *
                  go_roundw
                  case rel => exact ⟨k + 1, _, _, _, _, by go_num, by omega, HW4.out, HB5.out⟩
                  case measure => simp [intOf]; omega
                · obtain rfl : k = B.sy.length := by omega
                  have HW17 := HW
                  have HB17 := HB
                  rw [List.take_of_length_le (Nat.le_refl _)] at HW17
                  clear HW HB
                  have b2 : wr.cell? ⟨gb, 2, none⟩ = some (.slice qf B.fx.length df) := (HKB.out.below HB17.out HKB.out.lt).cell 2
                  go_wp2_with fail
                  clear b2
                  go_loopw [137] (fun vi wr => ∃ (k : Nat) (vb vs vf vm : Value), vi = .int .i64 k ∧ k ≤ B.fx.length ∧ WantAt wr w12.heap.size gw ⟨A.bs ++ B.bs, A.sy ++ B.sy.map (onS A.bs.length), A.fx ++ (B.fx.take k).map (onF A.bs.length), A.mk_⟩ vb vs vf vm ∧ Below w12.heap.size w12 wr) (fun vi _ => B.fx.length - (intOf vi).toNat)
                  case atStart => exact ⟨0, _, _, _, _, rfl, Nat.zero_le _, by simpa using HW17.out, HB17.out⟩
                  case round =>
                    clear HW17 HB17
                    obtain ⟨k, vb, vs, vf, vm, rfl, hk, hW, hB⟩ := hrel
                    have HW := Hid.in hW
                    have HB := Hid.in hB
                    clear hW hB
                    obtain ⟨pv, nv, cv, hvv⟩ := HW.out.own.f.isSlice
                    subst hvv
                    by_cases hlk : k < B.fx.length
                    · obtain ⟨bb, ob, hpb, hcb⟩ := (HR2.out.below HB.out) (by rw [List.length_map]; omega)
                      subst hpb
                      obtain ⟨c0, c1, c2⟩ := cells3 hcb k (by rw [List.length_map]; exact hlk)
                      simp only [List.getElem_map, fxV] at c0 c1 c2
                      obtain ⟨hs0, hs1⟩ := HOKB.out.2.1 B.fx[k] (List.getElem_mem hlk)
                      have HTK := Hid.in (take_on (onF A.bs.length) fxV A.fx B.fx k hlk)
                      have hln : (A.fx ++ (B.fx.take k).map (onF A.bs.length)).length ≤ 1048576 := by rw [List.length_append, List.length_map, List.length_take]; omega
                      clear hcb
                      generalize B.fx[k] = s at *
                      obtain ⟨sk, sa, sn⟩ := s
                      simp only at c0 c1 c2 hs0 hs1
                      go_upto_region 27 with fail
                      have HS1 := Hid.in (Blk.new wr 39 #[.int .u8 sk, .int .i64 sa, .string sn])
                      have HC1 := Hid.in (new_alloc wr (.cells #[.int .u8 sk, .int .i64 sa, .string sn] 39))
                      generalize wr.alloc (.cells #[.int .u8 sk, .int .i64 sa, .string sn] 39) = w1 at *
                      have s1 : w1.cell? ⟨wr.heap.size, 1, none⟩ = some (.int .i64 sa) := HS1.out.cell 1
                      have f1 := HS1.out.free 1
                      clear c0 c1 c2
                      go_upto_region 28 with fail
                      have HS2 : Hid (Blk (w1.setCell ⟨wr.heap.size, 1, none⟩ (.int .i64 (sa + (A.bs.length : Nat)))) wr.heap.size 39 #[.int .u8 sk, .int .i64 (sa + (A.bs.length : Nat)), .string sn]) := HS1.out.set 1 (.int .i64 (sa + (A.bs.length : Nat)))
                      have HC2 := Hid.in (below_set HC1.out wr.heap.size 1 (.int .i64 (sa + (A.bs.length : Nat))) (Nat.le_refl _) HC1.out.size)
                      generalize w1.setCell ⟨wr.heap.size, 1, none⟩ (.int .i64 (sa + (A.bs.length : Nat))) = w2 at *
                      have HW2 := Hid.in (HW.out.grow HC2.out)
                      have HB2 := Hid.in (below_step HB.out HC2.out)
                      clear HS1 HC1 s1 f1 HW
                      have t0 : w2.cell? ⟨wr.heap.size, 0, none⟩ = some (.int .u8 sk) := HS2.out.cell 0
                      have t1 : w2.cell? ⟨wr.heap.size, 1, none⟩ = some (.int .i64 (sa + (A.bs.length : Nat))) := HS2.out.cell 1
                      have t2 : w2.cell? ⟨wr.heap.size, 2, none⟩ = some (.string sn) := HS2.out.cell 2
                      have g1 : w2.cell? ⟨gw, 2, none⟩ = some (.slice pv nv cv) := HW2.out.box.cell 2
                      generalize wr.heap.size = gs at *
                      go_wp2_with (at_builtin; refine tpush Tryz.elemFix _ rfl _ _ rfl w12.heap.size (.slice pv nv cv) ((A.fx ++ (B.fx.take k).map (onF A.bs.length)).map fxV) rfl (HW2.out.own.f.alloc _) ⟨w2.heap.size, 0, none⟩ 1 (.int .u8 sk, .int .i64 (sa + (A.bs.length : Nat)), .string sn) ⟨rfl, rfl, rfl⟩ rfl (news3 w2 (.int .u8 sk, .int .i64 (sa + (A.bs.length : Nat)), .string sn) 39) (by rw [List.length_map]; exact hln) (by decide) (by have := HB2.out.size; simp; omega) ?_; intro v4 w4 ho4 hg4 hb4; obtain ⟨p4, n4, c4, hv4⟩ := ho4.isSlice; subst hv4; have ho4' : TOwn 39 w4 w12.heap.size (.slice p4 n4 c4) ((A.fx ++ (B.fx.take (k + 1)).map (onF A.bs.length)).map fxV) := (by rw [← HTK.out]; exact ho4); have HW3 := Hid.in (HW2.out.grow (new_alloc w2 (.cells #[.int .u8 sk, .int .i64 (sa + (A.bs.length : Nat)), .string sn] 39))); have HK4 := Hid.in (HW3.out.box.kept hg4 (blk_not_row HW3.out.own.f HW3.out.box (by decide))); have x1 : w4.cell? ⟨gw, 2, none⟩ = some (.slice pv nv cv) := HK4.out.cell 2; have z1 := HK4.out.free 2; have HB4 := Hid.in (hb4 w12 (below_alloc HB2.out _)); have HW4 := Hid.in (HW3.out.setF ho4' hg4); clear ho4 ho4' hg4 hb4)
                      have HB5 := Hid.in (below_set HB4.out gw 2 (.slice p4 n4 c4) HLOW.out HB4.out.size)
                      generalize w4.setCell ⟨gw, 2, none⟩ (.slice p4 n4 c4) = w5 at *
                      go_roundw
                      case rel => exact ⟨k + 1, _, _, _, _, by go_num, by omega, HW4.out, HB5.out⟩
                      case measure => simp [intOf]; omega
                    · obtain rfl : k = B.fx.length := by omega
                      have HW18 := HW
                      have HB18 := HB
                      rw [List.take_of_length_le (Nat.le_refl _)] at HW18
                      clear HW HB
                      have b3 : wr.cell? ⟨gb, 3, none⟩ = some (.slice qm B.mk_.length dm) := (HKB.out.below HB18.out HKB.out.lt).cell 3
                      go_wp2_with fail
                      clear b3
                      go_loopw [156] (fun vi wr => ∃ (k : Nat) (vb vs vf vm : Value), vi = .int .i64 k ∧ k ≤ B.mk_.length ∧ WantAt wr w12.heap.size gw ⟨A.bs ++ B.bs, A.sy ++ B.sy.map (onS A.bs.length), A.fx ++ B.fx.map (onF A.bs.length), A.mk_ ++ (B.mk_.take k).map (onM A.bs.length)⟩ vb vs vf vm ∧ Below w12.heap.size w12 wr) (fun vi _ => B.mk_.length - (intOf vi).toNat)
                      case atStart => exact ⟨0, _, _, _, _, rfl, Nat.zero_le _, by simpa using HW18.out, HB18.out⟩
                      case round =>
                        clear HW18 HB18
                        obtain ⟨k, vb, vs, vf, vm, rfl, hk, hW, hB⟩ := hrel
                        have HW := Hid.in hW
                        have HB := Hid.in hB
                        clear hW hB
                        obtain ⟨pv, nv, cv, hvv⟩ := HW.out.own.m.isSlice
                        subst hvv
                        by_cases hlk : k < B.mk_.length
                        · obtain ⟨bb, ob, hpb, hcb⟩ := (HR3.out.below HB.out) (by rw [List.length_map]; omega)
                          subst hpb
                          obtain ⟨c0, c1, c2⟩ := cells3 hcb k (by rw [List.length_map]; exact hlk)
                          simp only [List.getElem_map, mkV] at c0 c1 c2
                          obtain ⟨hs0, hs1⟩ := HOKB.out.2.2 B.mk_[k] (List.getElem_mem hlk)
                          have HTK := Hid.in (take_on (onM A.bs.length) mkV A.mk_ B.mk_ k hlk)
                          have hln : (A.mk_ ++ (B.mk_.take k).map (onM A.bs.length)).length ≤ 1048576 := by rw [List.length_append, List.length_map, List.length_take]; omega
                          clear hcb
                          generalize B.mk_[k] = s at *
                          obtain ⟨sa, sk, st⟩ := s
                          simp only at c0 c1 c2 hs0 hs1
                          go_upto_region 33 with fail
                          have HS1 := Hid.in (Blk.new wr 41 #[.int .i64 sa, .string sk, .string st])
                          have HC1 := Hid.in (new_alloc wr (.cells #[.int .i64 sa, .string sk, .string st] 41))
                          generalize wr.alloc (.cells #[.int .i64 sa, .string sk, .string st] 41) = w1 at *
                          have s0 : w1.cell? ⟨wr.heap.size, 0, none⟩ = some (.int .i64 sa) := HS1.out.cell 0
                          have f0 := HS1.out.free 0
                          clear c0 c1 c2
                          go_upto_region 34 with fail
                          have HS2 : Hid (Blk (w1.setCell ⟨wr.heap.size, 0, none⟩ (.int .i64 (sa + (A.bs.length : Nat)))) wr.heap.size 41 #[.int .i64 (sa + (A.bs.length : Nat)), .string sk, .string st]) := HS1.out.set 0 (.int .i64 (sa + (A.bs.length : Nat)))
                          have HC2 := Hid.in (below_set HC1.out wr.heap.size 0 (.int .i64 (sa + (A.bs.length : Nat))) (Nat.le_refl _) HC1.out.size)
                          generalize w1.setCell ⟨wr.heap.size, 0, none⟩ (.int .i64 (sa + (A.bs.length : Nat))) = w2 at *
                          have HW2 := Hid.in (HW.out.grow HC2.out)
                          have HB2 := Hid.in (below_step HB.out HC2.out)
                          clear HS1 HC1 s0 f0 HW
                          have t0 : w2.cell? ⟨wr.heap.size, 0, none⟩ = some (.int .i64 (sa + (A.bs.length : Nat))) := HS2.out.cell 0
                          have t1 : w2.cell? ⟨wr.heap.size, 1, none⟩ = some (.string sk) := HS2.out.cell 1
                          have t2 : w2.cell? ⟨wr.heap.size, 2, none⟩ = some (.string st) := HS2.out.cell 2
                          have g1 : w2.cell? ⟨gw, 3, none⟩ = some (.slice pv nv cv) := HW2.out.box.cell 3
                          generalize wr.heap.size = gs at *
                          go_wp2_with (at_builtin; refine tpush Tryz.elemMark _ rfl _ _ rfl w12.heap.size (.slice pv nv cv) ((A.mk_ ++ (B.mk_.take k).map (onM A.bs.length)).map mkV) rfl (HW2.out.own.m.alloc _) ⟨w2.heap.size, 0, none⟩ 1 (.int .i64 (sa + (A.bs.length : Nat)), .string sk, .string st) ⟨rfl, rfl, rfl⟩ rfl (news3 w2 (.int .i64 (sa + (A.bs.length : Nat)), .string sk, .string st) 41) (by rw [List.length_map]; exact hln) (by decide) (by have := HB2.out.size; simp; omega) ?_; intro v4 w4 ho4 hg4 hb4; obtain ⟨p4, n4, c4, hv4⟩ := ho4.isSlice; subst hv4; have ho4' : TOwn 41 w4 w12.heap.size (.slice p4 n4 c4) ((A.mk_ ++ (B.mk_.take (k + 1)).map (onM A.bs.length)).map mkV) := (by rw [← HTK.out]; exact ho4); have HW3 := Hid.in (HW2.out.grow (new_alloc w2 (.cells #[.int .i64 (sa + (A.bs.length : Nat)), .string sk, .string st] 41))); have HK4 := Hid.in (HW3.out.box.kept hg4 (blk_not_row HW3.out.own.m HW3.out.box (by decide))); have x1 : w4.cell? ⟨gw, 3, none⟩ = some (.slice pv nv cv) := HK4.out.cell 3; have z1 := HK4.out.free 3; have HB4 := Hid.in (hb4 w12 (below_alloc HB2.out _)); have HW4 := Hid.in (HW3.out.setM ho4' hg4); clear ho4 ho4' hg4 hb4)
                          have HB5 := Hid.in (below_set HB4.out gw 3 (.slice p4 n4 c4) HLOW.out HB4.out.size)
                          generalize w4.setCell ⟨gw, 3, none⟩ (.slice p4 n4 c4) = w5 at *
                          go_roundw
                          case rel => exact ⟨k + 1, _, _, _, _, by go_num, by omega, HW4.out, HB5.out⟩
                          case measure => simp [intOf]; omega
                        · obtain rfl : k = B.mk_.length := by omega
                          have HW19 := HW
                          have HB19 := HB
                          rw [List.take_of_length_le (Nat.le_refl _)] at HW19
                          clear HW HB
                          have HWE : Hid (WantAt wr w12.heap.size gw J vb vs vf (.slice pv nv cv)) := by
                            rw [← HJ.out]; exact HW19.out
                          have HKJr := Hid.in (HKJ.out.below HB19.out HKJ.out.lt)
                          have HOJr := Hid.in (HOJ.out.below HB19.out)
                          obtain ⟨xb, xs_, xf, xm, yb, yss, yf, ym, ⟨hv1, hv2, hv3, hv4⟩, hIW⟩ := HWE.out.own.inn HFJ.out
                          subst hv1 hv2 hv3
                          injection hv4 with i1 i2 i3
                          subst i1 i2 i3
                          have hIJ := HOJr.out.innAt HFJ.out
                          have hSO := sameObject_any J J _ _ _ _ _ _ _ _ _ _ _ _ _ _ _ _ _ _ _ _ _ _ _ _ wr hIJ hIW
                          have hEQ : eqB (J = J) = true := (eqB_iff _).2 rfl
                          rw [hEQ] at hSO
                          have j0 : wr.cell? ⟨gj, 0, none⟩ = some (.slice tb J.bs.length ub) := HKJr.out.cell 0
                          have j1 : wr.cell? ⟨gj, 1, none⟩ = some (.slice ts J.sy.length us) := HKJr.out.cell 1
                          have j2 : wr.cell? ⟨gj, 2, none⟩ = some (.slice tf J.fx.length uf) := HKJr.out.cell 2
                          have j3 : wr.cell? ⟨gj, 3, none⟩ = some (.slice tm J.mk_.length um) := HKJr.out.cell 3
                          have k0 : wr.cell? ⟨gw, 0, none⟩ = some (.slice xb J.bs.length yb) := HWE.out.box.cell 0
                          have k1 : wr.cell? ⟨gw, 1, none⟩ = some (.slice xs_ J.sy.length yss) := HWE.out.box.cell 1
                          have k2 : wr.cell? ⟨gw, 2, none⟩ = some (.slice xf J.fx.length yf) := HWE.out.box.cell 2
                          have k3 : wr.cell? ⟨gw, 3, none⟩ = some (.slice pv J.mk_.length cv) := HWE.out.box.cell 3
                          have HBr := Hid.in (below_step HB12.out HB19.out)
                          clear HW19 hIJ hIW hEQ
                          go_wp2_with (first
                            | (go_at_call 10; refine hSO.mono ?_; rintro E w20 ⟨rfl, hb20⟩; have HB20 := Hid.in (below_step HBr.out hb20); clear hb20)
                            | (go_at_call 12; refine (hA _ (HE.out.below HB20.out)).mono ?_; rintro E w21 ⟨rfl, hb21⟩; have HB21 := Hid.in (below_step HB20.out hb21); clear hb21))
                          go_ret
                          exact ⟨rfl, HB21.out⟩
        · go_wp2_with (go_at_call 12; refine (hA _ (HE.out.below HB7.out)).mono ?_; rintro E w8 ⟨rfl, hb8⟩; have HB8 := Hid.in (below_step HB7.out hb8); clear hb8)
          go_ret
          exact ⟨rfl, HB8.out⟩
      · go_wp2_with (go_at_call 12; refine (hA _ (HE.out.below HB7.out)).mono ?_; rintro E w8 ⟨rfl, hb8⟩; have HB8 := Hid.in (below_step HB7.out hb8); clear hb8)
        go_ret
        exact ⟨rfl, HB8.out⟩
    · go_wp2_with (go_at_call 12; refine (hA _ (HE.out.below HB7.out)).mono ?_; rintro E w8 ⟨rfl, hb8⟩; have HB8 := Hid.in (below_step HB7.out hb8); clear hb8)
      go_ret
      exact ⟨rfl, HB8.out⟩
  · go_wp2_with (go_at_call 12; refine (hA _ (HE.out.below HB7.out)).mono ?_; rintro E w8 ⟨rfl, hb8⟩; have HB8 := Hid.in (below_step HB7.out hb8); clear hb8)
    go_ret
    exact ⟨rfl, HB8.out⟩

end Go.Proofs.YtkianldkbfjehaaGreatDoor

/-
  Proved here: the law ObjectJoins (switchyardlaw06) answers true wherever its arguments hold together at most 1048576 values and letters, and each argument reads afterwards as it read before; the card: what the row lists of the library's variables is tied to the program's text. 
-/
namespace Go.Proofs.YtkianldkbfjehaaGreatDoor
open Go.ChangeShapes Go.WideShapes Go.ChangeAt Go.RowKit
open Go.ChangeMaps (open_string shut_string)

theorem objectJoinsUpto_reads (os : Os) {H : Type} (enc : TypeId × Value → H) : ∃ places, DataW.whole enc Tryz.prog ((laidWorld os).forCall (fun _ _ => 0) ⟨#[], #[.slice none 0 0, .slice none 0 0], []⟩).memory Tryz.f6.params.toList (Rows.OpenSpec.upto Rows.objectJoinsSpec).vars false (#[.slice none 0 0, .slice none 0 0] : Array Value).toList 8 = some ([.nil, .nil], [], places) :=
  ⟨[], by kernel_rfl⟩

set_option maxRecDepth 100000 in
theorem objectJoinsUpto_lifted (os : Os) (started : os.Started) (H : Type) (enc : TypeId × Value → H) (F : Stop.Interp) :
    ReturnsInHanded {} Tryz.checked os 6 .any ((Rows.OpenSpec.upto Rows.objectJoinsSpec).preRow enc Tryz.prog Tryz.f6 Rows.objectJoinsUptoRow.domain false Rows.objectJoinsUptoRow.laid) (((Rows.OpenSpec.upto Rows.objectJoinsSpec).at F).post enc Tryz.prog Tryz.f6 false true false false) := by
  obtain ⟨places, hx⟩ := objectJoinsUpto_reads os enc
  refine returnsInHanded_of_row (C := Tryz.checked) (s := (Rows.OpenSpec.upto Rows.objectJoinsSpec)) Tryz.own started (by kernel_rfl) Tryz.func6
    (witness_row_atRef (enc := enc) (C := Tryz.checked) false (laidWorld os) #[.slice none 0 0, .slice none 0 0] rfl (by kernel_rfl) (by kernel_rfl) (by kernel_rfl)
      (OpenSpec.preRow_of_cond 8 hx (by kernel_rfl) (fun k hk => by cases hk; kernel_rfl) (by kernel_rfl) (laid_met os _))) ?_
  intro W base args ds gs before hval0 hW _ hcond hsz0 hL _ _
  have hV := env_of hL
  have hk := hcond _ rfl
  have hW' := hW
  obtain ⟨p, q, hA0, hVv, rfl, hfz, hnd⟩ := hW
  have hA : DataW.TrodAll enc Tryz.prog W 0 (fun _ => true) true Tryz.f6.params.toList args.toList ds p := hA0
  have hval : ∀ (j : Nat) t v, Tryz.f6.params[j]? = some t → args[j]? = some v → Value.okWide Tryz.prog W .any base t v := hval0
  rw [Tryz.params6] at hA hval
  obtain ⟨v0, vs0, d0, ds0, p0, q0, hargs, rfl, rfl, h0, r0⟩ := trodAll_cons hA
  obtain ⟨v1, vs1, d1, ds1, p1, q1, rfl, rfl, rfl, h1, r1⟩ := trodAll_cons r0
  obtain ⟨rfl, rfl, rfl⟩ := trodAll_nil r1
  obtain rfl : args = #[v0, v1] := by cases args; simp_all
  obtain ⟨rfl, rfl⟩ := trodVars_none hVv
  obtain ⟨a0, n0, c0, rfl⟩ := okWide_slice Tryz.underlying22 (hval 0 22 v0 rfl rfl)
  have k0 := h0
  have lt0 : ∀ x ∈ p0, x.block < W.heap.size := by obtain ⟨m, hm⟩ := k0; exact DataW.trod_lt m _ _ _ hm
  obtain ⟨x0, hx0, hl0, hc0, hr0⟩ := opened_items h0 (bulk_one (d := d0) hk (by simp))
  obtain ⟨a1, n1, c1, rfl⟩ := okWide_slice Tryz.underlying22 (hval 1 22 v1 rfl rfl)
  have k1 := h1
  have lt1 : ∀ x ∈ p1, x.block < W.heap.size := by obtain ⟨m, hm⟩ := k1; exact DataW.trod_lt m _ _ _ hm
  obtain ⟨x1, hx1, hl1, hc1, hr1⟩ := opened_items h1 (bulk_one (d := d1) hk (by simp))
  refine (joins_walk a0 a1 n0 c0 n1 c1 x0 x1 W hV hx0 hx1 (by omega) (by omega) hr0 hr1).mono fun e W' ⟨he, bel⟩ => ?_
  subst he
  exact ⟨_, rfl, _, _, _, [], _, [], hW', trodAll_mk1 (shut_bool Tryz.underlying4 _), (trodAll_cons_mk (Below.trod Tryz.laidOut (by kernel_rfl) (of_decide_eq_true (by kernel_rfl)) k0 bel lt0) (trodAll_cons_mk (Below.trod Tryz.laidOut (by kernel_rfl) (of_decide_eq_true (by kernel_rfl)) k1 bel lt1) trodAll_mk0)), rfl, bel.frame _, fun h => by cases h⟩

theorem objectJoinsUpto_said : Rows.ObjectJoinsUptoSaid :=
  OpenClaim.holds_of_cond 6 Tryz.f6 rfl rfl rfl rfl rfl rfl rfl ⟨rfl, rfl, rfl, rfl, rfl⟩ rfl rfl rfl rfl rfl (by kernel_rfl) Tryz.func6 (by kernel_rfl)
    (of_decide_eq_true (by kernel_rfl)) (by unfold Func.isWrapper; first | (rw [if_pos (by decide +kernel)]; kernel_rfl) | (rw [if_neg (by decide +kernel)]; exact ⟨rfl, rfl⟩))
    (fun os started H enc _ F => by rw [OpenClaim.pre_eq_preRow]; exact objectJoinsUpto_lifted os started H enc F)

theorem objectJoinsUpto_plain (f : FuncId) (fn : Func) (hf : Tryz.pinned.checked.prog.funcNamed "switchyard/switchyardlaw06.ObjectJoins" = some f) (hfn : Tryz.pinned.checked.prog.funcs[f]? = some fn) :
    true = Tryz.pinned.checked.prog.looks [] ∧ ∀ (j : Nat) t, fn.params[j]? = some t → Tryz.pinned.checked.prog.wantsStandIn t = false := by
  obtain rfl : f = 6 := Option.some.inj ((show Tryz.prog.funcNamed "switchyard/switchyardlaw06.ObjectJoins" = some 6 by kernel_rfl).symm.trans hf) |>.symm
  obtain rfl : fn = Tryz.f6 := (Option.some.inj (Tryz.func6.symm.trans hfn)).symm
  refine ⟨by kernel_rfl, fun j t ht => ?_⟩
  rw [Tryz.params6] at ht
  rcases j with _ | _ | j
  · obtain rfl : t = 22 := by simpa using ht.symm
    exact (show Tryz.prog.wantsStandIn 22 = false by kernel_rfl)
  · obtain rfl : t = 22 := by simpa using ht.symm
    exact (show Tryz.prog.wantsStandIn 22 = false by kernel_rfl)
  · simp at ht

theorem objectJoinsUpto_holds : Rows.ObjectJoinsUptoCardSaid :=
  Claim7.holds_tied_plain_at .later [] _ _ _ _ objectJoinsUpto_said (fun _ h => by cases h) (by kernel_rfl) (fun _ h => by cases h) objectJoinsUpto_row_tie rfl ⟨rfl, rfl⟩ (by kernel_rfl) rfl objectJoinsUpto_plain (by kernel_rfl)
#print axioms objectJoinsUpto_holds

end Go.Proofs.YtkianldkbfjehaaGreatDoor
