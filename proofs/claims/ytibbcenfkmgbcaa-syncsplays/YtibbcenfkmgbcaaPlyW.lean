/- SyncsPlays. -/
import Derived.Test.YtibbcenfkmgbcaaPlyL
namespace Go.Proofs.Ytibbcenfkmgbcaa
open Go.RowKit

theorem i64_and1 (n : Int) : bits .and .i64 n 1 = n % 2 := by
  have h1 : (BitVec.ofInt 64 1).toNat = 2 ^ 1 - 1 := by decide
  have key : (BitVec.ofInt 64 n &&& BitVec.ofInt 64 1).toNat = (n % ((2 ^ 64 : Nat) : Int)).toNat % 2 ^ 1 := by
    rw [BitVec.toNat_and, BitVec.toNat_ofInt, h1, Nat.and_two_pow_sub_one_eq_mod]
  show IntKind.i64.wrap ((BitVec.ofInt 64 n &&& BitVec.ofInt 64 1).toNat : Nat) = n % 2
  rw [key, IntKind.wrap_i64]
  omega

theorem Scr.below {w w' : World} {p : Option Addr} {L : List OpD} (h : Scr w p L) (hb : Below w.heap.size w w') : Scr w' p L := fun h0 => by
  obtain ⟨b, o, rfl, hc⟩ := h h0
  refine ⟨b, o, rfl, fun i y hy => ?_⟩
  obtain ⟨⟨g0, g1, g2, g3⟩, hw⟩ := hc i y hy
  refine ⟨⟨(hb.cell (p := ⟨b, o + i * 4, none⟩) (cell_lt g0)).trans g0, (hb.cell (p := ⟨b, o + i * 4 + 1, none⟩) (cell_lt g1)).trans g1, (hb.cell (p := ⟨b, o + i * 4 + 2, none⟩) (cell_lt g2)).trans g2, (hb.cell (p := ⟨b, o + i * 4 + 3, none⟩) (cell_lt g3)).trans g3⟩, hw.row.below hb, hw.len, hw.le, hw.dm, hw.nil⟩

set_option maxRecDepth 8000 in
set_option maxHeartbeats 1000000 in
theorem plays_bad (h : Int) (s : Value) (w : World) (hh : h < 0 ∨ 8 < h) :
    Calls Try.prog 4 #[.int .i64 h, s] w fun e w' => e = .returned (.bool true) ∧ Below w.heap.size w w' := by
  go_enter Try.func4, Try.ntmps4
  go_wp2_with (go_at_call 8; refine Hid.out ?_)
  refine Lib.hid ?_
  refine (new_bad h w hh).mono ?_
  rintro e w4 ⟨rfl, hw⟩
  rw [hw]
  clear hw
  go_wp2_with (go_at_call 15; refine Hid.out ?_)
  refine Lib.hid ?_
  refine (rnew_bad h w hh).mono ?_
  rintro e w1 ⟨rfl, hb1⟩
  have HB1 := Hid.in hb1
  clear hb1
  go_wp2_with (go_at_call 14; refine Hid.out ?_)
  refine Lib.hid ?_
  refine (awake_any _).mono ?_
  rintro e wa ⟨rfl, hba⟩
  have HBa := Hid.in (below_step (below_alloc HB1.out _) hba)
  clear hba
  go_wp2_with fail
  go_ret
  exact ⟨rfl, HBa.out⟩

theorem PS.start {w w4 : World} {q0 q1 g h : Nat} (h0 : RW w w4 q0 (List.replicate h false) 0) (h1 : RW w w4 q1 (List.replicate h false) 0) (ho : GOwn 4 w4 w.heap.size g h (flgs (List.replicate h false))) (hne : q0 ≠ q1) :
    PS w ((w4.alloc (.cells #[.pointer (some ⟨q0, 0, none⟩), .pointer (some ⟨q1, 0, none⟩)] 40)).alloc (.cells #[.int .i64 0, .slice (some ⟨g, 0, none⟩) h h, .int .i64 0, .slice (some ⟨g, 0, none⟩) h h] 41)) w4.heap.size (w4.heap.size + 1) (upd (fun _ => q1) 0 q0) (fun _ => List.replicate h false) (fun _ => 0) (fun _ => List.replicate h false) (fun _ => 0) (fun _ => .slice (some ⟨g, 0, none⟩) h h) := by
  have hb := below_alloc (new_alloc w4 (.cells #[.pointer (some ⟨q0, 0, none⟩), .pointer (some ⟨q1, 0, none⟩)] 40)) (.cells #[.int .i64 0, .slice (some ⟨g, 0, none⟩) h h, .int .i64 0, .slice (some ⟨g, 0, none⟩) h h] 41)
  have hs := h0.bel.size
  have hl := Blk.new (w4.alloc (.cells #[.pointer (some ⟨q0, 0, none⟩), .pointer (some ⟨q1, 0, none⟩)] 40)) 41 #[.int .i64 0, .slice (some ⟨g, 0, none⟩) h h, .int .i64 0, .slice (some ⟨g, 0, none⟩) h h]
  rw [size_one] at hl
  refine ⟨below_step h0.bel hb, hs, by omega, (Blk.new w4 40 _).grow (new_alloc _ _), hl, two_cases (h0.rnd.below hb) (h1.rnd.below hb), two_cases h0.ge h1.ge, fun j _ => ?_, hne⟩
  have := (ho.below hb).val
  simpa using this
set_option maxRecDepth 8000 in
set_option maxHeartbeats 40000000 in
theorem plays_walk (h : Nat) (s : Option Addr) (e : Nat) (Z : List OpD) (w : World) (hh : h ≤ 8) (hsc : Scr w s Z) :
    Calls Try.prog 4 #[.int .i64 h, .slice s Z.length e] w fun e w' => e = .returned (.bool true) ∧ Below w.heap.size w w' := by
  have HC : Hid (∀ W, Below w.heap.size w W → Scr W s Z) := fun W hW => hsc.below hW
  clear hsc
  go_enter Try.func4, Try.ntmps4
  go_wp2_with (go_at_call 8; refine Hid.out ?_)
  refine Lib.hid ?_
  refine (RW.new h w w hh (below_self w)).mono ?_
  rintro e w1 ⟨q0, rfl, hq, -, -⟩
  have HQ1 := Hid.in hq
  clear hq
  go_wp2_with (go_at_call 15; refine Hid.out ?_)
  refine Lib.hid ?_
  refine (rnew_ok h w1 hh).mono ?_
  rintro e w2 ⟨g, rfl, ho, hb⟩
  have HQ2 := Hid.in (HQ1.out.below hb)
  have HO2 : Hid (GOwn 4 w2 w.heap.size g h (flgs (List.replicate h false))) := ho.lower (Nat.le_trans HQ1.out.bel.size ho.base)
  clear ho hb HQ1
  go_wp2_with (go_at_call 8; refine Hid.out ?_)
  refine Lib.hid ?_
  have HQ3 := Hid.in (HQ2.out.below (new_alloc w2 (.cells #[.int .i64 0, .slice (some ⟨g, 0, none⟩) h h] 37)))
  have HO3 := Hid.in (HO2.out.below (new_alloc w2 (.cells #[.int .i64 0, .slice (some ⟨g, 0, none⟩) h h] 37)))
  have HK3 := Hid.in (Blk.new w2 37 #[.int .i64 0, .slice (some ⟨g, 0, none⟩) h h])
  clear HQ2 HO2
  generalize w2.alloc (.cells #[.int .i64 0, .slice (some ⟨g, 0, none⟩) h h] 37) = w3 at *
  generalize w2.heap.size = b7 at *
  refine (RW.new h w w3 hh HQ3.out.bel).mono ?_
  rintro e w4 ⟨q1, rfl, hq, hb, hge⟩
  have HQ4 := Hid.in (HQ3.out.below hb)
  have HN4 := Hid.in hq
  have HO4 := Hid.in (HO3.out.below hb)
  have hk4 := HK3.out.grow hb
  have c0 := hk4.cell 0
  have c1 := hk4.cell 1
  have hb7 := hk4.lt
  have hne : q0 ≠ q1 := by have := HQ3.out.rnd.lt; omega
  clear hb hge hq HQ3 HO3 HK3 hk4
  go_wp2_with fail
  have HST := Hid.in (PS.start HQ4.out HN4.out HO4.out hne)
  clear HQ4 HN4 HO4 hne c0 c1
  generalize (w4.alloc (.cells #[.pointer (some ⟨q0, 0, none⟩), .pointer (some ⟨q1, 0, none⟩)] 40)).alloc (.cells #[.int .i64 0, .slice (some ⟨g, 0, none⟩) h h, .int .i64 0, .slice (some ⟨g, 0, none⟩) h h] 41) = w5 at *
  generalize w4.heap.size = R at *
  go_loopw [13] (fun vi wr => ∃ (i : Nat) (q : Nat → Nat) (f : Nat → List Bool) (n : Nat → Int) (v : Nat → Value), vi = .int .i64 i ∧ i ≤ 400 ∧ PS w wr R (R + 1) q f n f n v ∧ ∀ j, 0 ≤ n j ∧ n j ≤ i) (fun vi _ => 400 - (intOf vi).toNat)
  case atStart => exact ⟨0, _, _, _, _, rfl, by decide, HST.out, fun j => ⟨Int.le_refl 0, Int.le_refl 0⟩⟩
  case round =>
    obtain ⟨i, q, f, n, v, rfl, hi, hst, hnb⟩ := hrel
    clear HST
    have HST := Hid.in hst
    have HNB := Hid.in hnb
    clear hst hnb
    by_cases hlt : i < Z.length
    · have hd1 : decide ((i : Int) < (Z.length : Int)) = true := decide_eq_true (by omega)
      by_cases hlt4 : i < 400
      · have hd2 : decide ((i : Int) < 400) = true := decide_eq_true (by omega)
        obtain ⟨⟨kind, on, hart, xr, xd, ys⟩, hX⟩ : ∃ X, Z[i]? = some X := ⟨_, List.getElem?_eq_getElem hlt⟩
        obtain ⟨sb, so, rfl, hops⟩ := HC.out wr HST.out.bel (by omega)
        obtain ⟨⟨s0, s1, s2, s3⟩, hW⟩ := hops i _ hX
        dsimp only at s0 s1 s2 s3
        have HW : Hid (∀ W, Below w.heap.size w W → BRow W xr ys) := by
          obtain ⟨sb', so', e1, hops'⟩ := HC.out w (below_self w) (by omega)
          exact fun W hW' => (hops' i _ hX).2.row.below hW'
        have hlen := hW.len
        have HNIL := Hid.in hW.nil
        dsimp only at hlen HNIL
        clear hops hX hW
        obtain ⟨jn, hjn, h01⟩ : ∃ jn : Int, bits .and .i64 on 1 = jn ∧ (jn = 0 ∨ jn = 1) := ⟨_, rfl, by rw [i64_and1]; omega⟩
        have HP := Hid.in (HST.out.below (new_alloc wr (.cells #[.int .i64 kind, .int .i64 on, .int .i64 hart, .slice xr ys.length xd] 43)))
        have hk0 := Blk.new wr 43 #[.int .i64 kind, .int .i64 on, .int .i64 hart, .slice xr ys.length xd]
        have t0 := hk0.cell 0
        have t1 := hk0.cell 1
        clear HST
        go_upto_region 12 with fail
        generalize wr.alloc (.cells #[.int .i64 kind, .int .i64 on, .int .i64 hart, .slice xr ys.length xd] 43) = w6 at *
        generalize wr.heap.size = ob at *
        clear s0 s1 s2 s3
        go_upto_block 2 with fail
        clear hjn
        go_cut [16] (fun _ wx => ∃ (q : Nat → Nat) (f : Nat → List Bool) (n : Nat → Int) (v : Nat → Value), PS w wx R (R + 1) q f n f n v ∧ ∀ j, 0 ≤ n j ∧ n j ≤ (i : Int) + 1)
        case first =>
          have t2 := hk0.cell 2
          have t3 := hk0.cell 3
          have HK0 := Hid.in hk0
          clear hk0 t0 t1
          rcases h01 with rfl | rfl
          · skip
            by_cases hk1 : kind = 1
            · as_aux_lemma =>
                subst hk1
                have hJ : 0 < 2 := by decide
                obtain ⟨pJ, cJ, eJ, -⟩ := (HP.out.own 0 hJ).brow
                have HEJ := Hid.in eJ
                have hle := (HP.out.rnd 0 hJ).le
                clear eJ
                simp only [List.getElem?_toArray, List.getElem?_cons_zero, List.getElem?_cons_succ] at t3
                go_wp2_with (go_at_call 16; refine Hid.out ?_)
                refine Lib.hid ?_
                refine (copyFlags_any xr xd ys w6 hlen (HW.out w6 HP.out.bel)).mono ?_
                rintro e w7 ⟨vi, rfl, hv7, hb7⟩
                obtain ⟨pin, cin, rfl, -⟩ := hv7.brow
                have HP7 := Hid.in (HP.out.below hb7)
                have HK7 := Hid.in (HK0.out.grow hb7)
                have HV7 : Hid (GOwnV 4 w7 w.heap.size (.slice pin ys.length cin) (flgs ys)) := hv7.lowerV HP.out.bel.size
                have HOL : Hid (∀ j < 2, ∀ g', (v j).ownBlock = some g' → g' < w6.heap.size) := fun j hj g' hg => ((HP.out.own j hj).block_in hg).2
                have HIN : Hid (∀ g', (Value.slice pin ys.length cin).ownBlock = some g' → w6.heap.size ≤ g' ∧ g' < w7.heap.size) := fun g' hg => hv7.block_in hg
                have HOJ : Hid (∀ g', (Value.slice pJ (f 0).length cJ).ownBlock = some g' → g' < w6.heap.size) := fun g' hg => HOL.out 0 hJ g' (by rw [HEJ.out]; exact hg)
                have hbd := HNB.out 0
                clear hv7 hb7 HP HK0 t2 t3
                have cR := HP7.out.rb.cell 0
                simp only [List.getElem?_toArray, List.getElem?_cons_zero] at cR
                by_cases hok : ys.length = (f 0).length ∧ ovr (f 0) = true
                · obtain ⟨hk1', hk2'⟩ := hok
                  have HKL := Hid.in hk1'
                  have HKO := Hid.in hk2'
                  clear hk1' hk2'
                  go_wp2_with (go_at_call 9; refine Hid.out ?_)
                  refine Lib.hid ?_
                  refine (send_ok (q 0) cin pin (f 0) ys (n 0) w7 (HP7.out.rnd 0 hJ) HV7.out.at hbd.1 (by omega) HKL.out HKO.out).mono ?_
                  rintro e w8 ⟨rfl, hr8, hg8⟩
                  have HP8 := Hid.in (HP7.out.turned 0 hJ hr8 hg8)
                  have HK8 := Hid.in (HK7.out.kept hg8 (fun e => blk_ne HK7.out (HP7.out.rnd 0 hJ).blk (by decide) (by injection e)))
                  have HV8 := Hid.in (HV7.out.kept4 (HP7.out.rnd 0 hJ).blk (by decide) hg8)
                  have hs78 := hg8.size
                  clear hr8 hg8 HP7 HK7 HV7 cR
                  have HOW : Hid (GOwnV 4 w8 w.heap.size (.slice pJ (f 0).length cJ) (flgs (f 0))) := by have := HP8.out.own 0 hJ; rw [HEJ.out] at this; exact this
                  have HBW := Hid.in HP8.out.bel
                  have lA := HP8.out.lb.cell 0
                  have lB := HP8.out.lb.cell 1
                  have oC := HK8.out.cell 3
                  simp only [List.getElem?_toArray, List.getElem?_cons_zero, List.getElem?_cons_succ] at lA lB oC
                  rw [HEJ.out] at lB
                  go_upto_region 17 with fail
                  go_cut [19, 20, 21] (fun vb v1 v2 wx => ∃ (b : Nat) (pu : Option Addr) (cu : Nat), vb = .pointer (some ⟨b, 0, none⟩) ∧ v1 = .int .i64 (n 0 + 1) ∧ v2 = .int .i64 0 ∧ Blk wx b 37 #[.int .i64 (n 0 + 1), .slice pu (ys).length cu] ∧ GOwnV 4 wx w.heap.size (.slice pu (ys).length cu) (flgs (ys)) ∧ (∀ g', (Value.slice pu (ys).length cu).ownBlock = some g' → g' < w6.heap.size ∨ w7.heap.size ≤ g') ∧ PS w wx R (R + 1) q (upd f 0 ys) (upd n 0 (n 0 + 1)) f n v ∧ Blk wx ob 43 #[.int .i64 1, .int .i64 on, .int .i64 hart, .slice xr ys.length xd] ∧ GOwnV 4 wx w.heap.size (.slice pin ys.length cin) (flgs ys))
                  case first =>
                    have HRx : Hid (BRow w8.drew xr ys) := HW.out _ (below_draws HBW.out 1)
                    have HRy : Hid (BRow (w8.alloc (.cells #[.int .i64 0, .slice none 0 0] 37)).drew xr ys) := HW.out _ (below_draws (below_alloc HBW.out _) 1)
                    have HOx : Hid (GOwnV 4 w8.drew w.heap.size (.slice pJ (f 0).length cJ) (flgs (f 0))) := HOW.out
                    have HOy : Hid (GOwnV 4 (w8.alloc (.cells #[.int .i64 0, .slice none 0 0] 37)).drew w.heap.size (.slice pJ (f 0).length cJ) (flgs (f 0))) := HOW.out.below (below_draws (new_alloc _ _) 1)
                    have hA := rsend_at pJ xr cJ xd (f 0) ys (n 0) w.heap.size w8.drew hle HBW.out.size (fun g' => g' < w6.heap.size ∨ w7.heap.size ≤ g') (fun g' hg => .inr (Nat.le_trans hs78 hg)) HOx.out.at HRx.out HNIL.out HKL.out HKO.out hbd.1 (by omega)
                    have hB := rsend_at pJ xr cJ xd (f 0) ys (n 0) w.heap.size (w8.alloc (.cells #[.int .i64 0, .slice none 0 0] 37)).drew hle (below_alloc HBW.out _).size (fun g' => g' < w6.heap.size ∨ w7.heap.size ≤ g') (fun g' hg => .inr (Nat.le_trans hs78 (Nat.le_trans (new_alloc w8 (.cells #[.int .i64 0, .slice none 0 0] 37)).size hg))) HOy.out.at HRy.out HNIL.out HKL.out HKO.out hbd.1 (by omega)
                    have HPa : Hid (PS w w8.drew R (R + 1) q (upd f 0 ys) (upd n 0 (n 0 + 1)) f n v) := HP8.out.below (below_draws (below_self _) 1)
                    have HPb : Hid (PS w (w8.alloc (.cells #[.int .i64 0, .slice none 0 0] 37)).drew R (R + 1) q (upd f 0 ys) (upd n 0 (n 0 + 1)) f n v) := HP8.out.below (below_draws (new_alloc _ _) 1)
                    have HKa : Hid (Blk w8.drew ob 43 #[.int .i64 1, .int .i64 on, .int .i64 hart, .slice xr ys.length xd]) := HK8.out
                    have HKb : Hid (Blk (w8.alloc (.cells #[.int .i64 0, .slice none 0 0] 37)).drew ob 43 #[.int .i64 1, .int .i64 on, .int .i64 hart, .slice xr ys.length xd]) := HK8.out.grow (below_draws (new_alloc _ _) 1)
                    have HVa : Hid (GOwnV 4 w8.drew w.heap.size (.slice pin ys.length cin) (flgs ys)) := HV8.out
                    have HVb : Hid (GOwnV 4 (w8.alloc (.cells #[.int .i64 0, .slice none 0 0] 37)).drew w.heap.size (.slice pin ys.length cin) (flgs ys)) := HV8.out.below (below_draws (new_alloc _ _) 1)
                    have HZ : Hid (Blk (w8.alloc (.cells #[.int .i64 0, .slice none 0 0] 37)).drew w8.heap.size 37 #[.int .i64 0, .slice none 0 0]) := Blk.new w8 37 #[.int .i64 0, .slice none 0 0]
                    have hz1 : ¬ R + 1 = w8.heap.size := fun e => by have := HP8.out.lb.lt; omega
                    have hz2 : ¬ ob = w8.heap.size := fun e => by have := HK8.out.lt; omega
                    have hz3 : ¬ w8.heap.size = R + 1 := fun e => hz1 e.symm
                    have hz4 : ¬ w8.heap.size = ob := fun e => hz2 e.symm
                    go_region_held3 (fun W => W.cell? ⟨R + 1, 0, none⟩ = some (.int .i64 (n 0)) ∧ W.cell? ⟨R + 1, 1, none⟩ = some (.slice pJ (f 0).length cJ) ∧ W.cell? ⟨ob, 3, none⟩ = some (.slice xr ys.length xd)) (first | (with_reducible exact hk1) | go_keep)
                      (first
                        | (go_at_call 17; (with_reducible refine hA.mono ?_); rintro e w9 ⟨pu, cu, rfl, hu9, hb9⟩; have HPc := Hid.in (HPa.out.below hb9); have HUc := Hid.in hu9; have HKc := Hid.in (HKa.out.grow hb9); have HVc := Hid.in (HVa.out.below hb9); have kB := HPc.out.lb.cell 1; rw [List.getElem?_toArray] at kB; simp only [List.getElem?_cons_zero, List.getElem?_cons_succ, HEJ.out] at kB; have hk1 : w9.cell? ⟨R + 1, 0, none⟩ = some (.int .i64 (n 0)) ∧ w9.cell? ⟨R + 1, 1, none⟩ = some (.slice pJ (f 0).length cJ) ∧ w9.cell? ⟨ob, 3, none⟩ = some (.slice xr ys.length xd) := ⟨HPc.out.lb.cell 0, kB, HKc.out.cell 3⟩; clear hb9 hu9)
                        | (go_at_call 17; (with_reducible refine hB.mono ?_); rintro e w9 ⟨pu, cu, rfl, hu9, hb9⟩; have HPd := Hid.in (HPb.out.below hb9); have HUd := Hid.in hu9; have HKd := Hid.in (HKb.out.grow hb9); have HVd := Hid.in (HVb.out.below hb9); have HZd := Hid.in (HZ.out.grow hb9); have kB := HPd.out.lb.cell 1; rw [List.getElem?_toArray] at kB; simp only [List.getElem?_cons_zero, List.getElem?_cons_succ, HEJ.out] at kB; have hk1 : w9.cell? ⟨R + 1, 0, none⟩ = some (.int .i64 (n 0)) ∧ w9.cell? ⟨R + 1, 1, none⟩ = some (.slice pJ (f 0).length cJ) ∧ w9.cell? ⟨ob, 3, none⟩ = some (.slice xr ys.length xd) := ⟨HPd.out.lb.cell 0, kB, HKd.out.cell 3⟩; have z0 : w9.cell? ⟨w8.heap.size, 0, none⟩ = some (.int .i64 0) := HZd.out.cell 0; have z1 : w9.cell? ⟨w8.heap.size, 1, none⟩ = some (.slice none 0 0) := HZd.out.cell 1; have y0 := HZd.out.free 0; have y1 := HZd.out.free 1; clear hb9 hu9))
                    · go_wp2_with fail
                      go_meet
                      case rel => exact ⟨_, pu, cu, rfl, rfl, rfl, Blk.new _ _ _, HUc.out.1.below (new_alloc _ _), HUc.out.2, HPc.out.below (new_alloc _ _), HKc.out.grow (new_alloc _ _), HVc.out.below (new_alloc _ _)⟩
                    · have hg9 := (grown_setCell w9 w8.heap.size 0 (.int .i64 (n 0 + 1))).trans (grown_setCell _ w8.heap.size 1 (.slice pu (ys).length cu))
                      have HBk : Hid (Blk ((w9.setCell ⟨w8.heap.size, 0, none⟩ (.int .i64 (n 0 + 1))).setCell ⟨w8.heap.size, 1, none⟩ (.slice pu (ys).length cu)) w8.heap.size 37 #[.int .i64 (n 0 + 1), .slice pu (ys).length cu]) := (HZd.out.set 0 _).set 1 _
                      have HU9 := Hid.in (HUd.out.1.kept4 HZd.out (by decide) hg9)
                      have HV9 := Hid.in (HVd.out.kept4 HZd.out (by decide) hg9)
                      have HP9 := Hid.in (HPd.out.otherT HZd.out (by decide) HBW.out.size hg9)
                      have HK9 := Hid.in (HKd.out.kept hg9 (fun e => hz2 (by injection e)))
                      go_wp2_with fail
                      go_meet
                      case rel => exact ⟨_, pu, cu, rfl, rfl, rfl, HBk.out, HU9.out, HUd.out.2, HP9.out, HK9.out, HV9.out⟩
                  case rest =>
                    obtain ⟨b, pu, cu, rfl, rfl, rfl, hbb, hu, hub, hp, hk, hv⟩ := hcut
                    clear HOW HBW lA lB oC HEJ HP8 HK8 HV8
                    have lA := hp.lb.cell 0
                    have lB := hp.lb.cell 1
                    have fA := hp.lb.free 0
                    have fB := hp.lb.free 1
                    have x0 := hbb.cell 0
                    have x1 := hbb.cell 1
                    simp only [List.getElem?_toArray, List.getElem?_cons_zero, List.getElem?_cons_succ] at lA lB x0 x1
                    have HP2 : Hid (PS w ((wc.setCell ⟨R + 1, 0, none⟩ (.int .i64 (n 0 + 1))).setCell ⟨R + 1, 1, none⟩ (.slice pu (ys).length cu)) R (R + 1) q (upd f 0 ys) (upd n 0 (n 0 + 1)) (upd f 0 (ys)) (upd n 0 (n 0 + 1)) (upd v 0 (.slice pu (ys).length cu))) := hp.put 0 hJ (n 0 + 1) hu
                    have HNY : Hid (some ob ≠ some (R + 1)) := fun e => blk_ne hk hp.lb (by decide) (by injection e)
                    have hgg := (grown_setCell wc (R + 1) 0 (.int .i64 (n 0 + 1))).trans (grown_setCell _ (R + 1) 1 (.slice pu (ys).length cu))
                    have HK2 := Hid.in (hk.kept hgg HNY.out)
                    have HV2 := Hid.in (hv.kept4 hp.lb (by decide) hgg)
                    have HUB : Hid (∀ j < 2, ∀ g', (upd v 0 (.slice pu (ys).length cu) j).ownBlock = some g' → g' < w6.heap.size ∨ w7.heap.size ≤ g') := fun j hj g' hg' => by
                      by_cases e : j = 0
                      · subst e; rw [upd_same] at hg'; exact hub g' hg'
                      · rw [upd_other _ _ e] at hg'; exact .inl (HOL.out j hj g' hg')
                    clear hgg HNY hbb hu hub hp hk hv HOL
                    go_upto_region 19 with fail
                    generalize (wc.setCell ⟨R + 1, 0, none⟩ (.int .i64 (n 0 + 1))).setCell ⟨R + 1, 1, none⟩ (.slice pu (ys).length cu) = w10 at *
                    clear lA lB fA fB x0 x1
                    have oC := HK2.out.cell 3
                    simp only [List.getElem?_toArray, List.getElem?_cons_zero, List.getElem?_cons_succ] at oC
                    go_wp2_with (go_at_call 18; refine Hid.out ?_)
                    refine Lib.hid ?_
                    refine (sameFlags_self pin xr cin xd ys w10 hlen HV2.out.at (HW.out _ HP2.out.bel)).mono ?_
                    rintro e w11 ⟨rfl, hb11⟩
                    have HPn := Hid.in (HP2.out.below hb11)
                    have HVn := Hid.in (HV2.out.below hb11)
                    clear hb11 HP2 HV2 HK2 oC
                    have HBN := Hid.in (bnd_upd HNB.out 0 (m := n 0 + 1) (by omega) (by omega))
                    generalize upd v 0 (.slice pu ys.length cu) = vv at *
                    generalize hff : upd f 0 ys = ff at *
                    generalize hnn : upd n 0 (n 0 + 1) = nn at *
                    have HPf := HPn
                    clear hff hnn HPn
                    go_wp2_with fail
                    go_loopw [22] (fun vk wr => ∃ (k : Nat) (zs : List Bool), vk = .int .i64 k ∧ k ≤ ys.length ∧ zs.length = ys.length ∧ PS w wr R (R + 1) q ff nn ff nn vv ∧ GOwnV 4 wr w.heap.size (.slice pin ys.length cin) (flgs zs)) (fun vk _ => ys.length - (intOf vk).toNat)
                    case atStart => exact ⟨0, ys, rfl, Nat.zero_le _, rfl, HPf.out, HVn.out⟩
                    case round =>
                      obtain ⟨k, zs, rfl, hk, hzs, hp, hv⟩ := hrel
                      clear HPf HVn
                      have HPk := Hid.in hp
                      have HZS := Hid.in hzs
                      by_cases hky : k < ys.length
                      · have hdk : decide ((k : Int) < (ys.length : Int)) = true := decide_eq_true (by omega)
                        rcases hv.shape with ⟨-, e⟩ | ⟨g, cap, e, ho⟩
                        · exfalso
                          have : (flgs zs).length = 0 := by rw [e]; rfl
                          simp at this
                          rw [this] at hzs
                          simp at hzs
                          omega
                        · have e2 : pin = some ⟨g, 0, none⟩ ∧ cin = cap := by
                            simp only [Value.slice.injEq] at e
                            exact ⟨e.1, e.2.2⟩
                          obtain ⟨e3, e4⟩ := e2
                          subst e3 e4
                          have hkz : k < zs.length := by omega
                          have ck := ho.cell k (by simpa using hkz)
                          rw [getD_flgs _ _ hkz] at ck
                          have fk := ho.free k
                          have HG := Hid.in (grown_setCell wr g k (.bool (!zs.getD k false)))
                          have hgin := HIN.out g rfl
                          have HPx := Hid.in (hp.apart ho ho.base (fun j hj e => by
                            rcases HUB.out j hj g e with h | h
                            · omega
                            · omega) HG.out)
                          have HVx : Hid (GOwnV 4 (wr.setCell ⟨g, k, none⟩ (.bool (!zs.getD k false))) w.heap.size (.slice (some ⟨g, 0, none⟩) ys.length cin) (flgs (zs.set k (!zs.getD k false)))) := by
                            show GOwnV _ _ _ _ _
                            have := (ho.store k (.bool (!zs.getD k false))).val
                            rw [← List.map_set] at this
                            simpa [hzs] using this
                          clear e hp hv ho hzs hkz
                          generalize zs.getD k false = t at *
                          go_wp2_with fail
                          go_roundw
                          case rel => exact ⟨k + 1, _, by go_num, by omega, by rw [List.length_set]; exact HZS.out, HPx.out, HVx.out⟩
                          case measure => simp [intOf]; omega
                      · have hdk : decide ((k : Int) < (ys.length : Int)) = false := decide_eq_false (by omega)
                        clear hp hv hzs
                        go_wp2_with fail
                        go_meet
                        case rel => exact ⟨_, _, _, _, HPk.out, HBN.out⟩
                · have hbad : ys.length ≠ (f 0).length ∨ ovr (f 0) = false := by
                    by_cases h1 : ys.length = (f 0).length
                    · right
                      cases h2 : ovr (f 0)
                      · rfl
                      · exact absurd ⟨h1, h2⟩ hok
                    · exact .inl h1
                  have HBAD := Hid.in hbad
                  clear hok hbad
                  go_wp2_with (go_at_call 9; refine Hid.out ?_)
                  refine Lib.hid ?_
                  refine (send_bad (q 0) cin pin (f 0) ys (n 0) w7 (HP7.out.rnd 0 hJ) HBAD.out).mono ?_
                  rintro e w8 ⟨rfl, hw⟩
                  rw [hw]
                  clear hw cR
                  have HOW : Hid (GOwnV 4 w7 w.heap.size (.slice pJ (f 0).length cJ) (flgs (f 0))) := by have := HP7.out.own 0 hJ; rw [HEJ.out] at this; exact this
                  have HBW := Hid.in HP7.out.bel
                  have lA := HP7.out.lb.cell 0
                  have lB := HP7.out.lb.cell 1
                  have oC := HK7.out.cell 3
                  simp only [List.getElem?_toArray, List.getElem?_cons_zero, List.getElem?_cons_succ] at lA lB oC
                  rw [HEJ.out] at lB
                  go_upto_region 17 with fail
                  go_cut [19, 20, 21] (fun vb v1 v2 wx => ∃ (b : Nat) (pu : Option Addr) (cu : Nat), vb = .pointer (some ⟨b, 0, none⟩) ∧ v1 = .int .i64 0 ∧ v2 = .int .i64 2 ∧ Blk wx b 37 #[.int .i64 (n 0), .slice pu (f 0).length cu] ∧ GOwnV 4 wx w.heap.size (.slice pu (f 0).length cu) (flgs (f 0)) ∧ (∀ g', (Value.slice pu (f 0).length cu).ownBlock = some g' → g' < w6.heap.size ∨ w7.heap.size ≤ g') ∧ PS w wx R (R + 1) q f n f n v ∧ Blk wx ob 43 #[.int .i64 1, .int .i64 on, .int .i64 hart, .slice xr ys.length xd] ∧ GOwnV 4 wx w.heap.size (.slice pin ys.length cin) (flgs ys))
                  case first =>
                    have HRx : Hid (BRow w7.drew xr ys) := HW.out _ (below_draws HBW.out 1)
                    have HRy : Hid (BRow (w7.alloc (.cells #[.int .i64 0, .slice none 0 0] 37)).drew xr ys) := HW.out _ (below_draws (below_alloc HBW.out _) 1)
                    have HOx : Hid (GOwnV 4 w7.drew w.heap.size (.slice pJ (f 0).length cJ) (flgs (f 0))) := HOW.out
                    have HOy : Hid (GOwnV 4 (w7.alloc (.cells #[.int .i64 0, .slice none 0 0] 37)).drew w.heap.size (.slice pJ (f 0).length cJ) (flgs (f 0))) := HOW.out.below (below_draws (new_alloc _ _) 1)
                    have hA := rsend_not pJ xr cJ xd (f 0) ys (n 0) w.heap.size w7.drew hle HOx.out HBAD.out (fun g' => g' < w6.heap.size ∨ w7.heap.size ≤ g') (fun g' hg => .inl (HOJ.out g' hg))
                    have hB := rsend_not pJ xr cJ xd (f 0) ys (n 0) w.heap.size (w7.alloc (.cells #[.int .i64 0, .slice none 0 0] 37)).drew hle HOy.out HBAD.out (fun g' => g' < w6.heap.size ∨ w7.heap.size ≤ g') (fun g' hg => .inl (HOJ.out g' hg))
                    have HPa : Hid (PS w w7.drew R (R + 1) q f n f n v) := HP7.out.below (below_draws (below_self _) 1)
                    have HPb : Hid (PS w (w7.alloc (.cells #[.int .i64 0, .slice none 0 0] 37)).drew R (R + 1) q f n f n v) := HP7.out.below (below_draws (new_alloc _ _) 1)
                    have HKa : Hid (Blk w7.drew ob 43 #[.int .i64 1, .int .i64 on, .int .i64 hart, .slice xr ys.length xd]) := HK7.out
                    have HKb : Hid (Blk (w7.alloc (.cells #[.int .i64 0, .slice none 0 0] 37)).drew ob 43 #[.int .i64 1, .int .i64 on, .int .i64 hart, .slice xr ys.length xd]) := HK7.out.grow (below_draws (new_alloc _ _) 1)
                    have HVa : Hid (GOwnV 4 w7.drew w.heap.size (.slice pin ys.length cin) (flgs ys)) := HV7.out
                    have HVb : Hid (GOwnV 4 (w7.alloc (.cells #[.int .i64 0, .slice none 0 0] 37)).drew w.heap.size (.slice pin ys.length cin) (flgs ys)) := HV7.out.below (below_draws (new_alloc _ _) 1)
                    have HZ : Hid (Blk (w7.alloc (.cells #[.int .i64 0, .slice none 0 0] 37)).drew w7.heap.size 37 #[.int .i64 0, .slice none 0 0]) := Blk.new w7 37 #[.int .i64 0, .slice none 0 0]
                    have hz1 : ¬ R + 1 = w7.heap.size := fun e => by have := HP7.out.lb.lt; omega
                    have hz2 : ¬ ob = w7.heap.size := fun e => by have := HK7.out.lt; omega
                    have hz3 : ¬ w7.heap.size = R + 1 := fun e => hz1 e.symm
                    have hz4 : ¬ w7.heap.size = ob := fun e => hz2 e.symm
                    go_region_held3 (fun W => W.cell? ⟨R + 1, 0, none⟩ = some (.int .i64 (n 0)) ∧ W.cell? ⟨R + 1, 1, none⟩ = some (.slice pJ (f 0).length cJ) ∧ W.cell? ⟨ob, 3, none⟩ = some (.slice xr ys.length xd)) (first | (with_reducible exact hk1) | go_keep)
                      (first
                        | (go_at_call 17; (with_reducible refine hA.mono ?_); rintro e w9 ⟨pu, cu, rfl, hu9, hb9⟩; have HPc := Hid.in (HPa.out.below hb9); have HUc := Hid.in hu9; have HKc := Hid.in (HKa.out.grow hb9); have HVc := Hid.in (HVa.out.below hb9); have kB := HPc.out.lb.cell 1; rw [List.getElem?_toArray] at kB; simp only [List.getElem?_cons_zero, List.getElem?_cons_succ, HEJ.out] at kB; have hk1 : w9.cell? ⟨R + 1, 0, none⟩ = some (.int .i64 (n 0)) ∧ w9.cell? ⟨R + 1, 1, none⟩ = some (.slice pJ (f 0).length cJ) ∧ w9.cell? ⟨ob, 3, none⟩ = some (.slice xr ys.length xd) := ⟨HPc.out.lb.cell 0, kB, HKc.out.cell 3⟩; clear hb9 hu9)
                        | (go_at_call 17; (with_reducible refine hB.mono ?_); rintro e w9 ⟨pu, cu, rfl, hu9, hb9⟩; have HPd := Hid.in (HPb.out.below hb9); have HUd := Hid.in hu9; have HKd := Hid.in (HKb.out.grow hb9); have HVd := Hid.in (HVb.out.below hb9); have HZd := Hid.in (HZ.out.grow hb9); have kB := HPd.out.lb.cell 1; rw [List.getElem?_toArray] at kB; simp only [List.getElem?_cons_zero, List.getElem?_cons_succ, HEJ.out] at kB; have hk1 : w9.cell? ⟨R + 1, 0, none⟩ = some (.int .i64 (n 0)) ∧ w9.cell? ⟨R + 1, 1, none⟩ = some (.slice pJ (f 0).length cJ) ∧ w9.cell? ⟨ob, 3, none⟩ = some (.slice xr ys.length xd) := ⟨HPd.out.lb.cell 0, kB, HKd.out.cell 3⟩; have z0 : w9.cell? ⟨w7.heap.size, 0, none⟩ = some (.int .i64 0) := HZd.out.cell 0; have z1 : w9.cell? ⟨w7.heap.size, 1, none⟩ = some (.slice none 0 0) := HZd.out.cell 1; have y0 := HZd.out.free 0; have y1 := HZd.out.free 1; clear hb9 hu9))
                    · go_wp2_with fail
                      go_meet
                      case rel => exact ⟨_, pu, cu, rfl, rfl, rfl, Blk.new _ _ _, HUc.out.1.below (new_alloc _ _), HUc.out.2, HPc.out.below (new_alloc _ _), HKc.out.grow (new_alloc _ _), HVc.out.below (new_alloc _ _)⟩
                    · have hg9 := (grown_setCell w9 w7.heap.size 0 (.int .i64 (n 0))).trans (grown_setCell _ w7.heap.size 1 (.slice pu (f 0).length cu))
                      have HBk : Hid (Blk ((w9.setCell ⟨w7.heap.size, 0, none⟩ (.int .i64 (n 0))).setCell ⟨w7.heap.size, 1, none⟩ (.slice pu (f 0).length cu)) w7.heap.size 37 #[.int .i64 (n 0), .slice pu (f 0).length cu]) := (HZd.out.set 0 _).set 1 _
                      have HU9 := Hid.in (HUd.out.1.kept4 HZd.out (by decide) hg9)
                      have HV9 := Hid.in (HVd.out.kept4 HZd.out (by decide) hg9)
                      have HP9 := Hid.in (HPd.out.otherT HZd.out (by decide) HBW.out.size hg9)
                      have HK9 := Hid.in (HKd.out.kept hg9 (fun e => hz2 (by injection e)))
                      go_wp2_with fail
                      go_meet
                      case rel => exact ⟨_, pu, cu, rfl, rfl, rfl, HBk.out, HU9.out, HUd.out.2, HP9.out, HK9.out, HV9.out⟩
                  case rest =>
                    obtain ⟨b, pu, cu, rfl, rfl, rfl, hbb, hu, hub, hp, hk, hv⟩ := hcut
                    clear HOW HBW lA lB oC HEJ HP7 HK7 HV7
                    have lA := hp.lb.cell 0
                    have lB := hp.lb.cell 1
                    have fA := hp.lb.free 0
                    have fB := hp.lb.free 1
                    have x0 := hbb.cell 0
                    have x1 := hbb.cell 1
                    simp only [List.getElem?_toArray, List.getElem?_cons_zero, List.getElem?_cons_succ] at lA lB x0 x1
                    have HP2 : Hid (PS w ((wc.setCell ⟨R + 1, 0, none⟩ (.int .i64 (n 0))).setCell ⟨R + 1, 1, none⟩ (.slice pu (f 0).length cu)) R (R + 1) q f n (upd f 0 (f 0)) (upd n 0 (n 0)) (upd v 0 (.slice pu (f 0).length cu))) := hp.put 0 hJ (n 0) hu
                    have HNY : Hid (some ob ≠ some (R + 1)) := fun e => blk_ne hk hp.lb (by decide) (by injection e)
                    have hgg := (grown_setCell wc (R + 1) 0 (.int .i64 (n 0))).trans (grown_setCell _ (R + 1) 1 (.slice pu (f 0).length cu))
                    have HK2 := Hid.in (hk.kept hgg HNY.out)
                    have HV2 := Hid.in (hv.kept4 hp.lb (by decide) hgg)
                    have HUB : Hid (∀ j < 2, ∀ g', (upd v 0 (.slice pu (f 0).length cu) j).ownBlock = some g' → g' < w6.heap.size ∨ w7.heap.size ≤ g') := fun j hj g' hg' => by
                      by_cases e : j = 0
                      · subst e; rw [upd_same] at hg'; exact hub g' hg'
                      · rw [upd_other _ _ e] at hg'; exact .inl (HOL.out j hj g' hg')
                    clear hgg HNY hbb hu hub hp hk hv HOL
                    go_upto_region 19 with fail
                    generalize (wc.setCell ⟨R + 1, 0, none⟩ (.int .i64 (n 0))).setCell ⟨R + 1, 1, none⟩ (.slice pu (f 0).length cu) = w10 at *
                    clear lA lB fA fB x0 x1
                    have oC := HK2.out.cell 3
                    simp only [List.getElem?_toArray, List.getElem?_cons_zero, List.getElem?_cons_succ] at oC
                    go_wp2_with (go_at_call 18; refine Hid.out ?_)
                    refine Lib.hid ?_
                    refine (sameFlags_self pin xr cin xd ys w10 hlen HV2.out.at (HW.out _ HP2.out.bel)).mono ?_
                    rintro e w11 ⟨rfl, hb11⟩
                    have HPn := Hid.in (HP2.out.below hb11)
                    have HVn := Hid.in (HV2.out.below hb11)
                    clear hb11 HP2 HV2 HK2 oC
                    have HBN : Hid (∀ j, 0 ≤ n j ∧ n j ≤ (i : Int) + 1) := fun j => ⟨(HNB.out j).1, by have := (HNB.out j).2; omega⟩
                    have HPf : Hid (PS w w11 R (R + 1) q f n f n (upd v 0 (.slice pu (f 0).length cu))) := by
                      have := HPn.out
                      rw [upd_self, upd_self] at this
                      exact this
                    clear HPn
                    generalize upd v 0 (.slice pu (f 0).length cu) = vv at *
                    generalize hff : f = ff at *
                    generalize hnn : n = nn at *
                    clear hff hnn
                    go_wp2_with fail
                    go_loopw [22] (fun vk wr => ∃ (k : Nat) (zs : List Bool), vk = .int .i64 k ∧ k ≤ ys.length ∧ zs.length = ys.length ∧ PS w wr R (R + 1) q ff nn ff nn vv ∧ GOwnV 4 wr w.heap.size (.slice pin ys.length cin) (flgs zs)) (fun vk _ => ys.length - (intOf vk).toNat)
                    case atStart => exact ⟨0, ys, rfl, Nat.zero_le _, rfl, HPf.out, HVn.out⟩
                    case round =>
                      obtain ⟨k, zs, rfl, hk, hzs, hp, hv⟩ := hrel
                      clear HPf HVn
                      have HPk := Hid.in hp
                      have HZS := Hid.in hzs
                      by_cases hky : k < ys.length
                      · have hdk : decide ((k : Int) < (ys.length : Int)) = true := decide_eq_true (by omega)
                        rcases hv.shape with ⟨-, e⟩ | ⟨g, cap, e, ho⟩
                        · exfalso
                          have : (flgs zs).length = 0 := by rw [e]; rfl
                          simp at this
                          rw [this] at hzs
                          simp at hzs
                          omega
                        · have e2 : pin = some ⟨g, 0, none⟩ ∧ cin = cap := by
                            simp only [Value.slice.injEq] at e
                            exact ⟨e.1, e.2.2⟩
                          obtain ⟨e3, e4⟩ := e2
                          subst e3 e4
                          have hkz : k < zs.length := by omega
                          have ck := ho.cell k (by simpa using hkz)
                          rw [getD_flgs _ _ hkz] at ck
                          have fk := ho.free k
                          have HG := Hid.in (grown_setCell wr g k (.bool (!zs.getD k false)))
                          have hgin := HIN.out g rfl
                          have HPx := Hid.in (hp.apart ho ho.base (fun j hj e => by
                            rcases HUB.out j hj g e with h | h
                            · omega
                            · omega) HG.out)
                          have HVx : Hid (GOwnV 4 (wr.setCell ⟨g, k, none⟩ (.bool (!zs.getD k false))) w.heap.size (.slice (some ⟨g, 0, none⟩) ys.length cin) (flgs (zs.set k (!zs.getD k false)))) := by
                            show GOwnV _ _ _ _ _
                            have := (ho.store k (.bool (!zs.getD k false))).val
                            rw [← List.map_set] at this
                            simpa [hzs] using this
                          clear e hp hv ho hzs hkz
                          generalize zs.getD k false = t at *
                          go_wp2_with fail
                          go_roundw
                          case rel => exact ⟨k + 1, _, by go_num, by omega, by rw [List.length_set]; exact HZS.out, HPx.out, HVx.out⟩
                          case measure => simp [intOf]; omega
                      · have hdk : decide ((k : Int) < (ys.length : Int)) = false := decide_eq_false (by omega)
                        clear hp hv hzs
                        go_wp2_with fail
                        go_meet
                        case rel => exact ⟨_, _, _, _, HPk.out, HBN.out⟩
            have hb1 : (kind == 1) = false := beq_eq_false_iff_ne.2 hk1
            have hd1' : decide (kind = 1) = false := decide_eq_false hk1
            by_cases hk2 : kind = 2
            · as_aux_lemma =>
                subst hk2
                have hJ : 0 < 2 := by decide
                obtain ⟨pJ, cJ, eJ, -⟩ := (HP.out.own 0 hJ).brow
                have HEJ := Hid.in eJ
                have hle := (HP.out.rnd 0 hJ).le
                clear eJ
                have HPd : Hid (PS w w6.drew R (R + 1) q f n f n v) := HP.out.below (below_draws (below_self _) 1)
                have h13 := take_any (q 0) (f 0) (n 0) hart w6.drew (HPd.out.rnd 0 hJ)
                have cR := HP.out.rb.cell 0
                have HNQ : Hid (some ob ≠ some (q 0)) := fun e => blk_ne HK0.out (HP.out.rnd 0 hJ).blk (by decide) (by injection e)
                have HKd : Hid (Blk w6.drew ob 43 #[.int .i64 2, .int .i64 on, .int .i64 hart, .slice xr ys.length xd]) := HK0.out
                simp only [List.getElem?_toArray, List.getElem?_cons_zero, List.getElem?_cons_succ] at cR t2
                go_upto_region 26 with fail
                go_cut [23, 24] (fun va vb wx => va = .int .i64 (tkN (f 0) (n 0) hart) ∧ vb = .bool (pnd (f 0) hart) ∧ PS w wx R (R + 1) q (upd f 0 (drp (f 0) hart)) (upd n 0 (n 0)) f n v ∧ Blk wx ob 43 #[.int .i64 2, .int .i64 on, .int .i64 hart, .slice xr ys.length xd])
                case first =>
                  go_region_held3 (fun W => W.cell? ⟨R, 0, none⟩ = some (.pointer (some ⟨q 0, 0, none⟩)) ∧ W.cell? ⟨ob, 2, none⟩ = some (.int .i64 hart)) (first | (with_reducible exact hk1) | go_keep)
                    (first | (go_at_call 13; (with_reducible refine h13.mono ?_); rintro e w8 ⟨rfl, hr8, hg8⟩; have HP8 := Hid.in (HPd.out.turned 0 hJ hr8 hg8); have HK8 := Hid.in (HKd.out.kept hg8 HNQ.out); have hk1 : w8.cell? ⟨R, 0, none⟩ = some (.pointer (some ⟨q 0, 0, none⟩)) ∧ w8.cell? ⟨ob, 2, none⟩ = some (.int .i64 hart) := ⟨HP8.out.rb.cell 0, HK8.out.cell 2⟩; clear hr8 hg8))
                  go_wp2_with fail
                  go_meet
                  case rel => exact ⟨rfl, rfl, HP8.out, HK8.out⟩
                case rest =>
                  obtain ⟨rfl, rfl, hp8, hk8⟩ := hcut
                  clear HPd h13 cR HNQ HKd HP HK0 t2 t3
                  have HP8 := Hid.in hp8
                  have HK8 := Hid.in hk8
                  clear hp8 hk8
                  have HOW : Hid (GOwnV 4 wc w.heap.size (.slice pJ (f 0).length cJ) (flgs (f 0))) := by have := HP8.out.own 0 hJ; rw [HEJ.out] at this; exact this
                  have HBW := Hid.in HP8.out.bel
                  have lA := HP8.out.lb.cell 0
                  have lB := HP8.out.lb.cell 1
                  have oC := HK8.out.cell 2
                  simp only [List.getElem?_toArray, List.getElem?_cons_zero, List.getElem?_cons_succ] at lA lB oC
                  rw [HEJ.out] at lB
                  go_upto_region 27 with fail
                  go_cut [25, 26] (fun vb vs wx => ∃ (b : Nat) (pu : Option Addr) (cu : Nat), vb = .pointer (some ⟨b, 0, none⟩) ∧ vs = .bool (pnd (f 0) hart) ∧ Blk wx b 37 #[.int .i64 (n 0), .slice pu (f 0).length cu] ∧ GOwnV 4 wx w.heap.size (.slice pu (f 0).length cu) (flgs (drp (f 0) hart)) ∧ PS w wx R (R + 1) q (upd f 0 (drp (f 0) hart)) (upd n 0 (n 0)) f n v ∧ Blk wx ob 43 #[.int .i64 2, .int .i64 on, .int .i64 hart, .slice xr ys.length xd])
                  case first =>
                    have hA := rdrop_at pJ cJ (f 0) (n 0) hart w.heap.size wc.drew hle (HBW.out.size) HOW.out
                    have hB := rdrop_at pJ cJ (f 0) (n 0) hart w.heap.size (wc.alloc (.cells #[.int .i64 0, .slice none 0 0] 37)).drew hle (below_alloc HBW.out _).size (HOW.out.below (below_draws (new_alloc _ _) 1))
                    have HPa : Hid (PS w wc.drew R (R + 1) q (upd f 0 (drp (f 0) hart)) (upd n 0 (n 0)) f n v) := HP8.out.below (below_draws (below_self _) 1)
                    have HPb : Hid (PS w (wc.alloc (.cells #[.int .i64 0, .slice none 0 0] 37)).drew R (R + 1) q (upd f 0 (drp (f 0) hart)) (upd n 0 (n 0)) f n v) := HP8.out.below (below_draws (new_alloc _ _) 1)
                    have HKa : Hid (Blk wc.drew ob 43 #[.int .i64 2, .int .i64 on, .int .i64 hart, .slice xr ys.length xd]) := HK8.out
                    have HKb : Hid (Blk (wc.alloc (.cells #[.int .i64 0, .slice none 0 0] 37)).drew ob 43 #[.int .i64 2, .int .i64 on, .int .i64 hart, .slice xr ys.length xd]) := HK8.out.grow (below_draws (new_alloc _ _) 1)
                    have HZ : Hid (Blk (wc.alloc (.cells #[.int .i64 0, .slice none 0 0] 37)).drew wc.heap.size 37 #[.int .i64 0, .slice none 0 0]) := Blk.new wc 37 #[.int .i64 0, .slice none 0 0]
                    have hz1 : ¬ R + 1 = wc.heap.size := fun e => by have := HP8.out.lb.lt; omega
                    have hz2 : ¬ ob = wc.heap.size := fun e => by have := HK8.out.lt; omega
                    have hz3 : ¬ wc.heap.size = R + 1 := fun e => hz1 e.symm
                    have hz4 : ¬ wc.heap.size = ob := fun e => hz2 e.symm
                    go_region_held3 (fun W => W.cell? ⟨R + 1, 0, none⟩ = some (.int .i64 (n 0)) ∧ W.cell? ⟨R + 1, 1, none⟩ = some (.slice pJ (f 0).length cJ) ∧ W.cell? ⟨ob, 2, none⟩ = some (.int .i64 hart)) (first | (with_reducible exact hk1) | go_keep)
                      (first
                        | (go_at_call 19; (with_reducible refine hA.mono ?_); rintro e w9 ⟨pu, cu, rfl, hu9, hb9⟩; have HPc := Hid.in (HPa.out.below hb9); have HUc := Hid.in hu9; have HKc := Hid.in (HKa.out.grow hb9); have kB := HPc.out.lb.cell 1; rw [List.getElem?_toArray] at kB; simp only [List.getElem?_cons_zero, List.getElem?_cons_succ, HEJ.out] at kB; have hk1 : w9.cell? ⟨R + 1, 0, none⟩ = some (.int .i64 (n 0)) ∧ w9.cell? ⟨R + 1, 1, none⟩ = some (.slice pJ (f 0).length cJ) ∧ w9.cell? ⟨ob, 2, none⟩ = some (.int .i64 hart) := ⟨HPc.out.lb.cell 0, kB, HKc.out.cell 2⟩; clear hb9 hu9)
                        | (go_at_call 19; (with_reducible refine hB.mono ?_); rintro e w9 ⟨pu, cu, rfl, hu9, hb9⟩; have HPd := Hid.in (HPb.out.below hb9); have HUd := Hid.in hu9; have HKd := Hid.in (HKb.out.grow hb9); have HZd := Hid.in (HZ.out.grow hb9); have kB := HPd.out.lb.cell 1; rw [List.getElem?_toArray] at kB; simp only [List.getElem?_cons_zero, List.getElem?_cons_succ, HEJ.out] at kB; have hk1 : w9.cell? ⟨R + 1, 0, none⟩ = some (.int .i64 (n 0)) ∧ w9.cell? ⟨R + 1, 1, none⟩ = some (.slice pJ (f 0).length cJ) ∧ w9.cell? ⟨ob, 2, none⟩ = some (.int .i64 hart) := ⟨HPd.out.lb.cell 0, kB, HKd.out.cell 2⟩; have z0 : w9.cell? ⟨wc.heap.size, 0, none⟩ = some (.int .i64 0) := HZd.out.cell 0; have z1 : w9.cell? ⟨wc.heap.size, 1, none⟩ = some (.slice none 0 0) := HZd.out.cell 1; have y0 := HZd.out.free 0; have y1 := HZd.out.free 1; clear hb9 hu9))
                    · go_wp2_with fail
                      go_meet
                      case rel => exact ⟨_, pu, cu, rfl, rfl, Blk.new _ _ _, HUc.out.below (new_alloc _ _), HPc.out.below (new_alloc _ _), HKc.out.grow (new_alloc _ _)⟩
                    · have hg9 := (grown_setCell w9 wc.heap.size 0 (.int .i64 (n 0))).trans (grown_setCell _ wc.heap.size 1 (.slice pu (f 0).length cu))
                      have HBk : Hid (Blk ((w9.setCell ⟨wc.heap.size, 0, none⟩ (.int .i64 (n 0))).setCell ⟨wc.heap.size, 1, none⟩ (.slice pu (f 0).length cu)) wc.heap.size 37 #[.int .i64 (n 0), .slice pu (f 0).length cu]) := (HZd.out.set 0 _).set 1 _
                      have HU9 := Hid.in (HUd.out.kept4 HZd.out (by decide) hg9)
                      have HP9 := Hid.in (HPd.out.otherT HZd.out (by decide) HBW.out.size hg9)
                      have HK9 := Hid.in (HKd.out.kept hg9 (fun e => hz2 (by injection e)))
                      go_wp2_with fail
                      go_meet
                      case rel => exact ⟨_, pu, cu, rfl, rfl, HBk.out, HU9.out, HP9.out, HK9.out⟩
                  case rest =>
                    obtain ⟨b, pu, cu, rfl, rfl, hbb, hu, hp, hk⟩ := hcut
                    clear HOW HBW lA lB oC HEJ HP8 HK8
                    have lA := hp.lb.cell 0
                    have lB := hp.lb.cell 1
                    have fA := hp.lb.free 0
                    have fB := hp.lb.free 1
                    have x0 := hbb.cell 0
                    have x1 := hbb.cell 1
                    simp only [List.getElem?_toArray, List.getElem?_cons_zero, List.getElem?_cons_succ] at lA lB x0 x1
                    have HP2 : Hid (PS w ((wc.setCell ⟨R + 1, 0, none⟩ (.int .i64 (n 0))).setCell ⟨R + 1, 1, none⟩ (.slice pu (f 0).length cu)) R (R + 1) q (upd f 0 (drp (f 0) hart)) (upd n 0 (n 0)) (upd f 0 (drp (f 0) hart)) (upd n 0 (n 0)) (upd v 0 (.slice pu (f 0).length cu))) := hp.put 0 hJ (n 0) hu
                    have HNX : Hid (some b ≠ some (R + 1)) := fun e => blk_ne hbb hp.lb (by decide) (by injection e)
                    have HNY : Hid (some ob ≠ some (R + 1)) := fun e => blk_ne hk hp.lb (by decide) (by injection e)
                    have hgg := (grown_setCell wc (R + 1) 0 (.int .i64 (n 0))).trans (grown_setCell _ (R + 1) 1 (.slice pu (f 0).length cu))
                    have HX2 := Hid.in (hbb.kept hgg HNX.out)
                    have HK2 := Hid.in (hk.kept hgg HNY.out)
                    clear hgg HNX HNY hbb hu hp hk
                    go_upto_region 29 with fail
                    generalize (wc.setCell ⟨R + 1, 0, none⟩ (.int .i64 (n 0))).setCell ⟨R + 1, 1, none⟩ (.slice pu (f 0).length cu) = w10 at *
                    clear lA lB fA fB x0 x1
                    have x0 := HX2.out.cell 0
                    simp only [List.getElem?_toArray, List.getElem?_cons_zero] at x0
                    have hbd := HNB.out 0
                    cases hpp : pnd (f 0) hart
                    · have htk : tkN (f 0) (n 0) hart = 0 := by unfold tkN; rw [hpp]; rfl
                      rw [htk]
                      clear htk
                      go_wp2_with fail
                      go_meet
                      case rel => exact ⟨_, _, _, _, HP2.out, bnd_upd HNB.out 0 hbd.1 (by omega)⟩
                    · have htk : tkN (f 0) (n 0) hart = n 0 := by unfold tkN; rw [hpp]; rfl
                      rw [htk]
                      clear htk
                      go_wp2_with fail
                      go_meet
                      case rel => exact ⟨_, _, _, _, HP2.out, bnd_upd HNB.out 0 hbd.1 (by omega)⟩
            have hb2 : (kind == 2) = false := beq_eq_false_iff_ne.2 hk2
            have hd2' : decide (kind = 2) = false := decide_eq_false hk2
            by_cases hk3 : kind = 3
            · as_aux_lemma =>
                subst hk3
                have hJ : 0 < 2 := by decide
                obtain ⟨pJ, cJ, eJ, -⟩ := (HP.out.own 0 hJ).brow
                have HEJ := Hid.in eJ
                have hle := (HP.out.rnd 0 hJ).le
                clear eJ
                have HOW : Hid (GOwnV 4 w6 w.heap.size (.slice pJ (f 0).length cJ) (flgs (f 0))) := by have := HP.out.own 0 hJ; rw [HEJ.out] at this; exact this
                have HBW := Hid.in HP.out.bel
                have lA := HP.out.lb.cell 0
                have lB := HP.out.lb.cell 1
                have oC := HK0.out.cell 2
                simp only [List.getElem?_toArray, List.getElem?_cons_zero, List.getElem?_cons_succ] at lA lB oC
                rw [HEJ.out] at lB
                go_upto_region 32 with fail
                go_cut [27, 28] (fun vb vs wx => ∃ (b : Nat) (pu : Option Addr) (cu : Nat), vb = .pointer (some ⟨b, 0, none⟩) ∧ vs = .bool (pnd (f 0) hart) ∧ Blk wx b 37 #[.int .i64 (n 0), .slice pu (f 0).length cu] ∧ GOwnV 4 wx w.heap.size (.slice pu (f 0).length cu) (flgs (drp (f 0) hart)) ∧ PS w wx R (R + 1) q f n f n v ∧ Blk wx ob 43 #[.int .i64 3, .int .i64 on, .int .i64 hart, .slice xr ys.length xd])
                case first =>
                  have hA := rdrop_at pJ cJ (f 0) (n 0) hart w.heap.size w6.drew hle (HBW.out.size) HOW.out
                  have hB := rdrop_at pJ cJ (f 0) (n 0) hart w.heap.size (w6.alloc (.cells #[.int .i64 0, .slice none 0 0] 37)).drew hle (below_alloc HBW.out _).size (HOW.out.below (below_draws (new_alloc _ _) 1))
                  have HPa : Hid (PS w w6.drew R (R + 1) q f n f n v) := HP.out.below (below_draws (below_self _) 1)
                  have HPb : Hid (PS w (w6.alloc (.cells #[.int .i64 0, .slice none 0 0] 37)).drew R (R + 1) q f n f n v) := HP.out.below (below_draws (new_alloc _ _) 1)
                  have HKa : Hid (Blk w6.drew ob 43 #[.int .i64 3, .int .i64 on, .int .i64 hart, .slice xr ys.length xd]) := HK0.out
                  have HKb : Hid (Blk (w6.alloc (.cells #[.int .i64 0, .slice none 0 0] 37)).drew ob 43 #[.int .i64 3, .int .i64 on, .int .i64 hart, .slice xr ys.length xd]) := HK0.out.grow (below_draws (new_alloc _ _) 1)
                  have HZ : Hid (Blk (w6.alloc (.cells #[.int .i64 0, .slice none 0 0] 37)).drew w6.heap.size 37 #[.int .i64 0, .slice none 0 0]) := Blk.new w6 37 #[.int .i64 0, .slice none 0 0]
                  have hz1 : ¬ R + 1 = w6.heap.size := fun e => by have := HP.out.lb.lt; omega
                  have hz2 : ¬ ob = w6.heap.size := fun e => by have := HK0.out.lt; omega
                  have hz3 : ¬ w6.heap.size = R + 1 := fun e => hz1 e.symm
                  have hz4 : ¬ w6.heap.size = ob := fun e => hz2 e.symm
                  go_region_held3 (fun W => W.cell? ⟨R + 1, 0, none⟩ = some (.int .i64 (n 0)) ∧ W.cell? ⟨R + 1, 1, none⟩ = some (.slice pJ (f 0).length cJ) ∧ W.cell? ⟨ob, 2, none⟩ = some (.int .i64 hart)) (first | (with_reducible exact hk1) | go_keep)
                    (first
                      | (go_at_call 19; (with_reducible refine hA.mono ?_); rintro e w9 ⟨pu, cu, rfl, hu9, hb9⟩; have HPc := Hid.in (HPa.out.below hb9); have HUc := Hid.in hu9; have HKc := Hid.in (HKa.out.grow hb9); have kB := HPc.out.lb.cell 1; rw [List.getElem?_toArray] at kB; simp only [List.getElem?_cons_zero, List.getElem?_cons_succ, HEJ.out] at kB; have hk1 : w9.cell? ⟨R + 1, 0, none⟩ = some (.int .i64 (n 0)) ∧ w9.cell? ⟨R + 1, 1, none⟩ = some (.slice pJ (f 0).length cJ) ∧ w9.cell? ⟨ob, 2, none⟩ = some (.int .i64 hart) := ⟨HPc.out.lb.cell 0, kB, HKc.out.cell 2⟩; clear hb9 hu9)
                      | (go_at_call 19; (with_reducible refine hB.mono ?_); rintro e w9 ⟨pu, cu, rfl, hu9, hb9⟩; have HPd := Hid.in (HPb.out.below hb9); have HUd := Hid.in hu9; have HKd := Hid.in (HKb.out.grow hb9); have HZd := Hid.in (HZ.out.grow hb9); have kB := HPd.out.lb.cell 1; rw [List.getElem?_toArray] at kB; simp only [List.getElem?_cons_zero, List.getElem?_cons_succ, HEJ.out] at kB; have hk1 : w9.cell? ⟨R + 1, 0, none⟩ = some (.int .i64 (n 0)) ∧ w9.cell? ⟨R + 1, 1, none⟩ = some (.slice pJ (f 0).length cJ) ∧ w9.cell? ⟨ob, 2, none⟩ = some (.int .i64 hart) := ⟨HPd.out.lb.cell 0, kB, HKd.out.cell 2⟩; have z0 : w9.cell? ⟨w6.heap.size, 0, none⟩ = some (.int .i64 0) := HZd.out.cell 0; have z1 : w9.cell? ⟨w6.heap.size, 1, none⟩ = some (.slice none 0 0) := HZd.out.cell 1; have y0 := HZd.out.free 0; have y1 := HZd.out.free 1; clear hb9 hu9))
                  · go_wp2_with fail
                    go_meet
                    case rel => exact ⟨_, pu, cu, rfl, rfl, Blk.new _ _ _, HUc.out.below (new_alloc _ _), HPc.out.below (new_alloc _ _), HKc.out.grow (new_alloc _ _)⟩
                  · have hg9 := (grown_setCell w9 w6.heap.size 0 (.int .i64 (n 0))).trans (grown_setCell _ w6.heap.size 1 (.slice pu (f 0).length cu))
                    have HBk : Hid (Blk ((w9.setCell ⟨w6.heap.size, 0, none⟩ (.int .i64 (n 0))).setCell ⟨w6.heap.size, 1, none⟩ (.slice pu (f 0).length cu)) w6.heap.size 37 #[.int .i64 (n 0), .slice pu (f 0).length cu]) := (HZd.out.set 0 _).set 1 _
                    have HU9 := Hid.in (HUd.out.kept4 HZd.out (by decide) hg9)
                    have HP9 := Hid.in (HPd.out.otherT HZd.out (by decide) HBW.out.size hg9)
                    have HK9 := Hid.in (HKd.out.kept hg9 (fun e => hz2 (by injection e)))
                    go_wp2_with fail
                    go_meet
                    case rel => exact ⟨_, pu, cu, rfl, rfl, HBk.out, HU9.out, HP9.out, HK9.out⟩
                case rest =>
                  obtain ⟨b, pu, cu, rfl, rfl, hbb, hu, hp, hk⟩ := hcut
                  clear HOW HBW lA lB oC HEJ HP HK0 t2 t3
                  have lA := hp.lb.cell 0
                  have lB := hp.lb.cell 1
                  have fA := hp.lb.free 0
                  have fB := hp.lb.free 1
                  have x0 := hbb.cell 0
                  have x1 := hbb.cell 1
                  simp only [List.getElem?_toArray, List.getElem?_cons_zero, List.getElem?_cons_succ] at lA lB x0 x1
                  have HP2 : Hid (PS w ((wc.setCell ⟨R + 1, 0, none⟩ (.int .i64 (n 0))).setCell ⟨R + 1, 1, none⟩ (.slice pu (f 0).length cu)) R (R + 1) q f n (upd f 0 (drp (f 0) hart)) (upd n 0 (n 0)) (upd v 0 (.slice pu (f 0).length cu))) := hp.put 0 hJ (n 0) hu
                  have HNX : Hid (some b ≠ some (R + 1)) := fun e => blk_ne hbb hp.lb (by decide) (by injection e)
                  have HNY : Hid (some ob ≠ some (R + 1)) := fun e => blk_ne hk hp.lb (by decide) (by injection e)
                  have hgg := (grown_setCell wc (R + 1) 0 (.int .i64 (n 0))).trans (grown_setCell _ (R + 1) 1 (.slice pu (f 0).length cu))
                  have HX2 := Hid.in (hbb.kept hgg HNX.out)
                  have HK2 := Hid.in (hk.kept hgg HNY.out)
                  clear hgg HNX HNY hbb hu hp hk
                  go_upto_region 34 with fail
                  generalize (wc.setCell ⟨R + 1, 0, none⟩ (.int .i64 (n 0))).setCell ⟨R + 1, 1, none⟩ (.slice pu (f 0).length cu) = w10 at *
                  clear lA lB fA fB x0 x1
                  have HPe : Hid (PS w w10.drew R (R + 1) q f n (upd f 0 (drp (f 0) hart)) (upd n 0 (n 0)) (upd v 0 (.slice pu (f 0).length cu))) := HP2.out.below (below_draws (below_self _) 1)
                  have h20 := drop_any (q 0) (f 0) (n 0) hart w10.drew (HPe.out.rnd 0 hJ)
                  have cR := HP2.out.rb.cell 0
                  have oC := HK2.out.cell 2
                  have HNQ : Hid (some ob ≠ some (q 0)) := fun e => blk_ne HK2.out (HP2.out.rnd 0 hJ).blk (by decide) (by injection e)
                  have HKd : Hid (Blk w10.drew ob 43 #[.int .i64 3, .int .i64 on, .int .i64 hart, .slice xr ys.length xd]) := HK2.out
                  simp only [List.getElem?_toArray, List.getElem?_cons_zero, List.getElem?_cons_succ] at cR oC
                  have hbd := HNB.out 0
                  generalize hpp : pnd (f 0) hart = tp at *
                  clear hpp
                  clear HX2
                  go_region_held3 (fun W => W.cell? ⟨R, 0, none⟩ = some (.pointer (some ⟨q 0, 0, none⟩)) ∧ W.cell? ⟨ob, 2, none⟩ = some (.int .i64 hart)) (first | (with_reducible exact hk1) | go_keep)
                    (first | (go_at_call 20; (with_reducible refine h20.mono ?_); rintro e w11 ⟨rfl, hr8, hg8⟩; have HP8 := Hid.in (HPe.out.turned 0 hJ hr8 hg8); have HK8 := Hid.in (HKd.out.kept hg8 HNQ.out); have hk1 : w11.cell? ⟨R, 0, none⟩ = some (.pointer (some ⟨q 0, 0, none⟩)) ∧ w11.cell? ⟨ob, 2, none⟩ = some (.int .i64 hart) := ⟨HP8.out.rb.cell 0, HK8.out.cell 2⟩; clear hr8 hg8))
                  go_wp2_with fail
                  go_meet
                  case rel => exact ⟨_, _, _, _, HP8.out, bnd_upd HNB.out 0 hbd.1 (by omega)⟩
            have hb3 : (kind == 3) = false := beq_eq_false_iff_ne.2 hk3
            have hd3' : decide (kind = 3) = false := decide_eq_false hk3
            by_cases hk4 : kind = 4
            · as_aux_lemma =>
                subst hk4
                have hJ : 0 < 2 := by decide
                obtain ⟨pJ, cJ, eJ, -⟩ := (HP.out.own 0 hJ).brow
                have HEJ := Hid.in eJ
                have hle := (HP.out.rnd 0 hJ).le
                clear eJ
                have HPe : Hid (PS w w6.drew R (R + 1) q f n f n v) := HP.out.below (below_draws (below_self _) 1)
                have h21 := copy_any (q 0) (f 0) (n 0) w6.drew (HPe.out.rnd 0 hJ)
                have cR := HP.out.rb.cell 0
                have lA := HP.out.lb.cell 0
                have lB := HP.out.lb.cell 1
                simp only [List.getElem?_toArray, List.getElem?_cons_zero, List.getElem?_cons_succ] at cR lA lB
                rw [HEJ.out] at lB
                have hw0 : IntKind.i64.wrap 0 = 0 := by decide
                have hw1 : IntKind.i64.wrap 1 = 1 := by decide
                have hnR : ¬ R = R + 1 := by omega
                have hnR' : ¬ R + 1 = R := by omega
                have hks1 : ∀ (W : World) (x : Value), (W.cell? ⟨R, 0, none⟩ = some (.pointer (some ⟨q 0, 0, none⟩)) ∧ W.cell? ⟨R + 1, 0, none⟩ = some (.int .i64 (n 0)) ∧ W.cell? ⟨R + 1, 1, none⟩ = some (.slice pJ (f 0).length cJ)) → ((W.setCell ⟨R, 1, none⟩ x).cell? ⟨R, 0, none⟩ = some (.pointer (some ⟨q 0, 0, none⟩)) ∧ (W.setCell ⟨R, 1, none⟩ x).cell? ⟨R + 1, 0, none⟩ = some (.int .i64 (n 0)) ∧ (W.setCell ⟨R, 1, none⟩ x).cell? ⟨R + 1, 1, none⟩ = some (.slice pJ (f 0).length cJ)) := fun W x h => by
                  rw [cell_off _ _ _ (by decide), cell_blk _ _ _ _ hnR, cell_blk _ _ _ _ hnR]; exact h
                have hks2 : ∀ (W : World) (x y : Value), (W.cell? ⟨R, 0, none⟩ = some (.pointer (some ⟨q 0, 0, none⟩)) ∧ W.cell? ⟨R + 1, 0, none⟩ = some (.int .i64 (n 0)) ∧ W.cell? ⟨R + 1, 1, none⟩ = some (.slice pJ (f 0).length cJ)) → (((W.setCell ⟨R + 1, 2, none⟩ x).setCell ⟨R + 1, 3, none⟩ y).cell? ⟨R, 0, none⟩ = some (.pointer (some ⟨q 0, 0, none⟩)) ∧ ((W.setCell ⟨R + 1, 2, none⟩ x).setCell ⟨R + 1, 3, none⟩ y).cell? ⟨R + 1, 0, none⟩ = some (.int .i64 (n 0)) ∧ ((W.setCell ⟨R + 1, 2, none⟩ x).setCell ⟨R + 1, 3, none⟩ y).cell? ⟨R + 1, 1, none⟩ = some (.slice pJ (f 0).length cJ)) := fun W x y h => by
                  rw [cell_blk _ _ _ _ hnR', cell_blk _ _ _ _ hnR', cell_off _ _ _ (by decide), cell_off _ _ _ (by decide), cell_off _ _ _ (by decide), cell_off _ _ _ (by decide)]; exact h
                have HKS1 := Hid.in hks1
                have HKS2 := Hid.in hks2
                clear hks1 hks2 t2 t3
                go_upto_region 37 with fail
                go_region_held3 (fun W => W.cell? ⟨R, 0, none⟩ = some (.pointer (some ⟨q 0, 0, none⟩)) ∧ W.cell? ⟨R + 1, 0, none⟩ = some (.int .i64 (n 0)) ∧ W.cell? ⟨R + 1, 1, none⟩ = some (.slice pJ (f 0).length cJ)) (first | (with_reducible exact hk1) | (refine HKS1.out _ _ ?_; assumption) | (refine HKS2.out _ _ _ ?_; assumption) | go_keep)
                  (first | (go_at_call 21; (with_reducible refine h21.mono ?_); rintro e w11 ⟨rfl, hr8, hb8⟩; have HP8 := Hid.in (HPe.out.below hb8); have HR8 := Hid.in hr8; have HB8 := Hid.in hb8; have k1 := HP8.out.rb.cell 0; have k2 := HP8.out.lb.cell 0; have k3 := HP8.out.lb.cell 1; have k4 := HP8.out.rb.cell 1; have k5 := HP8.out.lb.cell 2; have k6 := HP8.out.lb.cell 3; have k7 := HP8.out.rb.free 1; have k8 := HP8.out.lb.free 2; have k9 := HP8.out.lb.free 3; simp only [List.getElem?_toArray, List.getElem?_cons_zero, List.getElem?_cons_succ] at k1 k2 k3 k4 k5 k6; rw [HEJ.out] at k3; have hk1 : w11.cell? ⟨R, 0, none⟩ = some (.pointer (some ⟨q 0, 0, none⟩)) ∧ w11.cell? ⟨R + 1, 0, none⟩ = some (.int .i64 (n 0)) ∧ w11.cell? ⟨R + 1, 1, none⟩ = some (.slice pJ (f 0).length cJ) := ⟨k1, k2, k3⟩; clear hr8 hb8))
                have HPz : Hid (PS w (((w11.setCell ⟨R, 1, none⟩ (.pointer (some ⟨w6.heap.size, 0, none⟩))).setCell ⟨R + 1, 2, none⟩ (.int .i64 (n 0))).setCell ⟨R + 1, 3, none⟩ (.slice pJ (f 0).length cJ)) R (R + 1) (upd q 1 w6.heap.size) (upd f 1 (f 0)) (upd n 1 (n 0)) (upd f 1 (f 0)) (upd n 1 (n 0)) (upd v 1 (.slice pJ (f 0).length cJ))) := by
                  have := HPe.out.copied 0 hJ HR8.out HB8.out (Nat.le_refl _)
                  rw [HEJ.out] at this
                  exact this
                have hbd := HNB.out 0
                go_wp2_with fail
                go_meet
                case rel => exact ⟨_, _, _, _, HPz.out, bnd_upd HNB.out 1 hbd.1 (by omega)⟩
            have hb4 : (kind == 4) = false := beq_eq_false_iff_ne.2 hk4
            have hd4' : decide (kind = 4) = false := decide_eq_false hk4
            go_wp2_with fail
            go_meet
            case rel => exact ⟨_, _, _, _, HP.out, fun j => ⟨(HNB.out j).1, by have := (HNB.out j).2; omega⟩⟩
          · skip
            by_cases hk1 : kind = 1
            · as_aux_lemma =>
                subst hk1
                have hJ : 1 < 2 := by decide
                obtain ⟨pJ, cJ, eJ, -⟩ := (HP.out.own 1 hJ).brow
                have HEJ := Hid.in eJ
                have hle := (HP.out.rnd 1 hJ).le
                clear eJ
                simp only [List.getElem?_toArray, List.getElem?_cons_zero, List.getElem?_cons_succ] at t3
                go_wp2_with (go_at_call 16; refine Hid.out ?_)
                refine Lib.hid ?_
                refine (copyFlags_any xr xd ys w6 hlen (HW.out w6 HP.out.bel)).mono ?_
                rintro e w7 ⟨vi, rfl, hv7, hb7⟩
                obtain ⟨pin, cin, rfl, -⟩ := hv7.brow
                have HP7 := Hid.in (HP.out.below hb7)
                have HK7 := Hid.in (HK0.out.grow hb7)
                have HV7 : Hid (GOwnV 4 w7 w.heap.size (.slice pin ys.length cin) (flgs ys)) := hv7.lowerV HP.out.bel.size
                have HOL : Hid (∀ j < 2, ∀ g', (v j).ownBlock = some g' → g' < w6.heap.size) := fun j hj g' hg => ((HP.out.own j hj).block_in hg).2
                have HIN : Hid (∀ g', (Value.slice pin ys.length cin).ownBlock = some g' → w6.heap.size ≤ g' ∧ g' < w7.heap.size) := fun g' hg => hv7.block_in hg
                have HOJ : Hid (∀ g', (Value.slice pJ (f 1).length cJ).ownBlock = some g' → g' < w6.heap.size) := fun g' hg => HOL.out 1 hJ g' (by rw [HEJ.out]; exact hg)
                have hbd := HNB.out 1
                clear hv7 hb7 HP HK0 t2 t3
                have cR := HP7.out.rb.cell 1
                simp only [List.getElem?_toArray, List.getElem?_cons_zero, List.getElem?_cons_succ] at cR
                by_cases hok : ys.length = (f 1).length ∧ ovr (f 1) = true
                · obtain ⟨hk1', hk2'⟩ := hok
                  have HKL := Hid.in hk1'
                  have HKO := Hid.in hk2'
                  clear hk1' hk2'
                  go_wp2_with (go_at_call 9; refine Hid.out ?_)
                  refine Lib.hid ?_
                  refine (send_ok (q 1) cin pin (f 1) ys (n 1) w7 (HP7.out.rnd 1 hJ) HV7.out.at hbd.1 (by omega) HKL.out HKO.out).mono ?_
                  rintro e w8 ⟨rfl, hr8, hg8⟩
                  have HP8 := Hid.in (HP7.out.turned 1 hJ hr8 hg8)
                  have HK8 := Hid.in (HK7.out.kept hg8 (fun e => blk_ne HK7.out (HP7.out.rnd 1 hJ).blk (by decide) (by injection e)))
                  have HV8 := Hid.in (HV7.out.kept4 (HP7.out.rnd 1 hJ).blk (by decide) hg8)
                  have hs78 := hg8.size
                  clear hr8 hg8 HP7 HK7 HV7 cR
                  have HOW : Hid (GOwnV 4 w8 w.heap.size (.slice pJ (f 1).length cJ) (flgs (f 1))) := by have := HP8.out.own 1 hJ; rw [HEJ.out] at this; exact this
                  have HBW := Hid.in HP8.out.bel
                  have lA := HP8.out.lb.cell 2
                  have lB := HP8.out.lb.cell 3
                  have oC := HK8.out.cell 3
                  simp only [List.getElem?_toArray, List.getElem?_cons_zero, List.getElem?_cons_succ] at lA lB oC
                  rw [HEJ.out] at lB
                  go_upto_region 17 with fail
                  go_cut [19, 20, 21] (fun vb v1 v2 wx => ∃ (b : Nat) (pu : Option Addr) (cu : Nat), vb = .pointer (some ⟨b, 0, none⟩) ∧ v1 = .int .i64 (n 1 + 1) ∧ v2 = .int .i64 0 ∧ Blk wx b 37 #[.int .i64 (n 1 + 1), .slice pu (ys).length cu] ∧ GOwnV 4 wx w.heap.size (.slice pu (ys).length cu) (flgs (ys)) ∧ (∀ g', (Value.slice pu (ys).length cu).ownBlock = some g' → g' < w6.heap.size ∨ w7.heap.size ≤ g') ∧ PS w wx R (R + 1) q (upd f 1 ys) (upd n 1 (n 1 + 1)) f n v ∧ Blk wx ob 43 #[.int .i64 1, .int .i64 on, .int .i64 hart, .slice xr ys.length xd] ∧ GOwnV 4 wx w.heap.size (.slice pin ys.length cin) (flgs ys))
                  case first =>
                    have HRx : Hid (BRow w8.drew xr ys) := HW.out _ (below_draws HBW.out 1)
                    have HRy : Hid (BRow (w8.alloc (.cells #[.int .i64 0, .slice none 0 0] 37)).drew xr ys) := HW.out _ (below_draws (below_alloc HBW.out _) 1)
                    have HOx : Hid (GOwnV 4 w8.drew w.heap.size (.slice pJ (f 1).length cJ) (flgs (f 1))) := HOW.out
                    have HOy : Hid (GOwnV 4 (w8.alloc (.cells #[.int .i64 0, .slice none 0 0] 37)).drew w.heap.size (.slice pJ (f 1).length cJ) (flgs (f 1))) := HOW.out.below (below_draws (new_alloc _ _) 1)
                    have hA := rsend_at pJ xr cJ xd (f 1) ys (n 1) w.heap.size w8.drew hle HBW.out.size (fun g' => g' < w6.heap.size ∨ w7.heap.size ≤ g') (fun g' hg => .inr (Nat.le_trans hs78 hg)) HOx.out.at HRx.out HNIL.out HKL.out HKO.out hbd.1 (by omega)
                    have hB := rsend_at pJ xr cJ xd (f 1) ys (n 1) w.heap.size (w8.alloc (.cells #[.int .i64 0, .slice none 0 0] 37)).drew hle (below_alloc HBW.out _).size (fun g' => g' < w6.heap.size ∨ w7.heap.size ≤ g') (fun g' hg => .inr (Nat.le_trans hs78 (Nat.le_trans (new_alloc w8 (.cells #[.int .i64 0, .slice none 0 0] 37)).size hg))) HOy.out.at HRy.out HNIL.out HKL.out HKO.out hbd.1 (by omega)
                    have HPa : Hid (PS w w8.drew R (R + 1) q (upd f 1 ys) (upd n 1 (n 1 + 1)) f n v) := HP8.out.below (below_draws (below_self _) 1)
                    have HPb : Hid (PS w (w8.alloc (.cells #[.int .i64 0, .slice none 0 0] 37)).drew R (R + 1) q (upd f 1 ys) (upd n 1 (n 1 + 1)) f n v) := HP8.out.below (below_draws (new_alloc _ _) 1)
                    have HKa : Hid (Blk w8.drew ob 43 #[.int .i64 1, .int .i64 on, .int .i64 hart, .slice xr ys.length xd]) := HK8.out
                    have HKb : Hid (Blk (w8.alloc (.cells #[.int .i64 0, .slice none 0 0] 37)).drew ob 43 #[.int .i64 1, .int .i64 on, .int .i64 hart, .slice xr ys.length xd]) := HK8.out.grow (below_draws (new_alloc _ _) 1)
                    have HVa : Hid (GOwnV 4 w8.drew w.heap.size (.slice pin ys.length cin) (flgs ys)) := HV8.out
                    have HVb : Hid (GOwnV 4 (w8.alloc (.cells #[.int .i64 0, .slice none 0 0] 37)).drew w.heap.size (.slice pin ys.length cin) (flgs ys)) := HV8.out.below (below_draws (new_alloc _ _) 1)
                    have HZ : Hid (Blk (w8.alloc (.cells #[.int .i64 0, .slice none 0 0] 37)).drew w8.heap.size 37 #[.int .i64 0, .slice none 0 0]) := Blk.new w8 37 #[.int .i64 0, .slice none 0 0]
                    have hz1 : ¬ R + 1 = w8.heap.size := fun e => by have := HP8.out.lb.lt; omega
                    have hz2 : ¬ ob = w8.heap.size := fun e => by have := HK8.out.lt; omega
                    have hz3 : ¬ w8.heap.size = R + 1 := fun e => hz1 e.symm
                    have hz4 : ¬ w8.heap.size = ob := fun e => hz2 e.symm
                    go_region_held3 (fun W => W.cell? ⟨R + 1, 2, none⟩ = some (.int .i64 (n 1)) ∧ W.cell? ⟨R + 1, 3, none⟩ = some (.slice pJ (f 1).length cJ) ∧ W.cell? ⟨ob, 3, none⟩ = some (.slice xr ys.length xd)) (first | (with_reducible exact hk1) | go_keep)
                      (first
                        | (go_at_call 17; (with_reducible refine hA.mono ?_); rintro e w9 ⟨pu, cu, rfl, hu9, hb9⟩; have HPc := Hid.in (HPa.out.below hb9); have HUc := Hid.in hu9; have HKc := Hid.in (HKa.out.grow hb9); have HVc := Hid.in (HVa.out.below hb9); have kB := HPc.out.lb.cell 3; rw [List.getElem?_toArray] at kB; simp only [List.getElem?_cons_zero, List.getElem?_cons_succ, HEJ.out] at kB; have hk1 : w9.cell? ⟨R + 1, 2, none⟩ = some (.int .i64 (n 1)) ∧ w9.cell? ⟨R + 1, 3, none⟩ = some (.slice pJ (f 1).length cJ) ∧ w9.cell? ⟨ob, 3, none⟩ = some (.slice xr ys.length xd) := ⟨HPc.out.lb.cell 2, kB, HKc.out.cell 3⟩; clear hb9 hu9)
                        | (go_at_call 17; (with_reducible refine hB.mono ?_); rintro e w9 ⟨pu, cu, rfl, hu9, hb9⟩; have HPd := Hid.in (HPb.out.below hb9); have HUd := Hid.in hu9; have HKd := Hid.in (HKb.out.grow hb9); have HVd := Hid.in (HVb.out.below hb9); have HZd := Hid.in (HZ.out.grow hb9); have kB := HPd.out.lb.cell 3; rw [List.getElem?_toArray] at kB; simp only [List.getElem?_cons_zero, List.getElem?_cons_succ, HEJ.out] at kB; have hk1 : w9.cell? ⟨R + 1, 2, none⟩ = some (.int .i64 (n 1)) ∧ w9.cell? ⟨R + 1, 3, none⟩ = some (.slice pJ (f 1).length cJ) ∧ w9.cell? ⟨ob, 3, none⟩ = some (.slice xr ys.length xd) := ⟨HPd.out.lb.cell 2, kB, HKd.out.cell 3⟩; have z0 : w9.cell? ⟨w8.heap.size, 0, none⟩ = some (.int .i64 0) := HZd.out.cell 0; have z1 : w9.cell? ⟨w8.heap.size, 1, none⟩ = some (.slice none 0 0) := HZd.out.cell 1; have y0 := HZd.out.free 0; have y1 := HZd.out.free 1; clear hb9 hu9))
                    · go_wp2_with fail
                      go_meet
                      case rel => exact ⟨_, pu, cu, rfl, rfl, rfl, Blk.new _ _ _, HUc.out.1.below (new_alloc _ _), HUc.out.2, HPc.out.below (new_alloc _ _), HKc.out.grow (new_alloc _ _), HVc.out.below (new_alloc _ _)⟩
                    · have hg9 := (grown_setCell w9 w8.heap.size 0 (.int .i64 (n 1 + 1))).trans (grown_setCell _ w8.heap.size 1 (.slice pu (ys).length cu))
                      have HBk : Hid (Blk ((w9.setCell ⟨w8.heap.size, 0, none⟩ (.int .i64 (n 1 + 1))).setCell ⟨w8.heap.size, 1, none⟩ (.slice pu (ys).length cu)) w8.heap.size 37 #[.int .i64 (n 1 + 1), .slice pu (ys).length cu]) := (HZd.out.set 0 _).set 1 _
                      have HU9 := Hid.in (HUd.out.1.kept4 HZd.out (by decide) hg9)
                      have HV9 := Hid.in (HVd.out.kept4 HZd.out (by decide) hg9)
                      have HP9 := Hid.in (HPd.out.otherT HZd.out (by decide) HBW.out.size hg9)
                      have HK9 := Hid.in (HKd.out.kept hg9 (fun e => hz2 (by injection e)))
                      go_wp2_with fail
                      go_meet
                      case rel => exact ⟨_, pu, cu, rfl, rfl, rfl, HBk.out, HU9.out, HUd.out.2, HP9.out, HK9.out, HV9.out⟩
                  case rest =>
                    obtain ⟨b, pu, cu, rfl, rfl, rfl, hbb, hu, hub, hp, hk, hv⟩ := hcut
                    clear HOW HBW lA lB oC HEJ HP8 HK8 HV8
                    have lA := hp.lb.cell 2
                    have lB := hp.lb.cell 3
                    have fA := hp.lb.free 2
                    have fB := hp.lb.free 3
                    have x0 := hbb.cell 0
                    have x1 := hbb.cell 1
                    simp only [List.getElem?_toArray, List.getElem?_cons_zero, List.getElem?_cons_succ] at lA lB x0 x1
                    have HP2 : Hid (PS w ((wc.setCell ⟨R + 1, 2, none⟩ (.int .i64 (n 1 + 1))).setCell ⟨R + 1, 3, none⟩ (.slice pu (ys).length cu)) R (R + 1) q (upd f 1 ys) (upd n 1 (n 1 + 1)) (upd f 1 (ys)) (upd n 1 (n 1 + 1)) (upd v 1 (.slice pu (ys).length cu))) := hp.put 1 hJ (n 1 + 1) hu
                    have HNY : Hid (some ob ≠ some (R + 1)) := fun e => blk_ne hk hp.lb (by decide) (by injection e)
                    have hgg := (grown_setCell wc (R + 1) 2 (.int .i64 (n 1 + 1))).trans (grown_setCell _ (R + 1) 3 (.slice pu (ys).length cu))
                    have HK2 := Hid.in (hk.kept hgg HNY.out)
                    have HV2 := Hid.in (hv.kept4 hp.lb (by decide) hgg)
                    have HUB : Hid (∀ j < 2, ∀ g', (upd v 1 (.slice pu (ys).length cu) j).ownBlock = some g' → g' < w6.heap.size ∨ w7.heap.size ≤ g') := fun j hj g' hg' => by
                      by_cases e : j = 1
                      · subst e; rw [upd_same] at hg'; exact hub g' hg'
                      · rw [upd_other _ _ e] at hg'; exact .inl (HOL.out j hj g' hg')
                    clear hgg HNY hbb hu hub hp hk hv HOL
                    go_upto_region 19 with fail
                    generalize (wc.setCell ⟨R + 1, 2, none⟩ (.int .i64 (n 1 + 1))).setCell ⟨R + 1, 3, none⟩ (.slice pu (ys).length cu) = w10 at *
                    clear lA lB fA fB x0 x1
                    have oC := HK2.out.cell 3
                    simp only [List.getElem?_toArray, List.getElem?_cons_zero, List.getElem?_cons_succ] at oC
                    go_wp2_with (go_at_call 18; refine Hid.out ?_)
                    refine Lib.hid ?_
                    refine (sameFlags_self pin xr cin xd ys w10 hlen HV2.out.at (HW.out _ HP2.out.bel)).mono ?_
                    rintro e w11 ⟨rfl, hb11⟩
                    have HPn := Hid.in (HP2.out.below hb11)
                    have HVn := Hid.in (HV2.out.below hb11)
                    clear hb11 HP2 HV2 HK2 oC
                    have HBN := Hid.in (bnd_upd HNB.out 1 (m := n 1 + 1) (by omega) (by omega))
                    generalize upd v 1 (.slice pu ys.length cu) = vv at *
                    generalize hff : upd f 1 ys = ff at *
                    generalize hnn : upd n 1 (n 1 + 1) = nn at *
                    have HPf := HPn
                    clear hff hnn HPn
                    go_wp2_with fail
                    go_loopw [22] (fun vk wr => ∃ (k : Nat) (zs : List Bool), vk = .int .i64 k ∧ k ≤ ys.length ∧ zs.length = ys.length ∧ PS w wr R (R + 1) q ff nn ff nn vv ∧ GOwnV 4 wr w.heap.size (.slice pin ys.length cin) (flgs zs)) (fun vk _ => ys.length - (intOf vk).toNat)
                    case atStart => exact ⟨0, ys, rfl, Nat.zero_le _, rfl, HPf.out, HVn.out⟩
                    case round =>
                      obtain ⟨k, zs, rfl, hk, hzs, hp, hv⟩ := hrel
                      clear HPf HVn
                      have HPk := Hid.in hp
                      have HZS := Hid.in hzs
                      by_cases hky : k < ys.length
                      · have hdk : decide ((k : Int) < (ys.length : Int)) = true := decide_eq_true (by omega)
                        rcases hv.shape with ⟨-, e⟩ | ⟨g, cap, e, ho⟩
                        · exfalso
                          have : (flgs zs).length = 0 := by rw [e]; rfl
                          simp at this
                          rw [this] at hzs
                          simp at hzs
                          omega
                        · have e2 : pin = some ⟨g, 0, none⟩ ∧ cin = cap := by
                            simp only [Value.slice.injEq] at e
                            exact ⟨e.1, e.2.2⟩
                          obtain ⟨e3, e4⟩ := e2
                          subst e3 e4
                          have hkz : k < zs.length := by omega
                          have ck := ho.cell k (by simpa using hkz)
                          rw [getD_flgs _ _ hkz] at ck
                          have fk := ho.free k
                          have HG := Hid.in (grown_setCell wr g k (.bool (!zs.getD k false)))
                          have hgin := HIN.out g rfl
                          have HPx := Hid.in (hp.apart ho ho.base (fun j hj e => by
                            rcases HUB.out j hj g e with h | h
                            · omega
                            · omega) HG.out)
                          have HVx : Hid (GOwnV 4 (wr.setCell ⟨g, k, none⟩ (.bool (!zs.getD k false))) w.heap.size (.slice (some ⟨g, 0, none⟩) ys.length cin) (flgs (zs.set k (!zs.getD k false)))) := by
                            show GOwnV _ _ _ _ _
                            have := (ho.store k (.bool (!zs.getD k false))).val
                            rw [← List.map_set] at this
                            simpa [hzs] using this
                          clear e hp hv ho hzs hkz
                          generalize zs.getD k false = t at *
                          go_wp2_with fail
                          go_roundw
                          case rel => exact ⟨k + 1, _, by go_num, by omega, by rw [List.length_set]; exact HZS.out, HPx.out, HVx.out⟩
                          case measure => simp [intOf]; omega
                      · have hdk : decide ((k : Int) < (ys.length : Int)) = false := decide_eq_false (by omega)
                        clear hp hv hzs
                        go_wp2_with fail
                        go_meet
                        case rel => exact ⟨_, _, _, _, HPk.out, HBN.out⟩
                · have hbad : ys.length ≠ (f 1).length ∨ ovr (f 1) = false := by
                    by_cases h1 : ys.length = (f 1).length
                    · right
                      cases h2 : ovr (f 1)
                      · rfl
                      · exact absurd ⟨h1, h2⟩ hok
                    · exact .inl h1
                  have HBAD := Hid.in hbad
                  clear hok hbad
                  go_wp2_with (go_at_call 9; refine Hid.out ?_)
                  refine Lib.hid ?_
                  refine (send_bad (q 1) cin pin (f 1) ys (n 1) w7 (HP7.out.rnd 1 hJ) HBAD.out).mono ?_
                  rintro e w8 ⟨rfl, hw⟩
                  rw [hw]
                  clear hw cR
                  have HOW : Hid (GOwnV 4 w7 w.heap.size (.slice pJ (f 1).length cJ) (flgs (f 1))) := by have := HP7.out.own 1 hJ; rw [HEJ.out] at this; exact this
                  have HBW := Hid.in HP7.out.bel
                  have lA := HP7.out.lb.cell 2
                  have lB := HP7.out.lb.cell 3
                  have oC := HK7.out.cell 3
                  simp only [List.getElem?_toArray, List.getElem?_cons_zero, List.getElem?_cons_succ] at lA lB oC
                  rw [HEJ.out] at lB
                  go_upto_region 17 with fail
                  go_cut [19, 20, 21] (fun vb v1 v2 wx => ∃ (b : Nat) (pu : Option Addr) (cu : Nat), vb = .pointer (some ⟨b, 0, none⟩) ∧ v1 = .int .i64 0 ∧ v2 = .int .i64 2 ∧ Blk wx b 37 #[.int .i64 (n 1), .slice pu (f 1).length cu] ∧ GOwnV 4 wx w.heap.size (.slice pu (f 1).length cu) (flgs (f 1)) ∧ (∀ g', (Value.slice pu (f 1).length cu).ownBlock = some g' → g' < w6.heap.size ∨ w7.heap.size ≤ g') ∧ PS w wx R (R + 1) q f n f n v ∧ Blk wx ob 43 #[.int .i64 1, .int .i64 on, .int .i64 hart, .slice xr ys.length xd] ∧ GOwnV 4 wx w.heap.size (.slice pin ys.length cin) (flgs ys))
                  case first =>
                    have HRx : Hid (BRow w7.drew xr ys) := HW.out _ (below_draws HBW.out 1)
                    have HRy : Hid (BRow (w7.alloc (.cells #[.int .i64 0, .slice none 0 0] 37)).drew xr ys) := HW.out _ (below_draws (below_alloc HBW.out _) 1)
                    have HOx : Hid (GOwnV 4 w7.drew w.heap.size (.slice pJ (f 1).length cJ) (flgs (f 1))) := HOW.out
                    have HOy : Hid (GOwnV 4 (w7.alloc (.cells #[.int .i64 0, .slice none 0 0] 37)).drew w.heap.size (.slice pJ (f 1).length cJ) (flgs (f 1))) := HOW.out.below (below_draws (new_alloc _ _) 1)
                    have hA := rsend_not pJ xr cJ xd (f 1) ys (n 1) w.heap.size w7.drew hle HOx.out HBAD.out (fun g' => g' < w6.heap.size ∨ w7.heap.size ≤ g') (fun g' hg => .inl (HOJ.out g' hg))
                    have hB := rsend_not pJ xr cJ xd (f 1) ys (n 1) w.heap.size (w7.alloc (.cells #[.int .i64 0, .slice none 0 0] 37)).drew hle HOy.out HBAD.out (fun g' => g' < w6.heap.size ∨ w7.heap.size ≤ g') (fun g' hg => .inl (HOJ.out g' hg))
                    have HPa : Hid (PS w w7.drew R (R + 1) q f n f n v) := HP7.out.below (below_draws (below_self _) 1)
                    have HPb : Hid (PS w (w7.alloc (.cells #[.int .i64 0, .slice none 0 0] 37)).drew R (R + 1) q f n f n v) := HP7.out.below (below_draws (new_alloc _ _) 1)
                    have HKa : Hid (Blk w7.drew ob 43 #[.int .i64 1, .int .i64 on, .int .i64 hart, .slice xr ys.length xd]) := HK7.out
                    have HKb : Hid (Blk (w7.alloc (.cells #[.int .i64 0, .slice none 0 0] 37)).drew ob 43 #[.int .i64 1, .int .i64 on, .int .i64 hart, .slice xr ys.length xd]) := HK7.out.grow (below_draws (new_alloc _ _) 1)
                    have HVa : Hid (GOwnV 4 w7.drew w.heap.size (.slice pin ys.length cin) (flgs ys)) := HV7.out
                    have HVb : Hid (GOwnV 4 (w7.alloc (.cells #[.int .i64 0, .slice none 0 0] 37)).drew w.heap.size (.slice pin ys.length cin) (flgs ys)) := HV7.out.below (below_draws (new_alloc _ _) 1)
                    have HZ : Hid (Blk (w7.alloc (.cells #[.int .i64 0, .slice none 0 0] 37)).drew w7.heap.size 37 #[.int .i64 0, .slice none 0 0]) := Blk.new w7 37 #[.int .i64 0, .slice none 0 0]
                    have hz1 : ¬ R + 1 = w7.heap.size := fun e => by have := HP7.out.lb.lt; omega
                    have hz2 : ¬ ob = w7.heap.size := fun e => by have := HK7.out.lt; omega
                    have hz3 : ¬ w7.heap.size = R + 1 := fun e => hz1 e.symm
                    have hz4 : ¬ w7.heap.size = ob := fun e => hz2 e.symm
                    go_region_held3 (fun W => W.cell? ⟨R + 1, 2, none⟩ = some (.int .i64 (n 1)) ∧ W.cell? ⟨R + 1, 3, none⟩ = some (.slice pJ (f 1).length cJ) ∧ W.cell? ⟨ob, 3, none⟩ = some (.slice xr ys.length xd)) (first | (with_reducible exact hk1) | go_keep)
                      (first
                        | (go_at_call 17; (with_reducible refine hA.mono ?_); rintro e w9 ⟨pu, cu, rfl, hu9, hb9⟩; have HPc := Hid.in (HPa.out.below hb9); have HUc := Hid.in hu9; have HKc := Hid.in (HKa.out.grow hb9); have HVc := Hid.in (HVa.out.below hb9); have kB := HPc.out.lb.cell 3; rw [List.getElem?_toArray] at kB; simp only [List.getElem?_cons_zero, List.getElem?_cons_succ, HEJ.out] at kB; have hk1 : w9.cell? ⟨R + 1, 2, none⟩ = some (.int .i64 (n 1)) ∧ w9.cell? ⟨R + 1, 3, none⟩ = some (.slice pJ (f 1).length cJ) ∧ w9.cell? ⟨ob, 3, none⟩ = some (.slice xr ys.length xd) := ⟨HPc.out.lb.cell 2, kB, HKc.out.cell 3⟩; clear hb9 hu9)
                        | (go_at_call 17; (with_reducible refine hB.mono ?_); rintro e w9 ⟨pu, cu, rfl, hu9, hb9⟩; have HPd := Hid.in (HPb.out.below hb9); have HUd := Hid.in hu9; have HKd := Hid.in (HKb.out.grow hb9); have HVd := Hid.in (HVb.out.below hb9); have HZd := Hid.in (HZ.out.grow hb9); have kB := HPd.out.lb.cell 3; rw [List.getElem?_toArray] at kB; simp only [List.getElem?_cons_zero, List.getElem?_cons_succ, HEJ.out] at kB; have hk1 : w9.cell? ⟨R + 1, 2, none⟩ = some (.int .i64 (n 1)) ∧ w9.cell? ⟨R + 1, 3, none⟩ = some (.slice pJ (f 1).length cJ) ∧ w9.cell? ⟨ob, 3, none⟩ = some (.slice xr ys.length xd) := ⟨HPd.out.lb.cell 2, kB, HKd.out.cell 3⟩; have z0 : w9.cell? ⟨w7.heap.size, 0, none⟩ = some (.int .i64 0) := HZd.out.cell 0; have z1 : w9.cell? ⟨w7.heap.size, 1, none⟩ = some (.slice none 0 0) := HZd.out.cell 1; have y0 := HZd.out.free 0; have y1 := HZd.out.free 1; clear hb9 hu9))
                    · go_wp2_with fail
                      go_meet
                      case rel => exact ⟨_, pu, cu, rfl, rfl, rfl, Blk.new _ _ _, HUc.out.1.below (new_alloc _ _), HUc.out.2, HPc.out.below (new_alloc _ _), HKc.out.grow (new_alloc _ _), HVc.out.below (new_alloc _ _)⟩
                    · have hg9 := (grown_setCell w9 w7.heap.size 0 (.int .i64 (n 1))).trans (grown_setCell _ w7.heap.size 1 (.slice pu (f 1).length cu))
                      have HBk : Hid (Blk ((w9.setCell ⟨w7.heap.size, 0, none⟩ (.int .i64 (n 1))).setCell ⟨w7.heap.size, 1, none⟩ (.slice pu (f 1).length cu)) w7.heap.size 37 #[.int .i64 (n 1), .slice pu (f 1).length cu]) := (HZd.out.set 0 _).set 1 _
                      have HU9 := Hid.in (HUd.out.1.kept4 HZd.out (by decide) hg9)
                      have HV9 := Hid.in (HVd.out.kept4 HZd.out (by decide) hg9)
                      have HP9 := Hid.in (HPd.out.otherT HZd.out (by decide) HBW.out.size hg9)
                      have HK9 := Hid.in (HKd.out.kept hg9 (fun e => hz2 (by injection e)))
                      go_wp2_with fail
                      go_meet
                      case rel => exact ⟨_, pu, cu, rfl, rfl, rfl, HBk.out, HU9.out, HUd.out.2, HP9.out, HK9.out, HV9.out⟩
                  case rest =>
                    obtain ⟨b, pu, cu, rfl, rfl, rfl, hbb, hu, hub, hp, hk, hv⟩ := hcut
                    clear HOW HBW lA lB oC HEJ HP7 HK7 HV7
                    have lA := hp.lb.cell 2
                    have lB := hp.lb.cell 3
                    have fA := hp.lb.free 2
                    have fB := hp.lb.free 3
                    have x0 := hbb.cell 0
                    have x1 := hbb.cell 1
                    simp only [List.getElem?_toArray, List.getElem?_cons_zero, List.getElem?_cons_succ] at lA lB x0 x1
                    have HP2 : Hid (PS w ((wc.setCell ⟨R + 1, 2, none⟩ (.int .i64 (n 1))).setCell ⟨R + 1, 3, none⟩ (.slice pu (f 1).length cu)) R (R + 1) q f n (upd f 1 (f 1)) (upd n 1 (n 1)) (upd v 1 (.slice pu (f 1).length cu))) := hp.put 1 hJ (n 1) hu
                    have HNY : Hid (some ob ≠ some (R + 1)) := fun e => blk_ne hk hp.lb (by decide) (by injection e)
                    have hgg := (grown_setCell wc (R + 1) 2 (.int .i64 (n 1))).trans (grown_setCell _ (R + 1) 3 (.slice pu (f 1).length cu))
                    have HK2 := Hid.in (hk.kept hgg HNY.out)
                    have HV2 := Hid.in (hv.kept4 hp.lb (by decide) hgg)
                    have HUB : Hid (∀ j < 2, ∀ g', (upd v 1 (.slice pu (f 1).length cu) j).ownBlock = some g' → g' < w6.heap.size ∨ w7.heap.size ≤ g') := fun j hj g' hg' => by
                      by_cases e : j = 1
                      · subst e; rw [upd_same] at hg'; exact hub g' hg'
                      · rw [upd_other _ _ e] at hg'; exact .inl (HOL.out j hj g' hg')
                    clear hgg HNY hbb hu hub hp hk hv HOL
                    go_upto_region 19 with fail
                    generalize (wc.setCell ⟨R + 1, 2, none⟩ (.int .i64 (n 1))).setCell ⟨R + 1, 3, none⟩ (.slice pu (f 1).length cu) = w10 at *
                    clear lA lB fA fB x0 x1
                    have oC := HK2.out.cell 3
                    simp only [List.getElem?_toArray, List.getElem?_cons_zero, List.getElem?_cons_succ] at oC
                    go_wp2_with (go_at_call 18; refine Hid.out ?_)
                    refine Lib.hid ?_
                    refine (sameFlags_self pin xr cin xd ys w10 hlen HV2.out.at (HW.out _ HP2.out.bel)).mono ?_
                    rintro e w11 ⟨rfl, hb11⟩
                    have HPn := Hid.in (HP2.out.below hb11)
                    have HVn := Hid.in (HV2.out.below hb11)
                    clear hb11 HP2 HV2 HK2 oC
                    have HBN : Hid (∀ j, 0 ≤ n j ∧ n j ≤ (i : Int) + 1) := fun j => ⟨(HNB.out j).1, by have := (HNB.out j).2; omega⟩
                    have HPf : Hid (PS w w11 R (R + 1) q f n f n (upd v 1 (.slice pu (f 1).length cu))) := by
                      have := HPn.out
                      rw [upd_self, upd_self] at this
                      exact this
                    clear HPn
                    generalize upd v 1 (.slice pu (f 1).length cu) = vv at *
                    generalize hff : f = ff at *
                    generalize hnn : n = nn at *
                    clear hff hnn
                    go_wp2_with fail
                    go_loopw [22] (fun vk wr => ∃ (k : Nat) (zs : List Bool), vk = .int .i64 k ∧ k ≤ ys.length ∧ zs.length = ys.length ∧ PS w wr R (R + 1) q ff nn ff nn vv ∧ GOwnV 4 wr w.heap.size (.slice pin ys.length cin) (flgs zs)) (fun vk _ => ys.length - (intOf vk).toNat)
                    case atStart => exact ⟨0, ys, rfl, Nat.zero_le _, rfl, HPf.out, HVn.out⟩
                    case round =>
                      obtain ⟨k, zs, rfl, hk, hzs, hp, hv⟩ := hrel
                      clear HPf HVn
                      have HPk := Hid.in hp
                      have HZS := Hid.in hzs
                      by_cases hky : k < ys.length
                      · have hdk : decide ((k : Int) < (ys.length : Int)) = true := decide_eq_true (by omega)
                        rcases hv.shape with ⟨-, e⟩ | ⟨g, cap, e, ho⟩
                        · exfalso
                          have : (flgs zs).length = 0 := by rw [e]; rfl
                          simp at this
                          rw [this] at hzs
                          simp at hzs
                          omega
                        · have e2 : pin = some ⟨g, 0, none⟩ ∧ cin = cap := by
                            simp only [Value.slice.injEq] at e
                            exact ⟨e.1, e.2.2⟩
                          obtain ⟨e3, e4⟩ := e2
                          subst e3 e4
                          have hkz : k < zs.length := by omega
                          have ck := ho.cell k (by simpa using hkz)
                          rw [getD_flgs _ _ hkz] at ck
                          have fk := ho.free k
                          have HG := Hid.in (grown_setCell wr g k (.bool (!zs.getD k false)))
                          have hgin := HIN.out g rfl
                          have HPx := Hid.in (hp.apart ho ho.base (fun j hj e => by
                            rcases HUB.out j hj g e with h | h
                            · omega
                            · omega) HG.out)
                          have HVx : Hid (GOwnV 4 (wr.setCell ⟨g, k, none⟩ (.bool (!zs.getD k false))) w.heap.size (.slice (some ⟨g, 0, none⟩) ys.length cin) (flgs (zs.set k (!zs.getD k false)))) := by
                            show GOwnV _ _ _ _ _
                            have := (ho.store k (.bool (!zs.getD k false))).val
                            rw [← List.map_set] at this
                            simpa [hzs] using this
                          clear e hp hv ho hzs hkz
                          generalize zs.getD k false = t at *
                          go_wp2_with fail
                          go_roundw
                          case rel => exact ⟨k + 1, _, by go_num, by omega, by rw [List.length_set]; exact HZS.out, HPx.out, HVx.out⟩
                          case measure => simp [intOf]; omega
                      · have hdk : decide ((k : Int) < (ys.length : Int)) = false := decide_eq_false (by omega)
                        clear hp hv hzs
                        go_wp2_with fail
                        go_meet
                        case rel => exact ⟨_, _, _, _, HPk.out, HBN.out⟩
            have hb1 : (kind == 1) = false := beq_eq_false_iff_ne.2 hk1
            have hd1' : decide (kind = 1) = false := decide_eq_false hk1
            by_cases hk2 : kind = 2
            · as_aux_lemma =>
                subst hk2
                have hJ : 1 < 2 := by decide
                obtain ⟨pJ, cJ, eJ, -⟩ := (HP.out.own 1 hJ).brow
                have HEJ := Hid.in eJ
                have hle := (HP.out.rnd 1 hJ).le
                clear eJ
                have HPd : Hid (PS w w6.drew R (R + 1) q f n f n v) := HP.out.below (below_draws (below_self _) 1)
                have h13 := take_any (q 1) (f 1) (n 1) hart w6.drew (HPd.out.rnd 1 hJ)
                have cR := HP.out.rb.cell 1
                have HNQ : Hid (some ob ≠ some (q 1)) := fun e => blk_ne HK0.out (HP.out.rnd 1 hJ).blk (by decide) (by injection e)
                have HKd : Hid (Blk w6.drew ob 43 #[.int .i64 2, .int .i64 on, .int .i64 hart, .slice xr ys.length xd]) := HK0.out
                simp only [List.getElem?_toArray, List.getElem?_cons_zero, List.getElem?_cons_succ] at cR t2
                go_upto_region 26 with fail
                go_cut [23, 24] (fun va vb wx => va = .int .i64 (tkN (f 1) (n 1) hart) ∧ vb = .bool (pnd (f 1) hart) ∧ PS w wx R (R + 1) q (upd f 1 (drp (f 1) hart)) (upd n 1 (n 1)) f n v ∧ Blk wx ob 43 #[.int .i64 2, .int .i64 on, .int .i64 hart, .slice xr ys.length xd])
                case first =>
                  go_region_held3 (fun W => W.cell? ⟨R, 1, none⟩ = some (.pointer (some ⟨q 1, 0, none⟩)) ∧ W.cell? ⟨ob, 2, none⟩ = some (.int .i64 hart)) (first | (with_reducible exact hk1) | go_keep)
                    (first | (go_at_call 13; (with_reducible refine h13.mono ?_); rintro e w8 ⟨rfl, hr8, hg8⟩; have HP8 := Hid.in (HPd.out.turned 1 hJ hr8 hg8); have HK8 := Hid.in (HKd.out.kept hg8 HNQ.out); have hk1 : w8.cell? ⟨R, 1, none⟩ = some (.pointer (some ⟨q 1, 0, none⟩)) ∧ w8.cell? ⟨ob, 2, none⟩ = some (.int .i64 hart) := ⟨HP8.out.rb.cell 1, HK8.out.cell 2⟩; clear hr8 hg8))
                  go_wp2_with fail
                  go_meet
                  case rel => exact ⟨rfl, rfl, HP8.out, HK8.out⟩
                case rest =>
                  obtain ⟨rfl, rfl, hp8, hk8⟩ := hcut
                  clear HPd h13 cR HNQ HKd HP HK0 t2 t3
                  have HP8 := Hid.in hp8
                  have HK8 := Hid.in hk8
                  clear hp8 hk8
                  have HOW : Hid (GOwnV 4 wc w.heap.size (.slice pJ (f 1).length cJ) (flgs (f 1))) := by have := HP8.out.own 1 hJ; rw [HEJ.out] at this; exact this
                  have HBW := Hid.in HP8.out.bel
                  have lA := HP8.out.lb.cell 2
                  have lB := HP8.out.lb.cell 3
                  have oC := HK8.out.cell 2
                  simp only [List.getElem?_toArray, List.getElem?_cons_zero, List.getElem?_cons_succ] at lA lB oC
                  rw [HEJ.out] at lB
                  go_upto_region 27 with fail
                  go_cut [25, 26] (fun vb vs wx => ∃ (b : Nat) (pu : Option Addr) (cu : Nat), vb = .pointer (some ⟨b, 0, none⟩) ∧ vs = .bool (pnd (f 1) hart) ∧ Blk wx b 37 #[.int .i64 (n 1), .slice pu (f 1).length cu] ∧ GOwnV 4 wx w.heap.size (.slice pu (f 1).length cu) (flgs (drp (f 1) hart)) ∧ PS w wx R (R + 1) q (upd f 1 (drp (f 1) hart)) (upd n 1 (n 1)) f n v ∧ Blk wx ob 43 #[.int .i64 2, .int .i64 on, .int .i64 hart, .slice xr ys.length xd])
                  case first =>
                    have hA := rdrop_at pJ cJ (f 1) (n 1) hart w.heap.size wc.drew hle (HBW.out.size) HOW.out
                    have hB := rdrop_at pJ cJ (f 1) (n 1) hart w.heap.size (wc.alloc (.cells #[.int .i64 0, .slice none 0 0] 37)).drew hle (below_alloc HBW.out _).size (HOW.out.below (below_draws (new_alloc _ _) 1))
                    have HPa : Hid (PS w wc.drew R (R + 1) q (upd f 1 (drp (f 1) hart)) (upd n 1 (n 1)) f n v) := HP8.out.below (below_draws (below_self _) 1)
                    have HPb : Hid (PS w (wc.alloc (.cells #[.int .i64 0, .slice none 0 0] 37)).drew R (R + 1) q (upd f 1 (drp (f 1) hart)) (upd n 1 (n 1)) f n v) := HP8.out.below (below_draws (new_alloc _ _) 1)
                    have HKa : Hid (Blk wc.drew ob 43 #[.int .i64 2, .int .i64 on, .int .i64 hart, .slice xr ys.length xd]) := HK8.out
                    have HKb : Hid (Blk (wc.alloc (.cells #[.int .i64 0, .slice none 0 0] 37)).drew ob 43 #[.int .i64 2, .int .i64 on, .int .i64 hart, .slice xr ys.length xd]) := HK8.out.grow (below_draws (new_alloc _ _) 1)
                    have HZ : Hid (Blk (wc.alloc (.cells #[.int .i64 0, .slice none 0 0] 37)).drew wc.heap.size 37 #[.int .i64 0, .slice none 0 0]) := Blk.new wc 37 #[.int .i64 0, .slice none 0 0]
                    have hz1 : ¬ R + 1 = wc.heap.size := fun e => by have := HP8.out.lb.lt; omega
                    have hz2 : ¬ ob = wc.heap.size := fun e => by have := HK8.out.lt; omega
                    have hz3 : ¬ wc.heap.size = R + 1 := fun e => hz1 e.symm
                    have hz4 : ¬ wc.heap.size = ob := fun e => hz2 e.symm
                    go_region_held3 (fun W => W.cell? ⟨R + 1, 2, none⟩ = some (.int .i64 (n 1)) ∧ W.cell? ⟨R + 1, 3, none⟩ = some (.slice pJ (f 1).length cJ) ∧ W.cell? ⟨ob, 2, none⟩ = some (.int .i64 hart)) (first | (with_reducible exact hk1) | go_keep)
                      (first
                        | (go_at_call 19; (with_reducible refine hA.mono ?_); rintro e w9 ⟨pu, cu, rfl, hu9, hb9⟩; have HPc := Hid.in (HPa.out.below hb9); have HUc := Hid.in hu9; have HKc := Hid.in (HKa.out.grow hb9); have kB := HPc.out.lb.cell 3; rw [List.getElem?_toArray] at kB; simp only [List.getElem?_cons_zero, List.getElem?_cons_succ, HEJ.out] at kB; have hk1 : w9.cell? ⟨R + 1, 2, none⟩ = some (.int .i64 (n 1)) ∧ w9.cell? ⟨R + 1, 3, none⟩ = some (.slice pJ (f 1).length cJ) ∧ w9.cell? ⟨ob, 2, none⟩ = some (.int .i64 hart) := ⟨HPc.out.lb.cell 2, kB, HKc.out.cell 2⟩; clear hb9 hu9)
                        | (go_at_call 19; (with_reducible refine hB.mono ?_); rintro e w9 ⟨pu, cu, rfl, hu9, hb9⟩; have HPd := Hid.in (HPb.out.below hb9); have HUd := Hid.in hu9; have HKd := Hid.in (HKb.out.grow hb9); have HZd := Hid.in (HZ.out.grow hb9); have kB := HPd.out.lb.cell 3; rw [List.getElem?_toArray] at kB; simp only [List.getElem?_cons_zero, List.getElem?_cons_succ, HEJ.out] at kB; have hk1 : w9.cell? ⟨R + 1, 2, none⟩ = some (.int .i64 (n 1)) ∧ w9.cell? ⟨R + 1, 3, none⟩ = some (.slice pJ (f 1).length cJ) ∧ w9.cell? ⟨ob, 2, none⟩ = some (.int .i64 hart) := ⟨HPd.out.lb.cell 2, kB, HKd.out.cell 2⟩; have z0 : w9.cell? ⟨wc.heap.size, 0, none⟩ = some (.int .i64 0) := HZd.out.cell 0; have z1 : w9.cell? ⟨wc.heap.size, 1, none⟩ = some (.slice none 0 0) := HZd.out.cell 1; have y0 := HZd.out.free 0; have y1 := HZd.out.free 1; clear hb9 hu9))
                    · go_wp2_with fail
                      go_meet
                      case rel => exact ⟨_, pu, cu, rfl, rfl, Blk.new _ _ _, HUc.out.below (new_alloc _ _), HPc.out.below (new_alloc _ _), HKc.out.grow (new_alloc _ _)⟩
                    · have hg9 := (grown_setCell w9 wc.heap.size 0 (.int .i64 (n 1))).trans (grown_setCell _ wc.heap.size 1 (.slice pu (f 1).length cu))
                      have HBk : Hid (Blk ((w9.setCell ⟨wc.heap.size, 0, none⟩ (.int .i64 (n 1))).setCell ⟨wc.heap.size, 1, none⟩ (.slice pu (f 1).length cu)) wc.heap.size 37 #[.int .i64 (n 1), .slice pu (f 1).length cu]) := (HZd.out.set 0 _).set 1 _
                      have HU9 := Hid.in (HUd.out.kept4 HZd.out (by decide) hg9)
                      have HP9 := Hid.in (HPd.out.otherT HZd.out (by decide) HBW.out.size hg9)
                      have HK9 := Hid.in (HKd.out.kept hg9 (fun e => hz2 (by injection e)))
                      go_wp2_with fail
                      go_meet
                      case rel => exact ⟨_, pu, cu, rfl, rfl, HBk.out, HU9.out, HP9.out, HK9.out⟩
                  case rest =>
                    obtain ⟨b, pu, cu, rfl, rfl, hbb, hu, hp, hk⟩ := hcut
                    clear HOW HBW lA lB oC HEJ HP8 HK8
                    have lA := hp.lb.cell 2
                    have lB := hp.lb.cell 3
                    have fA := hp.lb.free 2
                    have fB := hp.lb.free 3
                    have x0 := hbb.cell 0
                    have x1 := hbb.cell 1
                    simp only [List.getElem?_toArray, List.getElem?_cons_zero, List.getElem?_cons_succ] at lA lB x0 x1
                    have HP2 : Hid (PS w ((wc.setCell ⟨R + 1, 2, none⟩ (.int .i64 (n 1))).setCell ⟨R + 1, 3, none⟩ (.slice pu (f 1).length cu)) R (R + 1) q (upd f 1 (drp (f 1) hart)) (upd n 1 (n 1)) (upd f 1 (drp (f 1) hart)) (upd n 1 (n 1)) (upd v 1 (.slice pu (f 1).length cu))) := hp.put 1 hJ (n 1) hu
                    have HNX : Hid (some b ≠ some (R + 1)) := fun e => blk_ne hbb hp.lb (by decide) (by injection e)
                    have HNY : Hid (some ob ≠ some (R + 1)) := fun e => blk_ne hk hp.lb (by decide) (by injection e)
                    have hgg := (grown_setCell wc (R + 1) 2 (.int .i64 (n 1))).trans (grown_setCell _ (R + 1) 3 (.slice pu (f 1).length cu))
                    have HX2 := Hid.in (hbb.kept hgg HNX.out)
                    have HK2 := Hid.in (hk.kept hgg HNY.out)
                    clear hgg HNX HNY hbb hu hp hk
                    go_upto_region 29 with fail
                    generalize (wc.setCell ⟨R + 1, 2, none⟩ (.int .i64 (n 1))).setCell ⟨R + 1, 3, none⟩ (.slice pu (f 1).length cu) = w10 at *
                    clear lA lB fA fB x0 x1
                    have x0 := HX2.out.cell 0
                    simp only [List.getElem?_toArray, List.getElem?_cons_zero] at x0
                    have hbd := HNB.out 1
                    cases hpp : pnd (f 1) hart
                    · have htk : tkN (f 1) (n 1) hart = 0 := by unfold tkN; rw [hpp]; rfl
                      rw [htk]
                      clear htk
                      go_wp2_with fail
                      go_meet
                      case rel => exact ⟨_, _, _, _, HP2.out, bnd_upd HNB.out 1 hbd.1 (by omega)⟩
                    · have htk : tkN (f 1) (n 1) hart = n 1 := by unfold tkN; rw [hpp]; rfl
                      rw [htk]
                      clear htk
                      go_wp2_with fail
                      go_meet
                      case rel => exact ⟨_, _, _, _, HP2.out, bnd_upd HNB.out 1 hbd.1 (by omega)⟩
            have hb2 : (kind == 2) = false := beq_eq_false_iff_ne.2 hk2
            have hd2' : decide (kind = 2) = false := decide_eq_false hk2
            by_cases hk3 : kind = 3
            · as_aux_lemma =>
                subst hk3
                have hJ : 1 < 2 := by decide
                obtain ⟨pJ, cJ, eJ, -⟩ := (HP.out.own 1 hJ).brow
                have HEJ := Hid.in eJ
                have hle := (HP.out.rnd 1 hJ).le
                clear eJ
                have HOW : Hid (GOwnV 4 w6 w.heap.size (.slice pJ (f 1).length cJ) (flgs (f 1))) := by have := HP.out.own 1 hJ; rw [HEJ.out] at this; exact this
                have HBW := Hid.in HP.out.bel
                have lA := HP.out.lb.cell 2
                have lB := HP.out.lb.cell 3
                have oC := HK0.out.cell 2
                simp only [List.getElem?_toArray, List.getElem?_cons_zero, List.getElem?_cons_succ] at lA lB oC
                rw [HEJ.out] at lB
                go_upto_region 32 with fail
                go_cut [27, 28] (fun vb vs wx => ∃ (b : Nat) (pu : Option Addr) (cu : Nat), vb = .pointer (some ⟨b, 0, none⟩) ∧ vs = .bool (pnd (f 1) hart) ∧ Blk wx b 37 #[.int .i64 (n 1), .slice pu (f 1).length cu] ∧ GOwnV 4 wx w.heap.size (.slice pu (f 1).length cu) (flgs (drp (f 1) hart)) ∧ PS w wx R (R + 1) q f n f n v ∧ Blk wx ob 43 #[.int .i64 3, .int .i64 on, .int .i64 hart, .slice xr ys.length xd])
                case first =>
                  have hA := rdrop_at pJ cJ (f 1) (n 1) hart w.heap.size w6.drew hle (HBW.out.size) HOW.out
                  have hB := rdrop_at pJ cJ (f 1) (n 1) hart w.heap.size (w6.alloc (.cells #[.int .i64 0, .slice none 0 0] 37)).drew hle (below_alloc HBW.out _).size (HOW.out.below (below_draws (new_alloc _ _) 1))
                  have HPa : Hid (PS w w6.drew R (R + 1) q f n f n v) := HP.out.below (below_draws (below_self _) 1)
                  have HPb : Hid (PS w (w6.alloc (.cells #[.int .i64 0, .slice none 0 0] 37)).drew R (R + 1) q f n f n v) := HP.out.below (below_draws (new_alloc _ _) 1)
                  have HKa : Hid (Blk w6.drew ob 43 #[.int .i64 3, .int .i64 on, .int .i64 hart, .slice xr ys.length xd]) := HK0.out
                  have HKb : Hid (Blk (w6.alloc (.cells #[.int .i64 0, .slice none 0 0] 37)).drew ob 43 #[.int .i64 3, .int .i64 on, .int .i64 hart, .slice xr ys.length xd]) := HK0.out.grow (below_draws (new_alloc _ _) 1)
                  have HZ : Hid (Blk (w6.alloc (.cells #[.int .i64 0, .slice none 0 0] 37)).drew w6.heap.size 37 #[.int .i64 0, .slice none 0 0]) := Blk.new w6 37 #[.int .i64 0, .slice none 0 0]
                  have hz1 : ¬ R + 1 = w6.heap.size := fun e => by have := HP.out.lb.lt; omega
                  have hz2 : ¬ ob = w6.heap.size := fun e => by have := HK0.out.lt; omega
                  have hz3 : ¬ w6.heap.size = R + 1 := fun e => hz1 e.symm
                  have hz4 : ¬ w6.heap.size = ob := fun e => hz2 e.symm
                  go_region_held3 (fun W => W.cell? ⟨R + 1, 2, none⟩ = some (.int .i64 (n 1)) ∧ W.cell? ⟨R + 1, 3, none⟩ = some (.slice pJ (f 1).length cJ) ∧ W.cell? ⟨ob, 2, none⟩ = some (.int .i64 hart)) (first | (with_reducible exact hk1) | go_keep)
                    (first
                      | (go_at_call 19; (with_reducible refine hA.mono ?_); rintro e w9 ⟨pu, cu, rfl, hu9, hb9⟩; have HPc := Hid.in (HPa.out.below hb9); have HUc := Hid.in hu9; have HKc := Hid.in (HKa.out.grow hb9); have kB := HPc.out.lb.cell 3; rw [List.getElem?_toArray] at kB; simp only [List.getElem?_cons_zero, List.getElem?_cons_succ, HEJ.out] at kB; have hk1 : w9.cell? ⟨R + 1, 2, none⟩ = some (.int .i64 (n 1)) ∧ w9.cell? ⟨R + 1, 3, none⟩ = some (.slice pJ (f 1).length cJ) ∧ w9.cell? ⟨ob, 2, none⟩ = some (.int .i64 hart) := ⟨HPc.out.lb.cell 2, kB, HKc.out.cell 2⟩; clear hb9 hu9)
                      | (go_at_call 19; (with_reducible refine hB.mono ?_); rintro e w9 ⟨pu, cu, rfl, hu9, hb9⟩; have HPd := Hid.in (HPb.out.below hb9); have HUd := Hid.in hu9; have HKd := Hid.in (HKb.out.grow hb9); have HZd := Hid.in (HZ.out.grow hb9); have kB := HPd.out.lb.cell 3; rw [List.getElem?_toArray] at kB; simp only [List.getElem?_cons_zero, List.getElem?_cons_succ, HEJ.out] at kB; have hk1 : w9.cell? ⟨R + 1, 2, none⟩ = some (.int .i64 (n 1)) ∧ w9.cell? ⟨R + 1, 3, none⟩ = some (.slice pJ (f 1).length cJ) ∧ w9.cell? ⟨ob, 2, none⟩ = some (.int .i64 hart) := ⟨HPd.out.lb.cell 2, kB, HKd.out.cell 2⟩; have z0 : w9.cell? ⟨w6.heap.size, 0, none⟩ = some (.int .i64 0) := HZd.out.cell 0; have z1 : w9.cell? ⟨w6.heap.size, 1, none⟩ = some (.slice none 0 0) := HZd.out.cell 1; have y0 := HZd.out.free 0; have y1 := HZd.out.free 1; clear hb9 hu9))
                  · go_wp2_with fail
                    go_meet
                    case rel => exact ⟨_, pu, cu, rfl, rfl, Blk.new _ _ _, HUc.out.below (new_alloc _ _), HPc.out.below (new_alloc _ _), HKc.out.grow (new_alloc _ _)⟩
                  · have hg9 := (grown_setCell w9 w6.heap.size 0 (.int .i64 (n 1))).trans (grown_setCell _ w6.heap.size 1 (.slice pu (f 1).length cu))
                    have HBk : Hid (Blk ((w9.setCell ⟨w6.heap.size, 0, none⟩ (.int .i64 (n 1))).setCell ⟨w6.heap.size, 1, none⟩ (.slice pu (f 1).length cu)) w6.heap.size 37 #[.int .i64 (n 1), .slice pu (f 1).length cu]) := (HZd.out.set 0 _).set 1 _
                    have HU9 := Hid.in (HUd.out.kept4 HZd.out (by decide) hg9)
                    have HP9 := Hid.in (HPd.out.otherT HZd.out (by decide) HBW.out.size hg9)
                    have HK9 := Hid.in (HKd.out.kept hg9 (fun e => hz2 (by injection e)))
                    go_wp2_with fail
                    go_meet
                    case rel => exact ⟨_, pu, cu, rfl, rfl, HBk.out, HU9.out, HP9.out, HK9.out⟩
                case rest =>
                  obtain ⟨b, pu, cu, rfl, rfl, hbb, hu, hp, hk⟩ := hcut
                  clear HOW HBW lA lB oC HEJ HP HK0 t2 t3
                  have lA := hp.lb.cell 2
                  have lB := hp.lb.cell 3
                  have fA := hp.lb.free 2
                  have fB := hp.lb.free 3
                  have x0 := hbb.cell 0
                  have x1 := hbb.cell 1
                  simp only [List.getElem?_toArray, List.getElem?_cons_zero, List.getElem?_cons_succ] at lA lB x0 x1
                  have HP2 : Hid (PS w ((wc.setCell ⟨R + 1, 2, none⟩ (.int .i64 (n 1))).setCell ⟨R + 1, 3, none⟩ (.slice pu (f 1).length cu)) R (R + 1) q f n (upd f 1 (drp (f 1) hart)) (upd n 1 (n 1)) (upd v 1 (.slice pu (f 1).length cu))) := hp.put 1 hJ (n 1) hu
                  have HNX : Hid (some b ≠ some (R + 1)) := fun e => blk_ne hbb hp.lb (by decide) (by injection e)
                  have HNY : Hid (some ob ≠ some (R + 1)) := fun e => blk_ne hk hp.lb (by decide) (by injection e)
                  have hgg := (grown_setCell wc (R + 1) 2 (.int .i64 (n 1))).trans (grown_setCell _ (R + 1) 3 (.slice pu (f 1).length cu))
                  have HX2 := Hid.in (hbb.kept hgg HNX.out)
                  have HK2 := Hid.in (hk.kept hgg HNY.out)
                  clear hgg HNX HNY hbb hu hp hk
                  go_upto_region 34 with fail
                  generalize (wc.setCell ⟨R + 1, 2, none⟩ (.int .i64 (n 1))).setCell ⟨R + 1, 3, none⟩ (.slice pu (f 1).length cu) = w10 at *
                  clear lA lB fA fB x0 x1
                  have HPe : Hid (PS w w10.drew R (R + 1) q f n (upd f 1 (drp (f 1) hart)) (upd n 1 (n 1)) (upd v 1 (.slice pu (f 1).length cu))) := HP2.out.below (below_draws (below_self _) 1)
                  have h20 := drop_any (q 1) (f 1) (n 1) hart w10.drew (HPe.out.rnd 1 hJ)
                  have cR := HP2.out.rb.cell 1
                  have oC := HK2.out.cell 2
                  have HNQ : Hid (some ob ≠ some (q 1)) := fun e => blk_ne HK2.out (HP2.out.rnd 1 hJ).blk (by decide) (by injection e)
                  have HKd : Hid (Blk w10.drew ob 43 #[.int .i64 3, .int .i64 on, .int .i64 hart, .slice xr ys.length xd]) := HK2.out
                  simp only [List.getElem?_toArray, List.getElem?_cons_zero, List.getElem?_cons_succ] at cR oC
                  have hbd := HNB.out 1
                  generalize hpp : pnd (f 1) hart = tp at *
                  clear hpp
                  clear HX2
                  go_region_held3 (fun W => W.cell? ⟨R, 1, none⟩ = some (.pointer (some ⟨q 1, 0, none⟩)) ∧ W.cell? ⟨ob, 2, none⟩ = some (.int .i64 hart)) (first | (with_reducible exact hk1) | go_keep)
                    (first | (go_at_call 20; (with_reducible refine h20.mono ?_); rintro e w11 ⟨rfl, hr8, hg8⟩; have HP8 := Hid.in (HPe.out.turned 1 hJ hr8 hg8); have HK8 := Hid.in (HKd.out.kept hg8 HNQ.out); have hk1 : w11.cell? ⟨R, 1, none⟩ = some (.pointer (some ⟨q 1, 0, none⟩)) ∧ w11.cell? ⟨ob, 2, none⟩ = some (.int .i64 hart) := ⟨HP8.out.rb.cell 1, HK8.out.cell 2⟩; clear hr8 hg8))
                  go_wp2_with fail
                  go_meet
                  case rel => exact ⟨_, _, _, _, HP8.out, bnd_upd HNB.out 1 hbd.1 (by omega)⟩
            have hb3 : (kind == 3) = false := beq_eq_false_iff_ne.2 hk3
            have hd3' : decide (kind = 3) = false := decide_eq_false hk3
            by_cases hk4 : kind = 4
            · as_aux_lemma =>
                subst hk4
                have hJ : 1 < 2 := by decide
                obtain ⟨pJ, cJ, eJ, -⟩ := (HP.out.own 1 hJ).brow
                have HEJ := Hid.in eJ
                have hle := (HP.out.rnd 1 hJ).le
                clear eJ
                have HPe : Hid (PS w w6.drew R (R + 1) q f n f n v) := HP.out.below (below_draws (below_self _) 1)
                have h21 := copy_any (q 1) (f 1) (n 1) w6.drew (HPe.out.rnd 1 hJ)
                have cR := HP.out.rb.cell 1
                have lA := HP.out.lb.cell 2
                have lB := HP.out.lb.cell 3
                simp only [List.getElem?_toArray, List.getElem?_cons_zero, List.getElem?_cons_succ] at cR lA lB
                rw [HEJ.out] at lB
                have hw0 : IntKind.i64.wrap 0 = 0 := by decide
                have hw1 : IntKind.i64.wrap 1 = 1 := by decide
                have hnR : ¬ R = R + 1 := by omega
                have hnR' : ¬ R + 1 = R := by omega
                have hks1 : ∀ (W : World) (x : Value), (W.cell? ⟨R, 1, none⟩ = some (.pointer (some ⟨q 1, 0, none⟩)) ∧ W.cell? ⟨R + 1, 2, none⟩ = some (.int .i64 (n 1)) ∧ W.cell? ⟨R + 1, 3, none⟩ = some (.slice pJ (f 1).length cJ)) → ((W.setCell ⟨R, 0, none⟩ x).cell? ⟨R, 1, none⟩ = some (.pointer (some ⟨q 1, 0, none⟩)) ∧ (W.setCell ⟨R, 0, none⟩ x).cell? ⟨R + 1, 2, none⟩ = some (.int .i64 (n 1)) ∧ (W.setCell ⟨R, 0, none⟩ x).cell? ⟨R + 1, 3, none⟩ = some (.slice pJ (f 1).length cJ)) := fun W x h => by
                  rw [cell_off _ _ _ (by decide), cell_blk _ _ _ _ hnR, cell_blk _ _ _ _ hnR]; exact h
                have hks2 : ∀ (W : World) (x y : Value), (W.cell? ⟨R, 1, none⟩ = some (.pointer (some ⟨q 1, 0, none⟩)) ∧ W.cell? ⟨R + 1, 2, none⟩ = some (.int .i64 (n 1)) ∧ W.cell? ⟨R + 1, 3, none⟩ = some (.slice pJ (f 1).length cJ)) → (((W.setCell ⟨R + 1, 0, none⟩ x).setCell ⟨R + 1, 1, none⟩ y).cell? ⟨R, 1, none⟩ = some (.pointer (some ⟨q 1, 0, none⟩)) ∧ ((W.setCell ⟨R + 1, 0, none⟩ x).setCell ⟨R + 1, 1, none⟩ y).cell? ⟨R + 1, 2, none⟩ = some (.int .i64 (n 1)) ∧ ((W.setCell ⟨R + 1, 0, none⟩ x).setCell ⟨R + 1, 1, none⟩ y).cell? ⟨R + 1, 3, none⟩ = some (.slice pJ (f 1).length cJ)) := fun W x y h => by
                  rw [cell_blk _ _ _ _ hnR', cell_blk _ _ _ _ hnR', cell_off _ _ _ (by decide), cell_off _ _ _ (by decide), cell_off _ _ _ (by decide), cell_off _ _ _ (by decide)]; exact h
                have HKS1 := Hid.in hks1
                have HKS2 := Hid.in hks2
                clear hks1 hks2 t2 t3
                go_upto_region 37 with fail
                go_region_held3 (fun W => W.cell? ⟨R, 1, none⟩ = some (.pointer (some ⟨q 1, 0, none⟩)) ∧ W.cell? ⟨R + 1, 2, none⟩ = some (.int .i64 (n 1)) ∧ W.cell? ⟨R + 1, 3, none⟩ = some (.slice pJ (f 1).length cJ)) (first | (with_reducible exact hk1) | (refine HKS1.out _ _ ?_; assumption) | (refine HKS2.out _ _ _ ?_; assumption) | go_keep)
                  (first | (go_at_call 21; (with_reducible refine h21.mono ?_); rintro e w11 ⟨rfl, hr8, hb8⟩; have HP8 := Hid.in (HPe.out.below hb8); have HR8 := Hid.in hr8; have HB8 := Hid.in hb8; have k1 := HP8.out.rb.cell 1; have k2 := HP8.out.lb.cell 2; have k3 := HP8.out.lb.cell 3; have k4 := HP8.out.rb.cell 0; have k5 := HP8.out.lb.cell 0; have k6 := HP8.out.lb.cell 1; have k7 := HP8.out.rb.free 0; have k8 := HP8.out.lb.free 0; have k9 := HP8.out.lb.free 1; simp only [List.getElem?_toArray, List.getElem?_cons_zero, List.getElem?_cons_succ] at k1 k2 k3 k4 k5 k6; rw [HEJ.out] at k3; have hk1 : w11.cell? ⟨R, 1, none⟩ = some (.pointer (some ⟨q 1, 0, none⟩)) ∧ w11.cell? ⟨R + 1, 2, none⟩ = some (.int .i64 (n 1)) ∧ w11.cell? ⟨R + 1, 3, none⟩ = some (.slice pJ (f 1).length cJ) := ⟨k1, k2, k3⟩; clear hr8 hb8))
                have HPz : Hid (PS w (((w11.setCell ⟨R, 0, none⟩ (.pointer (some ⟨w6.heap.size, 0, none⟩))).setCell ⟨R + 1, 0, none⟩ (.int .i64 (n 1))).setCell ⟨R + 1, 1, none⟩ (.slice pJ (f 1).length cJ)) R (R + 1) (upd q 0 w6.heap.size) (upd f 0 (f 1)) (upd n 0 (n 1)) (upd f 0 (f 1)) (upd n 0 (n 1)) (upd v 0 (.slice pJ (f 1).length cJ))) := by
                  have := HPe.out.copied 1 hJ HR8.out HB8.out (Nat.le_refl _)
                  rw [HEJ.out] at this
                  exact this
                have hbd := HNB.out 1
                go_wp2_with fail
                go_meet
                case rel => exact ⟨_, _, _, _, HPz.out, bnd_upd HNB.out 0 hbd.1 (by omega)⟩
            have hb4 : (kind == 4) = false := beq_eq_false_iff_ne.2 hk4
            have hd4' : decide (kind = 4) = false := decide_eq_false hk4
            go_wp2_with fail
            go_meet
            case rel => exact ⟨_, _, _, _, HP.out, fun j => ⟨(HNB.out j).1, by have := (HNB.out j).2; omega⟩⟩
        case rest =>
          obtain ⟨q, f, n, v, hp, hnb⟩ := hcut
          clear HP HNB hk0 t0 t1
          have HP := Hid.in hp
          have HNB := Hid.in hnb
          clear hp hnb h01
          obtain ⟨p0, c0, e0, -⟩ := (HP.out.own 0 (by decide)).brow
          obtain ⟨p1, c1, e1, -⟩ := (HP.out.own 1 (by decide)).brow
          have r0 := HP.out.rb.cell 0
          have r1 := HP.out.rb.cell 1
          have l0 := HP.out.lb.cell 0
          have l1 := HP.out.lb.cell 1
          have l2 := HP.out.lb.cell 2
          have l3 := HP.out.lb.cell 3
          simp only [List.getElem?_toArray, List.getElem?_cons_zero, List.getElem?_cons_succ] at r0 r1 l0 l1 l2 l3
          rw [e0] at l1
          rw [e1] at l3
          go_wp2_with (go_at_call 22; refine Hid.out ?_)
          refine Lib.hid ?_
          have HQ0 : Hid (BRow wc p0 (f 0)) := by
            obtain ⟨p', c', e', hr⟩ := (HP.out.own 0 (by decide)).brow
            rw [e0] at e'
            injection e' with e'
            subst e'
            exact hr
          refine (looks_any (q 0) p0 c0 (f 0) (n 0) wc (HP.out.rnd 0 (by decide)) HQ0.out).mono ?_
          rintro e w8 ⟨rfl, hb8⟩
          have HP8 := Hid.in (HP.out.below hb8)
          clear hb8 HP HQ0 r0 r1 l0 l1 l2 l3
          have r0 := HP8.out.rb.cell 0
          have r1 := HP8.out.rb.cell 1
          have l0 := HP8.out.lb.cell 0
          have l1 := HP8.out.lb.cell 1
          have l2 := HP8.out.lb.cell 2
          have l3 := HP8.out.lb.cell 3
          simp only [List.getElem?_toArray, List.getElem?_cons_zero, List.getElem?_cons_succ] at r0 r1 l0 l1 l2 l3
          rw [e0] at l1
          rw [e1] at l3
          go_wp2_with (go_at_call 22; refine Hid.out ?_)
          refine Lib.hid ?_
          have HQ1 : Hid (BRow w8 p1 (f 1)) := by
            obtain ⟨p', c', e', hr⟩ := (HP8.out.own 1 (by decide)).brow
            rw [e1] at e'
            injection e' with e'
            subst e'
            exact hr
          refine (looks_any (q 1) p1 c1 (f 1) (n 1) w8 (HP8.out.rnd 1 (by decide)) HQ1.out).mono ?_
          rintro e w9 ⟨rfl, hb9⟩
          have HP9 := Hid.in (HP8.out.below hb9)
          clear hb9 HP8 HQ1 r0 r1 l0 l1 l2 l3 e0 e1
          go_wp2_with fail
          go_roundw
          case rel => exact ⟨i + 1, _, _, _, _, by go_num, by omega, HP9.out, fun j => ⟨(HNB.out j).1, by have := (HNB.out j).2; omega⟩⟩
          case measure => simp [intOf]; omega
      · have hd2 : decide ((i : Int) < 400) = false := decide_eq_false (by omega)
        go_wp2_with (go_at_call 14; refine Hid.out ?_)
        refine Lib.hid ?_
        refine (awake_any _).mono ?_
        rintro e wa ⟨rfl, hba⟩
        have HBa := Hid.in (below_step HST.out.bel hba)
        clear hba
        go_wp2_with fail
        go_ret
        exact ⟨rfl, HBa.out⟩
    · have hd1 : decide ((i : Int) < (Z.length : Int)) = false := decide_eq_false (by omega)
      go_wp2_with (go_at_call 14; refine Hid.out ?_)
      refine Lib.hid ?_
      refine (awake_any _).mono ?_
      rintro e wa ⟨rfl, hba⟩
      have HBa := Hid.in (below_step HST.out.bel hba)
      clear hba
      go_wp2_with fail
      go_ret
      exact ⟨rfl, HBa.out⟩

end Go.Proofs.Ytibbcenfkmgbcaa
