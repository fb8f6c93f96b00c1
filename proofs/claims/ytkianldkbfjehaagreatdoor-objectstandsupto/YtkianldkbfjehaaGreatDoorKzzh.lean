/- Texts put together: StdW. -/
import Derived.Test.YtkianldkbfjehaaGreatDoorKzze
import Derived.Test.YtkianldkbfjehaaGreatDoorKzzc
import Derived.Test.YtkianldkbfjehaaGreatDoorKzd
import Derived.Test.YtkianldkbfjehaaGreatDoorKzo
import Derived.Deep.RegionHeld3
import Derived.Test.YtkianldkbfjehaaGreatDoorKzzg

/- switchyardlaw06.ObjectStands answers true: ahead of the loop. -/
namespace Go.Proofs.YtkianldkbfjehaaGreatDoor
open Go.RowKit

theorem five_facts {a E c : Nat} (h : a + 5 ≤ E) (hc : E ≤ c) (hE : E ≤ 65536) : a < E ∧ wrap64 ((a : Int) + 5) = (a : Int) + 5 ∧ IntKind.i64.wrap ((a : Int) + 5) = (a : Int) + 5 ∧ (0 : Int) ≤ (a : Int) + 5 ∧ ((a : Int) + 5).toNat = a + 5 ∧ (a : Int) ≤ (a : Int) + 5 ∧ a + 5 ≤ c ∧ (a : Int) + 5 ≤ (c : Int) ∧ (a : Int) + 5 ≤ (E : Int) ∧ ¬ c = a ∧ a + 5 - a = 5 :=
  ⟨by omega, by unfold wrap64; omega, by rw [IntKind.wrap_i64]; omega, by omega, by omega, by omega, by omega, by omega, by omega, by omega, by omega⟩

set_option maxRecDepth 20000 in
set_option maxHeartbeats 4000000 in
theorem stands_walk (p : Option Addr) (n c : Nat) (xs : List Src) (w : World) (he : Env w) (hn : xs.length = n) (hnc : n ≤ c) (_hc63 : c ≤ 9223372036854775807) (hnm : n ≤ 1048576) (hx : Items w p xs) :
    Calls Tryz.prog 5 #[.slice p n c] w fun E w' => E = .returned (.bool true) ∧ Below w.heap.size w w' := by
  have hC := fun W hX => copyList p n c xs W hn hnm hX
  have hM := fun p' c' W hW h1 h2 hX => make_in p' n c' xs W hW hn h1 h2 hX
  have hA := awake_any
  have HE := Hid.in he
  have HX := Hid.in hx
  by_cases h0 : (makeE xs).1 = 0
  · obtain ⟨hl, hd, hu, hE⟩ := makeE_ok h0
    obtain ⟨hck, hend⟩ := layE_ok hl
    have hR := oright_any (makeO xs)
    rw [make_right h0] at hR
    rw [made_in hE] at hR hM
    rw [hE] at hM
    have hY := fun p' c' W hW h1 h2 hX => bytes_any p' n c' xs W hW hn h1 h2 hX
    have hP := fun p' c' W hW h1 h2 hX => places_any p' n c' xs W hW hn h1 h2 hX
    unfold BytesIs bytesI at hY
    unfold PlacesIs placesI endI at hP
    simp only [hl, if_true] at hY hP
    have hlen : (madeO xs).bs.length = (placesL 0 xs).2 := by have := bytes_length xs 0; show (bytesL 0 xs).length = _; omega
    have hpl : (nums (ints (placesL 0 xs).1)).length = n := by rw [show (nums (ints (placesL 0 xs).1)).length = (placesL 0 xs).1.length by simp [nums, ints], places_length, hn]
    have hS := fun pa qa ca da W k1 k2 => sameBytes_any pa qa (placesL 0 xs).2 ca (placesL 0 xs).2 da (bytesL 0 xs) (bytesL 0 xs) W hlen hlen (by omega) k1 k2
    have HBB : Hid ((madeO xs).bs = bytesL 0 xs) := rfl
    rw [hlen] at hM
    have HLEN := Hid.in hlen
    simp only [sameB_self] at hS
    have HCK := Hid.in (chk_of hck)
    have HMAY := Hid.in (chk_good xs 0 (chk_of hck))
    have HN := Hid.in hn
    have HPL := Hid.in hpl
    have HLEFT := Hid.in (Left.start xs)
    have HBL : Hid ((bytesL 0 xs).length = (placesL 0 xs).2) := hlen
    clear he hx hn hck hl hd hu hE h0 hpl hlen
    generalize madeO xs = ob at *
    generalize hPP : (placesL 0 xs).2 = EE at *
    generalize hPS : nums (ints (placesL 0 xs).1) = PV at *
    have HPS := Hid.in hPS
    clear hPP hPS
    go_enter Tryz.func5, Tryz.ntmps5
    go_upto_region 2 with (first
      | (go_at_call 7; refine (hC _ HX.out).mono ?_; rintro E w1 ⟨p1, c1, rfl, h1, h2, hx1, hb1⟩; have HX1 := Hid.in hx1; have HB1 := Hid.in hb1; clear hx1 hb1)
      | (go_at_call 8; refine (hM _ _ _ (HE.out.below HB1.out) h1 h2 HX1.out).mono ?_; rintro E w2 ⟨pb, ps, pf, pm, cb, cs, cf, cm, rfl, hO2, hb2⟩; have HO2 := Hid.in hO2; have HB2 := Hid.in (below_step HB1.out hb2); clear hO2 hb2))
    have HK3 := Hid.in (Blk.new w2 29 (obA pb ps pf pm EE cb ob.sy.length cs ob.fx.length cf ob.mk_.length cm))
    have HO3 := Hid.in (HO2.out.below (new_alloc w2 (.cells (obA pb ps pf pm EE cb ob.sy.length cs ob.fx.length cf ob.mk_.length cm) 29)))
    have HB3 := Hid.in (below_alloc HB2.out (.cells (obA pb ps pf pm EE cb ob.sy.length cs ob.fx.length cf ob.mk_.length cm) 29))
    generalize w2.alloc (.cells (obA pb ps pf pm EE cb ob.sy.length cs ob.fx.length cf ob.mk_.length cm) 29) = w3 at *
    generalize w2.heap.size = go at *
    clear HX1 HO2 HB2 HB1 h1 h2 hM
    have HX3 := Hid.in (HX.out.below HB3.out)
    go_upto_region 5 with (first
      | (go_at_call 7; refine (hC _ HX3.out).mono ?_; rintro E w4 ⟨p4, c4, rfl, h41, h42, hx4, hb4⟩; have HX4 := Hid.in hx4; have HB4 := Hid.in (below_step HB3.out hb4); have HC4 := Hid.in hb4; clear hx4 hb4)
      | (go_at_call 17; refine (hY _ _ _ (HE.out.below HB4.out) h41 h42 HX4.out).mono ?_; rintro E w5 ⟨v5, rfl, ho5, hb5⟩; obtain ⟨p5, c5, hv5, hr5, -, -⟩ := ho5.slice2; rw [HBL.out] at hv5; subst hv5; have HR5 := Hid.in hr5; have HC5 := Hid.in (below_step HC4.out hb5); have HB5 := Hid.in (below_step HB4.out hb5); clear ho5 hb5 hr5))
    have HX5 := Hid.in (HX.out.below HB5.out)
    clear HX4 HB4 HC4 h41 h42 hY
    go_upto_region 6 with (first
      | (go_at_call 7; refine (hC _ HX5.out).mono ?_; rintro E w6 ⟨p6, c6, rfl, h61, h62, hx6, hb6⟩; have HX6 := Hid.in hx6; have HB6 := Hid.in (below_step HB5.out hb6); have HC6 := Hid.in (below_step HC5.out hb6); have HD6 := Hid.in hb6; clear hx6 hb6)
      | (go_at_call 18; refine (hP _ _ _ (HE.out.below HB6.out) h61 h62 HX6.out).mono ?_; rintro E w7 ⟨v7, rfl, ho7, hb7⟩; obtain ⟨p7, c7, hv7, hr7, -, -⟩ := ho7.slice; rw [HPL.out] at hv7; subst hv7; have HG7 := Hid.in hr7; have HC7 := Hid.in (below_step HC6.out hb7); have HB7 := Hid.in (below_step HB6.out hb7); have HR7 := Hid.in (HR5.out.below (below_step HD6.out hb7)); clear ho7 hb7 hr7))
    have HK7 := Hid.in (HK3.out.grow HC7.out)
    have HO7 := Hid.in (HO3.out.below HC7.out)
    clear HX6 HB6 HC6 HD6 h61 h62 hP HR5 HX5 HC5 HB5 HX3 HK3 HO3 HB3 HC7
    have o0 : w7.cell? ⟨go, 0, none⟩ = some (.slice pb EE cb) := HK7.out.cell 0
    have o1 : w7.cell? ⟨go, 1, none⟩ = some (.slice ps ob.sy.length cs) := HK7.out.cell 1
    have o2 : w7.cell? ⟨go, 2, none⟩ = some (.slice pf ob.fx.length cf) := HK7.out.cell 2
    have o3 : w7.cell? ⟨go, 3, none⟩ = some (.slice pm ob.mk_.length cm) := HK7.out.cell 3
    have hR7 := fun z => hR _ _ _ _ _ _ _ _ _ _ _ _ (w7.drewN z) (HO7.out.below (below_draws (below_self w7) z))
    have HRB : Hid (Row w7 pb (bytesL 0 xs)) := by have := HO7.out.rb; rw [HBB.out] at this; exact this
    go_upto_region 8 with (first
      | (go_at_call 19; refine (hS _ _ _ _ _ HR7.out HRB.out).mono ?_; rintro E W ⟨rfl, z8, rfl⟩)
      | (go_at_call 14; refine (hR7 _).mono ?_; rintro E w9 ⟨rfl, hb9⟩; have HC9 := Hid.in (below_step (below_draws (below_self w7) z8) hb9); clear hb9))
    have HB9 := Hid.in (below_step HB7.out HC9.out)
    have HK9 := Hid.in (HK7.out.grow HC9.out)
    have HO9 := Hid.in (HO7.out.below HC9.out)
    have HG9 := Hid.in (HG7.out.below HC9.out)
    have HX9 := Hid.in (HX.out.below HB9.out)
    clear o0 o1 o2 o3 hR7 hR HRB HR7 HK7 HO7 HG7 HB7 HC9 hS hC
    go_wp2_with fail
    go_loopw [11, 12, 13, 14] (fun vs vm vx vi wr => ∃ s m x i : Nat, vs = .int .i64 s ∧ vm = .int .i64 m ∧ vx = .int .i64 x ∧ vi = .int .i64 i ∧ i ≤ n ∧ Left ob xs (gloN xs) i s m x ∧ Below w9.heap.size w9 wr) (fun _ _ _ vi _ => n - (intOf vi).toNat)
    case atStart => exact ⟨0, 0, 0, 0, rfl, rfl, rfl, rfl, Nat.zero_le _, HLEFT.out, below_self _⟩
    case round =>
      obtain ⟨s, m, x, i, rfl, rfl, rfl, rfl, hi, hL, hb⟩ := hrel
      have HL := Hid.in hL
      have HB := Hid.in hb
      have ls := hL.ls
      have lm := hL.lm
      have lx := hL.lx
      clear hL hb
      have HKr := Hid.in (HK9.out.grow HB.out)
      have HOr := Hid.in (HO9.out.below HB.out)
      have ks := HOr.out.ks
      have kf := HOr.out.kf
      have km := HOr.out.km
      unfold maxLen at ks kf km
      have o0 : wr.cell? ⟨go, 0, none⟩ = some (.slice pb EE cb) := HKr.out.cell 0
      have o1 : wr.cell? ⟨go, 1, none⟩ = some (.slice ps ob.sy.length cs) := HKr.out.cell 1
      have o2 : wr.cell? ⟨go, 2, none⟩ = some (.slice pf ob.fx.length cf) := HKr.out.cell 2
      have o3 : wr.cell? ⟨go, 3, none⟩ = some (.slice pm ob.mk_.length cm) := HKr.out.cell 3
      by_cases hlt : i < n
      · have hix : i < xs.length := by rw [HN.out]; exact hlt
        obtain ⟨b, o, hp, hc⟩ := (HX9.out.below HB.out) (by omega)
        subst hp
        obtain ⟨qd, cq, hRg, -, hfit⟩ := hc i hix
        obtain ⟨bq, oq, hpq, hcq⟩ := (HG9.out.below HB.out) (by rw [HPL.out]; omega)
        subst hpq
        have hmi := HMAY.out _ (List.getElem_mem hix)
        have HM1 := Hid.in (fun h => HL.out.label hix hmi h)
        have HM2 := Hid.in (fun h => HL.out.mark hix HCK.out h)
        have HM3 := Hid.in (fun h h' => HL.out.fix hix hmi h h')
        have HM4 := Hid.in (fun h h' h'' => HL.out.other hix hmi h h' h'')
        have hpa : wr.cell? ⟨bq, oq + i, none⟩ = some (.int .i64 ((placesL 0 (xs.take i)).2 : Nat)) := by
          have h1 := hcq i (by rw [HPL.out]; exact hlt)
          have h2 := place_get xs 0 i hix
          rw [h1, ← HPS.out]
          simp [nums, ints, h2]
        have hae := place_le xs 0 i
        have HAE := Hid.in hae
        clear hc hcq hae hmi
        generalize (placesL 0 (xs.take i)).2 = a0 at *
        generalize xs[i] = y at *
        have hnz : y.name.size ≤ 9223372036854775807 := Nat.le_trans hfit.nz (by decide)
        have i1 : wr.cell? ⟨b, o + i * 9 + 1, none⟩ = some (.string y.name) := hRg 1 _ rfl
        have i2 : wr.cell? ⟨b, o + i * 9 + 2, none⟩ = some (.string y.tg) := hRg 2 _ rfl
        have i3 : wr.cell? ⟨b, o + i * 9 + 3, none⟩ = some (.int .u8 y.o) := hRg 3 _ rfl
        have i4 : wr.cell? ⟨b, o + i * 9 + 4, none⟩ = some (.int .u8 y.a) := hRg 4 _ rfl
        by_cases hk1 : y.k = 1
        · as_aux_lemma =>
            have i0 : wr.cell? ⟨b, o + i * 9, none⟩ = some (.int .u8 1) := by have h : wr.cell? ⟨b, o + i * 9, none⟩ = some (.int .u8 y.k) := hRg 0 _ rfl; rw [h, hk1]
            obtain ⟨hs, e1, e2, hL'⟩ := HM1.out hk1
            have HL' := Hid.in hL'
            obtain ⟨bs, os, hps, hcs⟩ := HOr.out.rs (by rw [List.length_map]; omega)
            subst hps
            obtain ⟨c0, c1, c2⟩ := cells3 hcs s (by rw [List.length_map]; exact hs)
            simp only [List.getElem_map, syV] at c0 c1 c2
            rw [e1] at c0
            rw [e2] at c1
            have hd : decide ((ob.sy.length : Int) ≤ (s : Int)) = false := decide_eq_false (by omega)
            clear hRg hcs hL' e1 e2 HM1 HM2 HM3 HM4 hk1 HL c2 hA
            go_upto_region 13 with fail
            go_quiet (fail)
            go_wp2_with fail
            go_roundw
            case rel => exact ⟨s + 1, m, x, i + 1, by go_num, rfl, rfl, by go_num, by omega, HL'.out, HB.out.trans (below_draws (below_self wr) nq |>.mono HB.out.size)⟩
            case measure => simp [intOf]; omega
        by_cases hk3 : y.k = 3
        · as_aux_lemma =>
            have i0 : wr.cell? ⟨b, o + i * 9, none⟩ = some (.int .u8 3) := by have h : wr.cell? ⟨b, o + i * 9, none⟩ = some (.int .u8 y.k) := hRg 0 _ rfl; rw [h, hk3]
            obtain ⟨hm, e1, e2, e3, hq, hL'⟩ := HM2.out hk3
            have HL' := Hid.in hL'
            obtain ⟨bm, om, hpm, hcm⟩ := HOr.out.rm (by rw [List.length_map]; omega)
            subst hpm
            obtain ⟨c0, c1, c2⟩ := cells3 hcm m (by rw [List.length_map]; exact hm)
            simp only [List.getElem_map, mkV] at c0 c1 c2
            rw [e1] at c0
            rw [e2] at c1
            rw [e3] at c2
            have hd : decide ((ob.mk_.length : Int) ≤ (m : Int)) = false := decide_eq_false (by omega)
            have hdn : decide (ob.mk_.length ≤ m) = false := decide_eq_false (by omega)
            have hEE : EE ≤ 65536 := hend
            have ha5 : a0 + 5 ≤ EE := by
              have h1 := congrArg List.length hq
              rw [List.length_take, List.length_drop, HBL.out] at h1
              have e5 : quiet.length = 5 := rfl
              omega
            have hkb := HOr.out.kb
            have hmb := HOr.out.mb
            unfold maxLen at hmb
            have hrb := HOr.out.rb
            rw [HBB.out] at hrb
            obtain ⟨bb, obf, hpb, -⟩ := hrb (by rw [HBL.out]; omega)
            subst hpb
            have HRQ : Hid (Row wr (some ⟨bb, obf + a0, none⟩) quiet) := by
              have h1 := (hrb.dropAt a0).take 5
              rw [hq] at h1
              exact h1
            have hS5 := fun q d W k1 k2 => sameBytes_any (some ⟨bb, obf + a0, none⟩) q 5 (cb - a0) 5 d quiet quiet W rfl rfl (by decide) k1 k2
            simp only [sameB_self] at hS5
            have hQ := quiet_any
            clear hRg hcm hL' e1 e2 e3 HM1 HM2 HM3 HM4 HL hA hk1 hk3 hq hrb
            obtain ⟨hlt0, hw1, hw2, h05, ht5, hle5, h5c, h5i, h5e, hcne, h5s⟩ := five_facts ha5 hkb hEE
            have o3r := fun d os => cell_regrown o3 d os
            have o0r := fun d os => cell_regrown o0 d os
            have c0r := fun d os => cell_regrown c0 d os
            have c1r := fun d os => cell_regrown c1 d os
            have c2r := fun d os => cell_regrown c2 d os
            have i1r := fun d os => cell_regrown i1 d os
            have i2r := fun d os => cell_regrown i2 d os
            have par := fun d os => cell_regrown hpa d os
            have hNN : (y.name.toList != y.name.toList) = false := by simp
            have hTT : (y.tg.toList != y.tg.toList) = false := by simp
            go_upto_region 17 with fail
            refine wp_region_noPanic ?_
            refine wp_region_first_below 59 4 (by kernel_rfl) (by kernel_rfl) (by kernel_rfl) (by kernel_rfl) (by kernel_rfl) (fun _ _ _ _ _ h => h) ?_
            simp only [List.take_succ_cons, List.take_zero]
            iterate 59 (go_big_quiet_step (fail))
            refine wpQuiet_nil ?_
            rintro _ ⟨⟨dq, osq⟩, rfl⟩
            have hb17 : Below wr.heap.size wr (Go.Sort.grow (redrawn wr dq) osq) := below_regrown wr dq osq
            generalize Go.Sort.grow (redrawn wr dq) osq = w17 at hb17 ⊢
            clear o3r o0r c0r c1r c2r i1r i2r par o3 o0 o1 o2 c0 c1 c2 i1 i2 i3 i4 i0 hpa
            refine wpAnyH_one (i := 59) (by kernel_rfl) rfl (fun K hK => ?_)
            go_simp
            go_at_call 20
            refine (hQ _).mono ?_
            rintro E w20 ⟨g20, d20, rfl, ho20, hb20'⟩
            have hb20 := below_step hb17 hb20'
            refine hK.out _ _ (regrown_of_below hb20) (fun _ => ?_)
            clear hK K
            refine wpAnyH_one (i := 60) (by kernel_rfl) rfl (fun K hK => ?_)
            go_simp
            go_at_call 19
            refine (hS5 _ _ _ (HRQ.out.below hb20) ho20.row).mono ?_
            rintro E W ⟨rfl, z21, rfl⟩
            have hb21 := below_draws hb20 z21
            refine hK.out _ _ (regrown_of_below hb21) (fun _ => ?_)
            clear hK K
            refine wpAnyH_one (i := 61) (by kernel_rfl) rfl (fun K hK => ?_)
            go_simp
            refine hK.out _ _ (regrown_of_below hb21) (fun _ => ?_)
            clear hK K
            refine wpAnyH_one (i := 62) (by kernel_rfl) rfl (fun K hK => ?_)
            go_simp
            refine hK.out _ _ (regrown_of_below hb21) (fun _ => ?_)
            clear hK K
            refine wpAnyH_done (by kernel_rfl) ?_ _
            refine NoPanic.normal ?_
            have HB21 := Hid.in (HB.out.trans (hb21.mono HB.out.size))
            clear hb21 hb20 hb20' hb17 ho20
            generalize w20.drewN z21 = w21 at *
            go_wp2_with fail
            go_roundw
            case rel => exact ⟨s, m + 1, x, i + 1, rfl, by go_num, rfl, by go_num, by omega, HL'.out, HB21.out⟩
            case measure => simp [intOf]; omega
        by_cases hk2 : y.k = 2
        · have i0 : wr.cell? ⟨b, o + i * 9, none⟩ = some (.int .u8 2) := by have h : wr.cell? ⟨b, o + i * 9, none⟩ = some (.int .u8 y.k) := hRg 0 _ rfl; rw [h, hk2]
          by_cases hne : y.name = noText
          · as_aux_lemma =>
              have HL' := Hid.in (HM4.out hk1 hk3 (.inr hne))
              rw [hne] at i1
              have i1' : wr.cell? ⟨b, o + i * 9 + 1, none⟩ = some (.string ⟨#[]⟩) := i1
              clear hRg HM1 HM2 HM3 HM4 hk1 HL hA i1 hk2 hk3
              go_wp2_with fail
              go_roundw
              case rel => exact ⟨s, m, x, i + 1, rfl, rfl, rfl, by go_num, by omega, HL'.out, HB.out⟩
              case measure => simp [intOf]; omega
          · as_aux_lemma =>
              obtain ⟨hxl, e1, e2, hdec, hl4, hl6, hL'⟩ := HM3.out hk2 hne
              have HL' := Hid.in hL'
              obtain ⟨bx, ox, hpx, hcx⟩ := HOr.out.rf (by rw [List.length_map]; omega)
              subst hpx
              obtain ⟨c0, c1, c2⟩ := cells3 hcx x (by rw [List.length_map]; exact hxl)
              simp only [List.getElem_map, fxV] at c0 c1 c2
              rw [e1] at c2
              rw [e2] at c1
              have hd : decide ((ob.fx.length : Int) ≤ (x : Int)) = false := decide_eq_false (by omega)
              have hdn : decide (ob.fx.length ≤ x) = false := decide_eq_false (by omega)
              have hsz : 0 < y.name.size := by
                rcases Nat.eq_zero_or_pos y.name.size with h | h
                · exact absurd (ByteArray.ext (Array.eq_empty_of_size_eq_zero h)) hne
                · exact h
              obtain ⟨hsl, hse⟩ := text_full y.name hsz
              have hlt0 : a0 < EE := by
                have hae := HAE.out
                by_cases h : a0 < EE
                · exact h
                · have hz : ((bytesL 0 xs).drop a0).length = 0 := by rw [List.length_drop, HBL.out]; omega
                  unfold dec at hdec
                  rw [if_pos hz] at hdec
                  injection hdec with _ _ _ _ _ h6
                  exact absurd h6 (by decide)
              have hkb := HOr.out.kb
              have hmb := HOr.out.mb
              unfold maxLen at hmb
              have hrb := HOr.out.rb
              have hbyt := HOr.out.fit.byt
              rw [HBB.out] at hrb hbyt
              obtain ⟨bb, obf, hpb, -⟩ := hrb (by rw [HBL.out]; omega)
              subst hpb
              have HRQ := Hid.in (hrb.dropAt a0)
              have hD := fun W k => decode_any (some ⟨bb, obf + a0, none⟩) (EE - a0) (cb - a0) ((bytesL 0 xs).drop a0) W (by rw [List.length_drop, HBL.out]) (by omega) k (hbyt.drop a0)
              rw [hdec] at hD
              have ho : ((y.o.toNat : Nat) : Int) = y.o := by have := hfit.o0; omega
              simp only [ho] at hD
              generalize lenN y.o.toNat = LL at *
              clear hRg hcx hL' e1 e2 HM1 HM2 HM3 HM4 HL hA hk1 hk3 hdec hrb hbyt hk2 hne ho
              have g1 := cell_lt o0
              have g2 := cell_lt hpa
              have hg1 : ¬ go = wr.heap.size := by omega
              have hg2 : ¬ wr.heap.size = go := by omega
              have hq1 : ¬ bq = wr.heap.size := by omega
              have hq2 : ¬ wr.heap.size = bq := by omega
              have hz0 : (0 : Int) ≤ (a0 : Int) := by omega
              have hz1 : (a0 : Int) ≤ (EE : Int) := by omega
              have hz2 : a0 ≤ EE := by omega
              have hz3 : (EE : Int) ≤ (cb : Int) := by omega
              have hz4 : ¬ cb = a0 := by omega
              have hz5 : a0 ≤ cb := by omega
              go_upto_region 21 with fail
              first
                | go_region_held3 (fun W => W.cell? ⟨go, 0, none⟩ = some (.slice (some ⟨bb, obf, none⟩) EE cb) ∧ W.cell? ⟨bq, oq + i, none⟩ = some (.int .i64 (a0 : Nat))) (first | go_keep | exact hk30)
                (first
                  | (go_at_call 21; refine (hD _ (HRQ.out.below (by first | exact below_draws (new_alloc wr _) 1 | exact below_draws (below_self wr) 1))).mono ?_; rintro E w30 ⟨rfl, hb30'⟩; have hb30 : Below wr.heap.size wr w30 := (by first | exact below_step (below_draws (new_alloc wr _) 1) hb30' | exact below_step (below_draws (below_self wr) 1) hb30'); have HC30 := Hid.in hb30; have hk30 : (fun W => W.cell? ⟨go, 0, none⟩ = some (.slice (some ⟨bb, obf, none⟩) EE cb) ∧ W.cell? ⟨bq, oq + i, none⟩ = some (.int .i64 (a0 : Nat))) w30 := ⟨(hb30.cell (cell_lt o0)).trans o0, (hb30.cell (cell_lt hpa)).trans hpa⟩; (first | (have HJ30 : Hid (Blk w30 wr.heap.size 55 #[.int .u8 0, .int .u8 0, .int .u8 0, .int .i32 0]) := (Blk.new wr 55 _).grow (below_step (below_draws (below_self _) 1) hb30'); have j0 : w30.cell? ⟨wr.heap.size, 0, none⟩ = some (.int .u8 0) := HJ30.out.cell 0; have j1 : w30.cell? ⟨wr.heap.size, 1, none⟩ = some (.int .u8 0) := HJ30.out.cell 1; have j2 : w30.cell? ⟨wr.heap.size, 2, none⟩ = some (.int .u8 0) := HJ30.out.cell 2; have j3 : w30.cell? ⟨wr.heap.size, 3, none⟩ = some (.int .i32 0) := HJ30.out.cell 3; have f0 := HJ30.out.free 0; have f1 := HJ30.out.free 1; have f2 := HJ30.out.free 2; have f3 := HJ30.out.free 3) | skip); clear hb30 hb30'))
                | fail
              all_goals
                first
                  | (have HJ31 : Hid (Blk ((((w30.setCell ⟨wr.heap.size, 0, none⟩ (.int .u8 y.o)).setCell ⟨wr.heap.size, 1, none⟩ (.int .u8 y.a)).setCell ⟨wr.heap.size, 2, none⟩ (.int .u8 y.b)).setCell ⟨wr.heap.size, 3, none⟩ (.int .i32 0)) wr.heap.size 55 #[.int .u8 y.o, .int .u8 y.a, .int .u8 y.b, .int .i32 0]) := HJ30.out.setAll #[.int .u8 y.o, .int .u8 y.a, .int .u8 y.b, .int .i32 0] rfl; have HG31 : Hid (w30.grownBy ((((w30.setCell ⟨wr.heap.size, 0, none⟩ (.int .u8 y.o)).setCell ⟨wr.heap.size, 1, none⟩ (.int .u8 y.a)).setCell ⟨wr.heap.size, 2, none⟩ (.int .u8 y.b)).setCell ⟨wr.heap.size, 3, none⟩ (.int .i32 0)) (some wr.heap.size)) := grown_setCells wr.heap.size [.int .u8 y.o, .int .u8 y.a, .int .u8 y.b, .int .i32 0] 0 w30; generalize ((((w30.setCell ⟨wr.heap.size, 0, none⟩ (.int .u8 y.o)).setCell ⟨wr.heap.size, 1, none⟩ (.int .u8 y.a)).setCell ⟨wr.heap.size, 2, none⟩ (.int .u8 y.b)).setCell ⟨wr.heap.size, 3, none⟩ (.int .i32 0)) = w31 at *; have hC31 : Below wr.heap.size wr w31 := HC30.out.trans (below_grown HG31.out (Nat.le_refl _) HC30.out.size); have HC31 := Hid.in hC31; have q0 : w31.cell? ⟨wr.heap.size, 0, none⟩ = some (.int .u8 y.o) := HJ31.out.cell 0; have q1 : w31.cell? ⟨wr.heap.size, 1, none⟩ = some (.int .u8 y.a) := HJ31.out.cell 1; clear j0 j1 j2 j3 f0 f1 f2 f3)
                  | (have HJ31 : Hid (Blk (w30.alloc (.cells #[.int .u8 y.o, .int .u8 y.a, .int .u8 y.b, .int .i32 0] 55)) w30.heap.size 55 #[.int .u8 y.o, .int .u8 y.a, .int .u8 y.b, .int .i32 0]) := Blk.new w30 55 _; have hC31 : Below wr.heap.size wr (w30.alloc (.cells #[.int .u8 y.o, .int .u8 y.a, .int .u8 y.b, .int .i32 0] 55)) := below_alloc HC30.out _; generalize w30.alloc (.cells #[.int .u8 y.o, .int .u8 y.a, .int .u8 y.b, .int .i32 0] 55) = w31 at *; generalize w30.heap.size = gj at *; have HC31 := Hid.in hC31; have q0 : w31.cell? ⟨gj, 0, none⟩ = some (.int .u8 y.o) := HJ31.out.cell 0; have q1 : w31.cell? ⟨gj, 1, none⟩ = some (.int .u8 y.a) := HJ31.out.cell 1)
                have r0 := (hC31.cell (cell_lt o2)).trans o2
                have r1 := (hC31.cell (cell_lt c1)).trans c1
                have r2 := (hC31.cell (cell_lt c2)).trans c2
                have r3 := (hC31.cell (cell_lt i1)).trans i1
                have r4 := (hC31.cell (cell_lt i3)).trans i3
                have r5 := (hC31.cell (cell_lt i4)).trans i4
                have r6 := (hC31.cell (cell_lt hpa)).trans hpa
                have hae : a0 ≤ 65536 := by omega
                clear hC31 hk30 o0 o1 o2 o3 c0 c1 c2 i1 i2 i3 i4 hpa i0 hD
                go_upto_region 22 with fail
                go_quiet (fail)
                go_wp2_with fail
                go_roundw
                case rel => exact ⟨s, m, x + 1, i + 1, rfl, rfl, by go_num, by go_num, by omega, HL'.out, HB.out.trans ((HC31.out.trans ((below_draws (below_self w31) nq).mono HC31.out.size)).mono HB.out.size)⟩
                case measure => simp [intOf]; omega
        · as_aux_lemma =>
            have i0 : wr.cell? ⟨b, o + i * 9, none⟩ = some (.int .u8 y.k) := hRg 0 _ rfl
            have HL' := Hid.in (HM4.out hk1 hk3 (.inl hk2))
            have k0 := hfit.k0
            have k1 := hfit.k1
            clear hRg HM1 HM2 HM3 HM4 HL hA
            go_wp2_with fail
            go_roundw
            case rel => exact ⟨s, m, x, i + 1, rfl, rfl, rfl, by go_num, by omega, HL'.out, HB.out⟩
            case measure => simp [intOf]; omega
      · as_aux_lemma =>
          have hin : i = n := by omega
          subst hin
          have HD : Hid (s = ob.sy.length ∧ m = ob.mk_.length ∧ x = ob.fx.length) := by
            have := HL.out
            rw [← HN.out] at this
            exact this.done
          obtain ⟨d1, d2, d3⟩ := HD.out
          have HBW := Hid.in (below_step HB9.out HB.out)
          clear HL HD
          subst d1 d2 d3
          go_wp2_with (go_at_call 12; refine (hA _ (HE.out.below HBW.out)).mono ?_; rintro E w12 ⟨rfl, hb12⟩; have HB12 := Hid.in (below_step HBW.out hb12); clear hb12)
          go_ret
          exact ⟨rfl, HB12.out⟩
  · clear he hx
    generalize makeO xs = ob at *
    generalize (makeE xs).1 = e1 at *
    generalize (makeE xs).2 = e2 at *
    go_enter Tryz.func5, Tryz.ntmps5
    go_upto_region 2 with (first
      | (go_at_call 7; refine (hC _ HX.out).mono ?_; rintro E w1 ⟨p1, c1, rfl, h1, h2, hx1, hb1⟩; have HX1 := Hid.in hx1; have HB1 := Hid.in hb1; clear hx1 hb1)
      | (go_at_call 8; refine (hM _ _ _ (HE.out.below HB1.out) h1 h2 HX1.out).mono ?_; rintro E w2 ⟨pb, ps, pf, pm, cb, cs, cf, cm, rfl, hO2, hb2⟩; have HO2 := Hid.in hO2; have HB2 := Hid.in (below_step HB1.out hb2); clear hO2 hb2))
    have HB3 := Hid.in (below_alloc HB2.out (.cells (obA pb ps pf pm ob.bs.length cb ob.sy.length cs ob.fx.length cf ob.mk_.length cm) 29))
    generalize w2.alloc (.cells (obA pb ps pf pm ob.bs.length cb ob.sy.length cs ob.fx.length cf ob.mk_.length cm) 29) = w3 at *
    clear hM hC
    go_wp2_with (go_at_call 12; refine (hA _ (HE.out.below HB3.out)).mono ?_; rintro E w4 ⟨rfl, hb4⟩; have HB4 := Hid.in (below_step HB3.out hb4); clear hb4)
    go_ret
    exact ⟨rfl, HB4.out⟩

end Go.Proofs.YtkianldkbfjehaaGreatDoor
