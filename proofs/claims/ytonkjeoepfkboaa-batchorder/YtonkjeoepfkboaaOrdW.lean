/- BatchOrder: the walk. -/
import Derived.Test.YtonkjeoepfkboaaOrdL
import Derived.Test.YtonkjeoepfkboaaQPick
namespace Go.Proofs.Ytonkjeoepfkboaa
open Go.RowKit Go.Sort

theorem Scr.take {w : World} {p : Option Addr} {L : List OpD} (h : Scr w p L) (k : Nat) : Scr w p (L.take k) := fun h0 => by
  rw [List.length_take] at h0
  obtain ⟨b, o, e, h1⟩ := h (by omega)
  refine ⟨b, o, e, fun i y hy => h1 i y ?_⟩
  have hi : i < (L.take k).length := (List.getElem?_eq_some_iff.1 hy).1
  rw [List.length_take] at hi
  rw [List.getElem?_take_of_lt (by omega)] at hy
  exact hy
/-- a struct stored whole, in a region that draws -/
theorem step_store_whole {ops : Array Oper} {o : Oper} {A : Act} {w : World} {K : Act → World → Prop} {Q : Exit → Act → World → Prop} {E : Prop} (hgd : o.guard = none) (t : TypeId) (p x : Operand) (ho : o.op = .store t p x) (hd : o.dst = none)
    {g : Nat} {T : TypeId} {c : Array Value} (hB : Blk w g T c) (c' : Array Value) (hp : A.eval p = .pointer (some ⟨g, 0, none⟩)) (hx : A.eval x = .agg c') (hi : (Try.prog.info? t).map (·.size) = some c'.size) (hf : c'.size = c.size) (h1 : c'.all (·.oneCell') = true)
    (h : ∀ w', Hid (Blk w' g T c') → Hid (w.grownBy w' (some g)) → K A w') :
    if Region.wanted o (yielded ops A.tmps) = true then Oper.wp Try.prog o A w K Q else E := by
  refine step_store_part hgd t p x ho hd hB 0 c' hp hx hi (by omega) h1 (fun w' hb hg => h w' ?_ hg)
  have hb' := hb.out
  rw [splice_all _ _ (by simp [hf])] at hb'
  exact (show Blk _ _ _ _ by simpa using hb')
set_option maxRecDepth 20000 in
set_option maxHeartbeats 4000000 in
theorem order_walk (p : Option Addr) (m e : Nat) (L : List OpD) (at_ : Int) (w : World) (hL : L.length = m) (hm : m ≤ 9223372036854775807) (hme : m ≤ e) (hsL : Scr w p L) :
    Calls Try.prog 4 #[.slice p m e, .int .i64 at_] w fun E w' => E = .returned (.bool true) ∧ Below w.heap.size w w' := by
  obtain ⟨X, hXe⟩ : ∃ X, X = L.take 4 := ⟨_, rfl⟩
  have hs : Scr w p X := by rw [hXe]; exact hsL.take 4
  obtain ⟨n, hX⟩ : ∃ n, X.length = n := ⟨_, rfl⟩
  have hnm : n = Nat.min 4 m := by rw [← hX, hXe, List.length_take, hL]
  have hn4 : n ≤ 4 := by rw [hnm]; exact Nat.min_le_left _ _
  have HV1 : Hid (4 < m → n = 4) := fun h => by rw [hnm]; exact Nat.min_eq_left (by omega)
  have HV2 : Hid (¬ 4 < m → n = m) := fun h => by rw [hnm]; exact Nat.min_eq_right (by omega)
  have HP8 : Hid (4 < m → ∃ b o, p = some ⟨b, o, none⟩) := fun h => by obtain ⟨b, o, e, -⟩ := hsL (by omega); exact ⟨b, o, e⟩
  have HX := Hid.in hX
  have HSC := Hid.in hs
  clear hX hs hsL hXe hnm hL
  go_enter Try.func4, Try.ntmps4
  go_upto_if 18 with fail
  go_cut [0] (fun v wx => v = .slice p n e ∧ wx = w)
  case first =>
    by_cases h8 : 4 < m
    · have he := HV1.out h8
      obtain ⟨b0, o0, rfl⟩ := HP8.out h8
      have g2 : decide (4 < m) = true := decide_eq_true h8
      clear HV1 HV2 HP8
      go_wp2_with fail
      go_meet
      case rel => exact ⟨by rw [he], rfl⟩
    · have HE := Hid.in (HV2.out h8)
      have g2 : decide (4 < m) = false := decide_eq_false h8
      clear HV1 HV2 HP8
      go_wp2_with fail
      go_meet
      case rel => exact ⟨by rw [HE.out], rfl⟩
  case rest =>
  obtain ⟨rfl, hwc⟩ := hcut
  have hwc2 := hwc.symm
  clear hwc HV1 HV2 HP8
  subst hwc2
  go_wp2_with (go_at_call 6; refine Hid.out ?_)
  refine Lib.hid ?_
  refine (new_any w).mono ?_
  rintro E w1 ⟨rfl, hb1, hl1⟩
  have HA1 := Hid.in hb1
  have HL1 := Hid.in hl1
  clear hb1 hl1
  go_wp2_with (go_at_call 6; refine Hid.out ?_)
  refine Lib.hid ?_
  refine (new_any w1).mono ?_
  rintro E w2 ⟨rfl, hb2, hl2⟩
  have HA2 := Hid.in (HA1.out.below hl2)
  have HB2 := Hid.in hb2
  have HL2 := Hid.in (below_step HL1.out hl2)
  have HNE : Hid (w.heap.size ≠ w1.heap.size) := by have := HA1.out.lt; show _ ≠ _; omega
  have HNS : Hid (w.heap.size ≤ w1.heap.size) := HL1.out.size
  clear hb2 hl2 HA1 HL1
  generalize w1.heap.size = qb at *
  go_wp2_with fail
  go_loopw [7, 8, 9] (fun vi _ _ wr => ∃ (i : Nat) (A B : List Si), vi = .int .i64 i ∧ i ≤ n ∧ Bat wr w.heap.size A ∧ Bat wr qb B ∧ A.length = i ∧ B.length = i ∧ A.Perm ((X.take i).map stO) ∧ B.Perm ((X.drop (X.length - i)).map stO) ∧ Below w.heap.size w wr) (fun vi _ _ _ => n - (intOf vi).toNat)
  case atStart => exact ⟨0, [], [], rfl, Nat.zero_le _, HA2.out, HB2.out, rfl, rfl, List.Perm.refl _, by rw [Nat.sub_zero, List.drop_length]; exact List.Perm.refl _, HL2.out⟩
  case round =>
    obtain ⟨i, A, B, rfl, hi, hA, hB, hAl, hBl, hAp, hBp, hL⟩ := hrel
    clear HA2 HB2 HL2
    have HA := Hid.in hA
    have HB := Hid.in hB
    have HAl := Hid.in hAl
    have HBl := Hid.in hBl
    have HAp := Hid.in hAp
    have HBp := Hid.in hBp
    have HL := Hid.in hL
    clear hA hB hAl hBl hAp hBp hL
    by_cases hin : i < n
    · have hiX : i < X.length := by rw [HX.out]; exact hin
      have HF := Hid.in (ord_fst hiX HAp.out)
      have HS := Hid.in (ord_snd hiX HBp.out)
      obtain ⟨b, o, rfl, hc⟩ := (HSC.out.below HL.out) (by omega)
      obtain ⟨⟨c0, c1, c2, c3⟩, -⟩ := hc i X[i] (List.getElem?_eq_getElem hiX)
      obtain ⟨⟨d0, d1, d2, d3⟩, -⟩ := hc (X.length - 1 - i) (X[X.length - 1 - i]'(by omega)) (List.getElem?_eq_getElem (by omega))
      clear hc
      generalize X[i] = x at *
      generalize X[X.length - 1 - i]'(by omega) = y at *
      have e1 : X.length - 1 - i = n - 1 - i := by rw [HX.out]
      rw [e1] at d0 d1 d2 d3
      clear e1
      obtain ⟨k, hk⟩ : ∃ k, k = n - 1 - i := ⟨_, rfl⟩
      rw [← hk] at d0 d1 d2 d3
      have hkz : (n : Int) - 1 - i = (k : Int) := by omega
      have hkn : k < n := by omega
      clear hk
      go_upto_region 7 with fail
      go_cut [8, 9] from 29 to 41 (fun v8 v9 wx => ∃ go gp, v8 = .pointer (some ⟨go, 0, none⟩) ∧ v9 = .pointer (some ⟨gp, 0, none⟩) ∧ Blk wx go 27 #[.int .i64 x.kind, .int .i64 x.at_, .int .i64 x.to_, .bool x.up] ∧ Blk wx gp 27 #[.int .i64 y.kind, .int .i64 y.at_, .int .i64 y.to_, .bool y.up] ∧ Below wr.heap.size wr wx ∧ go ≠ w.heap.size ∧ go ≠ qb ∧ gp ≠ w.heap.size ∧ gp ≠ qb)
      case first =>
        have c0r := fun d os => cell_regrown c0 d os
        have c1r := fun d os => cell_regrown c1 d os
        have c2r := fun d os => cell_regrown c2 d os
        have c3r := fun d os => cell_regrown c3 d os
        have d0r := fun d os => cell_regrown d0 d os
        have d1r := fun d os => cell_regrown d1 d os
        have d2r := fun d os => cell_regrown d2 d os
        have d3r := fun d os => cell_regrown d3 d os
        have HWQ : Hid (qb < wr.heap.size) := HB.out.lt
        have HWA : Hid (w.heap.size < wr.heap.size) := HA.out.lt
        refine wp_region_noPanic ?_
        refine wp_region_sink 12 [] 4 (by kernel_rfl) (by kernel_rfl) (by kernel_rfl) (by kernel_rfl) (by kernel_rfl) (fun _ _ _ _ _ h => h) ?_
        simp only [List.take_succ_cons, List.take_zero]
        iterate 12 (go_big_quiet_step (fail))
        refine wpQuiet_nil ?_
        rintro _ ⟨⟨dq, osq⟩, rfl⟩
        have HQ := Hid.in (below_regrown wr dq osq)
        generalize Go.Sort.grow (redrawn wr dq) osq = v0 at HQ ⊢
        clear c0r c1r c2r c3r d0r d1r d2r d3r
        have HL_v0 := Hid.in HQ.out
        clear HQ
        refine wpAnyG_two (i := 12) (j := 13) (by kernel_rfl) rfl rfl (fun K hK => ?_) (fun K hK => ?_)
        · go_simp
          have HOb_v1 := Hid.in (Blk.new v0 27 #[.int .i64 0, .int .i64 0, .int .i64 0, .bool false])
          have HL_v1 : Hid (Below wr.heap.size wr (v0.alloc (.cells #[.int .i64 0, .int .i64 0, .int .i64 0, .bool false] 27))) := below_alloc HL_v0.out _
          have HGo : Hid (wr.heap.size ≤ v0.heap.size) := HL_v0.out.size
          generalize hgen_v1 : v0.alloc (.cells #[.int .i64 0, .int .i64 0, .int .i64 0, .bool false] 27) = v1 at *
          clear hgen_v1
          refine hK.out _ _ (regrown_of_below HL_v1.out) (fun _ => ?_)
          clear hK
          refine wpAnyG_one (i := 13) (by kernel_rfl) rfl (fun K hK => ?_)
          have HLT : Hid (v0.heap.size < v1.heap.size) := HOb_v1.out.lt
          go_simp
          have HPb_v2 := Hid.in (Blk.new v1 27 #[.int .i64 0, .int .i64 0, .int .i64 0, .bool false])
          have HL_v2 : Hid (Below wr.heap.size wr (v1.alloc (.cells #[.int .i64 0, .int .i64 0, .int .i64 0, .bool false] 27))) := below_alloc HL_v1.out _
          have HOb_v2 := Hid.in (HOb_v1.out.grow (new_alloc v1 (.cells #[.int .i64 0, .int .i64 0, .int .i64 0, .bool false] 27)))
          have HGp : Hid (wr.heap.size ≤ v1.heap.size) := HL_v1.out.size
          generalize hgen_v2 : v1.alloc (.cells #[.int .i64 0, .int .i64 0, .int .i64 0, .bool false] 27) = v2 at *
          clear hgen_v2
          refine hK.out _ _ (regrown_of_below HL_v2.out) (fun _ => ?_)
          clear hK
          refine wpAnyG_one (i := 14) (by kernel_rfl) rfl (fun K hK => ?_)
          refine step_store_whole rfl _ _ _ rfl rfl HOb_v2.out #[.int .i64 x.kind, .int .i64 x.at_, .int .i64 x.to_, .bool x.up] rfl rfl (by kernel_rfl) rfl (by kernel_rfl) ?_
          intro v3 HS_v3 HGR_v3
          have HL_v3 : Hid (Below wr.heap.size wr v3) := HL_v2.out.trans (below_grown HGR_v3.out HGo.out HL_v2.out.size)
          have HPb_v3 := Hid.in (HPb_v2.out.kept HGR_v3.out (fun e => by have h5 := HLT.out; injection e with e; omega))
          refine hK.out _ _ (regrown_of_below HL_v3.out) (fun _ => ?_)
          clear hK HGR_v3
          refine wpAnyG_one (i := 15) (by kernel_rfl) rfl (fun K hK => ?_)
          refine step_store_whole rfl _ _ _ rfl rfl HPb_v3.out #[.int .i64 y.kind, .int .i64 y.at_, .int .i64 y.to_, .bool y.up] rfl rfl (by kernel_rfl) rfl (by kernel_rfl) ?_
          intro v4 HS_v4 HGR_v4
          have HL_v4 : Hid (Below wr.heap.size wr v4) := HL_v3.out.trans (below_grown HGR_v4.out HGp.out HL_v3.out.size)
          have HSo_v4 := Hid.in (HS_v3.out.kept HGR_v4.out (fun e => by have h5 := HLT.out; injection e with e; omega))
          refine hK.out _ _ (regrown_of_below HL_v4.out) (fun _ => ?_)
          clear hK HGR_v4
          refine wpAnyG_done (by kernel_rfl) ?_ _
          refine NoPanic.normal ?_
          go_wp2_with fail
          go_meet
          case rel => exact ⟨_, _, rfl, rfl, HSo_v4.out, HS_v4.out, HL_v4.out, by have h1 := HGo.out; have h2 := HWA.out; omega, by have h1 := HGo.out; have h2 := HWQ.out; omega, by have h1 := HGp.out; have h2 := HWA.out; omega, by have h1 := HGp.out; have h2 := HWQ.out; omega⟩
        · go_simp
          have HPb_v1 := Hid.in (Blk.new v0 27 #[.int .i64 0, .int .i64 0, .int .i64 0, .bool false])
          have HL_v1 : Hid (Below wr.heap.size wr (v0.alloc (.cells #[.int .i64 0, .int .i64 0, .int .i64 0, .bool false] 27))) := below_alloc HL_v0.out _
          have HGp : Hid (wr.heap.size ≤ v0.heap.size) := HL_v0.out.size
          generalize hgen_v1 : v0.alloc (.cells #[.int .i64 0, .int .i64 0, .int .i64 0, .bool false] 27) = v1 at *
          clear hgen_v1
          refine hK.out _ _ (regrown_of_below HL_v1.out) (fun _ => ?_)
          clear hK
          refine wpAnyG_one (i := 12) (by kernel_rfl) rfl (fun K hK => ?_)
          have HLT : Hid (v0.heap.size < v1.heap.size) := HPb_v1.out.lt
          go_simp
          have HOb_v2 := Hid.in (Blk.new v1 27 #[.int .i64 0, .int .i64 0, .int .i64 0, .bool false])
          have HL_v2 : Hid (Below wr.heap.size wr (v1.alloc (.cells #[.int .i64 0, .int .i64 0, .int .i64 0, .bool false] 27))) := below_alloc HL_v1.out _
          have HPb_v2 := Hid.in (HPb_v1.out.grow (new_alloc v1 (.cells #[.int .i64 0, .int .i64 0, .int .i64 0, .bool false] 27)))
          have HGo : Hid (wr.heap.size ≤ v1.heap.size) := HL_v1.out.size
          generalize hgen_v2 : v1.alloc (.cells #[.int .i64 0, .int .i64 0, .int .i64 0, .bool false] 27) = v2 at *
          clear hgen_v2
          refine hK.out _ _ (regrown_of_below HL_v2.out) (fun _ => ?_)
          clear hK
          refine wpAnyG_one (i := 14) (by kernel_rfl) rfl (fun K hK => ?_)
          refine step_store_whole rfl _ _ _ rfl rfl HOb_v2.out #[.int .i64 x.kind, .int .i64 x.at_, .int .i64 x.to_, .bool x.up] rfl rfl (by kernel_rfl) rfl (by kernel_rfl) ?_
          intro v3 HS_v3 HGR_v3
          have HL_v3 : Hid (Below wr.heap.size wr v3) := HL_v2.out.trans (below_grown HGR_v3.out HGo.out HL_v2.out.size)
          have HPb_v3 := Hid.in (HPb_v2.out.kept HGR_v3.out (fun e => by have h5 := HLT.out; injection e with e; omega))
          refine hK.out _ _ (regrown_of_below HL_v3.out) (fun _ => ?_)
          clear hK HGR_v3
          refine wpAnyG_one (i := 15) (by kernel_rfl) rfl (fun K hK => ?_)
          refine step_store_whole rfl _ _ _ rfl rfl HPb_v3.out #[.int .i64 y.kind, .int .i64 y.at_, .int .i64 y.to_, .bool y.up] rfl rfl (by kernel_rfl) rfl (by kernel_rfl) ?_
          intro v4 HS_v4 HGR_v4
          have HL_v4 : Hid (Below wr.heap.size wr v4) := HL_v3.out.trans (below_grown HGR_v4.out HGp.out HL_v3.out.size)
          have HSo_v4 := Hid.in (HS_v3.out.kept HGR_v4.out (fun e => by have h5 := HLT.out; injection e with e; omega))
          refine hK.out _ _ (regrown_of_below HL_v4.out) (fun _ => ?_)
          clear hK HGR_v4
          refine wpAnyG_done (by kernel_rfl) ?_ _
          refine NoPanic.normal ?_
          go_wp2_with fail
          go_meet
          case rel => exact ⟨_, _, rfl, rfl, HSo_v4.out, HS_v4.out, HL_v4.out, by have h1 := HGo.out; have h2 := HWA.out; omega, by have h1 := HGo.out; have h2 := HWQ.out; omega, by have h1 := HGp.out; have h2 := HWA.out; omega, by have h1 := HGp.out; have h2 := HWQ.out; omega⟩
      case rest =>
        obtain ⟨go, gp, rfl, rfl, hO, hP, hbx, hg1, hg2, hg3, hg4⟩ := hcut
        have HO := Hid.in hO
        have HP := Hid.in hP
        have HAc := Hid.in (HA.out.below hbx)
        have HBc := Hid.in (HB.out.below hbx)
        have HLc := Hid.in (below_step HL.out hbx)
        clear hO hP hbx HA HB HL c0 c1 c2 c3 d0 d1 d2 d3
        have o1 := (HO.out.cell 1).trans (show _ = some (.int .i64 x.at_) from rfl)
        have o2 := (HO.out.cell 2).trans (show _ = some (.int .i64 x.to_) from rfl)
        have o3 := (HO.out.cell 3).trans (show _ = some (.bool x.up) from rfl)
        go_wp2_with (go_at_call 8; refine Hid.out ?_)
        refine Lib.hid ?_
        refine (add_any _ _ x.at_ x.to_ x.up wc HAc.out).mono ?_
        rintro E w5 ⟨rfl, hb5, hg5⟩
        have HA5 := Hid.in hb5
        have HB5 := Hid.in (HBc.out.kept hg5 HNE.out.symm)
        have HP5 := Hid.in (HP.out.kept hg5 (fun e => hg3 (by injection e)))
        have HL5 := Hid.in (HLc.out.trans (below_grown hg5 (Nat.le_refl _) HLc.out.size))
        clear hb5 hg5 o1 o2 o3 HAc HBc HLc HO
        by_cases he1 : addE A x.at_ x.to_ = 0
        · rw [he1]
          have HE1 := Hid.in he1
          have hR : addR A x.at_ x.to_ x.up = insL (stO x) A := by unfold addR; rw [if_pos he1]; rfl
          rw [hR] at HA5
          clear he1 hR
          have o1 := (HP5.out.cell 1).trans (show _ = some (.int .i64 y.at_) from rfl)
          have o2 := (HP5.out.cell 2).trans (show _ = some (.int .i64 y.to_) from rfl)
          have o3 := (HP5.out.cell 3).trans (show _ = some (.bool y.up) from rfl)
          go_wp2_with (go_at_call 8; refine Hid.out ?_)
          refine Lib.hid ?_
          refine (add_any _ _ y.at_ y.to_ y.up w5 HB5.out).mono ?_
          rintro E w6 ⟨rfl, hb6, hg6⟩
          have HB6 := Hid.in hb6
          have HA6 := Hid.in (HA5.out.kept hg6 HNE.out)
          have HL6 := Hid.in (HL5.out.trans (below_grown hg6 HNS.out HL5.out.size))
          clear hb6 hg6 o1 o2 o3 HA5 HB5 HL5
          by_cases he2 : addE B y.at_ y.to_ = 0
          · rw [he2]
            have hR : addR B y.at_ y.to_ y.up = insL (stO y) B := by unfold addR; rw [if_pos he2]; rfl
            rw [hR] at HB6
            clear he2 hR
            have HAl' : Hid ((insL (stO x) A).length = i + 1) := by rw [insL_len, HAl.out]; exact rfl
            have HBl' : Hid ((insL (stO y) B).length = i + 1) := by rw [insL_len, HBl.out]; exact rfl
            go_wp2_with fail
            go_roundw
            case rel => exact ⟨i + 1, _, _, by go_num, by omega, HA6.out, HB6.out, HAl'.out, HBl'.out, HF.out, HS.out, HL6.out⟩
            case measure => simp [intOf]; omega
          · go_wp2_with (go_at_call 16; refine Hid.out ?_)
            refine Lib.hid ?_
            refine (awake_any w6).mono ?_
            rintro E w7 ⟨rfl, hb7⟩
            have HL7 := Hid.in (below_step HL6.out hb7)
            clear hb7
            go_wp2_with fail
            go_ret
            exact ⟨rfl, HL7.out⟩
        · go_wp2_with (go_at_call 16; refine Hid.out ?_)
          refine Lib.hid ?_
          refine (awake_any w5).mono ?_
          rintro E w7 ⟨rfl, hb7⟩
          have HL7 := Hid.in (below_step HL5.out hb7)
          clear hb7
          go_wp2_with fail
          go_ret
          exact ⟨rfl, HL7.out⟩
    · have hin' : i = n := by omega
      subst hin'
      have hAB : A = B := srt_eq HA.out.srt HB.out.srt (by
        have h1 := HAp.out
        have h2 := HBp.out
        rw [List.take_of_length_le (by rw [HX.out]; exact Nat.le_refl _)] at h1
        rw [HX.out, Nat.sub_self, List.drop_zero] at h2
        exact h1.trans h2.symm)
      subst hAB
      clear HAp HBp HBl
      go_wp2_with (go_at_call 11; refine Hid.out ?_)
      refine Lib.hid ?_
      refine (all_any _ _ wr HA.out).mono ?_
      rintro E w5 ⟨v, rfl, ht, hb⟩
      have HA5 := Hid.in (HA.out.below hb)
      have HB5 := Hid.in (HB.out.below hb)
      have HL5 := Hid.in (below_step HL.out hb)
      obtain ⟨p5, c5, hv, -, -, hr⟩ := ht.row3
      rw [List.length_map, HAl.out] at hv
      subst hv
      have HR5 := Hid.in hr
      clear hr ht hb HA HB HL
      go_wp2_with (go_at_call 11; refine Hid.out ?_)
      refine Lib.hid ?_
      refine (all_any _ _ w5 HB5.out).mono ?_
      rintro E w6 ⟨v, rfl, ht, hb⟩
      have HA6 := Hid.in (HA5.out.below hb)
      have HL6 := Hid.in (below_step HL5.out hb)
      have HR6 := Hid.in (HR5.out.below hb)
      obtain ⟨p6, c6, hv, -, -, hr⟩ := ht.row3
      rw [List.length_map, HAl.out] at hv
      subst hv
      have HR6' := Hid.in hr
      clear hr ht hb HA5 HB5 HL5 HR5
      go_wp2_with (go_at_call 15; refine Hid.out ?_)
      refine Lib.hid ?_
      refine (sameSites_any p5 p6 i c5 i c6 A A w6 HAl.out HAl.out (by omega) (by omega) HR6.out HR6'.out).mono ?_
      rintro E w7 ⟨⟨bt, rfl, hbt⟩, z, hw⟩
      obtain rfl : bt = true := hbt.2 rfl
      have HA7 : Hid (Bat w7 w.heap.size A) := by rw [hw]; exact HA6.out.drewN _
      have HL7 : Hid (Below w.heap.size w w7) := by rw [hw]; exact below_draws HL6.out _
      have HR7 : Hid (Row3 w7 p5 (A.map siV)) := by rw [hw]; exact HR6.out.drewN _
      clear hw hbt HA6 HL6 HR6 HR6'
      go_wp2_with fail
      have HSR := Hid.in HA7.out.srt
      go_loopw [11, 12, 13] (fun vi _ _ wx => ∃ (j d : Nat), vi = .int .i64 j ∧ j ≤ i ∧ wx = w7.drewN d) (fun vi _ _ _ => i - (intOf vi).toNat)
      case atStart => exact ⟨0, 0, rfl, Nat.zero_le _, rfl⟩
      case round =>
        obtain ⟨j, d, rfl, hj, hwx⟩ := hrel
        have HA8 : Hid (Bat wr w.heap.size A) := by rw [hwx]; exact HA7.out.drewN _
        have HL8 : Hid (Below w.heap.size w wr) := by rw [hwx]; exact below_draws HL7.out _
        have HR8 : Hid (Row3 wr p5 (A.map siV)) := by rw [hwx]; exact HR7.out.drewN _
        have HWX := Hid.in hwx
        clear hwx
        by_cases hji : j < i
        · have hjA : j < A.length := by rw [HAl.out]; exact hji
          have HFO := Hid.in (find_own HSR.out j hjA)
          have HGP : Hid (∀ m, m + 1 = j → ∃ hm : m < A.length, (A[m]'hm).at_ + 5 ≤ A[j].at_) := fun m hm => ⟨by omega, HSR.out.gap m j hjA (by omega)⟩
          have hlo := HSR.out.lo j hjA
          have hhi := HSR.out.hi j hjA
          obtain ⟨b, o, rfl, hc⟩ := HR8.out (by rw [List.length_map]; omega)
          obtain ⟨-, c1, -⟩ := cells3 hc j (by rw [List.length_map]; exact hjA)
          simp only [List.getElem_map, siV] at c1
          have HC := Hid.in hc
          clear hc
          obtain ⟨z, hz⟩ : ∃ z, z = A[j].at_ := ⟨_, rfl⟩
          rw [← hz] at HFO HGP hlo hhi c1
          clear hz
          go_wp2_with (go_at_call 12; refine Hid.out ?_)
          refine Lib.hid ?_
          refine (find_any _ _ z wr HA8.out).mono ?_
          rintro E w9 ⟨rfl, nn, hw⟩
          rw [HFO.out.1, HFO.out.2]
          have HW9 : Hid (w9 = w7.drewN (d + nn)) := by rw [hw, HWX.out]; exact drewN_two _ _ _
          have c9 : w9.cell? ⟨b, o + j * 3 + 1, none⟩ = some (.int .i64 z) := by rw [hw]; exact c1
          rcases Nat.eq_zero_or_pos j with h0 | hpos
          · subst h0
            clear hw c1
            go_upto_region 17 with fail
            go_quiet (fail)
            go_wp2_with fail
            go_roundw
            case rel => exact ⟨0 + 1, d + nn + nq, by go_num, by omega, by rw [HW9.out]; exact drewN_two _ _ _⟩
            case measure => simp [intOf]; omega
          · obtain ⟨m, rfl⟩ : ∃ m, j = m + 1 := ⟨j - 1, by omega⟩
            obtain ⟨hm, hgp⟩ := HGP.out m rfl
            obtain ⟨-, c1', -⟩ := cells3 HC.out m (by rw [List.length_map]; exact hm)
            simp only [List.getElem_map, siV] at c1'
            have hlo' := HSR.out.lo m hm
            generalize A[m].at_ = y at *
            have d9 : w9.cell? ⟨b, o + m * 3 + 1, none⟩ = some (.int .i64 y) := by rw [hw]; exact c1'
            clear hw c1 c1'
            have g5 : ¬ z < y + 5 := by omega
            have hm1 : ((m : Int) + 1) - 1 = m := by omega
            have hmp : (0 : Int) < (m : Int) + 1 := by omega
            go_upto_region 17 with fail
            go_quiet (fail)
            go_wp2_with fail
            go_roundw
            case rel => exact ⟨m + 1 + 1, d + nn + nq, by go_num, by omega, by rw [HW9.out]; exact drewN_two _ _ _⟩
            case measure => simp [intOf]; omega
        · have hji' : j = i := by omega
          subst hji'
          clear HWX
          go_wp2_with (go_at_call 12; refine Hid.out ?_)
          refine Lib.hid ?_
          refine (find_any _ _ at_ wr HA8.out).mono ?_
          rintro E w9 ⟨rfl, nn, hw⟩
          have HL9 : Hid (Below w.heap.size w w9) := by rw [hw]; exact below_draws HL8.out _
          have HR9 : Hid (Row3 w9 p5 (A.map siV)) := by rw [hw]; exact HR8.out.drewN _
          clear hw HL8 HR8 HA8
          cases hf : fndB A at_
          · rw [find_no hf]
            clear hf
            go_wp2_with (go_at_call 16; refine Hid.out ?_)
            refine Lib.hid ?_
            refine (awake_any w9).mono ?_
            rintro E w10 ⟨rfl, hb10⟩
            have HL10 := Hid.in (below_step HL9.out hb10)
            clear hb10
            go_wp2_with fail
            go_ret
            exact ⟨rfl, HL10.out⟩
          · obtain ⟨hfl, hfe⟩ := find_in hf
            generalize fndI A at_ = f at *
            obtain ⟨b, o, rfl, hc⟩ := HR9.out (by rw [List.length_map]; omega)
            obtain ⟨-, c1, -⟩ := cells3 hc f (by rw [List.length_map]; exact hfl)
            simp only [List.getElem_map, siV, hfe] at c1
            have hfj : f < j := by rw [← HAl.out]; exact hfl
            clear hc hf hfe hfl
            go_wp2_with (go_at_call 16; refine Hid.out ?_)
            refine Lib.hid ?_
            refine (awake_any w9).mono ?_
            rintro E w10 ⟨rfl, hb10⟩
            have HL10 := Hid.in (below_step HL9.out hb10)
            clear hb10
            go_wp2_with fail
            go_ret
            exact ⟨rfl, HL10.out⟩
end Go.Proofs.Ytonkjeoepfkboaa
