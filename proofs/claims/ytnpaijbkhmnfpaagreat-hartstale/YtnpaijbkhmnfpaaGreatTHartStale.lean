/-
  Proved here: the law HartStale (switchyardlaw15) answers true for every input, and each argument reads afterwards as it read before. No condition of ours: the row's own reach alone (each slice and text takes at most 2^47 - 4096 bytes).
-/
import Derived.Test.YtnpaijbkhmnfpaaGreatGs
import Derived.Test.YtnpaijbkhmnfpaaGreatOpen
import Derived.Deep.Grids
import Derived.SizedLaws
import Derived.Test.YtnpaijbkhmnfpaaGreatGr
import Derived.Test.YtnpaijbkhmnfpaaGreatGu
import Derived.Test.YtnpaijbkhmnfpaaGreatGv

/- How a list of numbers that came in is opened. -/
namespace Go.Proofs.YtnpaijbkhmnfpaaGreat
open Go.ChangeShapes Go.WideShapes Go.ChangeAt Go.RowKit

theorem Tryz.cells3 : Tryz.prog.cellsOf 3 = 1 := by kernel_rfl
theorem Tryz.bytes3 : Tryz.prog.bytesOf 3 = 8 := by kernel_rfl
theorem weights_of {H : Type} {P : Program} {ts : List TypeId} {ds : List (DataW H)} (hsz : (DataW.weightsEach P ts ds).all (· ≤ reachBytes) = true) {j : Nat} {t : TypeId} {d : DataW H} (ht : ts[j]? = some t) (hd : ds[j]? = some d) : ∀ m ∈ d.weights P t, m ≤ reachBytes := by
  intro m hm
  have := List.all_eq_true.1 hsz m (DataW.weights_mem_each ht hd m hm)
  simpa using this
set_option maxRecDepth 20000 in
theorem open_ints_val {H : Type} {enc : TypeId × Value → H} {W : World} {base : Nat} {v : Value} {d : DataW H} {p : List MemPlace} (hv : Value.okWide Tryz.prog W .any base 79 v)
    (h : DataW.Trod enc Tryz.prog W 0 (fun _ => true) true 79 v d p) {ts : List TypeId} {ds : List (DataW H)} (hsz : (DataW.weightsEach Tryz.prog ts ds).all (· ≤ reachBytes) = true) {j : Nat} (ht : ts[j]? = some 79) (hd : ds[j]? = some d) :
    ∃ (q : Option Addr) (n e : Nat) (zs : List Int), v = .slice q n e ∧ zs.length = n ∧ n ≤ 140737488355328 ∧ n ≤ e ∧ GRow W q (numZ zs) := by
  obtain ⟨fuel, hf⟩ := h
  have hcs : v.cells.toList = [v] := by
    obtain ⟨_, _, _, rfl⟩ := Go.WideShapes.okWide_slice Tryz.underlying79 hv
    rfl
  rw [hcs] at hf
  have hw := weights_of hsz ht hd
  have hr : ∀ q n c, v = .slice q n c → n * 8 ≤ reachBytes := by
    intro q n c hv
    rcases DataW.trod_slice Tryz.underlying79 hf with ⟨hcs, hx⟩ | ⟨ad, l, cc, elems, rest, f, hfu, hcs, hx, _, hl, hm, hlen, hel, hsp, _⟩
    · simp only [List.cons.injEq, and_true] at hcs
      rw [hv] at hcs
      simp only [Value.slice.injEq] at hcs
      rw [hcs.2.1]; exact Nat.zero_le _
    · simp only [List.cons.injEq, and_true] at hcs
      rw [hv] at hcs
      simp only [Value.slice.injEq] at hcs
      have := hw ((elems.length + rest.length) * Tryz.prog.bytesOf 3) (by
        have hx1 : d = _ := congrArg Prod.fst hx
        rw [hx1]; simp [DataW.weights, Tryz.underlying79])
      rw [Tryz.bytes3] at this
      rw [hcs.2.1]
      omega
  rcases open_ints Tryz.underlying79 Tryz.underlying3 Tryz.cells3 hf with ⟨hcs, hx⟩ | ⟨ad, l, cc, zs, hcs, _, hl, hm, hz, hx, hcell, hwz⟩
  · simp only [List.cons.injEq, and_true] at hcs
    exact ⟨none, 0, 0, [], by rw [hcs], rfl, by decide, Nat.le_refl _, fun h => absurd h (by simp)⟩
  · simp only [List.cons.injEq, and_true] at hcs
    simp only [if_true] at hz
    have hlen : (zs.take l).length = l := by rw [List.length_take]; omega
    have hrr := hr _ _ _ hcs
    simp only [reachBytes] at hrr
    refine ⟨some ad, l, cc, zs.take l, hcs, hlen, by omega, hl, fun h0 => ?_⟩
    obtain ⟨b, o, s⟩ := ad
    rw [List.length_map, hlen] at h0
    obtain rfl : s = none := by simpa [Addr.add] using World.cell?_spot (hcell 0 (by omega))
    refine ⟨b, o, rfl, fun i hi => ?_⟩
    rw [List.length_map] at hi
    rw [numZ_at _ i hi]
    rw [hlen] at hi
    rw [← Go.WideShapes.add_plain, hcell i (by omega)]
    simp [List.getD, show i < l by omega]
end Go.Proofs.YtnpaijbkhmnfpaaGreat

/- Ours: HartStale, walked. -/
namespace Go.Proofs.YtnpaijbkhmnfpaaGreat
open Go.RowKit Go.Maps

set_option maxHeartbeats 8000000 in
set_option maxRecDepth 8000 in
theorem stale_walk (p : Option Addr) (n c : Nat) (L : List Int) (now : Int) (w : World) (hL : L.length = n) (hn : n ≤ 140737488355328) (hnc : n ≤ c) (hr : GRow w p (numZ L)) (hnow : 0 ≤ now ∧ now ≤ 255) :
    Calls Tryz.prog 6 #[.slice p n c, .int .u8 now] w fun e w' => e = .returned (.bool true) ∧ Below w.heap.size w w' := by
  have hP := program_any p n c L w hL hn hnc hr
  have hxl := bytesP_len (L.take 24)
  have hrm : (roomN (plcK (kindL (L.take 24)) (L.take 24).length)) ≤ 200 := by
    have := plcK_le (kindL (L.take 24)) (L.take 24).length
    have : (L.take 24).length ≤ 24 := by rw [List.length_take]; omega
    unfold roomN
    omega
  have hxb := bytesP_byt (L.take 24)
  have hlen : 8 ≤ (bytesP (L.take 24)).length ∧ (bytesP (L.take 24)).length ≤ 300 := by rw [hxl]; omega
  clear hxl hrm hL hr
  generalize L.take 24 = l at *
  go_enter Tryz.func6, Tryz.ntmps6
  go_wp2_with (go_at_call 31; refine Hid.out ?_)
  refine Lib.hid ?_
  (with_reducible refine hP.mono ?_)
  rintro e w1 ⟨vB, vK, vS, vU, rfl, hPI, hb1⟩
  have hoB := hPI.by_
  obtain ⟨pK, cK, eK, -, -, -⟩ := hPI.kk.slice
  obtain ⟨pS, cS, eS, -⟩ := hPI.st.shape
  obtain ⟨pU, cU, eU, -, -, -⟩ := hPI.un.slice
  generalize bytesP l = xs at *
  obtain ⟨pB, cB, eB, hrB, -⟩ := hoB.slice
  generalize ((txtP (keydP l).1.length).map Value.string).length = lK at *
  generalize ((tblP l).map z3V).length = lS at *
  generalize (numZ [0]).length = lU at *
  subst eK eS eU eB
  obtain ⟨b0, o0, rfl, hc0⟩ := hrB (by omega)
  have HX := Hid.in hlen
  have HXB := Hid.in hxb
  have HB1 := Hid.in hb1
  have hxl : xs.length ≤ 300 := hlen.2
  have hxl8 : 8 ≤ xs.length := hlen.1
  clear hP hPI hoB hlen hxb hb1
  have HBk := Hid.in (Blk.new w1 83 #[.slice (some ⟨b0, o0, none⟩) xs.length cB, .slice pK lK cK, .slice pS lS cS, .slice pU lU cU])
  have HB2 := Hid.in (below_alloc HB1.out (.cells #[.slice (some ⟨b0, o0, none⟩) xs.length cB, .slice pK lK cK, .slice pS lS cS, .slice pU lU cU] 83))
  have HR2 := Hid.in (hrB.below (new_alloc w1 (.cells #[.slice (some ⟨b0, o0, none⟩) xs.length cB, .slice pK lK cK, .slice pS lS cS, .slice pU lU cU] 83)))
  clear hc0 hrB
  go_upto_region 2 with fail
  generalize w1.alloc (.cells #[.slice (some ⟨b0, o0, none⟩) xs.length cB, .slice pK lK cK, .slice pS lS cS, .slice pU lU cU] 83) = w2 at *
  have q0 : w2.cell? ⟨w1.heap.size, 0, none⟩ = some (.slice (some ⟨b0, o0, none⟩) xs.length cB) := HBk.out.cell 0
  have hN := new_ok (some ⟨b0, o0, none⟩) xs.length cB xs w2 rfl (by omega) HR2.out
  generalize w1.heap.size = gp at *
  go_wp2_with (go_at_call 8; refine Hid.out ?_)
  refine Lib.hid ?_
  (with_reducible refine hN.mono ?_)
  rintro e w3 ⟨q, mg, rfl, hm3, hb3⟩
  have HM3 := Hid.in hm3
  have HB3 := Hid.in hb3
  have q3 : w3.cell? ⟨gp, 0, none⟩ = some (.slice (some ⟨b0, o0, none⟩) xs.length cB) := (hb3.cell (cell_lt q0)).trans q0
  have hH : Calls Tryz.prog 10 #[.int .i64 0, .int .u32 0] w3 _ := hnew_any 0 0 w3
  have d8 : decide ((xs.length : Int) < 8) = false := by simp; omega
  clear hN hm3 hb3 q0
  go_wp2_with (go_at_call 10; refine Hid.out ?_)
  refine Lib.hid ?_
  (with_reducible refine hH.mono ?_)
  rintro e w4 ⟨h, l', b, rfl, hB4, hl4, h1, h2, h3, h4, hb4⟩
  have hk4 : HM w2 w4 (G3 h b mg) q mg h l' b 0 (newH 0) xs := HM.new HM3.out HB3.out hB4 hl4 h1 h2 h3 h4 hb4
  clear hH hB4 hl4 h1 h2 h3 h4 hb4 HM3 HB3 q3
  have hok0 : HsOk 1000000 (newH 0) := (newH_ok 0 (by decide)).more (by decide)
  have hSt := hk4.step false .nilFunc none (by omega) HXB.out hok0 (.inl ⟨rfl, rfl⟩)
  have HOK1 := Hid.in (stpH_ok (id := 0) (hold := false) (tr := none) (newH_ok 0 (by decide)) HXB.out (fun z e => by cases e))
  rw [stale_step rfl rfl rfl rfl (by omega)] at hSt HOK1
  clear hk4
  go_wp2_with (go_at_call 11; refine Hid.out ?_)
  refine Lib.hid ?_
  (with_reducible refine hSt.mono ?_)
  rintro e w5 ⟨vv5, rfl, -, hk5, -⟩
  have HK5 := Hid.in hk5
  have hS := hk5.stateV (HOK1.out.h.more (by decide))
  clear hSt hk5
  have q4 := fld50_3
  go_wp2_with (go_at_call 14; refine Hid.out ?_)
  refine Lib.hid ?_
  (with_reducible refine hS.mono ?_)
  rintro e w6 ⟨V, rfl, ⟨vS6, vH6, vL6, rfl, -, hvH, -⟩, hb6⟩
  obtain ⟨pF, cF, rfl, hrF, hoF⟩ := hvH.off (G := G3 h b mg) (fun j hj => (HK5.out.lt3 j hj).2)
  have HK6 := Hid.in (HK5.out.below hb6)
  have HRF : Hid (Row w6 pF (fsF xs)) := hrF
  have HOF : Hid (Off (G3 h b mg) pF (fsF xs).length) := hoF
  have hatl : (atF (newH 0) xs).hv.length = (fsF xs).length := rfl
  simp only [stA]
  rw [hatl]
  clear hS hb6 hvH hrF hoF HK5 hatl
  have hfl := fsF_len xs
  have HFF := Hid.in (fsF_fst xs)
  have hput : (0 : Nat) + ([now] : List Int).length ≤ xs.length := by simp; omega
  have hW := (HK6.out.below (new_alloc w6 (.cells #[.int .u8 now] 5))).write (c := 1) (a := 0) (row_one w6 now) hput (by omega)
  have HXL1 := Hid.in (putA_len hput)
  have HXB1 : Hid (Byt (putA xs 0 [now])) := byt_putA hput HXB.out (fun i => by
    rcases i with _ | i
    · exact hnow
    · show 0 ≤ ([] : List Int).getD i 0 ∧ ([] : List Int).getD i 0 ≤ 255
      simp)
  have HX0 : Hid ((putA xs 0 [now]).getD 0 0 = now) := rfl
  have HPP : Hid (putA (putA xs 0 [now]) 0 [xs.getD 0 0] = xs) := by
    cases xs with
    | nil => simp at hxl8
    | cons x r => rfl
  generalize putA xs 0 [now] = ys at *
  go_wp2_with (go_at_call 26; refine Hid.out ?_)
  refine Lib.hid ?_
  refine hW.mono ?_
  rintro e w7 ⟨rfl, hk7, hkp7⟩
  have HK7 := Hid.in hk7
  have HRF7 := Hid.in ((HRF.out.below (new_alloc w6 (.cells #[.int .u8 now] 5))).off HOF.out hkp7)
  have hSy := hk7.sync
  clear hW hk7 hkp7 HK6 HRF hput
  go_wp2_with (go_at_call 17; refine Hid.out ?_)
  refine Lib.hid ?_
  (with_reducible refine hSy.mono ?_)
  rintro e w8 ⟨rfl, hk8, hkp8⟩
  have HK8 : Hid (HM w2 w8 (G3 h b mg) q mg h l' b 0 (newH 0) ys) := hk8
  have HRF8 := Hid.in (HRF7.out.off HOF.out hkp8)
  have hLl : (atF (newH 0) xs).L.length = 1 := rfl
  rw [hLl]
  clear hSy hk8 hkp8 hLl HK7 HRF7 HOK1
  have hq0 : w8.cell? ⟨gp, 0, none⟩ = some (.slice (some ⟨b0, o0, none⟩) xs.length cB) := (HBk.out.grow HK8.out.bel).cell 0
  obtain ⟨b0', o0', e0', hc0⟩ := (HR2.out.below HK8.out.bel) (by omega)
  have e0'' : b0 = b0' ∧ o0 = o0' := by injection e0' with e0'; injection e0' with e1 e2 _; exact ⟨e1, e2⟩
  obtain ⟨rfl, rfl⟩ := e0''
  have hq1 : w8.cell? ⟨b0, o0, none⟩ = some (.int .u8 (xs.getD 0 0)) := hc0 0 (by omega)
  obtain ⟨bF, oF, rfl, hcF⟩ := HRF8.out hfl.1
  have hq2 : w8.cell? ⟨bF, oF, none⟩ = some (.int .u8 ((fsF xs).getD 0 0)) := hcF 0 hfl.1
  rw [HFF.out] at hq2
  clear e0' hc0 hcF HRF8 HOF
  have hFn : ((fsF xs).length : Int) ≠ 0 := by omega
  have e1 : (((fsF xs).length : Int) == 0) = false := by simpa using hFn
  have hFp : 0 < (fsF xs).length := hfl.1
  have HX0F : Hid (∀ W, Below w2.heap.size w2 W → W.cell? ⟨gp, 0, none⟩ = some (.slice (some ⟨b0, o0, none⟩) xs.length cB) ∧ W.cell? ⟨b0, o0, none⟩ = some (.int .u8 (xs.getD 0 0))) := fun W hW => ⟨(HBk.out.grow hW).cell 0, by
    obtain ⟨b1, o1, e1, hc1⟩ := (HR2.out.below hW) (by omega)
    have e2 : b0 = b1 ∧ o0 = o1 := by injection e1 with e1; injection e1 with e1 e2 _; exact ⟨e1, e2⟩
    obtain ⟨rfl, rfl⟩ := e2
    exact hc1 0 (by omega)⟩
  have hxx : 0 ≤ xs.getD 0 0 ∧ xs.getD 0 0 ≤ 255 := HXB.out 0
  have HGX : Hid (∃ x0, x0 = xs.getD 0 0) := ⟨_, rfl⟩
  generalize hx0 : xs.getD 0 0 = x0 at *
  have HX00 := Hid.in hx0
  clear hx0 hfl
  generalize (fsF xs).length = nF at *
  have e2 : (x0 != x0) = false := by simp
  go_upto_region 10 with fail
  have q0r := fun d os => cell_regrown hq0 d os
  have q1r := fun d os => cell_regrown hq1 d os
  have q2r := fun d os => cell_regrown hq2 d os
  refine wp_region_noPanic ?_
  refine wp_region_sink 23 [] 12 (by kernel_rfl) (by kernel_rfl) (by kernel_rfl) (by kernel_rfl) (by kernel_rfl) (fun _ _ _ _ _ h => h) ?_
  simp only [List.take_succ_cons, List.take_zero]
  iterate 23 (go_big_quiet_step (fail))
  refine wpQuiet_nil ?_
  rintro _ ⟨⟨dq, osq⟩, rfl⟩
  have HQ := Hid.in (below_regrown w8 dq osq)
  generalize Go.Sort.grow (redrawn w8 dq) osq = w17 at HQ ⊢
  clear q0r q1r q2r hq0 hq1 hq2
  refine wpAnyG_one (i := 23) (by kernel_rfl) rfl (fun K hK => ?_)
  go_simp
  go_at_call 14
  refine ((HK8.out.below HQ.out).stateV hok0).mono ?_
  rintro e w18 ⟨V, rfl, ⟨vSx, vHx, vLx, rfl, -, hvH, -⟩, hbx⟩
  obtain ⟨pH, cH, rfl, -, -⟩ := hvH.slice
  simp only [stA]
  rw [show (newH 0).hv.length = 0 from rfl]
  replace HQ := Hid.in (below_step HQ.out hbx)
  refine hK.out _ _ (regrown_of_below HQ.out) (fun _ => ?_)
  clear hK K
  refine wpAnyG_one (i := 24) (by kernel_rfl) rfl (fun K hK => ?_)
  go_simp
  refine hK.out _ _ (regrown_of_below HQ.out) (fun _ => ?_)
  clear hK K
  refine wpAnyG_one (i := 25) (by kernel_rfl) rfl (fun K hK => ?_)
  go_simp
  refine hK.out _ _ (regrown_of_below HQ.out) (fun _ => ?_)
  clear hK K
  refine wpAnyG_one (i := 26) (by kernel_rfl) rfl (fun K hK => ?_)
  go_simp
  refine hK.out _ _ (regrown_of_below HQ.out) (fun _ => ?_)
  clear hK K
  refine wpAnyG_one (i := 27) (by kernel_rfl) rfl (fun K hK => ?_)
  go_simp
  refine hK.out _ _ (regrown_of_below HQ.out) (fun _ => ?_)
  clear hK K
  refine wpAnyG_one (i := 28) (by kernel_rfl) rfl (fun K hK => ?_)
  go_simp
  refine hK.out _ _ (regrown_of_below HQ.out) (fun _ => ?_)
  clear hK K
  refine wpAnyG_one (i := 29) (by kernel_rfl) rfl (fun K hK => ?_)
  go_simp
  refine hK.out _ _ (regrown_of_below HQ.out) (fun _ => ?_)
  clear hK K
  refine wpAnyG_one (i := 30) (by kernel_rfl) rfl (fun K hK => ?_)
  go_simp
  go_at_call 14
  refine ((HK8.out.below HQ.out).stateV hok0).mono ?_
  rintro e w19 ⟨V, rfl, ⟨vSx, vHx, vLx, rfl, -, -, hvL⟩, hbx⟩
  obtain ⟨pL, cL, rfl, -⟩ := hvL.shape
  simp only [stA]
  rw [show (newH 0).L.length = 0 from rfl]
  replace HQ := Hid.in (below_step HQ.out hbx)
  refine hK.out _ _ (regrown_of_below HQ.out) (fun _ => ?_)
  clear hK K
  refine wpAnyG_one (i := 31) (by kernel_rfl) rfl (fun K hK => ?_)
  go_simp
  refine hK.out _ _ (regrown_of_below HQ.out) (fun _ => ?_)
  clear hK K
  refine wpAnyG_one (i := 32) (by kernel_rfl) rfl (fun K hK => ?_)
  go_simp
  refine hK.out _ _ (regrown_of_below HQ.out) (fun _ => ?_)
  clear hK K
  refine wpAnyG_one (i := 33) (by kernel_rfl) rfl (fun K hK => ?_)
  go_simp
  refine hK.out _ _ (regrown_of_below HQ.out) (fun _ => ?_)
  clear hK K
  refine wpAnyG_one (i := 34) (by kernel_rfl) rfl (fun K hK => ?_)
  go_simp
  refine hK.out _ _ (regrown_of_below HQ.out) (fun _ => ?_)
  clear hK K
  refine wpAnyG_done (by kernel_rfl) ?_ _
  refine NoPanic.normal ?_
  have HKa := Hid.in (HK8.out.below HQ.out)
  clear HQ HK8
  have hy4 : 4 ≤ ys.length := by rw [HXL1.out]; omega
  have hSt := HKa.out.step true .nilFunc none (by rw [HXL1.out]; omega) HXB1.out hok0 (.inl ⟨rfl, rfl⟩)
  have HOK2 := Hid.in (stpH_ok (id := 0) (hold := true) (tr := none) (newH_ok 0 (by decide)) HXB1.out (fun z e => by cases e))
  rw [stale_step rfl rfl rfl rfl hy4] at hSt HOK2
  go_wp2_with (go_at_call 11; refine Hid.out ?_)
  refine Lib.hid ?_
  (with_reducible refine hSt.mono ?_)
  rintro e w20 ⟨vv, rfl, ho20, hk20, -⟩
  obtain ⟨g20, c20, rfl, hE20⟩ := ho20.one8
  obtain ⟨k0, k1, k2, k3, k4, k5, k6⟩ := hE20
  dsimp only at k0 k1 k2 k3 k4 k5 k6
  have HK20 : Hid (HM w2 w20 (G3 h b mg) q mg h l' b 0 (atF (newH 0) ys) ys) := hk20
  have hS := HK20.out.stateV (HOK2.out.h.more (by decide))
  clear hSt hk20 ho20 HKa
  have hfy := fsF_len ys
  have HFY := Hid.in (fsF_fst ys)
  go_wp2_with (go_at_call 14; refine Hid.out ?_)
  refine Lib.hid ?_
  (with_reducible refine hS.mono ?_)
  rintro e w21 ⟨V, rfl, ⟨vSx, vHx, vLx, rfl, -, hvH, -⟩, hb21⟩
  obtain ⟨pG, cG, rfl, hrG, -⟩ := hvH.slice
  obtain ⟨bG, oG, rfl, hcG⟩ := hrG hfy.1
  have hg1 : w21.cell? ⟨bG, oG, none⟩ = some (.int .u8 ((fsF ys).getD 0 0)) := hcG 0 hfy.1
  rw [HFY.out, HX0.out] at hg1
  simp only [stA]
  rw [show (atF (newH 0) ys).hv.length = (fsF ys).length from rfl]
  have HK21 := Hid.in (HK20.out.below hb21)
  have hFp2 : 0 < (fsF ys).length := hfy.1
  clear hS hb21 hvH hrG hcG HK20 k0 k1 k2 k3 k4 k5 k6 hfy
  have hn3 : (now != now) = false := by simp
  generalize (fsF ys).length = nG at *
  have hCp := HK21.out.copy (HOK2.out.h.more (by decide))
  go_wp2_with (go_at_call 18; refine Hid.out ?_)
  refine Lib.hid ?_
  (with_reducible refine hCp.mono ?_)
  rintro e w22 ⟨hc, lc, bc, rfl, hHc, nhc, nbc, hb22⟩
  have HK22 := Hid.in (HK21.out.below hb22)
  have HHc := Hid.in hHc
  have HNc := Hid.in (And.intro nhc nbc)
  clear hCp hHc nhc nbc hb22 HK21 hg1
  obtain ⟨s0, s1⟩ := HX0F.out w22 HK22.out.bel
  have hput2 : (0 : Nat) + ([x0] : List Int).length ≤ ys.length := by simp; omega
  have hW := (HK22.out.below (new_alloc w22 (.cells #[.int .u8 x0] 5))).write (c := 1) (a := 0) (row_one w22 x0) hput2 (by rw [HXL1.out]; omega)
  have hHc2 := HHc.out.below (new_alloc w22 (.cells #[.int .u8 x0] 5))
  rw [HPP.out] at hW
  go_wp2_with (go_at_call 26; refine Hid.out ?_)
  refine Lib.hid ?_
  refine hW.mono ?_
  rintro e w23 ⟨rfl, hk23, hkp23⟩
  have HK23 := Hid.in hk23
  have HHc3 := Hid.in (hHc2.keeps hkp23 (fun j e => .inl e) HNc.out.1 HNc.out.2)
  have hSy := hk23.sync
  clear hW hk23 hkp23 HK22 HHc hHc2 s0 s1 hput2
  go_wp2_with (go_at_call 17; refine Hid.out ?_)
  refine Lib.hid ?_
  (with_reducible refine hSy.mono ?_)
  rintro e w24 ⟨rfl, hk24, hkp24⟩
  have HK24 : Hid (HM w2 w24 (G3 h b mg) q mg h l' b 0 (newH 0) xs) := hk24
  have HHc4 := Hid.in (HHc3.out.keeps hkp24 (fun j e => .inl e) HNc.out.1 HNc.out.2)
  clear hSy hk24 hkp24 HK23 HHc3
  have hSt := HK24.out.step true .nilFunc none (by omega) HXB.out hok0 (.inl ⟨rfl, rfl⟩)
  have HOK3 := Hid.in (stpH_ok (id := 0) (hold := true) (tr := none) (newH_ok 0 (by decide)) HXB.out (fun z e => by cases e))
  rw [stale_step rfl rfl rfl rfl (by omega)] at hSt HOK3
  go_wp2_with (go_at_call 11; refine Hid.out ?_)
  refine Lib.hid ?_
  (with_reducible refine hSt.mono ?_)
  rintro e w25 ⟨vv, rfl, ho25, hk25, hkp25⟩
  obtain ⟨g25, c25, rfl, -⟩ := ho25.one8
  have HK25 : Hid (HM w2 w25 (G3 h b mg) q mg h l' b 0 (atF (newH 0) xs) xs) := hk25
  have HHc5 := Hid.in (HHc4.out.keeps hkp25 (fun j e => .inl e) HNc.out.1 HNc.out.2)
  obtain ⟨s0, s1⟩ := HX0F.out w25 HK25.out.bel
  have hfx := fsF_len xs
  clear hSt hk25 ho25 hkp25 HK24 HHc4
  have q9 := fld50_4
  go_upto_region 19 with fail
  refine wp_region_noPanic ?_
  have s0r := fun d os => cell_regrown s0 d os
  have s1r := fun d os => cell_regrown s1 d os
  have hx0l : 0 < xs.length := by omega
  refine wp_region_sink 5 [] 34 (by kernel_rfl) (by kernel_rfl) (by kernel_rfl) (by kernel_rfl) (by kernel_rfl) (fun _ _ _ _ _ h => h) ?_
  simp only [List.take_succ_cons, List.take_zero]
  iterate 5 (go_big_quiet_step (fail))
  refine wpQuiet_nil ?_
  rintro _ ⟨⟨dq, osq⟩, rfl⟩
  have HQ := Hid.in (below_regrown w25 dq osq)
  generalize Go.Sort.grow (redrawn w25 dq) osq = w27 at HQ ⊢
  refine wpAnyG_takeW (i := 9) (v := .pointer (some ⟨gp, 0, none⟩)) rfl (by kernel_rfl) (by kernel_rfl) (by kernel_rfl) (fun _ _ _ h => h) (Closed.picked (ex := []) (List.range 5) _ (by kernel_rfl) (Closed.start _)) (by kernel_rfl) (fun W => by go_simp) ?_
  refine wpAnyG_takeS (i := 10) (v := .slice (some ⟨b0, o0, none⟩) xs.length cB) rfl (by kernel_rfl) (by kernel_rfl) (by kernel_rfl) (by kernel_rfl) (fun _ _ _ _ _ h => h) ((Closed.picked (ex := []) (List.range 5) _ (by kernel_rfl) (Closed.start _)).step (j := 9) (by kernel_rfl)) (by kernel_rfl) (regrown_of_below HQ.out) (fun W hW => by obtain ⟨⟨d, os⟩, hd⟩ := hW; have hcc := s0r d os; rw [← hd] at hcc; clear hd s0r s1r; go_simp) ?_
  refine wpAnyG_takeW (i := 11) (v := .pointer (some ⟨b0, o0, none⟩)) rfl (by kernel_rfl) (by kernel_rfl) (by kernel_rfl) (fun _ _ _ h => h) (((Closed.picked (ex := []) (List.range 5) _ (by kernel_rfl) (Closed.start _)).step (j := 9) (by kernel_rfl)).step (j := 10) (by kernel_rfl)) (by kernel_rfl) (fun W => by go_simp) ?_
  refine wpAnyG_takeS (i := 12) (v := .int .u8 x0) rfl (by kernel_rfl) (by kernel_rfl) (by kernel_rfl) (by kernel_rfl) (fun _ _ _ _ _ h => h) ((((Closed.picked (ex := []) (List.range 5) _ (by kernel_rfl) (Closed.start _)).step (j := 9) (by kernel_rfl)).step (j := 10) (by kernel_rfl)).step (j := 11) (by kernel_rfl)) (by kernel_rfl) (regrown_of_below HQ.out) (fun W hW => by obtain ⟨⟨d, os⟩, hd⟩ := hW; have hcc := s1r d os; rw [← hd] at hcc; clear hd s0r s1r; go_simp) ?_
  clear s0r s1r s0 s1
  refine wpAnyG_one (i := 5) (by kernel_rfl) rfl (fun K hK => ?_)
  go_simp
  go_at_call 14
  refine ((HK25.out.below HQ.out).stateV (HOK3.out.h.more (by decide))).mono ?_
  rintro e w28 ⟨V, rfl, ⟨vSx, vHx, vLx, rfl, -, hvH, -⟩, hbx⟩
  obtain ⟨pH1, cH1, rfl, hr1, -⟩ := hvH.slice
  obtain ⟨bH1, oH1, rfl, hc1⟩ := hr1 hfx.1
  have hz1 : w28.cell? ⟨bH1, oH1, none⟩ = some (.int .u8 ((fsF xs).getD 0 0)) := hc1 0 hfx.1
  rw [HFF.out] at hz1
  simp only [stA]
  rw [show (atF (newH 0) xs).hv.length = (fsF xs).length from rfl]
  have hfx1 : 0 < (fsF xs).length := hfx.1
  replace HQ := Hid.in (below_step HQ.out hbx)
  refine hK.out _ _ (regrown_of_below HQ.out) (fun _ => ?_)
  clear hK K
  refine wpAnyG_one (i := 6) (by kernel_rfl) rfl (fun K hK => ?_)
  go_simp
  refine hK.out _ _ (regrown_of_below HQ.out) (fun _ => ?_)
  clear hK K
  refine wpAnyG_one (i := 7) (by kernel_rfl) rfl (fun K hK => ?_)
  go_simp
  refine hK.out _ _ (regrown_of_below HQ.out) (fun _ => ?_)
  clear hK K
  refine wpAnyG_one (i := 8) (by kernel_rfl) rfl (fun K hK => ?_)
  go_simp
  refine hK.out _ _ (regrown_of_below HQ.out) (fun _ => ?_)
  clear hK K
  clear hz1 hc1 hr1 hvH
  have ex1 : (x0 == x0) = true := by simp
  refine wpAnyG_one (i := 13) (by kernel_rfl) rfl (fun K hK => ?_)
  go_simp
  refine hK.out _ _ (regrown_of_below HQ.out) (fun _ => ?_)
  clear hK K
  refine wpAnyG_one (i := 14) (by kernel_rfl) rfl (fun K hK => ?_)
  go_simp
  refine hK.out _ _ (regrown_of_below HQ.out) (fun _ => ?_)
  clear hK K
  refine wpAnyG_one (i := 15) (by kernel_rfl) rfl (fun K hK => ?_)
  go_simp
  refine hK.out _ _ (regrown_of_below HQ.out) (fun _ => ?_)
  clear hK K
  refine wpAnyG_takeW (i := 21) (v := .int .u8 now) rfl (by kernel_rfl) (by kernel_rfl) (by kernel_rfl) (fun _ _ _ h => h) ((((((((((((Closed.picked (ex := []) (List.range 5) _ (by kernel_rfl) (Closed.start _)).step (j := 9) (by kernel_rfl)).step (j := 10) (by kernel_rfl)).step (j := 11) (by kernel_rfl)).step (j := 12) (by kernel_rfl)).step (j := 5) (by kernel_rfl)).step (j := 6) (by kernel_rfl)).step (j := 7) (by kernel_rfl)).step (j := 8) (by kernel_rfl)).step (j := 13) (by kernel_rfl)).step (j := 14) (by kernel_rfl)).step (j := 15) (by kernel_rfl)) (by kernel_rfl) (fun W => by go_simp) ?_
  refine wpAnyG_one (i := 16) (by kernel_rfl) rfl (fun K hK => ?_)
  go_simp
  refine hK.out _ _ (regrown_of_below HQ.out) (fun _ => ?_)
  clear hK K
  refine wpAnyG_one (i := 17) (by kernel_rfl) rfl (fun K hK => ?_)
  go_simp
  go_at_call 14
  refine (hstate_any _ hc lc bc _ 0 _ _ (HHc5.out.below HQ.out) (HOK2.out.h.more (by decide))).mono ?_
  rintro e w29 ⟨V, rfl, ⟨vSx, vHx, vLx, rfl, -, hvH, -⟩, hbx⟩
  obtain ⟨pH2, cH2, rfl, hr2, -⟩ := hvH.slice
  obtain ⟨bH2, oH2, rfl, hc2⟩ := hr2 (fsF_len ys).1
  have hz2 : w29.cell? ⟨bH2, oH2, none⟩ = some (.int .u8 ((fsF ys).getD 0 0)) := hc2 0 (fsF_len ys).1
  rw [HFY.out, HX0.out] at hz2
  simp only [stA]
  rw [show (atF (newH 0) ys).hv.length = (fsF ys).length from rfl]
  have hfy1 : 0 < (fsF ys).length := (fsF_len ys).1
  replace HQ := Hid.in (below_step HQ.out hbx)
  refine hK.out _ _ (regrown_of_below HQ.out) (fun _ => ?_)
  clear hK K
  refine wpAnyG_one (i := 18) (by kernel_rfl) rfl (fun K hK => ?_)
  go_simp
  refine hK.out _ _ (regrown_of_below HQ.out) (fun _ => ?_)
  clear hK K
  refine wpAnyG_one (i := 19) (by kernel_rfl) rfl (fun K hK => ?_)
  go_simp
  refine hK.out _ _ (regrown_of_below HQ.out) (fun _ => ?_)
  clear hK K
  refine wpAnyG_one (i := 20) (by kernel_rfl) rfl (fun K hK => ?_)
  go_simp
  refine hK.out _ _ (regrown_of_below HQ.out) (fun _ => ?_)
  clear hK K
  clear hz2 hc2 hr2 hvH
  have ex2 : (now == now) = true := by simp
  refine wpAnyG_one (i := 22) (by kernel_rfl) rfl (fun K hK => ?_)
  go_simp
  refine hK.out _ _ (regrown_of_below HQ.out) (fun _ => ?_)
  clear hK K
  refine wpAnyG_one (i := 23) (by kernel_rfl) rfl (fun K hK => ?_)
  go_simp
  refine hK.out _ _ (regrown_of_below HQ.out) (fun _ => ?_)
  clear hK K
  refine wpAnyG_one (i := 24) (by kernel_rfl) rfl (fun K hK => ?_)
  go_simp
  refine hK.out _ _ (regrown_of_below HQ.out) (fun _ => ?_)
  clear hK K
  refine wpAnyG_takeW (i := 32) (v := .int .u8 now) rfl (by kernel_rfl) (by kernel_rfl) (by kernel_rfl) (fun _ _ _ h => h) (((((((((((((((((((((Closed.picked (ex := []) (List.range 5) _ (by kernel_rfl) (Closed.start _)).step (j := 9) (by kernel_rfl)).step (j := 10) (by kernel_rfl)).step (j := 11) (by kernel_rfl)).step (j := 12) (by kernel_rfl)).step (j := 5) (by kernel_rfl)).step (j := 6) (by kernel_rfl)).step (j := 7) (by kernel_rfl)).step (j := 8) (by kernel_rfl)).step (j := 13) (by kernel_rfl)).step (j := 14) (by kernel_rfl)).step (j := 15) (by kernel_rfl)).step (j := 21) (by kernel_rfl)).step (j := 16) (by kernel_rfl)).step (j := 17) (by kernel_rfl)).step (j := 18) (by kernel_rfl)).step (j := 19) (by kernel_rfl)).step (j := 20) (by kernel_rfl)).step (j := 22) (by kernel_rfl)).step (j := 23) (by kernel_rfl)).step (j := 24) (by kernel_rfl)) (by kernel_rfl) (fun W => by go_simp) ?_
  refine wpAnyG_one (i := 25) (by kernel_rfl) rfl (fun K hK => ?_)
  go_simp
  refine hK.out _ _ (regrown_of_below HQ.out) (fun _ => ?_)
  clear hK K
  refine wpAnyG_one (i := 26) (by kernel_rfl) rfl (fun K hK => ?_)
  go_simp
  go_at_call 14
  refine (hstate_any _ hc lc bc _ 0 _ _ (HHc5.out.below HQ.out) (HOK2.out.h.more (by decide))).mono ?_
  rintro e w30 ⟨V, rfl, ⟨vSx, vHx, vLx, rfl, -, -, hvL⟩, hbx⟩
  obtain ⟨pL1, cL1, rfl, -, -, hr3⟩ := hvL.row5
  obtain ⟨bL1, oL1, rfl, hc3⟩ := hr3 (show 0 < (atF (newH 0) ys).L.length from Nat.one_pos)
  have hz3 : w30.cell? ⟨bL1, oL1 + 1, none⟩ = some (.int .u8 (ys.getD 0 0)) := hc3 0 (show 0 < (atF (newH 0) ys).L.length from Nat.one_pos) 1 (by decide)
  rw [HX0.out] at hz3
  simp only [stA]
  rw [show (atF (newH 0) ys).L.length = 1 from rfl]
  replace HQ := Hid.in (below_step HQ.out hbx)
  refine hK.out _ _ (regrown_of_below HQ.out) (fun _ => ?_)
  clear hK K
  refine wpAnyG_one (i := 27) (by kernel_rfl) rfl (fun K hK => ?_)
  go_simp
  refine hK.out _ _ (regrown_of_below HQ.out) (fun _ => ?_)
  clear hK K
  refine wpAnyG_one (i := 28) (by kernel_rfl) rfl (fun K hK => ?_)
  go_simp
  refine hK.out _ _ (regrown_of_below HQ.out) (fun _ => ?_)
  clear hK K
  refine wpAnyG_one (i := 29) (by kernel_rfl) rfl (fun K hK => ?_)
  go_simp
  refine hK.out _ _ (regrown_of_below HQ.out) (fun _ => ?_)
  clear hK K
  refine wpAnyG_one (i := 30) (by kernel_rfl) rfl (fun K hK => ?_)
  go_simp
  refine hK.out _ _ (regrown_of_below HQ.out) (fun _ => ?_)
  clear hK K
  refine wpAnyG_one (i := 31) (by kernel_rfl) rfl (fun K hK => ?_)
  go_simp
  refine hK.out _ _ (regrown_of_below HQ.out) (fun _ => ?_)
  clear hK K
  clear hz3 hc3 hr3 hvL
  refine wpAnyG_one (i := 33) (by kernel_rfl) rfl (fun K hK => ?_)
  go_simp
  refine hK.out _ _ (regrown_of_below HQ.out) (fun _ => ?_)
  clear hK K
  refine wpAnyG_one (i := 34) (by kernel_rfl) rfl (fun K hK => ?_)
  go_simp
  refine hK.out _ _ (regrown_of_below HQ.out) (fun _ => ?_)
  clear hK K
  refine wpAnyG_one (i := 35) (by kernel_rfl) rfl (fun K hK => ?_)
  go_simp
  refine hK.out _ _ (regrown_of_below HQ.out) (fun _ => ?_)
  clear hK K
  refine wpAnyG_one (i := 36) (by kernel_rfl) rfl (fun K hK => ?_)
  go_simp
  go_at_call 20
  refine (awake_any _).mono ?_
  rintro e w31 ⟨rfl, hbx⟩
  replace HQ := Hid.in (below_step HQ.out hbx)
  refine hK.out _ _ (regrown_of_below HQ.out) (fun _ => ?_)
  clear hK K hbx
  refine wpAnyG_one (i := 37) (by kernel_rfl) rfl (fun K hK => ?_)
  go_simp
  refine hK.out _ _ (regrown_of_below HQ.out) (fun _ => ?_)
  clear hK K
  refine wpAnyG_one (i := 38) (by kernel_rfl) rfl (fun K hK => ?_)
  go_simp
  refine hK.out _ _ (regrown_of_below HQ.out) (fun _ => ?_)
  clear hK K
  refine wpAnyG_done (by kernel_rfl) ?_ _
  refine NoPanic.normal ?_
  have HE := Hid.in (below_step HB2.out (below_step HK25.out.bel HQ.out))
  go_wp2_with fail
  go_ret
  exact ⟨rfl, HE.out⟩
end Go.Proofs.YtnpaijbkhmnfpaaGreat

namespace Go.Proofs.YtnpaijbkhmnfpaaGreat
open Go.ChangeShapes Go.WideShapes Go.ChangeAt Go.RowKit
open Go.ChangeMaps (open_string shut_string)

set_option maxRecDepth 100000 in
theorem hartStale_lifted (os : Os) (started : os.Started) (H : Type) (enc : TypeId × Value → H) :
    ReturnsInHanded {} Tryz.checked os 6 .any (Rows.hartStaleSpec.pre6 enc Tryz.prog Tryz.f6 Rows.hartStaleRow.domain false) (Rows.hartStaleSpec.post enc Tryz.prog Tryz.f6 false true false false) := by
  refine returnsInHanded_of_change_sized (C := Tryz.checked) Tryz.own started (by kernel_rfl) Tryz.func6
    (ChangeSpec.witness6 (enc := enc) (C := Tryz.checked) false ⟨#[], #[.slice none 0 0, .int .u8 0], []⟩ 8 (by kernel_rfl) (by kernel_rfl) (by kernel_rfl) (by kernel_rfl)) ?_
  intro W base args ds gs before hval0 hW hcnd hsz0 _
  have hW' := hW
  obtain ⟨p, q, hA0, hV, rfl, hfz, hnd⟩ := hW
  have hA : DataW.TrodAll enc Tryz.prog W 0 (fun _ => true) true Tryz.f6.params.toList args.toList ds p := hA0
  have hval : ∀ (j : Nat) t v, Tryz.f6.params[j]? = some t → args[j]? = some v → Value.okWide Tryz.prog W .any base t v := hval0
  have hsz : (DataW.weightsEach Tryz.prog (Tryz.f6.params.toList ++ Rows.hartStaleSpec.plain.varTypes Tryz.prog) (ds ++ gs)).all (· ≤ reachBytes) = true := hsz0
  rw [Tryz.params6] at hA hval hsz
  obtain ⟨v0, vs0, d0, ds0, p0, q0_, hargs, rfl, rfl, h0, r0⟩ := trodAll_cons hA
  obtain ⟨v1, vs1, d1, ds1, p1, q1_, rfl, rfl, rfl, h1, r1⟩ := trodAll_cons r0
  obtain ⟨rfl, rfl, rfl⟩ := trodAll_nil r1
  obtain rfl : args = #[v0, v1] := by cases args; simp_all
  obtain ⟨rfl, rfl⟩ := trodVars_none hV
  have k0 := h0
  have lt0 : ∀ x ∈ p0, x.block < W.heap.size := by obtain ⟨m, hm⟩ := k0; exact DataW.trod_lt m _ _ _ hm
  obtain ⟨q0, n0, e0, zs0, rfl, hl0, hn0, he0, hr0⟩ := open_ints_val (hval 0 79 v0 rfl rfl) h0 hsz (j := 0) rfl rfl
  obtain ⟨a1, rfl, rfl, rfl, w1⟩ := open_int Tryz.underlying5 (hval 1 5 v1 rfl rfl) h1
  refine (stale_walk q0 n0 e0 zs0 a1 W hl0 hn0 he0 hr0 (wf_u8 w1)).mono fun e W' ⟨he, bel⟩ => ?_
  subst he
  exact ⟨_, rfl, _, _, _, [], _, [], hW', trodAll_mk1 (shut_bool Tryz.underlying4 _), (trodAll_cons_mk (Below.trod Tryz.laidOut (by kernel_rfl) (of_decide_eq_true (by kernel_rfl)) k0 bel lt0) (trodAll_cons_mk (shut_int Tryz.underlying5 w1) trodAll_mk0)), rfl, bel.frame _, fun h => by cases h⟩

theorem hartStale_holds : Rows.HartStaleSaid :=
  OpenClaim.holds_of_wide 6 Tryz.f6 rfl rfl rfl rfl rfl rfl rfl ⟨rfl, rfl, rfl, rfl, rfl⟩ rfl rfl rfl rfl rfl (by kernel_rfl) Tryz.func6 (by kernel_rfl)
    (of_decide_eq_true (by kernel_rfl)) (by unfold Func.isWrapper; first | (rw [if_pos (by decide +kernel)]; kernel_rfl) | (rw [if_neg (by decide +kernel)]; exact ⟨rfl, rfl⟩))
    (fun os started H enc _ => hartStale_lifted os started H enc)
#print axioms hartStale_holds

end Go.Proofs.YtnpaijbkhmnfpaaGreat
