/- Texts put together: CpyI. -/
import Derived.Test.YtgblohjdiheemaaGreatKar
import Derived.Deep.RegionHeld3

/- switchyardkit.CopyImage: an image in memory of its own. -/
namespace Go.Proofs.YtgblohjdiheemaaGreat
open Go.RowKit

theorem Tryz.results10 : Tryz.f10.results = #[.cell 2 27] := rfl
theorem res7 {tmps : Array Value} {W : World} {R : Nat} {v0 v1 v2 v3 : Value} (h : Blk W R 27 #[v0, v1, v2, v3]) (h2 : tmps.getD 2 undef = .pointer (some ⟨R, 0, none⟩)) :
    (results Tryz.f10 tmps).run Tryz.prog W = .ok (.agg #[v0, v1, v2, v3]) W := by
  have hld := load_im h
  simp only [Array.getD_eq_getD_getElem?] at h2
  simp [results, asAddr, hld, h2]

set_option maxRecDepth 20000 in
set_option maxHeartbeats 2000000 in
theorem copyImage_any (m : IM) (pb pk ps pu : Option Addr) (nb cb nk ck ns cs nu cu : Nat) (w : World) (h : ImIn w m pb pk ps pu nb cb nk ck ns cs nu cu) (h1 : nb ≤ 140737488355328) (h2 : nk * 16 ≤ 140737488355328) (h3 : ns ≤ 5864062014634) (h4 : nu * 8 ≤ 140737488355328) :
    Calls Tryz.prog 10 #[.agg (imA pb pk ps pu nb cb nk ck ns cs nu cu)] w fun E w' => ∃ vb vk vs vu, E = .returned (.agg #[vb, vk, vs, vu]) ∧ ImOwn w' w.heap.size m vb vk vs vu ∧ Below w.heap.size w w' := by
  have hB := fun W (k : ImIn W m pb pk ps pu nb cb nk ck ns cs nu cu) => copy_any pb nb cb m.bs W k.lb h1 k.rb
  have hK := fun W (k : ImIn W m pb pk ps pu nb cb nk ck ns cs nu cu) => copyTexts_any pk nk ck m.ks W k.lk h2 k.rk
  have hS := fun W (k : ImIn W m pb pk ps pu nb cb nk ck ns cs nu cu) => copySites_any ps ns cs m.si W k.ls h3 k.rs
  have hU := fun W (k : ImIn W m pb pk ps pu nb cb nk ck ns cs nu cu) => copyInts_any pu nu cu m.un W k.lu h4 k.ru
  have H := Hid.in h
  clear h
  go_enter Tryz.func10, Tryz.ntmps10
  go_upto_region 1 with fail
  have HA0 : Hid (Blk ((w.alloc (.cells (imA pb pk ps pu nb cb nk ck ns cs nu cu) 27)).alloc (.cells nil4 27)) w.heap.size 27 (imA pb pk ps pu nb cb nk ck ns cs nu cu)) := (Blk.new w 27 _).grow (new_alloc _ _)
  have HB0 : Hid (Blk ((w.alloc (.cells (imA pb pk ps pu nb cb nk ck ns cs nu cu) 27)).alloc (.cells nil4 27)) (w.heap.size + 1) 27 nil4) := by
    have := Blk.new (w.alloc (.cells (imA pb pk ps pu nb cb nk ck ns cs nu cu) 27)) 27 nil4
    rw [size_one] at this
    exact this
  have HW0 : Hid (Below w.heap.size w ((w.alloc (.cells (imA pb pk ps pu nb cb nk ck ns cs nu cu) 27)).alloc (.cells nil4 27))) := below_alloc (new_alloc w _) _
  have hs0 : ((w.alloc (.cells (imA pb pk ps pu nb cb nk ck ns cs nu cu) 27)).alloc (.cells nil4 27)).heap.size = w.heap.size + 2 := by rw [size_one, size_one]
  generalize (w.alloc (.cells (imA pb pk ps pu nb cb nk ck ns cs nu cu) 27)).alloc (.cells nil4 27) = w0 at *
  have a0 : w0.cell? ⟨w.heap.size, 0, none⟩ = some (.slice pb nb cb) := HA0.out.cell 0
  have a1 : w0.cell? ⟨w.heap.size, 1, none⟩ = some (.slice pk nk ck) := HA0.out.cell 1
  have a2 : w0.cell? ⟨w.heap.size, 2, none⟩ = some (.slice ps ns cs) := HA0.out.cell 2
  have a3 : w0.cell? ⟨w.heap.size, 3, none⟩ = some (.slice pu nu cu) := HA0.out.cell 3
  have HS0 := Hid.in (Nat.le_of_eq hs0.symm)
  clear hs0
  go_region_held3 (fun W => W.cell? ⟨w.heap.size, 0, none⟩ = some (.slice pb nb cb) ∧ W.cell? ⟨w.heap.size, 1, none⟩ = some (.slice pk nk ck) ∧ W.cell? ⟨w.heap.size, 2, none⟩ = some (.slice ps ns cs) ∧ W.cell? ⟨w.heap.size, 3, none⟩ = some (.slice pu nu cu)) (first | go_keep | exact hk1 | exact hk2 | exact hk3 | exact hk4)
    (first
      | (go_at_call 38; refine (hB _ (H.out.below (below_draws HW0.out 1))).mono ?_; rintro E w1 ⟨v1, rfl, ho1, hb1⟩; obtain ⟨p1, n1, c1, rfl, -⟩ := ho1.sl; have HW1 := Hid.in (below_step (below_draws HW0.out 1) hb1); have HC1 := Hid.in (below_step (below_draws (below_self w0) 1) hb1); have HA1 := Hid.in (HA0.out.grow HC1.out); have HB1 := Hid.in (HB0.out.grow HC1.out); have HO1 : Hid (OwnV w1 (w.heap.size + 2) (.slice p1 n1 c1) m.bs) := own_lower ho1 HS0.out; have HS1 := Hid.in (Nat.le_trans HS0.out HC1.out.size); have hk1 : w1.cell? ⟨w.heap.size, 0, none⟩ = some (.slice pb nb cb) ∧ w1.cell? ⟨w.heap.size, 1, none⟩ = some (.slice pk nk ck) ∧ w1.cell? ⟨w.heap.size, 2, none⟩ = some (.slice ps ns cs) ∧ w1.cell? ⟨w.heap.size, 3, none⟩ = some (.slice pu nu cu) := ⟨HA1.out.cell 0, HA1.out.cell 1, HA1.out.cell 2, HA1.out.cell 3⟩; clear ho1 hb1)
      | (go_at_call 39; refine (hK _ (H.out.below HW1.out)).mono ?_; rintro E w2 ⟨v2, rfl, ho2, hb2⟩; obtain ⟨p2, n2, c2, rfl, -⟩ := ho2.sl; have HW2 := Hid.in (below_step HW1.out hb2); have HA2 := Hid.in (HA1.out.grow hb2); have HB2 := Hid.in (HB1.out.grow hb2); have HO2 := Hid.in (HO1.out.below hb2); have HK2 : Hid (GOwnV 9 w2 (w.heap.size + 2) (.slice p2 n2 c2) (strV m.ks)) := own_lower ho2 HS1.out; have HS2 := Hid.in (Nat.le_trans HS1.out hb2.size); have hk2 : w2.cell? ⟨w.heap.size, 0, none⟩ = some (.slice pb nb cb) ∧ w2.cell? ⟨w.heap.size, 1, none⟩ = some (.slice pk nk ck) ∧ w2.cell? ⟨w.heap.size, 2, none⟩ = some (.slice ps ns cs) ∧ w2.cell? ⟨w.heap.size, 3, none⟩ = some (.slice pu nu cu) := ⟨HA2.out.cell 0, HA2.out.cell 1, HA2.out.cell 2, HA2.out.cell 3⟩; clear ho2 hb2)
      | (go_at_call 40; refine (hS _ (H.out.below HW2.out)).mono ?_; rintro E w3 ⟨v3, rfl, ho3, hb3⟩; obtain ⟨p3, n3, c3', rfl, -⟩ := ho3.sl; have HW3 := Hid.in (below_step HW2.out hb3); have HA3 := Hid.in (HA2.out.grow hb3); have HB3 := Hid.in (HB2.out.grow hb3); have HO3 := Hid.in (HO2.out.below hb3); have HK3 := Hid.in (HK2.out.below hb3); have HV3 : Hid (TOwn 68 w3 (w.heap.size + 2) (.slice p3 n3 c3') (m.si.map siV)) := own_lower ho3 HS2.out; have HS3 := Hid.in (Nat.le_trans HS2.out hb3.size); have hk3 : w3.cell? ⟨w.heap.size, 0, none⟩ = some (.slice pb nb cb) ∧ w3.cell? ⟨w.heap.size, 1, none⟩ = some (.slice pk nk ck) ∧ w3.cell? ⟨w.heap.size, 2, none⟩ = some (.slice ps ns cs) ∧ w3.cell? ⟨w.heap.size, 3, none⟩ = some (.slice pu nu cu) := ⟨HA3.out.cell 0, HA3.out.cell 1, HA3.out.cell 2, HA3.out.cell 3⟩; clear ho3 hb3)
      | (go_at_call 41; refine (hU _ (H.out.below HW3.out)).mono ?_; rintro E w4 ⟨v4, rfl, ho4, hb4⟩; obtain ⟨p4, n4', c4, rfl, -⟩ := ho4.sl; have HW4 := Hid.in (below_step HW3.out hb4); have HA4 := Hid.in (HA3.out.grow hb4); have HB4 := Hid.in (HB3.out.grow hb4); have HI4 : Hid (ImOwn w4 (w.heap.size + 2) m (.slice p1 n1 c1) (.slice p2 n2 c2) (.slice p3 n3 c3') (.slice p4 n4' c4)) := ⟨HO3.out.below hb4, HK3.out.below hb4, HV3.out.below hb4, own_lower ho4 HS3.out⟩; have hk4 : w4.cell? ⟨w.heap.size, 0, none⟩ = some (.slice pb nb cb) ∧ w4.cell? ⟨w.heap.size, 1, none⟩ = some (.slice pk nk ck) ∧ w4.cell? ⟨w.heap.size, 2, none⟩ = some (.slice ps ns cs) ∧ w4.cell? ⟨w.heap.size, 3, none⟩ = some (.slice pu nu cu) := ⟨HA4.out.cell 0, HA4.out.cell 1, HA4.out.cell 2, HA4.out.cell 3⟩; obtain ⟨e0, e1, e2, e3⟩ := HB4.out.cells4; have z0 := HB4.out.free 0; have z1 := HB4.out.free 1; have z2 := HB4.out.free 2; have z3 := HB4.out.free 3; clear ho4 hb4))
  have HBE := Hid.in (HB4.out.set4 rfl (.slice p1 n1 c1) (.slice p2 n2 c2) (.slice p3 n3 c3') (.slice p4 n4' c4) rfl)
  have HIE := Hid.in (HI4.out.set4 (R := w.heap.size + 1) (Nat.lt_succ_self _) (.slice p1 n1 c1) (.slice p2 n2 c2) (.slice p3 n3 c3') (.slice p4 n4' c4))
  have HLE := Hid.in (below4 (R := w.heap.size + 1) (Below.refl _ w4) (.slice p1 n1 c1) (.slice p2 n2 c2) (.slice p3 n3 c3') (.slice p4 n4' c4))
  generalize ((((w4.setCell ⟨w.heap.size + 1, 0, none⟩ (.slice p1 n1 c1)).setCell ⟨w.heap.size + 1, 1, none⟩ (.slice p2 n2 c2)).setCell ⟨w.heap.size + 1, 2, none⟩ (.slice p3 n3 c3')).setCell ⟨w.heap.size + 1, 3, none⟩ (.slice p4 n4' c4)) = w5 at *
  clear e0 e1 e2 e3 z0 z1 z2 z3 hk1 hk2 hk3 hk4 a0 a1 a2 a3 hB hK hS hU
  go_wp2_with fail
  exact bodyPost_ret (v := .agg #[.slice p1 n1 c1, .slice p2 n2 c2, .slice p3 n3 c3', .slice p4 n4' c4]) (res7 HBE.out rfl) rfl ⟨_, _, _, _, rfl, HIE.out.lower (by omega), HW4.out.trans (HLE.out.mono (Nat.le_succ _))⟩
end Go.Proofs.YtgblohjdiheemaaGreat
