/- The document's rounds: Send, Drop. -/
import Derived.Test.YtibbcenfkmgbcaaRefS
namespace Go.Proofs.Ytibbcenfkmgbcaa
open Go.RowKit

set_option maxHeartbeats 400000 in
theorem rsend_bad (p pr : Option Addr) (c cr : Nat) (fs rs : List Bool) (n : Int) (w : World) (hl : fs.length ≤ 8) (hr : BRow w p fs) (hb : rs.length ≠ fs.length ∨ ovr fs = false) :
    Calls Try.prog 17 #[.agg #[.int .i64 n, .slice p fs.length c], .slice pr rs.length cr] w fun e w' => e = .returned (.tuple #[.agg #[.int .i64 n, .slice p fs.length c], .int .i64 0, .int .i64 2]) ∧ Below w.heap.size w w' := by
  have HB1 := Hid.in (below_alloc (new_alloc w (.cells #[.int .i64 n, .slice p fs.length c] 37)) (.cells #[.int .i64 0, .slice none 0 0] 37))
  have K1 := (Blk.new w 37 #[.int .i64 n, .slice p fs.length c]).grow (new_alloc _ (.cells #[.int .i64 0, .slice none 0 0] 37))
  have K2 := Blk.new (w.alloc (.cells #[.int .i64 n, .slice p fs.length c] 37)) 37 #[.int .i64 0, .slice none 0 0]
  rw [size_one] at K2
  have HR1 := Hid.in (hr.below HB1.out)
  clear hr
  by_cases hk : rs.length = fs.length
  · have ho : ovr fs = false := by
      rcases hb with hb | hb
      · exact absurd hk hb
      · exact hb
    have HK := Hid.in hk
    rw [hk]
    go_enter Try.func17, Try.ntmps17
    go_wp2_with (go_at_call 25; refine Hid.out ?_)
    refine Lib.hid ?_
    refine (rover_any p c fs n _ hl HR1.out).mono ?_
    rintro e w2 ⟨rfl, hb2⟩
    rw [ho]
    have H1 := K1.grow hb2
    have H2 := K2.grow hb2
    have HB2 := Hid.in (below_step HB1.out hb2)
    clear K1 K2 HB1 hb2 HR1 hb ho HK hk
    have c0 := H1.cell 0
    have c1 := H1.cell 1
    have d0 := H2.cell 0
    have d1 := H2.cell 1
    have f0 := H2.free 0
    have f1 := H2.free 1
    have HH2 := Hid.in H2
    clear H1 H2
    go_wp2_with fail
    have HK3 : Hid (Blk ((w2.setCell ⟨w.heap.size + 1, 0, none⟩ (.int .i64 n)).setCell ⟨w.heap.size + 1, 1, none⟩ (.slice p fs.length c)) (w.heap.size + 1) 37 #[.int .i64 n, .slice p fs.length c]) := (HH2.out.set 0 _).set 1 _
    have hg3 := (grown_setCell w2 (w.heap.size + 1) 0 (.int .i64 n)).trans (grown_setCell _ (w.heap.size + 1) 1 (.slice p fs.length c))
    have HB3 := Hid.in (below_kept HB2.out hg3 (Nat.le_succ _))
    generalize (w2.setCell ⟨w.heap.size + 1, 0, none⟩ (.int .i64 n)).setCell ⟨w.heap.size + 1, 1, none⟩ (.slice p fs.length c) = w3 at *
    have e0 := HK3.out.cell 0
    have e1 := HK3.out.cell 1
    clear hg3 HB2 HH2 c0 c1 d0 d1 f0 f1
    exact bodyPost_ret (v := .tuple #[.agg #[.int .i64 n, .slice p fs.length c], .int .i64 0, .int .i64 2]) (by simp [results, Try.results17, go_sem, e0, e1]) rfl ⟨rfl, HB3.out⟩
  · have g1 : ((rs.length : Int) != (fs.length : Int)) = true := by simp; omega
    have g2 : ¬ (rs.length : Int) = fs.length := by omega
    clear hb HR1
    generalize fs.length = m at *
    generalize rs.length = k at *
    go_enter Try.func17, Try.ntmps17
    go_upto_region 2 with fail
    generalize hw2 : (w.alloc (.cells #[.int .i64 n, .slice p m c] 37)).alloc (.cells #[.int .i64 0, .slice none 0 0] 37) = w2 at *
    clear hw2
    have c0 := K1.cell 0
    have c1 := K1.cell 1
    have d0 := K2.cell 0
    have d1 := K2.cell 1
    have f0 := K2.free 0
    have f1 := K2.free 1
    have HH2 := Hid.in K2
    clear K1 K2
    go_wp2_with fail
    have HK3 : Hid (Blk ((w2.setCell ⟨w.heap.size + 1, 0, none⟩ (.int .i64 n)).setCell ⟨w.heap.size + 1, 1, none⟩ (.slice p m c)) (w.heap.size + 1) 37 #[.int .i64 n, .slice p m c]) := (HH2.out.set 0 _).set 1 _
    have hg3 := (grown_setCell w2 (w.heap.size + 1) 0 (.int .i64 n)).trans (grown_setCell _ (w.heap.size + 1) 1 (.slice p m c))
    have HB3 := Hid.in (below_kept HB1.out hg3 (Nat.le_succ _))
    generalize (w2.setCell ⟨w.heap.size + 1, 0, none⟩ (.int .i64 n)).setCell ⟨w.heap.size + 1, 1, none⟩ (.slice p m c) = w3 at *
    have e0 := HK3.out.cell 0
    have e1 := HK3.out.cell 1
    clear hg3 HB1 HH2 c0 c1 d0 d1 f0 f1
    exact bodyPost_ret (v := .tuple #[.agg #[.int .i64 n, .slice p m c], .int .i64 0, .int .i64 2]) (by simp [results, Try.results17, go_sem, e0, e1]) rfl ⟨rfl, HB3.out⟩

set_option maxHeartbeats 800000 in
theorem rsend_ok (p pr : Option Addr) (c cr : Nat) (fs rs : List Bool) (n : Int) (w : World) (hl : fs.length ≤ 8) (hr : BRow w p fs) (hrr : BRow w pr rs) (hnil : pr = none → cr = 0) (hk : rs.length = fs.length) (ho : ovr fs = true) (hn0 : 0 ≤ n) (hn : n ≤ 1000000) :
    Calls Try.prog 17 #[.agg #[.int .i64 n, .slice p fs.length c], .slice pr rs.length cr] w fun e w' => ∃ v, e = .returned (.tuple #[.agg #[.int .i64 (n + 1), v], .int .i64 (n + 1), .int .i64 0]) ∧ GOwnV 4 w' w.heap.size v (flgs rs) ∧ Below w.heap.size w w' := by
  have HB1 := Hid.in (below_alloc (new_alloc w (.cells #[.int .i64 n, .slice p fs.length c] 37)) (.cells #[.int .i64 0, .slice none 0 0] 37))
  have K1 := (Blk.new w 37 #[.int .i64 n, .slice p fs.length c]).grow (new_alloc _ (.cells #[.int .i64 0, .slice none 0 0] 37))
  have K2 := Blk.new (w.alloc (.cells #[.int .i64 n, .slice p fs.length c] 37)) 37 #[.int .i64 0, .slice none 0 0]
  rw [size_one] at K2
  have HR1 := Hid.in (hr.below HB1.out)
  have HRR : Hid (∀ W, Below w.heap.size w W → BRow W pr rs) := fun W hW => hrr.below hW
  have HNL : Hid (pr = none → rs.length = 0 ∧ cr = 0) := fun e => by
    refine ⟨?_, hnil e⟩
    rcases Nat.eq_zero_or_pos rs.length with h | h
    · exact h
    · obtain ⟨b, o, e', _⟩ := hrr h
      rw [e] at e'; cases e'
  have hrl : rs.length ≤ 8 := by omega
  have HK := Hid.in hk
  have hov := ho
  clear hr hrr hnil
  have h25 := rover_any p c fs n _ hl HR1.out
  rw [ho] at h25
  rw [← hk] at h25 K1 K2 HB1 ⊢
  clear hk ho hov hl
  go_enter Try.func17, Try.ntmps17
  go_wp2_with (go_at_call 25; refine Hid.out ?_)
  refine Lib.hid ?_
  refine h25.mono ?_
  rintro e w2 ⟨rfl, hb2⟩
  have H1 := K1.grow hb2
  have H2 := K2.grow hb2
  have HB2 := Hid.in (below_step HB1.out hb2)
  have hsz := hb2.size
  rw [size_one, size_one] at hsz
  have HR2 := Hid.in (HRR.out w2 HB2.out)
  clear K1 K2 HB1 hb2 HR1 h25 HRR
  have HH1 := Hid.in H1
  have HH2 := Hid.in H2
  clear H1 H2
  go_wp2_with (at_builtin; refine Hid.out ?_)
  refine Lib.hid ?_
  refine wp_push_flags w2 rfl _ _ rfl w2.heap.size _ [] rfl (GOwnV.nil _ _ _) pr rs.length cr rs rfl rfl HR2.out HNL.out (by simp; omega) (Nat.le_refl _) ?_
  intro v w3 HO3 _ HB3
  have HB3' := Hid.in (HB3.out w2 (below_self w2))
  have K1 := HH1.out.grow HB3'.out
  have K2 := HH2.out.grow HB3'.out
  have HB4 := Hid.in (below_step HB2.out HB3'.out)
  have HOV : Hid (GOwnV 4 w3 w.heap.size v (flgs rs)) := HO3.out.lowerV (by omega)
  obtain ⟨pv, cv, rfl, -⟩ := HOV.out.brow
  have c0 := K1.cell 0
  have d0 := K2.cell 0
  have d1 := K2.cell 1
  have f0 := K2.free 0
  have f1 := K2.free 1
  have HH2 := Hid.in K2
  clear HH1 K1 K2 HO3 HB3 HB3' HB2 HR2 HNL
  have hwr : IntKind.i64.wrap (n + 1) = n + 1 := by rw [IntKind.wrap_i64]; omega
  go_wp2_with fail
  go_region_held3 (fun W => W.cell? ⟨w.heap.size, 0, none⟩ = some (.int .i64 n)) (first | (with_reducible exact c0) | go_keep) (fail)
  have HK3 : Hid (Blk ((w3.setCell ⟨w.heap.size + 1, 0, none⟩ (.int .i64 (n + 1))).setCell ⟨w.heap.size + 1, 1, none⟩ (.slice pv rs.length cv)) (w.heap.size + 1) 37 #[.int .i64 (n + 1), .slice pv rs.length cv]) := (HH2.out.set 0 _).set 1 _
  have hg3 := (grown_setCell w3 (w.heap.size + 1) 0 (.int .i64 (n + 1))).trans (grown_setCell _ (w.heap.size + 1) 1 (.slice pv rs.length cv))
  have HB5 := Hid.in (below_kept HB4.out hg3 (Nat.le_succ _))
  have HO5 := Hid.in (HOV.out.kept4 HH2.out (by decide) hg3)
  clear hwr hg3 HB4 HOV HH2 c0 d0 d1 f0 f1
  generalize (w3.setCell ⟨w.heap.size + 1, 0, none⟩ (.int .i64 (n + 1))).setCell ⟨w.heap.size + 1, 1, none⟩ (.slice pv rs.length cv) = w4 at *
  go_wp2_with fail
  have e0 : w4.drew.cell? ⟨w.heap.size + 1, 0, none⟩ = _ := HK3.out.cell 0
  have e1 : w4.drew.cell? ⟨w.heap.size + 1, 1, none⟩ = _ := HK3.out.cell 1
  exact bodyPost_ret (v := .tuple #[.agg #[.int .i64 (n + 1), .slice pv rs.length cv], .int .i64 (n + 1), .int .i64 0]) (by simp [results, Try.results17, go_sem, e0, e1]) rfl ⟨_, rfl, HO5.out.drewN 1, below_draws HB5.out 1⟩

set_option maxHeartbeats 400000 in
theorem rdrop_no (p : Option Addr) (c : Nat) (fs : List Bool) (n z : Int) (w : World) (hl : fs.length ≤ 8) (hr : BRow w p fs) (hp : pnd fs z = false) :
    Calls Try.prog 19 #[.agg #[.int .i64 n, .slice p fs.length c], .int .i64 z] w fun e w' => e = .returned (.tuple #[.agg #[.int .i64 n, .slice p fs.length c], .bool false]) ∧ Below w.heap.size w w' := by
  have HB1 := Hid.in (below_alloc (new_alloc w (.cells #[.int .i64 n, .slice p fs.length c] 37)) (.cells #[.int .i64 0, .slice none 0 0] 37))
  have K1 := (Blk.new w 37 #[.int .i64 n, .slice p fs.length c]).grow (new_alloc _ (.cells #[.int .i64 0, .slice none 0 0] 37))
  have K2 := Blk.new (w.alloc (.cells #[.int .i64 n, .slice p fs.length c] 37)) 37 #[.int .i64 0, .slice none 0 0]
  rw [size_one] at K2
  have h26 := rpending_any p c fs n z _ hl (hr.below HB1.out)
  rw [hp] at h26
  clear hr hp
  go_enter Try.func19, Try.ntmps19
  go_wp2_with (go_at_call 26; refine Hid.out ?_)
  refine Lib.hid ?_
  refine h26.mono ?_
  rintro e w2 ⟨rfl, hb2⟩
  have H1 := K1.grow hb2
  have H2 := K2.grow hb2
  have HB2 := Hid.in (below_step HB1.out hb2)
  clear K1 K2 HB1 hb2 h26
  have c0 := H1.cell 0
  have c1 := H1.cell 1
  have d0 := H2.cell 0
  have d1 := H2.cell 1
  have f0 := H2.free 0
  have f1 := H2.free 1
  have HH2 := Hid.in H2
  clear H1 H2
  go_wp2_with fail
  have HK3 : Hid (Blk ((w2.setCell ⟨w.heap.size + 1, 0, none⟩ (.int .i64 n)).setCell ⟨w.heap.size + 1, 1, none⟩ (.slice p fs.length c)) (w.heap.size + 1) 37 #[.int .i64 n, .slice p fs.length c]) := (HH2.out.set 0 _).set 1 _
  have hg3 := (grown_setCell w2 (w.heap.size + 1) 0 (.int .i64 n)).trans (grown_setCell _ (w.heap.size + 1) 1 (.slice p fs.length c))
  have HB3 := Hid.in (below_kept HB2.out hg3 (Nat.le_succ _))
  generalize (w2.setCell ⟨w.heap.size + 1, 0, none⟩ (.int .i64 n)).setCell ⟨w.heap.size + 1, 1, none⟩ (.slice p fs.length c) = w3 at *
  have e0 := HK3.out.cell 0
  have e1 := HK3.out.cell 1
  clear hg3 HB2 HH2 c0 c1 d0 d1 f0 f1
  exact bodyPost_ret (v := .tuple #[.agg #[.int .i64 n, .slice p fs.length c], .bool false]) (by simp [results, Try.results19, go_sem, e0, e1]) rfl ⟨rfl, HB3.out⟩

set_option maxHeartbeats 800000 in
theorem rdrop_yes (p : Option Addr) (c : Nat) (fs : List Bool) (n z : Int) (w : World) (hl : fs.length ≤ 8) (hr : BRow w p fs) (hp : pnd fs z = true) :
    Calls Try.prog 19 #[.agg #[.int .i64 n, .slice p fs.length c], .int .i64 z] w fun e w' => ∃ v, e = .returned (.tuple #[.agg #[.int .i64 n, v], .bool true]) ∧ GOwnV 4 w' w.heap.size v (flgs (drp fs z)) ∧ Below w.heap.size w w' := by
  have HB1 := Hid.in (below_alloc (new_alloc w (.cells #[.int .i64 n, .slice p fs.length c] 37)) (.cells #[.int .i64 0, .slice none 0 0] 37))
  have K1 := (Blk.new w 37 #[.int .i64 n, .slice p fs.length c]).grow (new_alloc _ (.cells #[.int .i64 0, .slice none 0 0] 37))
  have K2 := Blk.new (w.alloc (.cells #[.int .i64 n, .slice p fs.length c] 37)) 37 #[.int .i64 0, .slice none 0 0]
  rw [size_one] at K2
  have HR1 := Hid.in (hr.below HB1.out)
  have h26 := rpending_any p c fs n z _ hl HR1.out
  obtain ⟨k, rfl, hk, he⟩ := pnd_in hp
  rw [hp] at h26
  obtain ⟨b0, o0, rfl, -⟩ := hr (by omega)
  have HE : Hid (drp fs (k : Int) = fs.set k false) := by show drp fs (k : Int) = _; unfold drp; rw [if_pos (by omega)]; simp
  clear hr hp he
  go_enter Try.func19, Try.ntmps19
  go_wp2_with (go_at_call 26; refine Hid.out ?_)
  refine Lib.hid ?_
  refine h26.mono ?_
  rintro e w2 ⟨rfl, hb2⟩
  have H1 := K1.grow hb2
  have H2 := K2.grow hb2
  have HB2 := Hid.in (below_step HB1.out hb2)
  have hsz := hb2.size
  rw [size_one, size_one] at hsz
  have HR2 := Hid.in (HR1.out.below hb2)
  clear K1 K2 HB1 hb2 HR1 h26
  have c0 := H1.cell 0
  have c1 := H1.cell 1
  have HH1 := Hid.in H1
  have HH2 := Hid.in H2
  clear H1 H2
  go_wp2_with (at_builtin; refine Hid.out ?_)
  refine Lib.hid ?_
  refine wp_push_flags w2 rfl _ _ rfl w2.heap.size _ [] rfl (GOwnV.nil _ _ _) (some ⟨b0, o0, none⟩) fs.length c fs rfl rfl HR2.out (fun e => by cases e) (by simp; omega) (Nat.le_refl _) ?_
  intro v w3 HO3 _ HB3
  have HB3' := Hid.in (HB3.out w2 (below_self w2))
  have HH3 := Hid.in (HH1.out.grow HB3'.out)
  have HH4 := Hid.in (HH2.out.grow HB3'.out)
  have HB4 := Hid.in (below_step HB2.out HB3'.out)
  have hv : GOwnV 4 w3 w.heap.size v (flgs fs) := HO3.out.lowerV (by omega)
  rcases hv.shape with ⟨-, e⟩ | ⟨g, cap, rfl, ho⟩
  · exfalso
    have : (flgs fs).length = 0 := by rw [e]; rfl
    simp at this
    rw [this] at hk
    exact absurd hk (by simp)
  have HGE := Hid.in ho.base
  have hcap := ho.cap
  have hck := ho.cell k (by simpa using hk)
  rw [getD_flgs _ _ hk] at hck
  have hfk := ho.free k
  have HOS := Hid.in (ho.store k (.bool false))
  have hln : (flgs fs).length = fs.length := by simp
  rw [hln] at hcap ⊢
  have HNE3 : Hid (g ≠ w.heap.size) := ne_of_type ho HH3.out (by decide)
  have HNE4 : Hid (g ≠ w.heap.size + 1) := ne_of_type ho HH4.out (by decide)
  clear HH1 HH2 HO3 HB3 HB3' HB2 HR2 hv ho hln c0 c1
  go_upto_region 6 with fail
  have HG5 := Hid.in (grown_setCell w3 g k (.bool false))
  have HS5 : Hid (GOwnV 4 (w3.setCell ⟨g, k, none⟩ (.bool false)) w.heap.size (.slice (some ⟨g, 0, none⟩) fs.length cap) (flgs (drp fs k))) := by
    show GOwnV _ _ _ _ _
    have := HOS.out.val
    rw [← List.map_set] at this
    rw [HE.out]
    simpa using this
  have K1 := HH3.out.other (Ne.symm HNE3.out) k (.bool false)
  have K2 := HH4.out.other (Ne.symm HNE4.out) k (.bool false)
  have HB5 := Hid.in (below_kept HB4.out HG5.out HGE.out)
  clear HH3 HH4 HB4 HG5 HOS hck hfk HNE3 HNE4 hcap HE
  generalize w3.setCell ⟨g, k, none⟩ (.bool false) = w4 at *
  have c0 := K1.cell 0
  have d0 := K2.cell 0
  have d1 := K2.cell 1
  have f0 := K2.free 0
  have f1 := K2.free 1
  have HH2 := Hid.in K2
  clear K1 K2
  go_wp2_with fail
  have HK3 : Hid (Blk ((w4.setCell ⟨w.heap.size + 1, 0, none⟩ (.int .i64 n)).setCell ⟨w.heap.size + 1, 1, none⟩ (.slice (some ⟨g, 0, none⟩) fs.length cap)) (w.heap.size + 1) 37 #[.int .i64 n, .slice (some ⟨g, 0, none⟩) fs.length cap]) := (HH2.out.set 0 _).set 1 _
  have hg3 := (grown_setCell w4 (w.heap.size + 1) 0 (.int .i64 n)).trans (grown_setCell _ (w.heap.size + 1) 1 (.slice (some ⟨g, 0, none⟩) fs.length cap))
  have HB6 := Hid.in (below_kept HB5.out hg3 (Nat.le_succ _))
  have HO6 := Hid.in (HS5.out.kept4 HH2.out (by decide) hg3)
  generalize (w4.setCell ⟨w.heap.size + 1, 0, none⟩ (.int .i64 n)).setCell ⟨w.heap.size + 1, 1, none⟩ (.slice (some ⟨g, 0, none⟩) fs.length cap) = w5 at *
  have e0 := HK3.out.cell 0
  have e1 := HK3.out.cell 1
  clear hg3 HB5 HS5 HH2 c0 d0 d1 f0 f1
  exact bodyPost_ret (v := .tuple #[.agg #[.int .i64 n, .slice (some ⟨g, 0, none⟩) fs.length cap], .bool true]) (by simp [results, Try.results19, go_sem, e0, e1]) rfl ⟨_, rfl, HO6.out, HB6.out⟩

end Go.Proofs.Ytibbcenfkmgbcaa
