/- Texts put together: RefU, RWr, EvS, RfD, RfE, RfF. -/
import Derived.Test.YtekggimgobeggaaGh
import Derived.Test.YtekggimgobeggaaW7
import Derived.Lib.Hide

/- The document's rounds: Send, Drop. -/
namespace Go.Proofs.Ytekggimgobeggaa
open Go.RowKit

set_option maxHeartbeats 400000 in
theorem rsend_bad (p pr : Option Addr) (c cr : Nat) (fs rs : List Bool) (n : Int) (w : World) (hl : fs.length ≤ 8) (hr : BRow w p fs) (hb : rs.length ≠ fs.length ∨ ovr fs = false) :
    Calls Try.prog 30 #[.agg #[.int .i64 n, .slice p fs.length c], .slice pr rs.length cr] w fun e w' => e = .returned (.tuple #[.agg #[.int .i64 n, .slice p fs.length c], .int .i64 0, .int .i64 2]) ∧ Below w.heap.size w w' := by
  have HB1 := Hid.in (below_alloc (new_alloc w (.cells #[.int .i64 n, .slice p fs.length c] 64)) (.cells #[.int .i64 0, .slice none 0 0] 64))
  have K1 := (Blk.new w 64 #[.int .i64 n, .slice p fs.length c]).grow (new_alloc _ (.cells #[.int .i64 0, .slice none 0 0] 64))
  have K2 := Blk.new (w.alloc (.cells #[.int .i64 n, .slice p fs.length c] 64)) 64 #[.int .i64 0, .slice none 0 0]
  rw [size_one] at K2
  have HR1 := Hid.in (hr.below HB1.out)
  clear hr
  by_cases hk : rs.length = fs.length
  · have ho : ovr fs = false := by
      rcases hb with hb | hb
      · exact absurd hk hb
      · exact hb
    have HK := Hid.in hk
    rw [hk]
    go_enter Try.func30, Try.ntmps30
    go_wp2_with (go_at_call 63; refine Hid.out ?_)
    refine Lib.hid ?_
    refine (rover_any p c fs n _ hl HR1.out).mono ?_
    rintro e w2 ⟨rfl, hb2⟩
    rw [ho]
    have H1 := K1.grow hb2
    have H2 := K2.grow hb2
    have HB2 := Hid.in (below_step HB1.out hb2)
    clear K1 K2 HB1 hb2 HR1 hb ho HK hk
    have c0 := H1.cell 0
    have c1 := H1.cell 1
    have d0 := H2.cell 0
    have d1 := H2.cell 1
    have f0 := H2.free 0
    have f1 := H2.free 1
    have HH2 := Hid.in H2
    clear H1 H2
    go_wp2_with fail
    have HK3 : Hid (Blk ((w2.setCell ⟨w.heap.size + 1, 0, none⟩ (.int .i64 n)).setCell ⟨w.heap.size + 1, 1, none⟩ (.slice p fs.length c)) (w.heap.size + 1) 64 #[.int .i64 n, .slice p fs.length c]) := (HH2.out.set 0 _).set 1 _
    have hg3 := (grown_setCell w2 (w.heap.size + 1) 0 (.int .i64 n)).trans (grown_setCell _ (w.heap.size + 1) 1 (.slice p fs.length c))
    have HB3 := Hid.in (below_kept HB2.out hg3 (Nat.le_succ _))
    generalize (w2.setCell ⟨w.heap.size + 1, 0, none⟩ (.int .i64 n)).setCell ⟨w.heap.size + 1, 1, none⟩ (.slice p fs.length c) = w3 at *
    have e0 := HK3.out.cell 0
    have e1 := HK3.out.cell 1
    clear hg3 HB2 HH2 c0 c1 d0 d1 f0 f1
    exact bodyPost_ret (v := .tuple #[.agg #[.int .i64 n, .slice p fs.length c], .int .i64 0, .int .i64 2]) (by simp [results, Try.results30, go_sem, e0, e1]) rfl ⟨rfl, HB3.out⟩
  · have g1 : ((rs.length : Int) != (fs.length : Int)) = true := by simp; omega
    have g2 : ¬ (rs.length : Int) = fs.length := by omega
    clear hb HR1
    generalize fs.length = m at *
    generalize rs.length = k at *
    go_enter Try.func30, Try.ntmps30
    go_upto_region 2 with fail
    generalize hw2 : (w.alloc (.cells #[.int .i64 n, .slice p m c] 64)).alloc (.cells #[.int .i64 0, .slice none 0 0] 64) = w2 at *
    clear hw2
    have c0 := K1.cell 0
    have c1 := K1.cell 1
    have d0 := K2.cell 0
    have d1 := K2.cell 1
    have f0 := K2.free 0
    have f1 := K2.free 1
    have HH2 := Hid.in K2
    clear K1 K2
    go_wp2_with fail
    have HK3 : Hid (Blk ((w2.setCell ⟨w.heap.size + 1, 0, none⟩ (.int .i64 n)).setCell ⟨w.heap.size + 1, 1, none⟩ (.slice p m c)) (w.heap.size + 1) 64 #[.int .i64 n, .slice p m c]) := (HH2.out.set 0 _).set 1 _
    have hg3 := (grown_setCell w2 (w.heap.size + 1) 0 (.int .i64 n)).trans (grown_setCell _ (w.heap.size + 1) 1 (.slice p m c))
    have HB3 := Hid.in (below_kept HB1.out hg3 (Nat.le_succ _))
    generalize (w2.setCell ⟨w.heap.size + 1, 0, none⟩ (.int .i64 n)).setCell ⟨w.heap.size + 1, 1, none⟩ (.slice p m c) = w3 at *
    have e0 := HK3.out.cell 0
    have e1 := HK3.out.cell 1
    clear hg3 HB1 HH2 c0 c1 d0 d1 f0 f1
    exact bodyPost_ret (v := .tuple #[.agg #[.int .i64 n, .slice p m c], .int .i64 0, .int .i64 2]) (by simp [results, Try.results30, go_sem, e0, e1]) rfl ⟨rfl, HB3.out⟩

set_option maxHeartbeats 800000 in
theorem rsend_ok (p pr : Option Addr) (c cr : Nat) (fs rs : List Bool) (n : Int) (w : World) (hl : fs.length ≤ 8) (hr : BRow w p fs) (hrr : BRow w pr rs) (hnil : pr = none → cr = 0) (hk : rs.length = fs.length) (ho : ovr fs = true) (hn0 : 0 ≤ n) (hn : n ≤ 1000000) :
    Calls Try.prog 30 #[.agg #[.int .i64 n, .slice p fs.length c], .slice pr rs.length cr] w fun e w' => ∃ v, e = .returned (.tuple #[.agg #[.int .i64 (n + 1), v], .int .i64 (n + 1), .int .i64 0]) ∧ GOwnV 4 w' w.heap.size v (flgs rs) ∧ Below w.heap.size w w' := by
  have HB1 := Hid.in (below_alloc (new_alloc w (.cells #[.int .i64 n, .slice p fs.length c] 64)) (.cells #[.int .i64 0, .slice none 0 0] 64))
  have K1 := (Blk.new w 64 #[.int .i64 n, .slice p fs.length c]).grow (new_alloc _ (.cells #[.int .i64 0, .slice none 0 0] 64))
  have K2 := Blk.new (w.alloc (.cells #[.int .i64 n, .slice p fs.length c] 64)) 64 #[.int .i64 0, .slice none 0 0]
  rw [size_one] at K2
  have HR1 := Hid.in (hr.below HB1.out)
  have HRR : Hid (∀ W, Below w.heap.size w W → BRow W pr rs) := fun W hW => hrr.below hW
  have HNL : Hid (pr = none → rs.length = 0 ∧ cr = 0) := fun e => by
    refine ⟨?_, hnil e⟩
    rcases Nat.eq_zero_or_pos rs.length with h | h
    · exact h
    · obtain ⟨b, o, e', _⟩ := hrr h
      rw [e] at e'; cases e'
  have hrl : rs.length ≤ 8 := by omega
  have HK := Hid.in hk
  have hov := ho
  clear hr hrr hnil
  have h25 := rover_any p c fs n _ hl HR1.out
  rw [ho] at h25
  rw [← hk] at h25 K1 K2 HB1 ⊢
  clear hk ho hov hl
  go_enter Try.func30, Try.ntmps30
  go_wp2_with (go_at_call 63; refine Hid.out ?_)
  refine Lib.hid ?_
  refine h25.mono ?_
  rintro e w2 ⟨rfl, hb2⟩
  have H1 := K1.grow hb2
  have H2 := K2.grow hb2
  have HB2 := Hid.in (below_step HB1.out hb2)
  have hsz := hb2.size
  rw [size_one, size_one] at hsz
  have HR2 := Hid.in (HRR.out w2 HB2.out)
  clear K1 K2 HB1 hb2 HR1 h25 HRR
  have HH1 := Hid.in H1
  have HH2 := Hid.in H2
  clear H1 H2
  go_wp2_with (at_builtin; refine Hid.out ?_)
  refine Lib.hid ?_
  refine wp_push_flags w2 rfl _ _ rfl w2.heap.size _ [] rfl (GOwnV.nil _ _ _) pr rs.length cr rs rfl rfl HR2.out HNL.out (by simp; omega) (Nat.le_refl _) ?_
  intro v w3 HO3 _ HB3
  have HB3' := Hid.in (HB3.out w2 (below_self w2))
  have K1 := HH1.out.grow HB3'.out
  have K2 := HH2.out.grow HB3'.out
  have HB4 := Hid.in (below_step HB2.out HB3'.out)
  have HOV : Hid (GOwnV 4 w3 w.heap.size v (flgs rs)) := HO3.out.lowerV (by omega)
  obtain ⟨pv, cv, rfl, -⟩ := HOV.out.brow
  have c0 := K1.cell 0
  have d0 := K2.cell 0
  have d1 := K2.cell 1
  have f0 := K2.free 0
  have f1 := K2.free 1
  have HH2 := Hid.in K2
  clear HH1 K1 K2 HO3 HB3 HB3' HB2 HR2 HNL
  have hwr : IntKind.i64.wrap (n + 1) = n + 1 := by rw [IntKind.wrap_i64]; omega
  go_wp2_with fail
  go_region_held3 (fun W => W.cell? ⟨w.heap.size, 0, none⟩ = some (.int .i64 n)) (first | (with_reducible exact c0) | go_keep) (fail)
  have HK3 : Hid (Blk ((w3.setCell ⟨w.heap.size + 1, 0, none⟩ (.int .i64 (n + 1))).setCell ⟨w.heap.size + 1, 1, none⟩ (.slice pv rs.length cv)) (w.heap.size + 1) 64 #[.int .i64 (n + 1), .slice pv rs.length cv]) := (HH2.out.set 0 _).set 1 _
  have hg3 := (grown_setCell w3 (w.heap.size + 1) 0 (.int .i64 (n + 1))).trans (grown_setCell _ (w.heap.size + 1) 1 (.slice pv rs.length cv))
  have HB5 := Hid.in (below_kept HB4.out hg3 (Nat.le_succ _))
  have HO5 := Hid.in (HOV.out.kept4 HH2.out (by decide) hg3)
  clear hwr hg3 HB4 HOV HH2 c0 d0 d1 f0 f1
  generalize (w3.setCell ⟨w.heap.size + 1, 0, none⟩ (.int .i64 (n + 1))).setCell ⟨w.heap.size + 1, 1, none⟩ (.slice pv rs.length cv) = w4 at *
  go_wp2_with fail
  have e0 : w4.drew.cell? ⟨w.heap.size + 1, 0, none⟩ = _ := HK3.out.cell 0
  have e1 : w4.drew.cell? ⟨w.heap.size + 1, 1, none⟩ = _ := HK3.out.cell 1
  exact bodyPost_ret (v := .tuple #[.agg #[.int .i64 (n + 1), .slice pv rs.length cv], .int .i64 (n + 1), .int .i64 0]) (by simp [results, Try.results30, go_sem, e0, e1]) rfl ⟨_, rfl, HO5.out.drewN 1, below_draws HB5.out 1⟩

set_option maxHeartbeats 400000 in
theorem rdrop_no (p : Option Addr) (c : Nat) (fs : List Bool) (n z : Int) (w : World) (hl : fs.length ≤ 8) (hr : BRow w p fs) (hp : pnd fs z = false) :
    Calls Try.prog 27 #[.agg #[.int .i64 n, .slice p fs.length c], .int .i64 z] w fun e w' => e = .returned (.tuple #[.agg #[.int .i64 n, .slice p fs.length c], .bool false]) ∧ Below w.heap.size w w' := by
  have HB1 := Hid.in (below_alloc (new_alloc w (.cells #[.int .i64 n, .slice p fs.length c] 64)) (.cells #[.int .i64 0, .slice none 0 0] 64))
  have K1 := (Blk.new w 64 #[.int .i64 n, .slice p fs.length c]).grow (new_alloc _ (.cells #[.int .i64 0, .slice none 0 0] 64))
  have K2 := Blk.new (w.alloc (.cells #[.int .i64 n, .slice p fs.length c] 64)) 64 #[.int .i64 0, .slice none 0 0]
  rw [size_one] at K2
  have h26 := rpending_any p c fs n z _ hl (hr.below HB1.out)
  rw [hp] at h26
  clear hr hp
  go_enter Try.func27, Try.ntmps27
  go_wp2_with (go_at_call 69; refine Hid.out ?_)
  refine Lib.hid ?_
  refine h26.mono ?_
  rintro e w2 ⟨rfl, hb2⟩
  have H1 := K1.grow hb2
  have H2 := K2.grow hb2
  have HB2 := Hid.in (below_step HB1.out hb2)
  clear K1 K2 HB1 hb2 h26
  have c0 := H1.cell 0
  have c1 := H1.cell 1
  have d0 := H2.cell 0
  have d1 := H2.cell 1
  have f0 := H2.free 0
  have f1 := H2.free 1
  have HH2 := Hid.in H2
  clear H1 H2
  go_wp2_with fail
  have HK3 : Hid (Blk ((w2.setCell ⟨w.heap.size + 1, 0, none⟩ (.int .i64 n)).setCell ⟨w.heap.size + 1, 1, none⟩ (.slice p fs.length c)) (w.heap.size + 1) 64 #[.int .i64 n, .slice p fs.length c]) := (HH2.out.set 0 _).set 1 _
  have hg3 := (grown_setCell w2 (w.heap.size + 1) 0 (.int .i64 n)).trans (grown_setCell _ (w.heap.size + 1) 1 (.slice p fs.length c))
  have HB3 := Hid.in (below_kept HB2.out hg3 (Nat.le_succ _))
  generalize (w2.setCell ⟨w.heap.size + 1, 0, none⟩ (.int .i64 n)).setCell ⟨w.heap.size + 1, 1, none⟩ (.slice p fs.length c) = w3 at *
  have e0 := HK3.out.cell 0
  have e1 := HK3.out.cell 1
  clear hg3 HB2 HH2 c0 c1 d0 d1 f0 f1
  exact bodyPost_ret (v := .tuple #[.agg #[.int .i64 n, .slice p fs.length c], .bool false]) (by simp [results, Try.results27, go_sem, e0, e1]) rfl ⟨rfl, HB3.out⟩

set_option maxHeartbeats 800000 in
theorem rdrop_yes (p : Option Addr) (c : Nat) (fs : List Bool) (n z : Int) (w : World) (hl : fs.length ≤ 8) (hr : BRow w p fs) (hp : pnd fs z = true) :
    Calls Try.prog 27 #[.agg #[.int .i64 n, .slice p fs.length c], .int .i64 z] w fun e w' => ∃ v, e = .returned (.tuple #[.agg #[.int .i64 n, v], .bool true]) ∧ GOwnV 4 w' w.heap.size v (flgs (drp fs z)) ∧ Below w.heap.size w w' := by
  have HB1 := Hid.in (below_alloc (new_alloc w (.cells #[.int .i64 n, .slice p fs.length c] 64)) (.cells #[.int .i64 0, .slice none 0 0] 64))
  have K1 := (Blk.new w 64 #[.int .i64 n, .slice p fs.length c]).grow (new_alloc _ (.cells #[.int .i64 0, .slice none 0 0] 64))
  have K2 := Blk.new (w.alloc (.cells #[.int .i64 n, .slice p fs.length c] 64)) 64 #[.int .i64 0, .slice none 0 0]
  rw [size_one] at K2
  have HR1 := Hid.in (hr.below HB1.out)
  have h26 := rpending_any p c fs n z _ hl HR1.out
  obtain ⟨k, rfl, hk, he⟩ := pnd_in hp
  rw [hp] at h26
  obtain ⟨b0, o0, rfl, -⟩ := hr (by omega)
  have HE : Hid (drp fs (k : Int) = fs.set k false) := by show drp fs (k : Int) = _; unfold drp; rw [if_pos (by omega)]; simp
  clear hr hp he
  go_enter Try.func27, Try.ntmps27
  go_wp2_with (go_at_call 69; refine Hid.out ?_)
  refine Lib.hid ?_
  refine h26.mono ?_
  rintro e w2 ⟨rfl, hb2⟩
  have H1 := K1.grow hb2
  have H2 := K2.grow hb2
  have HB2 := Hid.in (below_step HB1.out hb2)
  have hsz := hb2.size
  rw [size_one, size_one] at hsz
  have HR2 := Hid.in (HR1.out.below hb2)
  clear K1 K2 HB1 hb2 HR1 h26
  have c0 := H1.cell 0
  have c1 := H1.cell 1
  have HH1 := Hid.in H1
  have HH2 := Hid.in H2
  clear H1 H2
  go_wp2_with (at_builtin; refine Hid.out ?_)
  refine Lib.hid ?_
  refine wp_push_flags w2 rfl _ _ rfl w2.heap.size _ [] rfl (GOwnV.nil _ _ _) (some ⟨b0, o0, none⟩) fs.length c fs rfl rfl HR2.out (fun e => by cases e) (by simp; omega) (Nat.le_refl _) ?_
  intro v w3 HO3 _ HB3
  have HB3' := Hid.in (HB3.out w2 (below_self w2))
  have HH3 := Hid.in (HH1.out.grow HB3'.out)
  have HH4 := Hid.in (HH2.out.grow HB3'.out)
  have HB4 := Hid.in (below_step HB2.out HB3'.out)
  have hv : GOwnV 4 w3 w.heap.size v (flgs fs) := HO3.out.lowerV (by omega)
  rcases hv.shape with ⟨-, e⟩ | ⟨g, cap, rfl, ho⟩
  · exfalso
    have : (flgs fs).length = 0 := by rw [e]; rfl
    simp at this
    rw [this] at hk
    exact absurd hk (by simp)
  have HGE := Hid.in ho.base
  have hcap := ho.cap
  have hck := ho.cell k (by simpa using hk)
  rw [getD_flgs _ _ hk] at hck
  have hfk := ho.free k
  have HOS := Hid.in (ho.store k (.bool false))
  have hln : (flgs fs).length = fs.length := by simp
  rw [hln] at hcap ⊢
  have HNE3 : Hid (g ≠ w.heap.size) := ne_of_type ho HH3.out (by decide)
  have HNE4 : Hid (g ≠ w.heap.size + 1) := ne_of_type ho HH4.out (by decide)
  clear HH1 HH2 HO3 HB3 HB3' HB2 HR2 hv ho hln c0 c1
  go_upto_region 6 with fail
  have HG5 := Hid.in (grown_setCell w3 g k (.bool false))
  have HS5 : Hid (GOwnV 4 (w3.setCell ⟨g, k, none⟩ (.bool false)) w.heap.size (.slice (some ⟨g, 0, none⟩) fs.length cap) (flgs (drp fs k))) := by
    show GOwnV _ _ _ _ _
    have := HOS.out.val
    rw [← List.map_set] at this
    rw [HE.out]
    simpa using this
  have K1 := HH3.out.other (Ne.symm HNE3.out) k (.bool false)
  have K2 := HH4.out.other (Ne.symm HNE4.out) k (.bool false)
  have HB5 := Hid.in (below_kept HB4.out HG5.out HGE.out)
  clear HH3 HH4 HB4 HG5 HOS hck hfk HNE3 HNE4 hcap HE
  generalize w3.setCell ⟨g, k, none⟩ (.bool false) = w4 at *
  have c0 := K1.cell 0
  have d0 := K2.cell 0
  have d1 := K2.cell 1
  have f0 := K2.free 0
  have f1 := K2.free 1
  have HH2 := Hid.in K2
  clear K1 K2
  go_wp2_with fail
  have HK3 : Hid (Blk ((w4.setCell ⟨w.heap.size + 1, 0, none⟩ (.int .i64 n)).setCell ⟨w.heap.size + 1, 1, none⟩ (.slice (some ⟨g, 0, none⟩) fs.length cap)) (w.heap.size + 1) 64 #[.int .i64 n, .slice (some ⟨g, 0, none⟩) fs.length cap]) := (HH2.out.set 0 _).set 1 _
  have hg3 := (grown_setCell w4 (w.heap.size + 1) 0 (.int .i64 n)).trans (grown_setCell _ (w.heap.size + 1) 1 (.slice (some ⟨g, 0, none⟩) fs.length cap))
  have HB6 := Hid.in (below_kept HB5.out hg3 (Nat.le_succ _))
  have HO6 := Hid.in (HS5.out.kept4 HH2.out (by decide) hg3)
  generalize (w4.setCell ⟨w.heap.size + 1, 0, none⟩ (.int .i64 n)).setCell ⟨w.heap.size + 1, 1, none⟩ (.slice (some ⟨g, 0, none⟩) fs.length cap) = w5 at *
  have e0 := HK3.out.cell 0
  have e1 := HK3.out.cell 1
  clear hg3 HB5 HS5 HH2 c0 d0 d1 f0 f1
  exact bodyPost_ret (v := .tuple #[.agg #[.int .i64 n, .slice (some ⟨g, 0, none⟩) fs.length cap], .bool true]) (by simp [results, Try.results27, go_sem, e0, e1]) rfl ⟨_, rfl, HO6.out, HB6.out⟩

end Go.Proofs.Ytekggimgobeggaa

/- Ours: switchyardref11.Write (turned from stage 11's). -/
namespace Go.Proofs.Ytekggimgobeggaa
open Go.RowKit

theorem putA_get (xs ys : List Int) (a i : Nat) (h : a + ys.length ≤ xs.length) (h1 : a ≤ i) (h2 : i - a < ys.length) : (putA xs a ys).getD i 0 = ys.getD (i - a) 0 := by
  have e : (xs.take a).length = a := by rw [List.length_take]; omega
  have e2 : (xs.take a ++ (ys ++ xs.drop (a + ys.length)))[i]? = ys[i - a]? := by
    rw [List.getElem?_append_right (by omega), e, List.getElem?_append_left h2]
  simp [putA, List.getD, e2]
theorem putA_not (xs ys : List Int) (a i : Nat) (h : a + ys.length ≤ xs.length) (hi : i < a ∨ a + ys.length ≤ i) : (putA xs a ys).getD i 0 = xs.getD i 0 := by
  have e : (xs.take a).length = a := by rw [List.length_take]; omega
  unfold putA
  rcases hi with hi | hi
  · simp [List.getD, List.getElem?_append_left (show i < (xs.take a).length by omega), hi]
  · have e2 : (xs.take a ++ (ys ++ xs.drop (a + ys.length)))[i]? = xs[i]? := by
      rw [List.getElem?_append_right (by omega), e, List.getElem?_append_right (by omega), List.getElem?_drop]
      congr 1
      omega
    simp [List.getD, e2]

/-- the first i of four bytes, noughts behind -/
def arrV (xs : List Int) (k i : Nat) : Array Value := ((List.range 4).map fun j => Value.int .u8 (if j < i then xs.getD (4 * k + j) 0 else 0)).toArray

set_option maxHeartbeats 400000 in
theorem refWrite_out (p r : Option Addr) (c l d m : Nat) (a : Int) (w : World) (hl : l ≤ 9223372036854775807) (hm : m ≤ 9223372036854775807) (ho : ¬ (0 ≤ a ∧ a ≤ (l : Int) - m)) :
    Calls Try.prog 67 #[.slice p l c, .int .i64 a, .slice r m d] w fun e w' => e = .returned (.tuple #[.slice p l c, .int .i64 210]) ∧ w' = w := by
  rcases (by omega : a < 0 ∨ (0 ≤ a ∧ l < m) ∨ (0 ≤ a ∧ m ≤ l ∧ (l : Int) - m < a)) with h1 | ⟨h1, h2⟩ | ⟨h1, h2, h3⟩
  all_goals
    go_enter Try.func67, Try.ntmps67
    go_wp2
    go_ret2
    exact ⟨rfl, rfl⟩

set_option maxHeartbeats 1000000 in
theorem refWrite_ok (p r : Option Addr) (c d a : Nat) (xs ys : List Int) (w : World) (hr : Row w p xs) (hs : Row w r ys) (hl : xs.length ≤ 65536) (hfit : a + ys.length ≤ xs.length) :
    Calls Try.prog 67 #[.slice p xs.length c, .int .i64 a, .slice r ys.length d] w fun e w' => ∃ v, e = .returned (.tuple #[v, .int .i64 0]) ∧ OwnV w' w.heap.size v (putA xs a ys) ∧ Below w.heap.size w w' := by
  obtain ⟨zs, hzs⟩ : ∃ zs, zs = putA xs a ys := ⟨_, rfl⟩
  have hzl : zs.length = xs.length := by rw [hzs]; exact putA_len hfit
  have HG : Hid (∀ i, a ≤ i → i - a < ys.length → zs.getD i 0 = ys.getD (i - a) 0) := by rw [hzs]; exact fun i h1 h2 => putA_get xs ys a i hfit h1 h2
  have HN : Hid (∀ i, i < a ∨ a + ys.length ≤ i → zs.getD i 0 = xs.getD i 0) := by rw [hzs]; exact fun i hi => putA_not xs ys a i hfit hi
  rw [← hzs]
  have HZL := Hid.in hzl
  clear hzs hzl
  have HR : Hid (∀ W, Below w.heap.size w W → Row W p xs) := fun W hW => hr.below hW
  have HS : Hid (∀ W, Below w.heap.size w W → Row W r ys) := fun W hW => hs.below hW
  clear hr hs
  have g0 : decide ((a : Int) < 0) = false := decide_eq_false (by omega)
  have g1 : decide (xs.length < ys.length) = false := decide_eq_false (by omega)
  have g2 : decide ((xs.length : Int) < (ys.length : Int)) = false := decide_eq_false (by omega)
  have g3 : decide ((xs.length : Int) - (ys.length : Int) < (a : Int)) = false := decide_eq_false (by omega)
  go_enter Try.func67, Try.ntmps67
  go_wp2
  go_loopw [8, 9] (fun v i wr => ∃ k : Nat, k ≤ xs.length ∧ i = .int .i64 k ∧ OwnV wr w.heap.size v (zs.take k) ∧ Below w.heap.size w wr) (fun _ i _ => xs.length - (intOf i).toNat)
  case atStart => exact ⟨0, Nat.zero_le _, rfl, OwnV.nil _ _, Below.refl _ _⟩
  case round =>
    obtain ⟨k, hk, rfl, hown, hbk⟩ := hrel
    by_cases hlt : k < xs.length
    · have hsz := hbk.size
      have hl2 : (zs.take k).length + 1 ≤ 140737488355328 := by rw [List.length_take]; omega
      have HT : Hid (zs.take (k + 1) = zs.take k ++ [zs.getD k 0]) := take_getD zs k (by rw [HZL.out]; exact hlt)
      by_cases hA : a ≤ k ∧ k - a < ys.length
      · obtain ⟨b0, o0, rfl, hc⟩ := HS.out wr hbk (by omega)
        have c1 := hc (k - a) hA.2
        rw [← HG.out k hA.1 hA.2] at c1
        have hwr : IntKind.i64.wrap ((k : Int) - (a : Int)) = ((k - a : Nat) : Int) := by rw [IntKind.wrap_i64]; omega
        have h1 : a ≤ k := hA.1
        have h2 : k - a < ys.length := hA.2
        clear hc hA HS HR
        generalize zs.getD k 0 = z at *
        generalize zs.take k = us at *
        go_wp2_with (at_builtin; refine wp_push _ rfl _ _ rfl w.heap.size _ us rfl (hown.alloc _) ⟨wr.heap.size, 0, none⟩ 1 1 [z] rfl rfl (cell_one_new _ _ _) hl2 (by simp; omega) ?_; intro v' w1 hown' _hgrow hbel _hnil)
        go_roundw
        case rel => exact ⟨k + 1, by omega, by go_num, by rw [HT.out]; exact hown', hbel _ (hbk.alloc hsz _)⟩
        case measure => simp [intOf]; omega
      · obtain ⟨b0, o0, rfl, hc⟩ := HR.out wr hbk (by omega)
        have c1 := hc k hlt
        rw [← HN.out k (by omega)] at c1
        clear hc HS HR
        generalize zs.getD k 0 = z at *
        generalize zs.take k = us at *
        by_cases h1 : a ≤ k
        · have hwr : IntKind.i64.wrap ((k : Int) - (a : Int)) = ((k - a : Nat) : Int) := by rw [IntKind.wrap_i64]; omega
          have h2 : ys.length ≤ k - a := by omega
          clear hA
          go_wp2_with (at_builtin; refine wp_push _ rfl _ _ rfl w.heap.size _ us rfl (hown.alloc _) ⟨wr.heap.size, 0, none⟩ 1 1 [z] rfl rfl (cell_one_new _ _ _) hl2 (by simp; omega) ?_; intro v' w1 hown' _hgrow hbel _hnil)
          go_roundw
          case rel => exact ⟨k + 1, by omega, by go_num, by rw [HT.out]; exact hown', hbel _ (hbk.alloc hsz _)⟩
          case measure => simp [intOf]; omega
        · clear hA
          go_wp2_with (at_builtin; refine wp_push _ rfl _ _ rfl w.heap.size _ us rfl (hown.alloc _) ⟨wr.heap.size, 0, none⟩ 1 1 [z] rfl rfl (cell_one_new _ _ _) hl2 (by simp; omega) ?_; intro v' w1 hown' _hgrow hbel _hnil)
          go_roundw
          case rel => exact ⟨k + 1, by omega, by go_num, by rw [HT.out]; exact hown', hbel _ (hbk.alloc hsz _)⟩
          case measure => simp [intOf]; omega
    · have HT : Hid (zs.take k = zs) := List.take_of_length_le (by rw [HZL.out]; omega)
      go_wp2
      go_ret2
      exact ⟨_, rfl, by rw [HT.out] at hown; exact hown, hbk⟩

end Go.Proofs.Ytekggimgobeggaa

/- Lists of events: SameEvents, append. -/
namespace Go.Proofs.Ytekggimgobeggaa
open Go.RowKit Go.Maps

/-- a list of events in memory, whoever made it -/
def ERow (w : World) (p : Option Addr) (L : List Ev) : Prop :=
  0 < L.length → ∃ b o, p = some ⟨b, o, none⟩ ∧ ∀ i (hi : i < L.length) j, j < 7 → w.cell? ⟨b, o + i * 7 + j, none⟩ = (l7 L[i])[j]?
theorem ERow.below {w w' : World} {p : Option Addr} {L : List Ev} (h : ERow w p L) (hb : Below w.heap.size w w') : ERow w' p L := fun h0 => by
  obtain ⟨b, o, e, h1⟩ := h h0
  refine ⟨b, o, e, fun i hi j hj => ?_⟩
  have h2 := h1 i hi j hj
  obtain ⟨u, hu⟩ : ∃ u, (l7 L[i])[j]? = some u := ⟨_, List.getElem?_eq_getElem (show j < 7 from hj)⟩
  rw [hu] at h2 ⊢
  exact (hb.cell (p := ⟨b, o + i * 7 + j, none⟩) (cell_lt h2)).trans h2
theorem ERow.seven {w : World} {p : Option Addr} {L : List Ev} (h : ERow w p L) (h0 : 0 < L.length) : ∃ b o, p = some ⟨b, o, none⟩ ∧ ∀ i (hi : i < L.length), w.cell? ⟨b, o + i * 7, none⟩ = some (.int .u8 L[i].k) ∧ w.cell? ⟨b, o + i * 7 + 1, none⟩ = some (.int .i64 0) ∧ w.cell? ⟨b, o + i * 7 + 2, none⟩ = some (.int .i64 L[i].h) ∧ w.cell? ⟨b, o + i * 7 + 3, none⟩ = some (.int .i64 L[i].p) ∧ w.cell? ⟨b, o + i * 7 + 4, none⟩ = some (.int .u8 L[i].o) ∧ w.cell? ⟨b, o + i * 7 + 5, none⟩ = some (.int .i64 0) ∧ w.cell? ⟨b, o + i * 7 + 6, none⟩ = some (.int .i64 L[i].n) := by
  obtain ⟨b, o, e, hc⟩ := h h0
  exact ⟨b, o, e, fun i hi => ⟨hc i hi 0 (by omega), hc i hi 1 (by omega), hc i hi 2 (by omega), hc i hi 3 (by omega), hc i hi 4 (by omega), hc i hi 5 (by omega), hc i hi 6 (by omega)⟩⟩
theorem EOwn.row7 {T : TypeId} {w : World} {B : Nat} {v : Value} {L : List Ev} (h : EOwn T w B v L) : ∃ p cap, v = .slice p L.length cap ∧ L.length ≤ cap ∧ cap ≤ maxLen ∧ ERow w p L := by
  obtain ⟨p, cap, e, h1, h2, h3⟩ := h.shape
  refine ⟨p, cap, e, h1, h2, fun h0 => ?_⟩
  obtain ⟨g, e2, -, -, h4⟩ := h3 h0
  exact ⟨g, 0, e2, fun i hi j hj => by rw [Nat.zero_add]; exact h4 i hi j hj⟩

set_option maxHeartbeats 2000000 in
theorem sameEvents_self (p q : Option Addr) (n c d : Nat) (L : List Ev) (w : World) (hn : L.length = n) (hn6 : n ≤ 9223372036854775807) (h1 : ERow w p L) (h2 : ERow w q L) :
    Calls Try.prog 23 #[.slice p n c, .slice q n d] w fun e w' => e = .returned (.bool true) ∧ ∃ m, w' = w.drewN m := by
  have HN := Hid.in hn
  have HR := Hid.in h1
  have HQ := Hid.in h2
  clear hn h1 h2
  have g0 : (n != n) = false := by simp
  go_enter Try.func23, Try.ntmps23
  go_wp2_with fail
  go_loopw [5] (fun vi wr => ∃ j m : Nat, vi = .int .i64 j ∧ j ≤ n ∧ wr = w.drewN m) (fun vi _ => n - (intOf vi).toNat)
  case atStart => exact ⟨0, 0, rfl, Nat.zero_le _, rfl⟩
  case round =>
    obtain ⟨j, m, rfl, hj, rfl⟩ := hrel
    by_cases hlt : j < n
    · have hjL : j < L.length := by rw [HN.out]; exact hlt
      obtain ⟨b, o, rfl, hcc⟩ := HR.out.seven (by omega)
      obtain ⟨b', o', rfl, hcd⟩ := HQ.out.seven (by omega)
      obtain ⟨c0, c1, c2, c3, c4, c5, c6⟩ := hcc j hjL
      obtain ⟨d0, d1, d2, d3, d4, d5, d6⟩ := hcd j hjL
      clear hcc hcd
      generalize L[j] = x at *
      obtain ⟨xk, xh, xp, xo, xn⟩ := x
      dsimp only at *
      have g1 : (xk == xk) = true := by simp
      have g2 : (xh == xh) = true := by simp
      have g3 : (xp == xp) = true := by simp
      have g4 : (xo == xo) = true := by simp
      have g5 : (xn == xn) = true := by simp
      go_wp2_with fail
      go_quiet (fail)
      go_wp2_with fail
      go_roundw
      case rel => exact ⟨j + 1, _, by go_num, by omega, rfl⟩
      case measure => simp [intOf]; omega
    · go_wp2_with fail
      go_ret
      exact ⟨rfl, _, rfl⟩

theorem one7_all (M : List Ev) : ∀ u ∈ c7 M, u.oneCell' = true := fun u hu => by
  unfold c7 at hu
  rw [List.mem_flatMap] at hu
  obtain ⟨q, _, hq⟩ := hu
  exact one7_mem q u hq
/-- 'append(l, more...)', where there are more -/
theorem epushL {ops : Array Oper} {rest : List Oper} {o : Oper} {a : Act} {Q : Exit → Act → World → Prop} {t T : TypeId} {by_ : Nat} (he : Elem7 t T by_) (w : World) (hgd : o.guard = none) (s x : Operand)
    (ho : o.op = .call { callee := .builtin .append, args := #[s, x], argTypes := #[t, t] }) (B : Nat) (v : Value) (L M : List Ev) (hs : a.eval s = v) (hown : EOwn T w B v L)
    (p : Option Addr) (m c : Nat) (hm : M.length = m) (hx : a.eval x = .slice p m c) (h0 : 0 < M.length) (hrow : ERow w p M)
    (hlen : L.length ≤ 1048576) (hlm : M.length ≤ 1048576) (hby : by_ ≤ 100) (hB : B ≤ w.heap.size)
    (h : ∀ g cap w', EOwn T w' B (.slice (some ⟨g, 0, none⟩) (L ++ M).length cap) (L ++ M) → w.grownBy w' v.ownBlock → (v.ownBlock = some g ∨ g = w.heap.size) → g < w'.heap.size → wpList Try.prog ops Q rest (a.put o.dst (.slice (some ⟨g, 0, none⟩) (L ++ M).length cap)) w') :
    wpList Try.prog ops Q (o :: rest) a w := by
  subst hm
  obtain ⟨hu, z, hzc, hinfo⟩ := he
  obtain ⟨i0, hi, hz0, hz1, hz2⟩ := info_parts hinfo
  obtain ⟨b, o', rfl, hc⟩ := hrow h0
  have hnews : ∀ j u, (c7 M)[j]? = some u → w.cell? ((⟨b, o', none⟩ : Addr).add j) = some u := fun j u hj => by
    have hjl : j < M.length * 7 := by rw [← c7_len]; exact (List.getElem?_eq_some_iff.1 hj).1
    rw [Go.WideShapes.add_plain]
    have h1 := hc (j / 7) (by omega) (j % 7) (Nat.mod_lt _ (by decide))
    have h2 := c7_at M (j / 7) (by omega) (j % 7) (Nat.mod_lt _ (by decide))
    rw [show j / 7 * 7 + j % 7 = j by omega] at h2
    rw [show o' + j / 7 * 7 + j % 7 = o' + j by omega] at h1
    rw [← h2, hj] at h1
    exact h1
  refine wpList_append_lies w hgd s x t ho B T i0 z 7 by_ hu hi hz0 hz1 hz2 hzc (by decide) v L.length (c7 L) hs hown ⟨b, o', none⟩ M.length c (c7 M) hx (c7_len M) hnews (one7_all M) h0 (by unfold maxLen; omega) (Nat.le_trans (Nat.mul_le_mul (show L.length + M.length ≤ 2097152 by omega) hby) (by decide)) hB w.heap.size rfl ?_
  intro g cap w' h2 h3 h4 h5
  have := h g cap w' (by unfold EOwn; rw [List.length_append, c7_two]; exact h2) h3 h4 h5
  rwa [List.length_append] at this

end Go.Proofs.Ytekggimgobeggaa

/- The document's patcher: Step. -/
namespace Go.Proofs.Ytekggimgobeggaa
open Go.RowKit Go.Sort

/-- what a step answers -/
structure RA where
  s : RD
  ev : List Ev
  back : Bool
  e : Int
def RD.step (r : RD) : RD := { r with ct := { r.ct with st := r.ct.st + 1 } }
def stpR (r : RD) (rs : List Bool) : RA :=
  if r.ph = 0 then ⟨r, [], false, 0⟩
  else if r.ph = 5 then
    if ovr r.fs = true then ⟨{ r with dn := 0, ph := nxP r.sent }.step, [], false, 0⟩ else ⟨{ r with ct := { r.ct with wa := r.ct.wa + 1 } }, [], false, 0⟩
  else if r.ph = 1 then ⟨(gatR r).1.step, [], (gatR r).2, 0⟩
  else if r.ph = 6 then ⟨(clrR r).step, [], decide (r.lf.length = 0), 0⟩
  else if r.dn = r.bt.length then
    if rs.length = r.fs.length ∧ ovr r.fs = true then ⟨{ r with n := r.n + 1, fs := rs, sent := r.ph, ph := 5, ct := { r.ct with ro := r.ct.ro + 1, st := r.ct.st + 1 } }, [⟨11, 0, 0, 0, r.n + 1⟩], false, 0⟩
    else ⟨r, [], false, 2⟩
  else ⟨{ r with xs := putA r.xs (pieceR r.ph r.up (r.bt.getD r.dn ⟨0, 0, 0⟩)).1.toNat (pieceR r.ph r.up (r.bt.getD r.dn ⟨0, 0, 0⟩)).2, dn := r.dn + 1, ct := { r.ct with wr := r.ct.wr + 1, st := r.ct.st + 1 } }, [⟨10, 0, (pieceR r.ph r.up (r.bt.getD r.dn ⟨0, 0, 0⟩)).1, 0, (pieceR r.ph r.up (r.bt.getD r.dn ⟨0, 0, 0⟩)).2.length⟩], false, 0⟩
def RsIs (w : World) (mg : Nat) (a : RA) : Ending → World → Prop := fun e w' => ∃ q v, e = .returned (.tuple #[.agg (a.s.val q), v, .bool a.back, .int .i64 a.e]) ∧ RM w' mg a.s q ∧ EOwn 43 w' w.heap.size v a.ev ∧ Below w.heap.size w w'
theorem rsIs_of {w w' : World} {mg : Nat} {a : RA} {q : RP} {A : Array Value} {v : Value} {b : Bool} {e : Int} (hA : A = a.s.val q) (hb : b = a.back) (he : e = a.e) (hM : RM w' mg a.s q) (hv : EOwn 43 w' w.heap.size v a.ev) (hB : Below w.heap.size w w') : RsIs w mg a (.returned (.tuple #[.agg A, v, .bool b, .int .i64 e])) w' :=
  ⟨q, v, by rw [hA, hb, he], hM, hv, hB⟩
theorem GOwnV.rowF {w : World} {B : Nat} {v : Value} {fs : List Bool} (h : GOwnV 4 w B v (flgs fs)) : ∃ p c, v = .slice p fs.length c ∧ fs.length ≤ c ∧ RowF w p fs := by
  have hrow := h.brow
  rcases h.2 with h2 | ⟨g, cap, cur, h1, h2, h3, h4⟩
  · obtain ⟨p, c, e, -⟩ := hrow
    have h0 : (flgs fs).length = 0 := by
      have := h2.2
      simpa using this
    have : fs = [] := by simpa [flgs] using h0
    subst this
    exact ⟨p, c, e, Nat.zero_le _, fun h => absurd h (by simp)⟩
  · obtain ⟨p, c, e, hb⟩ := hrow
    rw [e] at h1
    injection h1 with h1 _ h5
    refine ⟨p, c, e, ?_, fun h0 => ?_⟩
    · have := h4.1
      simp [flgs] at this
      omega
    · obtain ⟨b, o, ep, hc⟩ := hb h0
      have hb4 : Blk w g 4 cur := h3
      rw [h1] at ep
      injection ep with ep
      injection ep with e1 e2
      subst e1
      subst e2
      exact ⟨_, _, cur, h1, hb4, hc⟩
theorem res22 {tmps : Array Value} {W : World} {r4 : Nat} {a : Array Value} {v : Value} {t : Bool} {z : Int} (h4 : Blk W r4 66 a) (e4 : tmps.getD 4 undef = .pointer (some ⟨r4, 0, none⟩)) (e5 : tmps.getD 5 undef = v) (e6 : tmps.getD 6 undef = .bool t) (e7 : tmps.getD 7 undef = .int .i64 z) (sa : a.size = 14 := by rfl) :
    (results Try.f22 tmps).run Try.prog W = .ok (.tuple #[.agg a, v, .bool t, .int .i64 z]) W := by
  have l4 := run_loadVar_mid (P := Try.prog) W r4 0 66 a.toList _ h4.range Try.underlying66 rfl (by rw [Array.length_toList, sa]; kernel_rfl)
  simp only [Array.getD_eq_getD_getElem?] at e4 e5 e6 e7
  simp [results, asAddr, l4, e4, e5, e6, e7]
set_option maxRecDepth 20000 in
set_option maxHeartbeats 2000000 in
theorem rstep_0 (xs : List Int) (n : Int) (fs : List Bool) (sent : Nat) (bt lf : List Si) (dn : Nat) (up : Bool) (ct : Ct) (q : RP) (pr : Option Addr) (cr : Nat) (rs : List Bool) (mg : Nat) (w : World) (hM : RM w mg (RD.mk xs n fs 0 sent bt lf dn up ct) q) :
    Calls Try.prog 22 #[.agg ((RD.mk xs n fs 0 sent bt lf dn up ct).val q), .slice pr rs.length cr] w (RsIs w mg ⟨RD.mk xs n fs 0 sent bt lf dn up ct, [], false, 0⟩) := by
  have HR : Hid (∀ w', Below w.heap.size w w' → RsIs w mg ⟨RD.mk xs n fs 0 sent bt lf dn up ct, [], false, 0⟩ (.returned (.tuple #[.agg ((RD.mk xs n fs 0 sent bt lf dn up ct).val q), .slice none 0 0, .bool false, .int .i64 0])) w') := fun w' hb => rsIs_of rfl rfl rfl (hM.below hb) (EOwn.nil _ _ _) hb
  clear hM
  obtain ⟨bp, bc, fp, fc, tp, tc, lp, lc⟩ := q
  generalize RsIs w mg ⟨RD.mk xs n fs 0 sent bt lf dn up ct, [], false, 0⟩ = R at *
  go_enter Try.func22, Try.ntmps22
  go_upto_region 1 with fail
  obtain ⟨w0, hw0⟩ : ∃ w0, w0 = (w.alloc (.cells ((RD.mk xs n fs 0 sent bt lf dn up ct).val ⟨bp, bc, fp, fc, tp, tc, lp, lc⟩) 66)).alloc (.cells stZ 66) := ⟨_, rfl⟩
  rw [← hw0]
  have HB1 : Hid (Blk w0 w.heap.size 66 ((RD.mk xs n fs 0 sent bt lf dn up ct).val ⟨bp, bc, fp, fc, tp, tc, lp, lc⟩)) := by rw [hw0]; exact (Blk.new _ _ _).grow (new_alloc _ _)
  have HB2 : Hid (Blk w0 (w.heap.size + 1) 66 stZ) := by rw [hw0]; exact blk_second _ _ _ _ _
  have HL0 : Hid (Below w.heap.size w w0) := by rw [hw0]; exact below_alloc (new_alloc _ _) _
  clear hw0
  have c3 : w0.cell? ⟨w.heap.size, 3, none⟩ = some (.int .u8 0) := HB1.out.cell 3
  go_upto_region 2 with fail
  go_wp2_with (first | (refine step_load_blk HB1.out rfl 66 _ rfl rfl _ (List.prefix_refl _) _ Try.underlying66 rfl (by kernel_rfl) ?_) | (refine step_store_blk HB2.out rfl 66 _ _ rfl rfl rfl _ rfl (by kernel_rfl) rfl (by kernel_rfl) ?_; intro w9 hb9 hk9; refine Hid.out ?_))
  refine Lib.hid ?_
  have HA9 := Hid.in hb9
  have HL9 := Hid.in (HL0.out.trans (below_grown hk9 (Nat.le_succ _) HL0.out.size))
  have HK9 := Hid.in hk9
  clear hb9 hk9
  go_wp2_with fail
  exact bodyPost_ret (res22 HA9.out rfl rfl rfl rfl) rfl (HR.out _ HL9.out)
set_option maxRecDepth 20000 in
set_option maxHeartbeats 2000000 in
theorem rstep_5n (xs : List Int) (n : Int) (fs : List Bool) (sent : Nat) (bt lf : List Si) (dn : Nat) (up : Bool) (ct : Ct) (q : RP) (pr : Option Addr) (cr : Nat) (rs : List Bool) (mg : Nat) (w : World) (hM : RM w mg (RD.mk xs n fs 5 sent bt lf dn up ct) q) (hf8 : fs.length ≤ 8) (hov : ovr fs = false) (hw0 : 0 ≤ ct.wa) (hw1 : ct.wa ≤ 1000000) :
    Calls Try.prog 22 #[.agg ((RD.mk xs n fs 5 sent bt lf dn up ct).val q), .slice pr rs.length cr] w (RsIs w mg ⟨RD.mk xs n fs 5 sent bt lf dn up { ct with wa := ct.wa + 1 }, [], false, 0⟩) := by
  have HR : Hid (∀ w', Below w.heap.size w w' → RsIs w mg ⟨RD.mk xs n fs 5 sent bt lf dn up { ct with wa := ct.wa + 1 }, [], false, 0⟩ (.returned (.tuple #[.agg ((RD.mk xs n fs 5 sent bt lf dn up { ct with wa := ct.wa + 1 }).val q), .slice none 0 0, .bool false, .int .i64 0])) w') := fun w' hb => rsIs_of rfl rfl rfl ⟨hM.xs.below hb, hM.fs.below hb, hM.bt.below hb, hM.lf.below hb, hM.hb, hM.hf, hM.ht, hM.tn, hM.hl⟩ (EOwn.nil _ _ _) hb
  have HF := Hid.in hM.fs
  clear hM
  obtain ⟨bp, bc, fp, fc, tp, tc, lp, lc⟩ := q
  obtain ⟨csi, cwr, cro, cst, cwa⟩ := ct
  simp only at hw0 hw1 HR HF
  generalize RsIs w mg ⟨RD.mk xs n fs 5 sent bt lf dn up ⟨csi, cwr, cro, cst, cwa + 1⟩, [], false, 0⟩ = R at *
  go_enter Try.func22, Try.ntmps22
  go_upto_region 1 with fail
  obtain ⟨w0, hw0⟩ : ∃ w0, w0 = (w.alloc (.cells ((RD.mk xs n fs 5 sent bt lf dn up ⟨csi, cwr, cro, cst, cwa⟩).val ⟨bp, bc, fp, fc, tp, tc, lp, lc⟩) 66)).alloc (.cells stZ 66) := ⟨_, rfl⟩
  rw [← hw0]
  have HB1 : Hid (Blk w0 w.heap.size 66 ((RD.mk xs n fs 5 sent bt lf dn up ⟨csi, cwr, cro, cst, cwa⟩).val ⟨bp, bc, fp, fc, tp, tc, lp, lc⟩)) := by rw [hw0]; exact (Blk.new _ _ _).grow (new_alloc _ _)
  have HB2 : Hid (Blk w0 (w.heap.size + 1) 66 stZ) := by rw [hw0]; exact blk_second _ _ _ _ _
  have HL0 : Hid (Below w.heap.size w w0) := by rw [hw0]; exact below_alloc (new_alloc _ _) _
  clear hw0
  have c1 : w0.cell? ⟨w.heap.size, 1, none⟩ = some (.int .i64 n) := HB1.out.cell 1
  have c2 : w0.cell? ⟨w.heap.size, 2, none⟩ = some (.slice fp fs.length fc) := HB1.out.cell 2
  have c3 : w0.cell? ⟨w.heap.size, 3, none⟩ = some (.int .u8 5) := HB1.out.cell 3
  go_wp2_with (go_at_call 63; refine Hid.out ?_)
  refine Lib.hid ?_
  refine (rover_any fp fc fs n w0 hf8 (HF.out.below HL0.out).row).mono ?_
  rintro e w1 ⟨rfl, hb⟩
  rw [hov]
  have HA1 := Hid.in (HB1.out.grow hb)
  have HA2 := Hid.in (HB2.out.grow hb)
  have HL1 := Hid.in (below_step HL0.out hb)
  clear hb HB1 HB2 HL0 c1 c2 c3 HF
  have d13 : w1.cell? ⟨w.heap.size, 13, none⟩ = some (.int .i64 cwa) := HA1.out.cell 13
  have f13 := HA1.out.free 13
  go_upto_region 5 with fail
  obtain ⟨w2, hw2⟩ : ∃ w2, w2 = w1.setCell ⟨w.heap.size, 13, none⟩ (.int .i64 (cwa + 1)) := ⟨_, rfl⟩
  rw [← hw2]
  have HC1 : Hid (Blk w2 w.heap.size 66 ((RD.mk xs n fs 5 sent bt lf dn up ⟨csi, cwr, cro, cst, cwa + 1⟩).val ⟨bp, bc, fp, fc, tp, tc, lp, lc⟩)) := by rw [hw2]; exact HA1.out.set 13 _
  have HC2 : Hid (Blk w2 (w.heap.size + 1) 66 stZ) := by rw [hw2]; exact (HA2.out.other (by omega) _ _)
  have HL2 : Hid (Below w.heap.size w w2) := by rw [hw2]; exact (below_two HL1.out _ _)
  clear hw2 HA1 HA2 HL1 d13 f13
  go_wp2_with (first | (refine step_load_blk HC1.out rfl 66 _ rfl rfl _ (List.prefix_refl _) _ Try.underlying66 rfl (by kernel_rfl) ?_) | (refine step_store_blk HC2.out rfl 66 _ _ rfl rfl rfl _ rfl (by kernel_rfl) rfl (by kernel_rfl) ?_; intro w9 hb9 hk9; refine Hid.out ?_))
  refine Lib.hid ?_
  have HA9 := Hid.in hb9
  have HL9 := Hid.in (HL2.out.trans (below_grown hk9 (Nat.le_succ _) HL2.out.size))
  have HK9 := Hid.in hk9
  clear hb9 hk9
  go_wp2_with fail
  exact bodyPost_ret (res22 HA9.out rfl rfl rfl rfl) rfl (HR.out _ HL9.out)
set_option maxRecDepth 20000 in
set_option maxHeartbeats 2000000 in
theorem rstep_5y2 (xs : List Int) (n : Int) (fs : List Bool) (bt lf : List Si) (dn : Nat) (up : Bool) (ct : Ct) (q : RP) (pr : Option Addr) (cr : Nat) (rs : List Bool) (mg : Nat) (w : World) (hM : RM w mg (RD.mk xs n fs 5 2 bt lf dn up ct) q) (hf8 : fs.length ≤ 8) (hov : ovr fs = true) (hs0 : 0 ≤ ct.st) (hs1 : ct.st ≤ 1000000) :
    Calls Try.prog 22 #[.agg ((RD.mk xs n fs 5 2 bt lf dn up ct).val q), .slice pr rs.length cr] w (RsIs w mg ⟨RD.mk xs n fs 3 2 bt lf 0 up { ct with st := ct.st + 1 }, [], false, 0⟩) := by
  have HF := Hid.in hM.fs
  have HM := Hid.in hM
  clear hM
  obtain ⟨bp, bc, fp, fc, tp, tc, lp, lc⟩ := q
  obtain ⟨csi, cwr, cro, cst, cwa⟩ := ct
  simp only at hs0 hs1 HF
  have HR : Hid (∀ w', Below w.heap.size w w' → RsIs w mg ⟨RD.mk xs n fs 3 2 bt lf 0 up ⟨csi, cwr, cro, cst + 1, cwa⟩, [], false, 0⟩ (.returned (.tuple #[.agg ((RD.mk xs n fs 3 2 bt lf 0 up ⟨csi, cwr, cro, cst + 1, cwa⟩).val ⟨bp, bc, fp, fc, tp, tc, lp, lc⟩), .slice none 0 0, .bool false, .int .i64 0])) w') := fun w' hb => rsIs_of rfl rfl rfl ⟨HM.out.xs.below hb, HM.out.fs.below hb, HM.out.bt.below hb, HM.out.lf.below hb, HM.out.hb, HM.out.hf, HM.out.ht, HM.out.tn, HM.out.hl⟩ (EOwn.nil _ _ _) hb
  clear HM
  generalize RsIs w mg ⟨RD.mk xs n fs 3 2 bt lf 0 up ⟨csi, cwr, cro, cst + 1, cwa⟩, [], false, 0⟩ = R at *
  go_enter Try.func22, Try.ntmps22
  go_upto_region 1 with fail
  obtain ⟨w0, hw0⟩ : ∃ w0, w0 = (w.alloc (.cells ((RD.mk xs n fs 5 2 bt lf dn up ⟨csi, cwr, cro, cst, cwa⟩).val ⟨bp, bc, fp, fc, tp, tc, lp, lc⟩) 66)).alloc (.cells stZ 66) := ⟨_, rfl⟩
  rw [← hw0]
  have HB1 : Hid (Blk w0 w.heap.size 66 ((RD.mk xs n fs 5 2 bt lf dn up ⟨csi, cwr, cro, cst, cwa⟩).val ⟨bp, bc, fp, fc, tp, tc, lp, lc⟩)) := by rw [hw0]; exact (Blk.new _ _ _).grow (new_alloc _ _)
  have HB2 : Hid (Blk w0 (w.heap.size + 1) 66 stZ) := by rw [hw0]; exact blk_second _ _ _ _ _
  have HL0 : Hid (Below w.heap.size w w0) := by rw [hw0]; exact below_alloc (new_alloc _ _) _
  clear hw0
  have c1 : w0.cell? ⟨w.heap.size, 1, none⟩ = some (.int .i64 n) := HB1.out.cell 1
  have c2 : w0.cell? ⟨w.heap.size, 2, none⟩ = some (.slice fp fs.length fc) := HB1.out.cell 2
  have c3 : w0.cell? ⟨w.heap.size, 3, none⟩ = some (.int .u8 5) := HB1.out.cell 3
  go_wp2_with (go_at_call 63; refine Hid.out ?_)
  refine Lib.hid ?_
  refine (rover_any fp fc fs n w0 hf8 (HF.out.below HL0.out).row).mono ?_
  rintro e w1 ⟨rfl, hb⟩
  rw [hov]
  have HA1 := Hid.in (HB1.out.grow hb)
  have HA2 := Hid.in (HB2.out.grow hb)
  have HL1 := Hid.in (below_step HL0.out hb)
  clear hb HB1 HB2 HL0 c1 c2 c3 HF
  have d3 : w1.cell? ⟨w.heap.size, 3, none⟩ = some (.int .u8 5) := HA1.out.cell 3
  have d4 : w1.cell? ⟨w.heap.size, 4, none⟩ = some (.int .u8 2) := HA1.out.cell 4
  have d7 : w1.cell? ⟨w.heap.size, 7, none⟩ = some (.int .i64 dn) := HA1.out.cell 7
  have d12 : w1.cell? ⟨w.heap.size, 12, none⟩ = some (.int .i64 cst) := HA1.out.cell 12
  have f3 := HA1.out.free 3
  have f7 := HA1.out.free 7
  have f12 := HA1.out.free 12
  go_upto_region 36 with fail
  obtain ⟨w2, hw2⟩ : ∃ w2, w2 = ((w1.setCell ⟨w.heap.size, 7, none⟩ (.int .i64 0)).setCell ⟨w.heap.size, 3, none⟩ (.int .u8 3)).setCell ⟨w.heap.size, 12, none⟩ (.int .i64 (cst + 1)) := ⟨_, rfl⟩
  rw [← hw2]
  have HC1 : Hid (Blk w2 w.heap.size 66 ((RD.mk xs n fs 3 2 bt lf 0 up ⟨csi, cwr, cro, cst + 1, cwa⟩).val ⟨bp, bc, fp, fc, tp, tc, lp, lc⟩)) := by rw [hw2]; exact ((HA1.out.set 7 _).set 3 _).set 12 _
  have HC2 : Hid (Blk w2 (w.heap.size + 1) 66 stZ) := by rw [hw2]; exact (((HA2.out.other (by omega) _ _).other (by omega) _ _).other (by omega) _ _)
  have HL2 : Hid (Below w.heap.size w w2) := by rw [hw2]; exact (below_two (below_two (below_two HL1.out _ _) _ _) _ _)
  clear hw2 HA1 HA2 HL1 d3 d4 d7 d12 f3 f7 f12
  go_wp2_with (first | (refine step_load_blk HC1.out rfl 66 _ rfl rfl _ (List.prefix_refl _) _ Try.underlying66 rfl (by kernel_rfl) ?_) | (refine step_store_blk HC2.out rfl 66 _ _ rfl rfl rfl _ rfl (by kernel_rfl) rfl (by kernel_rfl) ?_; intro w9 hb9 hk9; refine Hid.out ?_))
  refine Lib.hid ?_
  have HA9 := Hid.in hb9
  have HL9 := Hid.in (HL2.out.trans (below_grown hk9 (Nat.le_succ _) HL2.out.size))
  have HK9 := Hid.in hk9
  clear hb9 hk9
  go_wp2_with fail
  exact bodyPost_ret (res22 HA9.out rfl rfl rfl rfl) rfl (HR.out _ HL9.out)
set_option maxRecDepth 20000 in
set_option maxHeartbeats 2000000 in
theorem rstep_5y3 (xs : List Int) (n : Int) (fs : List Bool) (bt lf : List Si) (dn : Nat) (up : Bool) (ct : Ct) (q : RP) (pr : Option Addr) (cr : Nat) (rs : List Bool) (mg : Nat) (w : World) (hM : RM w mg (RD.mk xs n fs 5 3 bt lf dn up ct) q) (hf8 : fs.length ≤ 8) (hov : ovr fs = true) (hs0 : 0 ≤ ct.st) (hs1 : ct.st ≤ 1000000) :
    Calls Try.prog 22 #[.agg ((RD.mk xs n fs 5 3 bt lf dn up ct).val q), .slice pr rs.length cr] w (RsIs w mg ⟨RD.mk xs n fs 4 3 bt lf 0 up { ct with st := ct.st + 1 }, [], false, 0⟩) := by
  have HF := Hid.in hM.fs
  have HM := Hid.in hM
  clear hM
  obtain ⟨bp, bc, fp, fc, tp, tc, lp, lc⟩ := q
  obtain ⟨csi, cwr, cro, cst, cwa⟩ := ct
  simp only at hs0 hs1 HF
  have HR : Hid (∀ w', Below w.heap.size w w' → RsIs w mg ⟨RD.mk xs n fs 4 3 bt lf 0 up ⟨csi, cwr, cro, cst + 1, cwa⟩, [], false, 0⟩ (.returned (.tuple #[.agg ((RD.mk xs n fs 4 3 bt lf 0 up ⟨csi, cwr, cro, cst + 1, cwa⟩).val ⟨bp, bc, fp, fc, tp, tc, lp, lc⟩), .slice none 0 0, .bool false, .int .i64 0])) w') := fun w' hb => rsIs_of rfl rfl rfl ⟨HM.out.xs.below hb, HM.out.fs.below hb, HM.out.bt.below hb, HM.out.lf.below hb, HM.out.hb, HM.out.hf, HM.out.ht, HM.out.tn, HM.out.hl⟩ (EOwn.nil _ _ _) hb
  clear HM
  generalize RsIs w mg ⟨RD.mk xs n fs 4 3 bt lf 0 up ⟨csi, cwr, cro, cst + 1, cwa⟩, [], false, 0⟩ = R at *
  go_enter Try.func22, Try.ntmps22
  go_upto_region 1 with fail
  obtain ⟨w0, hw0⟩ : ∃ w0, w0 = (w.alloc (.cells ((RD.mk xs n fs 5 3 bt lf dn up ⟨csi, cwr, cro, cst, cwa⟩).val ⟨bp, bc, fp, fc, tp, tc, lp, lc⟩) 66)).alloc (.cells stZ 66) := ⟨_, rfl⟩
  rw [← hw0]
  have HB1 : Hid (Blk w0 w.heap.size 66 ((RD.mk xs n fs 5 3 bt lf dn up ⟨csi, cwr, cro, cst, cwa⟩).val ⟨bp, bc, fp, fc, tp, tc, lp, lc⟩)) := by rw [hw0]; exact (Blk.new _ _ _).grow (new_alloc _ _)
  have HB2 : Hid (Blk w0 (w.heap.size + 1) 66 stZ) := by rw [hw0]; exact blk_second _ _ _ _ _
  have HL0 : Hid (Below w.heap.size w w0) := by rw [hw0]; exact below_alloc (new_alloc _ _) _
  clear hw0
  have c1 : w0.cell? ⟨w.heap.size, 1, none⟩ = some (.int .i64 n) := HB1.out.cell 1
  have c2 : w0.cell? ⟨w.heap.size, 2, none⟩ = some (.slice fp fs.length fc) := HB1.out.cell 2
  have c3 : w0.cell? ⟨w.heap.size, 3, none⟩ = some (.int .u8 5) := HB1.out.cell 3
  go_wp2_with (go_at_call 63; refine Hid.out ?_)
  refine Lib.hid ?_
  refine (rover_any fp fc fs n w0 hf8 (HF.out.below HL0.out).row).mono ?_
  rintro e w1 ⟨rfl, hb⟩
  rw [hov]
  have HA1 := Hid.in (HB1.out.grow hb)
  have HA2 := Hid.in (HB2.out.grow hb)
  have HL1 := Hid.in (below_step HL0.out hb)
  clear hb HB1 HB2 HL0 c1 c2 c3 HF
  have d3 : w1.cell? ⟨w.heap.size, 3, none⟩ = some (.int .u8 5) := HA1.out.cell 3
  have d4 : w1.cell? ⟨w.heap.size, 4, none⟩ = some (.int .u8 3) := HA1.out.cell 4
  have d7 : w1.cell? ⟨w.heap.size, 7, none⟩ = some (.int .i64 dn) := HA1.out.cell 7
  have d12 : w1.cell? ⟨w.heap.size, 12, none⟩ = some (.int .i64 cst) := HA1.out.cell 12
  have f3 := HA1.out.free 3
  have f7 := HA1.out.free 7
  have f12 := HA1.out.free 12
  go_upto_region 36 with fail
  obtain ⟨w2, hw2⟩ : ∃ w2, w2 = ((w1.setCell ⟨w.heap.size, 7, none⟩ (.int .i64 0)).setCell ⟨w.heap.size, 3, none⟩ (.int .u8 4)).setCell ⟨w.heap.size, 12, none⟩ (.int .i64 (cst + 1)) := ⟨_, rfl⟩
  rw [← hw2]
  have HC1 : Hid (Blk w2 w.heap.size 66 ((RD.mk xs n fs 4 3 bt lf 0 up ⟨csi, cwr, cro, cst + 1, cwa⟩).val ⟨bp, bc, fp, fc, tp, tc, lp, lc⟩)) := by rw [hw2]; exact ((HA1.out.set 7 _).set 3 _).set 12 _
  have HC2 : Hid (Blk w2 (w.heap.size + 1) 66 stZ) := by rw [hw2]; exact (((HA2.out.other (by omega) _ _).other (by omega) _ _).other (by omega) _ _)
  have HL2 : Hid (Below w.heap.size w w2) := by rw [hw2]; exact (below_two (below_two (below_two HL1.out _ _) _ _) _ _)
  clear hw2 HA1 HA2 HL1 d3 d4 d7 d12 f3 f7 f12
  go_wp2_with (first | (refine step_load_blk HC1.out rfl 66 _ rfl rfl _ (List.prefix_refl _) _ Try.underlying66 rfl (by kernel_rfl) ?_) | (refine step_store_blk HC2.out rfl 66 _ _ rfl rfl rfl _ rfl (by kernel_rfl) rfl (by kernel_rfl) ?_; intro w9 hb9 hk9; refine Hid.out ?_))
  refine Lib.hid ?_
  have HA9 := Hid.in hb9
  have HL9 := Hid.in (HL2.out.trans (below_grown hk9 (Nat.le_succ _) HL2.out.size))
  have HK9 := Hid.in hk9
  clear hb9 hk9
  go_wp2_with fail
  exact bodyPost_ret (res22 HA9.out rfl rfl rfl rfl) rfl (HR.out _ HL9.out)
set_option maxRecDepth 20000 in
set_option maxHeartbeats 2000000 in
theorem rstep_5y6 (xs : List Int) (n : Int) (fs : List Bool) (sent : Nat) (bt lf : List Si) (dn : Nat) (up : Bool) (ct : Ct) (q : RP) (pr : Option Addr) (cr : Nat) (rs : List Bool) (mg : Nat) (w : World) (hM : RM w mg (RD.mk xs n fs 5 sent bt lf dn up ct) q) (hf8 : fs.length ≤ 8) (hov : ovr fs = true) (hs0 : 0 ≤ ct.st) (hs1 : ct.st ≤ 1000000) (h2 : sent ≠ 2) (h3 : sent ≠ 3) :
    Calls Try.prog 22 #[.agg ((RD.mk xs n fs 5 sent bt lf dn up ct).val q), .slice pr rs.length cr] w (RsIs w mg ⟨RD.mk xs n fs 6 sent bt lf 0 up { ct with st := ct.st + 1 }, [], false, 0⟩) := by
  have HF := Hid.in hM.fs
  have HM := Hid.in hM
  clear hM
  obtain ⟨bp, bc, fp, fc, tp, tc, lp, lc⟩ := q
  obtain ⟨csi, cwr, cro, cst, cwa⟩ := ct
  simp only at hs0 hs1 HF
  have HR : Hid (∀ w', Below w.heap.size w w' → RsIs w mg ⟨RD.mk xs n fs 6 sent bt lf 0 up ⟨csi, cwr, cro, cst + 1, cwa⟩, [], false, 0⟩ (.returned (.tuple #[.agg ((RD.mk xs n fs 6 sent bt lf 0 up ⟨csi, cwr, cro, cst + 1, cwa⟩).val ⟨bp, bc, fp, fc, tp, tc, lp, lc⟩), .slice none 0 0, .bool false, .int .i64 0])) w') := fun w' hb => rsIs_of rfl rfl rfl ⟨HM.out.xs.below hb, HM.out.fs.below hb, HM.out.bt.below hb, HM.out.lf.below hb, HM.out.hb, HM.out.hf, HM.out.ht, HM.out.tn, HM.out.hl⟩ (EOwn.nil _ _ _) hb
  clear HM
  generalize RsIs w mg ⟨RD.mk xs n fs 6 sent bt lf 0 up ⟨csi, cwr, cro, cst + 1, cwa⟩, [], false, 0⟩ = R at *
  have g2 : ((sent : Int) == 2) = false := by rw [beq_eq_false_iff_ne]; omega
  have g3 : ((sent : Int) == 3) = false := by rw [beq_eq_false_iff_ne]; omega
  clear h2 h3
  go_enter Try.func22, Try.ntmps22
  go_upto_region 1 with fail
  obtain ⟨w0, hw0⟩ : ∃ w0, w0 = (w.alloc (.cells ((RD.mk xs n fs 5 sent bt lf dn up ⟨csi, cwr, cro, cst, cwa⟩).val ⟨bp, bc, fp, fc, tp, tc, lp, lc⟩) 66)).alloc (.cells stZ 66) := ⟨_, rfl⟩
  rw [← hw0]
  have HB1 : Hid (Blk w0 w.heap.size 66 ((RD.mk xs n fs 5 sent bt lf dn up ⟨csi, cwr, cro, cst, cwa⟩).val ⟨bp, bc, fp, fc, tp, tc, lp, lc⟩)) := by rw [hw0]; exact (Blk.new _ _ _).grow (new_alloc _ _)
  have HB2 : Hid (Blk w0 (w.heap.size + 1) 66 stZ) := by rw [hw0]; exact blk_second _ _ _ _ _
  have HL0 : Hid (Below w.heap.size w w0) := by rw [hw0]; exact below_alloc (new_alloc _ _) _
  clear hw0
  have c1 : w0.cell? ⟨w.heap.size, 1, none⟩ = some (.int .i64 n) := HB1.out.cell 1
  have c2 : w0.cell? ⟨w.heap.size, 2, none⟩ = some (.slice fp fs.length fc) := HB1.out.cell 2
  have c3 : w0.cell? ⟨w.heap.size, 3, none⟩ = some (.int .u8 5) := HB1.out.cell 3
  go_wp2_with (go_at_call 63; refine Hid.out ?_)
  refine Lib.hid ?_
  refine (rover_any fp fc fs n w0 hf8 (HF.out.below HL0.out).row).mono ?_
  rintro e w1 ⟨rfl, hb⟩
  rw [hov]
  have HA1 := Hid.in (HB1.out.grow hb)
  have HA2 := Hid.in (HB2.out.grow hb)
  have HL1 := Hid.in (below_step HL0.out hb)
  clear hb HB1 HB2 HL0 c1 c2 c3 HF
  have d3 : w1.cell? ⟨w.heap.size, 3, none⟩ = some (.int .u8 5) := HA1.out.cell 3
  have d4 : w1.cell? ⟨w.heap.size, 4, none⟩ = some (.int .u8 sent) := HA1.out.cell 4
  have d7 : w1.cell? ⟨w.heap.size, 7, none⟩ = some (.int .i64 dn) := HA1.out.cell 7
  have d12 : w1.cell? ⟨w.heap.size, 12, none⟩ = some (.int .i64 cst) := HA1.out.cell 12
  have f3 := HA1.out.free 3
  have f7 := HA1.out.free 7
  have f12 := HA1.out.free 12
  go_upto_region 36 with fail
  obtain ⟨w2, hw2⟩ : ∃ w2, w2 = ((w1.setCell ⟨w.heap.size, 7, none⟩ (.int .i64 0)).setCell ⟨w.heap.size, 3, none⟩ (.int .u8 6)).setCell ⟨w.heap.size, 12, none⟩ (.int .i64 (cst + 1)) := ⟨_, rfl⟩
  rw [← hw2]
  have HC1 : Hid (Blk w2 w.heap.size 66 ((RD.mk xs n fs 6 sent bt lf 0 up ⟨csi, cwr, cro, cst + 1, cwa⟩).val ⟨bp, bc, fp, fc, tp, tc, lp, lc⟩)) := by rw [hw2]; exact ((HA1.out.set 7 _).set 3 _).set 12 _
  have HC2 : Hid (Blk w2 (w.heap.size + 1) 66 stZ) := by rw [hw2]; exact (((HA2.out.other (by omega) _ _).other (by omega) _ _).other (by omega) _ _)
  have HL2 : Hid (Below w.heap.size w w2) := by rw [hw2]; exact (below_two (below_two (below_two HL1.out _ _) _ _) _ _)
  clear hw2 HA1 HA2 HL1 d3 d4 d7 d12 f3 f7 f12
  go_wp2_with (first | (refine step_load_blk HC1.out rfl 66 _ rfl rfl _ (List.prefix_refl _) _ Try.underlying66 rfl (by kernel_rfl) ?_) | (refine step_store_blk HC2.out rfl 66 _ _ rfl rfl rfl _ rfl (by kernel_rfl) rfl (by kernel_rfl) ?_; intro w9 hb9 hk9; refine Hid.out ?_))
  refine Lib.hid ?_
  have HA9 := Hid.in hb9
  have HL9 := Hid.in (HL2.out.trans (below_grown hk9 (Nat.le_succ _) HL2.out.size))
  have HK9 := Hid.in hk9
  clear hb9 hk9
  go_wp2_with fail
  exact bodyPost_ret (res22 HA9.out rfl rfl rfl rfl) rfl (HR.out _ HL9.out)
set_option maxRecDepth 20000 in
set_option maxHeartbeats 2000000 in
theorem rstep_6 (xs : List Int) (n : Int) (fs : List Bool) (sent : Nat) (bt lf : List Si) (dn : Nat) (up : Bool) (ct : Ct) (q : RP) (pr : Option Addr) (cr : Nat) (rs : List Bool) (mg : Nat) (w : World) (hM : RM w mg (RD.mk xs n fs 6 sent bt lf dn up ct) q) (hs0 : 0 ≤ ct.st) (hs1 : ct.st ≤ 1000000) :
    Calls Try.prog 22 #[.agg ((RD.mk xs n fs 6 sent bt lf dn up ct).val q), .slice pr rs.length cr] w (RsIs w mg ⟨(clrR (RD.mk xs n fs 6 sent bt lf dn up ct)).step, [], decide (lf.length = 0), 0⟩) := by
  have HM := Hid.in hM
  clear hM
  have HR : Hid (∀ w', Below w.heap.size w w' → RsIs w mg ⟨(clrR (RD.mk xs n fs 6 sent bt lf dn up ct)).step, [], decide (lf.length = 0), 0⟩ (.returned (.tuple #[.agg ((clrR (RD.mk xs n fs 6 sent bt lf dn up ct)).step.val (clrQ q)), .slice none 0 0, .bool (decide (lf.length = 0)), .int .i64 0])) w') := fun w' hb => rsIs_of rfl rfl rfl (by have h := (HM.out.below hb).cleared; exact ⟨h.xs, h.fs, h.bt, h.lf, h.hb, h.hf, h.ht, h.tn, h.hl⟩) (EOwn.nil _ _ _) hb
  have HST : Hid ((clrR (RD.mk xs n fs 6 sent bt lf dn up ct)).ct = ct) := by unfold clrR; split <;> rfl
  have HCL := Hid.in (rcleared_any (RD.mk xs n fs 6 sent bt lf dn up ct) q)
  clear HM
  generalize RsIs w mg ⟨(clrR (RD.mk xs n fs 6 sent bt lf dn up ct)).step, [], decide (lf.length = 0), 0⟩ = R at *
  simp only at HCL
  generalize clrR (RD.mk xs n fs 6 sent bt lf dn up ct) = r' at *
  generalize clrQ q = q' at *
  obtain ⟨dl, hdl⟩ : ∃ dl, decide (lf.length = 0) = dl := ⟨_, rfl⟩
  simp only [hdl] at HR HCL
  clear hdl
  obtain ⟨bp, bc, fp, fc, tp, tc, lp, lc⟩ := q
  go_enter Try.func22, Try.ntmps22
  go_upto_region 1 with fail
  obtain ⟨w0, hw0⟩ : ∃ w0, w0 = (w.alloc (.cells ((RD.mk xs n fs 6 sent bt lf dn up ct).val ⟨bp, bc, fp, fc, tp, tc, lp, lc⟩) 66)).alloc (.cells stZ 66) := ⟨_, rfl⟩
  rw [← hw0]
  have HB1 : Hid (Blk w0 w.heap.size 66 ((RD.mk xs n fs 6 sent bt lf dn up ct).val ⟨bp, bc, fp, fc, tp, tc, lp, lc⟩)) := by rw [hw0]; exact (Blk.new _ _ _).grow (new_alloc _ _)
  have HB2 : Hid (Blk w0 (w.heap.size + 1) 66 stZ) := by rw [hw0]; exact blk_second _ _ _ _ _
  have HL0 : Hid (Below w.heap.size w w0) := by rw [hw0]; exact below_alloc (new_alloc _ _) _
  clear hw0
  have c3 : w0.cell? ⟨w.heap.size, 3, none⟩ = some (.int .u8 6) := HB1.out.cell 3
  go_wp2_with (first | (refine step_load_blk HB1.out rfl 66 _ rfl rfl _ (List.prefix_refl _) _ Try.underlying66 rfl (by kernel_rfl) ?_) | (go_at_call 65; refine Hid.out ?_))
  refine Lib.hid ?_
  refine (HCL.out w0).mono ?_
  rintro e w1 ⟨rfl, hb⟩
  have HA1 := Hid.in (HB1.out.grow hb)
  have HA2 := Hid.in (HB2.out.grow hb)
  have HL1 := Hid.in (below_step HL0.out hb)
  clear hb HB1 HB2 HL0 c3 HCL
  go_wp2_with (first | (refine step_store_blk HA1.out rfl 66 _ _ rfl rfl rfl _ rfl (by kernel_rfl) rfl (by kernel_rfl) ?_; intro w2 hb2 hk2; refine Hid.out ?_))
  refine Lib.hid ?_
  have HD1 := Hid.in hb2
  have HD2 := Hid.in (HA2.out.kept hk2 (by simp))
  have HL2 := Hid.in (HL1.out.trans (below_grown hk2 (Nat.le_refl _) HL1.out.size))
  clear hb2 hk2 HA1 HA2 HL1
  have d12 : w2.cell? ⟨w.heap.size, 12, none⟩ = some (.int .i64 ct.st) := by rw [← HST.out]; exact HD1.out.cell 12
  have f12 := HD1.out.free 12
  go_upto_region 36 with fail
  obtain ⟨w3, hw3⟩ : ∃ w3, w3 = w2.setCell ⟨w.heap.size, 12, none⟩ (.int .i64 (ct.st + 1)) := ⟨_, rfl⟩
  rw [← hw3]
  have HC1 : Hid (Blk w3 w.heap.size 66 (r'.step.val q')) := by rw [hw3, ← HST.out]; exact HD1.out.set 12 _
  have HC2 : Hid (Blk w3 (w.heap.size + 1) 66 stZ) := by rw [hw3]; exact (HD2.out.other (by omega) _ _)
  have HL3 : Hid (Below w.heap.size w w3) := by rw [hw3]; exact (below_two HL2.out _ _)
  clear hw3 HD1 HD2 HL2 d12 f12
  go_wp2_with (first | (refine step_load_blk HC1.out rfl 66 _ rfl rfl _ (List.prefix_refl _) _ Try.underlying66 rfl (by kernel_rfl) ?_) | (refine step_store_blk HC2.out rfl 66 _ _ rfl rfl rfl _ rfl (by kernel_rfl) rfl (by kernel_rfl) ?_; intro w9 hb9 hk9; refine Hid.out ?_))
  refine Lib.hid ?_
  have HA9 := Hid.in hb9
  have HL9 := Hid.in (HL3.out.trans (below_grown hk9 (Nat.le_succ _) HL3.out.size))
  have HK9 := Hid.in hk9
  clear hb9 hk9
  go_wp2_with fail
  exact bodyPost_ret (res22 HA9.out rfl rfl rfl rfl) rfl (HR.out _ HL9.out)
end Go.Proofs.Ytekggimgobeggaa

/- The document's patcher: Step, where it gathers, sends, writes. -/
namespace Go.Proofs.Ytekggimgobeggaa
open Go.RowKit Go.Sort

theorem gatR_ct (r : RD) : (gatR r).1.ct = r.ct := by
  unfold gatR
  split
  · unfold clrR; split <;> rfl
  · rfl
/-- a turn of a block of the state's own type leaves the lists -/
theorem RM.off66 {w w' : World} {mg g : Nat} {r : RD} {q : RP} {A : Array Value} (h : RM w mg r q) (hk : w.grownBy w' (some g)) (hB : Blk w g 66 A) : RM w' mg r q :=
  ⟨h.xs.keeps (keeps_grown hk) (fun j hj => .inr ⟨66, A, hj ▸ hB, by decide⟩), h.fs.keeps (keeps_grown hk) (fun j hj => ⟨66, A, hj ▸ hB, by decide⟩), h.bt.keeps (keeps_grown hk) (fun j hj => ⟨66, A, hj ▸ hB, by decide⟩), h.lf.keeps (keeps_grown hk) (fun j hj => ⟨66, A, hj ▸ hB, by decide⟩), h.hb, h.hf, h.ht, h.tn, h.hl⟩
set_option maxRecDepth 20000 in
set_option maxHeartbeats 2000000 in
theorem rstep_1 (xs : List Int) (n : Int) (fs : List Bool) (sent : Nat) (bt lf : List Si) (dn : Nat) (up : Bool) (ct : Ct) (q : RP) (pr : Option Addr) (cr : Nat) (rs : List Bool) (mg : Nat) (w : World) (hM : RM w mg (RD.mk xs n fs 1 sent bt lf dn up ct) q) (hb4 : bt.length ≤ 4) (hs0 : 0 ≤ ct.st) (hs1 : ct.st ≤ 1000000) :
    Calls Try.prog 22 #[.agg ((RD.mk xs n fs 1 sent bt lf dn up ct).val q), .slice pr rs.length cr] w (RsIs w mg ⟨(gatR (RD.mk xs n fs 1 sent bt lf dn up ct)).1.step, [], (gatR (RD.mk xs n fs 1 sent bt lf dn up ct)).2, 0⟩) := by
  have HST : Hid ((gatR (RD.mk xs n fs 1 sent bt lf dn up ct)).1.ct = ct) := gatR_ct _
  have HCL : Hid (∀ W, Below w.heap.size w W → _) := fun W hW => rgathered_any (RD.mk xs n fs 1 sent bt lf dn up ct) q mg W (hM.below hW) hb4
  clear hM
  have HR : Hid (∀ w' q', RM w' mg (gatR (RD.mk xs n fs 1 sent bt lf dn up ct)).1 q' → Below w.heap.size w w' → RsIs w mg ⟨(gatR (RD.mk xs n fs 1 sent bt lf dn up ct)).1.step, [], (gatR (RD.mk xs n fs 1 sent bt lf dn up ct)).2, 0⟩ (.returned (.tuple #[.agg ((gatR (RD.mk xs n fs 1 sent bt lf dn up ct)).1.step.val q'), .slice none 0 0, .bool (gatR (RD.mk xs n fs 1 sent bt lf dn up ct)).2, .int .i64 0])) w') := fun w' q' h hb => rsIs_of rfl rfl rfl ⟨h.xs, h.fs, h.bt, h.lf, h.hb, h.hf, h.ht, h.tn, h.hl⟩ (EOwn.nil _ _ _) hb
  generalize RsIs w mg ⟨(gatR (RD.mk xs n fs 1 sent bt lf dn up ct)).1.step, [], (gatR (RD.mk xs n fs 1 sent bt lf dn up ct)).2, 0⟩ = R at *
  generalize gatR (RD.mk xs n fs 1 sent bt lf dn up ct) = gr at *
  obtain ⟨r', bk⟩ := gr
  simp only at HCL HR HST
  obtain ⟨bp, bc, fp, fc, tp, tc, lp, lc⟩ := q
  go_enter Try.func22, Try.ntmps22
  go_upto_region 1 with fail
  obtain ⟨w0, hw0⟩ : ∃ w0, w0 = (w.alloc (.cells ((RD.mk xs n fs 1 sent bt lf dn up ct).val ⟨bp, bc, fp, fc, tp, tc, lp, lc⟩) 66)).alloc (.cells stZ 66) := ⟨_, rfl⟩
  rw [← hw0]
  have HB1 : Hid (Blk w0 w.heap.size 66 ((RD.mk xs n fs 1 sent bt lf dn up ct).val ⟨bp, bc, fp, fc, tp, tc, lp, lc⟩)) := by rw [hw0]; exact (Blk.new _ _ _).grow (new_alloc _ _)
  have HB2 : Hid (Blk w0 (w.heap.size + 1) 66 stZ) := by rw [hw0]; exact blk_second _ _ _ _ _
  have HL0 : Hid (Below w.heap.size w w0) := by rw [hw0]; exact below_alloc (new_alloc _ _) _
  clear hw0
  have c3 : w0.cell? ⟨w.heap.size, 3, none⟩ = some (.int .u8 1) := HB1.out.cell 3
  go_wp2_with (first | (refine step_load_blk HB1.out rfl 66 _ rfl rfl _ (List.prefix_refl _) _ Try.underlying66 rfl (by kernel_rfl) ?_) | (go_at_call 64; refine Hid.out ?_))
  refine Lib.hid ?_
  refine (HCL.out w0 HL0.out).mono ?_
  rintro e w1 ⟨q', rfl, hm, hb⟩
  have HM1 := Hid.in hm
  have HA1 := Hid.in (HB1.out.grow hb)
  have HA2 := Hid.in (HB2.out.grow hb)
  have HL1 := Hid.in (below_step HL0.out hb)
  clear hb HB1 HB2 HL0 c3 HCL hm
  go_wp2_with (first | (refine step_store_blk HA1.out rfl 66 _ _ rfl rfl rfl _ rfl (by kernel_rfl) rfl (by kernel_rfl) ?_; intro w2 hb2 hk2; refine Hid.out ?_))
  refine Lib.hid ?_
  have HD1 := Hid.in hb2
  have HD2 := Hid.in (HA2.out.kept hk2 (by simp))
  have HL2 := Hid.in (HL1.out.trans (below_grown hk2 (Nat.le_refl _) HL1.out.size))
  have HM2 := Hid.in (HM1.out.off66 hk2 HA1.out)
  clear hb2 hk2 HA1 HA2 HL1 HM1
  have d12 : w2.cell? ⟨w.heap.size, 12, none⟩ = some (.int .i64 ct.st) := by rw [← HST.out]; exact HD1.out.cell 12
  have f12 := HD1.out.free 12
  go_upto_region 36 with fail
  obtain ⟨w3, hw3⟩ : ∃ w3, w3 = w2.setCell ⟨w.heap.size, 12, none⟩ (.int .i64 (ct.st + 1)) := ⟨_, rfl⟩
  rw [← hw3]
  have HC1 : Hid (Blk w3 w.heap.size 66 (r'.step.val q')) := by rw [hw3, ← HST.out]; exact HD1.out.set 12 _
  have HC2 : Hid (Blk w3 (w.heap.size + 1) 66 stZ) := by rw [hw3]; exact (HD2.out.other (by omega) _ _)
  have HL3 : Hid (Below w.heap.size w w3) := by rw [hw3]; exact (below_two HL2.out _ _)
  have HM3 : Hid (RM w3 mg r' q') := by rw [hw3]; exact HM2.out.off66 (grown_setCell _ _ _ _) HD1.out
  clear hw3 HD1 HD2 HL2 d12 f12 HM2
  go_wp2_with (first | (refine step_load_blk HC1.out rfl 66 _ rfl rfl _ (List.prefix_refl _) _ Try.underlying66 rfl (by kernel_rfl) ?_) | (refine step_store_blk HC2.out rfl 66 _ _ rfl rfl rfl _ rfl (by kernel_rfl) rfl (by kernel_rfl) ?_; intro w9 hb9 hk9; refine Hid.out ?_))
  refine Lib.hid ?_
  have HA9 := Hid.in hb9
  have HL9 := Hid.in (HL3.out.trans (below_grown hk9 (Nat.le_succ _) HL3.out.size))
  have HK9 := Hid.in hk9
  clear hb9 hk9
  go_wp2_with fail
  exact bodyPost_ret (res22 HA9.out rfl rfl rfl rfl) rfl (HR.out _ _ (HM3.out.off66 HK9.out HC2.out) HL9.out)
set_option maxRecDepth 20000 in
set_option maxHeartbeats 2000000 in
theorem rstep_sb (xs : List Int) (n : Int) (fs : List Bool) (ph : Nat) (sent : Nat) (bt lf : List Si) (dn : Nat) (up : Bool) (ct : Ct) (q : RP) (pr : Option Addr) (cr : Nat) (rs : List Bool) (mg : Nat) (w : World) (hM : RM w mg (RD.mk xs n fs ph sent bt lf dn up ct) q) (hp2 : 2 ≤ ph) (hp4 : ph ≤ 4) (hf8 : fs.length ≤ 8) (hdn : dn = bt.length) (hbad : rs.length ≠ fs.length ∨ ovr fs = false) :
    Calls Try.prog 22 #[.agg ((RD.mk xs n fs ph sent bt lf dn up ct).val q), .slice pr rs.length cr] w (RsIs w mg ⟨RD.mk xs n fs ph sent bt lf dn up ct, [], false, 2⟩) := by
  have HR : Hid (∀ w', Below w.heap.size w w' → RsIs w mg ⟨RD.mk xs n fs ph sent bt lf dn up ct, [], false, 2⟩ (.returned (.tuple #[.agg ((RD.mk xs n fs ph sent bt lf dn up ct).val q), .slice none 0 0, .bool false, .int .i64 2])) w') := fun w' hb => rsIs_of rfl rfl rfl (hM.below hb) (EOwn.nil _ _ _) hb
  have HF := Hid.in hM.fs
  clear hM
  obtain ⟨bp, bc, fp, fc, tp, tc, lp, lc⟩ := q
  generalize RsIs w mg ⟨RD.mk xs n fs ph sent bt lf dn up ct, [], false, 2⟩ = R at *
  subst hdn
  have HSB : Hid (∀ W, BRow W fp fs → _) := fun W h => rsend_bad fp pr fc cr fs rs n W hf8 h hbad
  clear hbad
  have g0 : ((ph : Int) == 0) = false := by rw [beq_eq_false_iff_ne]; omega
  have g1 : ((ph : Int) == 1) = false := by rw [beq_eq_false_iff_ne]; omega
  have g5 : ((ph : Int) == 5) = false := by rw [beq_eq_false_iff_ne]; omega
  have g6 : ((ph : Int) == 6) = false := by rw [beq_eq_false_iff_ne]; omega
  clear hp2 hp4
  go_enter Try.func22, Try.ntmps22
  go_upto_region 1 with fail
  obtain ⟨w0, hw0⟩ : ∃ w0, w0 = (w.alloc (.cells ((RD.mk xs n fs ph sent bt lf bt.length up ct).val ⟨bp, bc, fp, fc, tp, tc, lp, lc⟩) 66)).alloc (.cells stZ 66) := ⟨_, rfl⟩
  rw [← hw0]
  have HB1 : Hid (Blk w0 w.heap.size 66 ((RD.mk xs n fs ph sent bt lf bt.length up ct).val ⟨bp, bc, fp, fc, tp, tc, lp, lc⟩)) := by rw [hw0]; exact (Blk.new _ _ _).grow (new_alloc _ _)
  have HB2 : Hid (Blk w0 (w.heap.size + 1) 66 stZ) := by rw [hw0]; exact blk_second _ _ _ _ _
  have HL0 : Hid (Below w.heap.size w w0) := by rw [hw0]; exact below_alloc (new_alloc _ _) _
  clear hw0
  have c1 : w0.cell? ⟨w.heap.size, 1, none⟩ = some (.int .i64 n) := HB1.out.cell 1
  have c2 : w0.cell? ⟨w.heap.size, 2, none⟩ = some (.slice fp fs.length fc) := HB1.out.cell 2
  have c3 : w0.cell? ⟨w.heap.size, 3, none⟩ = some (.int .u8 ph) := HB1.out.cell 3
  have c5 : w0.cell? ⟨w.heap.size, 5, none⟩ = some (.slice tp bt.length tc) := HB1.out.cell 5
  have c7 : w0.cell? ⟨w.heap.size, 7, none⟩ = some (.int .i64 bt.length) := HB1.out.cell 7
  go_wp2_with (go_at_call 30; refine Hid.out ?_)
  refine Lib.hid ?_
  refine (HSB.out w0 (HF.out.below HL0.out).row).mono ?_
  rintro e w1 ⟨rfl, hb⟩
  have HA1 := Hid.in (HB1.out.grow hb)
  have HA2 := Hid.in (HB2.out.grow hb)
  have HL1 := Hid.in (below_step HL0.out hb)
  clear hb HB1 HB2 HL0 c1 c2 c3 c5 c7 HF HSB
  go_upto_region 12 with fail
  obtain ⟨w2, hw2⟩ : ∃ w2, w2 = w1.alloc (.cells #[.int .i64 n, .slice fp fs.length fc] 64) := ⟨_, rfl⟩
  rw [← hw2]
  have HC1 : Hid (Blk w2 w.heap.size 66 ((RD.mk xs n fs ph sent bt lf bt.length up ct).val ⟨bp, bc, fp, fc, tp, tc, lp, lc⟩)) := by rw [hw2]; exact HA1.out.grow (new_alloc _ _)
  have HC2 : Hid (Blk w2 (w.heap.size + 1) 66 stZ) := by rw [hw2]; exact HA2.out.grow (new_alloc _ _)
  have HL2 : Hid (Below w.heap.size w w2) := by rw [hw2]; exact below_alloc HL1.out _
  clear hw2 HA1 HA2 HL1
  go_wp2_with (first | (refine step_load_blk HC1.out rfl 66 _ rfl rfl _ (List.prefix_refl _) _ Try.underlying66 rfl (by kernel_rfl) ?_) | (refine step_store_blk HC2.out rfl 66 _ _ rfl rfl rfl _ rfl (by kernel_rfl) rfl (by kernel_rfl) ?_; intro w9 hb9 hk9; refine Hid.out ?_))
  refine Lib.hid ?_
  have HA9 := Hid.in hb9
  have HL9 := Hid.in (HL2.out.trans (below_grown hk9 (Nat.le_succ _) HL2.out.size))
  have HK9 := Hid.in hk9
  clear hb9 hk9
  go_wp2_with fail
  exact bodyPost_ret (res22 HA9.out rfl rfl rfl rfl) rfl (HR.out _ HL9.out)
end Go.Proofs.Ytekggimgobeggaa

/- The document's patcher: Step, where a sync is sent, a piece is written. -/
namespace Go.Proofs.Ytekggimgobeggaa
open Go.RowKit Go.Sort

theorem OwnV.rowB {w : World} {B mg : Nat} {v : Value} {xs : List Int} (h : OwnV w B v xs) (hB : mg < B) : ∃ p c, v = .slice p xs.length c ∧ xs.length ≤ c ∧ RowB w mg p xs := by
  rcases h.shape with ⟨rfl, rfl⟩ | ⟨g, cap, rfl, ho⟩
  · exact ⟨none, 0, rfl, Nat.le_refl _, fun h => absurd h (by simp)⟩
  · obtain ⟨cur, h1, h2, -⟩ := ho.parts
    have hb : Blk w g 5 cur := h2
    refine ⟨_, _, rfl, ho.cap, fun h0 => ⟨g, 0, cur, rfl, by omega, hb, fun i hi => ?_⟩⟩
    rw [Nat.zero_add]
    exact ho.cell i hi
theorem EOwn.lowE {T : TypeId} {w : World} {B B' : Nat} {v : Value} {L : List Ev} (h : EOwn T w B v L) (hB : B' ≤ B) : EOwn T w B' v L := by
  rcases h.2 with h2 | ⟨g, cap, cur, h1, h2, h3⟩
  · exact ⟨h.1, .inl h2⟩
  · exact ⟨h.1, .inr ⟨g, cap, cur, h1, Nat.le_trans hB h2, h3⟩⟩
theorem EOwn.off66 {w w' : World} {B g : Nat} {v : Value} {L : List Ev} {A : Array Value} (h : EOwn 43 w B v L) (hk : w.grownBy w' (some g)) (hB : Blk w g 66 A) : EOwn 43 w' B v L := by
  rcases h.2 with h2 | ⟨j, cap, cur, h1, h2, h3, h4⟩
  · exact ⟨h.1, .inl h2⟩
  · have hb : Blk w j 43 cur := h3
    exact ⟨h.1, .inr ⟨j, cap, cur, h1, h2, hb.kept hk (fun e => blk_ne hb hB (by decide) (by injection e)), h4⟩⟩
set_option maxRecDepth 20000 in
set_option maxHeartbeats 2000000 in
theorem rstep_so (xs : List Int) (n : Int) (fs : List Bool) (ph : Nat) (sent : Nat) (bt lf : List Si) (dn : Nat) (up : Bool) (ct : Ct) (q : RP) (pr : Option Addr) (cr : Nat) (rs : List Bool) (mg : Nat) (w : World) (hM : RM w mg (RD.mk xs n fs ph sent bt lf dn up ct) q) (hp2 : 2 ≤ ph) (hp4 : ph ≤ 4) (hf8 : fs.length ≤ 8) (hdn : dn = bt.length) (hrr : BRow w pr rs) (hnil : pr = none → cr = 0) (hk : rs.length = fs.length) (ho : ovr fs = true) (hn0 : 0 ≤ n) (hn : n ≤ 1000000) (hr0 : 0 ≤ ct.ro) (hr1 : ct.ro ≤ 1000000) (hs0 : 0 ≤ ct.st) (hs1 : ct.st ≤ 1000000) :
    Calls Try.prog 22 #[.agg ((RD.mk xs n fs ph sent bt lf dn up ct).val q), .slice pr rs.length cr] w (RsIs w mg ⟨RD.mk xs (n + 1) rs 5 ph bt lf bt.length up { ct with ro := ct.ro + 1, st := ct.st + 1 }, [⟨11, 0, 0, 0, n + 1⟩], false, 0⟩) := by
  obtain ⟨bp, bc, fp, fc, tp, tc, lp, lc⟩ := q
  obtain ⟨csi, cwr, cro, cst, cwa⟩ := ct
  simp only at hr0 hr1 hs0 hs1
  have HR : Hid (∀ w' a c v, RowF w' a rs → rs.length ≤ c → EOwn 43 w' w.heap.size v [⟨11, 0, 0, 0, n + 1⟩] → RM w' mg (RD.mk xs n fs ph sent bt lf dn up ⟨csi, cwr, cro, cst, cwa⟩) ⟨bp, bc, fp, fc, tp, tc, lp, lc⟩ → Below w.heap.size w w' → RsIs w mg ⟨RD.mk xs (n + 1) rs 5 ph bt lf bt.length up ⟨csi, cwr, cro + 1, cst + 1, cwa⟩, [⟨11, 0, 0, 0, n + 1⟩], false, 0⟩ (.returned (.tuple #[.agg ((RD.mk xs (n + 1) rs 5 ph bt lf bt.length up ⟨csi, cwr, cro + 1, cst + 1, cwa⟩).val ⟨bp, bc, a, c, tp, tc, lp, lc⟩), v, .bool false, .int .i64 0])) w') := fun w' a c v h1 h2 h3 h hb => rsIs_of rfl rfl rfl ⟨h.xs, h1, h.bt, h.lf, h.hb, h2, h.ht, h.tn, h.hl⟩ h3 hb
  have HF := Hid.in hM.fs
  have HM := Hid.in hM
  clear hM
  generalize RsIs w mg ⟨RD.mk xs (n + 1) rs 5 ph bt lf bt.length up ⟨csi, cwr, cro + 1, cst + 1, cwa⟩, [⟨11, 0, 0, 0, n + 1⟩], false, 0⟩ = R at *
  subst hdn
  have HSB : Hid (∀ W, BRow W fp fs → BRow W pr rs → _) := fun W h h' => rsend_ok fp pr fc cr fs rs n W hf8 h h' hnil hk ho hn0 hn
  have HRR := Hid.in hrr
  clear ho hk hnil hrr hf8
  have g0 : ((ph : Int) == 0) = false := by rw [beq_eq_false_iff_ne]; omega
  have g1 : ((ph : Int) == 1) = false := by rw [beq_eq_false_iff_ne]; omega
  have g5 : ((ph : Int) == 5) = false := by rw [beq_eq_false_iff_ne]; omega
  have g6 : ((ph : Int) == 6) = false := by rw [beq_eq_false_iff_ne]; omega
  clear hp2 hp4
  go_enter Try.func22, Try.ntmps22
  go_upto_region 1 with fail
  obtain ⟨w0, hw0⟩ : ∃ w0, w0 = (w.alloc (.cells ((RD.mk xs n fs ph sent bt lf bt.length up ⟨csi, cwr, cro, cst, cwa⟩).val ⟨bp, bc, fp, fc, tp, tc, lp, lc⟩) 66)).alloc (.cells stZ 66) := ⟨_, rfl⟩
  rw [← hw0]
  have HB1 : Hid (Blk w0 w.heap.size 66 ((RD.mk xs n fs ph sent bt lf bt.length up ⟨csi, cwr, cro, cst, cwa⟩).val ⟨bp, bc, fp, fc, tp, tc, lp, lc⟩)) := by rw [hw0]; exact (Blk.new _ _ _).grow (new_alloc _ _)
  have HB2 : Hid (Blk w0 (w.heap.size + 1) 66 stZ) := by rw [hw0]; exact blk_second _ _ _ _ _
  have HL0 : Hid (Below w.heap.size w w0) := by rw [hw0]; exact below_alloc (new_alloc _ _) _
  clear hw0
  have c1 : w0.cell? ⟨w.heap.size, 1, none⟩ = some (.int .i64 n) := HB1.out.cell 1
  have c2 : w0.cell? ⟨w.heap.size, 2, none⟩ = some (.slice fp fs.length fc) := HB1.out.cell 2
  have c3 : w0.cell? ⟨w.heap.size, 3, none⟩ = some (.int .u8 ph) := HB1.out.cell 3
  have c5 : w0.cell? ⟨w.heap.size, 5, none⟩ = some (.slice tp bt.length tc) := HB1.out.cell 5
  have c7 : w0.cell? ⟨w.heap.size, 7, none⟩ = some (.int .i64 bt.length) := HB1.out.cell 7
  go_wp2_with (go_at_call 30; refine Hid.out ?_)
  refine Lib.hid ?_
  refine (HSB.out w0 (HF.out.below HL0.out).row (HRR.out.below HL0.out)).mono ?_
  rintro e w1 ⟨vf, rfl, hvf, hb⟩
  obtain ⟨pf, cf, rfl, hcf, hrf⟩ := hvf.rowF
  have HA1 := Hid.in (HB1.out.grow hb)
  have HA2 := Hid.in (HB2.out.grow hb)
  have HL1 := Hid.in (below_step HL0.out hb)
  have HRF := Hid.in hrf
  have HCF := Hid.in hcf
  clear hb HB1 HB2 HL0 c1 c2 c3 c5 c7 HF HSB HRR hvf hrf hcf
  go_upto_region 13 with fail
  obtain ⟨w2, hw2⟩ : ∃ w2, w2 = w1.alloc (.cells #[.int .i64 (n + 1), .slice pf rs.length cf] 64) := ⟨_, rfl⟩
  rw [← hw2]
  have HC1 : Hid (Blk w2 w.heap.size 66 ((RD.mk xs n fs ph sent bt lf bt.length up ⟨csi, cwr, cro, cst, cwa⟩).val ⟨bp, bc, fp, fc, tp, tc, lp, lc⟩)) := by rw [hw2]; exact HA1.out.grow (new_alloc _ _)
  have HC2 : Hid (Blk w2 (w.heap.size + 1) 66 stZ) := by rw [hw2]; exact HA2.out.grow (new_alloc _ _)
  have HC3 : Hid (Blk w2 w1.heap.size 64 #[.int .i64 (n + 1), .slice pf rs.length cf]) := by rw [hw2]; exact Blk.new _ _ _
  have HL2 : Hid (Below w.heap.size w w2) := by rw [hw2]; exact below_alloc HL1.out _
  have HRF2 : Hid (RowF w2 pf rs) := by rw [hw2]; exact HRF.out.below (new_alloc _ _)
  clear hw2 HA1 HA2 HL1 HRF
  generalize w1.heap.size = k1 at *
  have k0 : w2.cell? ⟨k1, 0, none⟩ = some (.int .i64 (n + 1)) := HC3.out.cell 0
  have k1' : w2.cell? ⟨k1, 1, none⟩ = some (.slice pf rs.length cf) := HC3.out.cell 1
  have c1 : w2.cell? ⟨w.heap.size, 1, none⟩ = some (.int .i64 n) := HC1.out.cell 1
  have c2 : w2.cell? ⟨w.heap.size, 2, none⟩ = some (.slice fp fs.length fc) := HC1.out.cell 2
  have c3 : w2.cell? ⟨w.heap.size, 3, none⟩ = some (.int .u8 ph) := HC1.out.cell 3
  have c4 : w2.cell? ⟨w.heap.size, 4, none⟩ = some (.int .u8 sent) := HC1.out.cell 4
  have c11 : w2.cell? ⟨w.heap.size, 11, none⟩ = some (.int .i64 cro) := HC1.out.cell 11
  have f1 := HC1.out.free 1
  have f2 := HC1.out.free 2
  have f3 := HC1.out.free 3
  have f4 := HC1.out.free 4
  have f11 := HC1.out.free 11
  go_upto_region 17 with fail
  obtain ⟨w3, hw3⟩ : ∃ w3, w3 = ((((w2.setCell ⟨w.heap.size, 1, none⟩ (.int .i64 (n + 1))).setCell ⟨w.heap.size, 2, none⟩ (.slice pf rs.length cf)).setCell ⟨w.heap.size, 4, none⟩ (.int .u8 ph)).setCell ⟨w.heap.size, 3, none⟩ (.int .u8 5)).setCell ⟨w.heap.size, 11, none⟩ (.int .i64 (cro + 1)) := ⟨_, rfl⟩
  rw [← hw3]
  have HD1 : Hid (Blk w3 w.heap.size 66 ((RD.mk xs (n + 1) rs 5 ph bt lf bt.length up ⟨csi, cwr, cro + 1, cst, cwa⟩).val ⟨bp, bc, pf, cf, tp, tc, lp, lc⟩)) := by rw [hw3]; exact ((((HC1.out.set 1 _).set 2 _).set 4 _).set 3 _).set 11 _
  have HD2 : Hid (Blk w3 (w.heap.size + 1) 66 stZ) := by rw [hw3]; exact (((((HC2.out.other (by omega) _ _).other (by omega) _ _).other (by omega) _ _).other (by omega) _ _).other (by omega) _ _)
  have HL3 : Hid (Below w.heap.size w w3) := by rw [hw3]; exact (below_two (below_two (below_two (below_two (below_two HL2.out _ _) _ _) _ _) _ _) _ _)
  have HRF3 : Hid (RowF w3 pf rs) := by rw [hw3]; exact HRF2.out.keeps (keeps_grown (((((grown_setCell _ _ _ _).trans (grown_setCell _ _ _ _)).trans (grown_setCell _ _ _ _)).trans (grown_setCell _ _ _ _)).trans (grown_setCell _ _ _ _))) (fun j hj => ⟨66, _, hj ▸ HC1.out, by decide⟩)
  clear hw3 HC1 HC2 HC3 HL2 HRF2 k0 k1' c1 c2 c3 c4 c11 f1 f2 f3 f4 f11
  go_wp2_with (refine epush Try.elemEv _ rfl _ _ rfl w3.heap.size (.slice none 0 0) [] rfl (EOwn.nil _ _ _) ⟨w3.heap.size, 0, none⟩ 1 ⟨11, 0, 0, 0, n + 1⟩ rfl (news7 _ _ _) (by decide) (by decide) (by rw [size_one]; exact Nat.le_succ _) ?_; intro ve w4 he4 _hg4 hb4; refine Hid.out ?_)
  refine Lib.hid ?_
  have HB34 : Hid (Below w3.heap.size w3 w4) := hb4 w3 (new_alloc _ _)
  have HE4 : Hid (EOwn 43 w4 w.heap.size ve [⟨11, 0, 0, 0, n + 1⟩]) := he4.lowE HL3.out.size
  obtain ⟨pe, ce, hve, -⟩ := he4.shape
  have HG1 := Hid.in (HD1.out.grow HB34.out)
  have HG2 := Hid.in (HD2.out.grow HB34.out)
  have HL4 := Hid.in (below_step HL3.out HB34.out)
  have HRF4 := Hid.in (HRF3.out.below HB34.out)
  subst hve
  clear he4 _hg4 hb4 HD1 HD2 HL3 HRF3 HB34
  have d12 : w4.cell? ⟨w.heap.size, 12, none⟩ = some (.int .i64 cst) := HG1.out.cell 12
  have f12 := HG1.out.free 12
  go_upto_region 36 with fail
  obtain ⟨w5, hw5⟩ : ∃ w5, w5 = w4.setCell ⟨w.heap.size, 12, none⟩ (.int .i64 (cst + 1)) := ⟨_, rfl⟩
  rw [← hw5]
  have HJ1 : Hid (Blk w5 w.heap.size 66 ((RD.mk xs (n + 1) rs 5 ph bt lf bt.length up ⟨csi, cwr, cro + 1, cst + 1, cwa⟩).val ⟨bp, bc, pf, cf, tp, tc, lp, lc⟩)) := by rw [hw5]; exact HG1.out.set 12 _
  have HJ2 : Hid (Blk w5 (w.heap.size + 1) 66 stZ) := by rw [hw5]; exact (HG2.out.other (by omega) _ _)
  have HL5 : Hid (Below w.heap.size w w5) := by rw [hw5]; exact (below_two HL4.out _ _)
  have HRF5 : Hid (RowF w5 pf rs) := by rw [hw5]; exact HRF4.out.keeps (keeps_grown (grown_setCell _ _ _ _)) (fun j hj => ⟨66, _, hj ▸ HG1.out, by decide⟩)
  have HE5 : Hid (EOwn 43 w5 w.heap.size (.slice pe [(⟨11, 0, 0, 0, n + 1⟩ : Ev)].length ce) [⟨11, 0, 0, 0, n + 1⟩]) := by rw [hw5]; exact HE4.out.off66 (grown_setCell _ _ _ _) HG1.out
  clear hw5 HG1 HG2 HL4 HRF4 HE4 d12 f12
  go_wp2_with (first | (refine step_load_blk HJ1.out rfl 66 _ rfl rfl _ (List.prefix_refl _) _ Try.underlying66 rfl (by kernel_rfl) ?_) | (refine step_store_blk HJ2.out rfl 66 _ _ rfl rfl rfl _ rfl (by kernel_rfl) rfl (by kernel_rfl) ?_; intro w9 hb9 hk9; refine Hid.out ?_))
  refine Lib.hid ?_
  have HA9 := Hid.in hb9
  have HL9 := Hid.in (HL5.out.trans (below_grown hk9 (Nat.le_succ _) HL5.out.size))
  have HK9 := Hid.in hk9
  clear hb9 hk9
  go_wp2_with fail
  exact bodyPost_ret (res22 HA9.out rfl rfl rfl rfl) rfl (HR.out _ _ _ _ (HRF5.out.keeps (keeps_grown HK9.out) (fun j hj => ⟨66, _, hj ▸ HJ2.out, by decide⟩)) HCF.out (HE5.out.off66 HK9.out HJ2.out) (HM.out.below HL9.out) HL9.out)
end Go.Proofs.Ytekggimgobeggaa
