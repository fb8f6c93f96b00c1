/- switchyardlaw07.SymbolsBehind: true, for all units, one more, any unit and name. -/
import Derived.Test.YtnmcdkhfjkpklaaAwkW
import Derived.Test.YtnmcdkhfjkpklaaBhdL
import Derived.Test.YtnmcdkhfjkpklaaKit3
import Derived.Test.YtnmcdkhfjkpklaaStaL
import Derived.Test.YtnmcdkhfjkpklaaPick
namespace Go.Proofs.Ytnmcdkhfjkpklaa
open Go.RowKit

theorem same_sn (p q : Option Addr) (n c d : Nat) (ss : List Nat) (w : World) (hl : ss.length = n) (hn : n ≤ 9223372036854775807) (h1 : GRow w p (startsV ss)) (h2 : GRow w q (startsV ss)) : Calls Try.prog 14 #[.slice p n c, .slice q n d] w fun e w' => e = .returned (.bool true) ∧ ∃ m, w' = w.drewN m := by
  have e : startsV ss = nums (ss.map fun (n : Nat) => (n : Int)) := by unfold startsV nums; rw [List.map_map]; rfl
  rw [e] at h1 h2
  exact sameInts_self p q n c d (ss.map fun (n : Nat) => (n : Int)) w hn (by rw [List.length_map]; exact hl) h1 h2
theorem same_sl (p q : Option Addr) (c d : Nat) (L : List Sy) (w : World) (hl : L.length ≤ 9223372036854775807) (h1 : Row3 w p (L.map syV)) (h2 : Row3 w q (L.map syV)) : Calls Try.prog 19 #[.slice p L.length c, .slice q L.length d] w fun e w' => e = .returned (.bool true) ∧ ∃ m, w' = w.drewN m := by
  refine (sameSyms_any p q L.length c L.length d L L w rfl rfl hl hl h1 h2).mono ?_
  rintro E w' ⟨⟨b, rfl, hb⟩, hz⟩
  exact ⟨by rw [hb.2 rfl], hz⟩
theorem news_blk {w : World} {g : Nat} {q : V4} (h : Blk w g 39 #[q.1, q.2.1, q.2.2.1, q.2.2.2]) : ∀ j u, (l4 q)[j]? = some u → w.cell? ((⟨g, 0, none⟩ : Addr).add j) = some u := by
  intro j u hj
  rw [Go.WideShapes.add_plain]
  match j, hj with
  | 0, hj => exact (h.cell 0).trans hj
  | 1, hj => exact (h.cell 1).trans hj
  | 2, hj => exact (h.cell 2).trans hj
  | 3, hj => exact (h.cell 3).trans hj
  | j + 4, hj => simp [l4] at hj
theorem own_below {w w' : World} {B : Nat} {xs : List Ob} {L : List V4} (h : ∀ i (h : i < xs.length), ObF xs[i] ∧ ∃ q, L[i]? = some q ∧ ObOwn w B xs[i] q.1 q.2.1 q.2.2.1 q.2.2.2) (hb : Below w.heap.size w w') : ∀ i (h : i < xs.length), ObF xs[i] ∧ ∃ q, L[i]? = some q ∧ ObOwn w' B xs[i] q.1 q.2.1 q.2.2.1 q.2.2.2 := fun i hi => by
  obtain ⟨hf, q, hq, ho⟩ := h i hi
  exact ⟨hf, q, hq, ho.below hb⟩

set_option maxRecDepth 20000 in
set_option maxHeartbeats 8000000 in
theorem behind_walk (p : Option Addr) (c : Nat) (xs : List Ob) (x : Ob) (pb ps pf pm : Option Addr) (cb cs cf cm : Nat) (u : Int) (s : ByteArray) (w : World) (hn96 : xs.length * 96 ≤ 140737488351232) (hx : Units w p xs) (hW : ∀ y ∈ xs, ObW y)
    (ho : ObIn w x pb ps pf pm x.bs.length cb x.sy.length cs x.fx.length cf x.mk_.length cm) (hoW : ObW x) :
    Calls Try.prog 7 #[.slice p xs.length c, .agg #[.slice pb x.bs.length cb, .slice ps x.sy.length cs, .slice pf x.fx.length cf, .slice pm x.mk_.length cm], .int .i64 u, .string s] w fun E w' => E = .returned (.bool true) ∧ Below w.heap.size w w' := by
  have hn63 : xs.length ≤ 9223372036854775807 := by omega
  have HX := Hid.in hx
  have HO := Hid.in ho
  have HW := Hid.in hW
  have HOW := Hid.in hoW
  clear hx ho hW hoW
  go_enter Try.func7, Try.ntmps7
  go_upto_region 1 with fail
  have HM0 : Hid (Blk (w.alloc (.cells #[.slice pb x.bs.length cb, .slice ps x.sy.length cs, .slice pf x.fx.length cf, .slice pm x.mk_.length cm] 39)) w.heap.size 39 #[.slice pb x.bs.length cb, .slice ps x.sy.length cs, .slice pf x.fx.length cf, .slice pm x.mk_.length cm]) := Blk.new w 39 _
  have HB0 : Hid (Below w.heap.size w (w.alloc (.cells #[.slice pb x.bs.length cb, .slice ps x.sy.length cs, .slice pf x.fx.length cf, .slice pm x.mk_.length cm] 39))) := new_alloc w _
  generalize w.alloc (.cells #[.slice pb x.bs.length cb, .slice ps x.sy.length cs, .slice pf x.fx.length cf, .slice pm x.mk_.length cm] 39) = w0 at *
  go_wp2_with (go_at_call 16; refine Hid.out ?_)
  refine Lib.hid ?_
  refine (heavy_any p xs.length c xs w0 rfl hn63 (HX.out.below HB0.out) HW.out).mono ?_
  rintro E W ⟨b, z0, rfl, rfl⟩
  have HB1 : Hid (Below w.heap.size w (w0.drewN z0)) := below_draws HB0.out z0
  have HM1 : Hid (Blk (w0.drewN z0) w.heap.size 39 #[.slice pb x.bs.length cb, .slice ps x.sy.length cs, .slice pf x.fx.length cf, .slice pm x.mk_.length cm]) := HM0.out.grow (below_draws (below_self w0) z0)
  generalize w0.drewN z0 = w1 at *
  clear HM0 HB0
  cases b with
  | true =>
    go_wp2_with (go_at_call 15; refine (awake_any w1).mono ?_; rintro E w2 ⟨rfl, hb2⟩)
    go_ret
    exact ⟨rfl, below_step HB1.out hb2⟩
  | false =>
    have m0 : w1.cell? ⟨w.heap.size, 0, none⟩ = some (.slice pb x.bs.length cb) := HM1.out.cell 0
    have m1 : w1.cell? ⟨w.heap.size, 1, none⟩ = some (.slice ps x.sy.length cs) := HM1.out.cell 1
    have m2 : w1.cell? ⟨w.heap.size, 2, none⟩ = some (.slice pf x.fx.length cf) := HM1.out.cell 2
    have m3 : w1.cell? ⟨w.heap.size, 3, none⟩ = some (.slice pm x.mk_.length cm) := HM1.out.cell 3
    go_wp2_with (go_at_call 16; refine Hid.out ?_)
    refine Lib.hid ?_
    have HC2 : Hid (Below w1.heap.size w1 (w1.alloc (.cells #[.slice pb x.bs.length cb, .slice ps x.sy.length cs, .slice pf x.fx.length cf, .slice pm x.mk_.length cm] 39))) := new_alloc w1 _
    refine (heavy_any (some ⟨w1.heap.size, 0, none⟩) 1 1 [x] _ rfl (by decide) (units_one (Blk.new w1 39 _) ((HO.out.below HB1.out).below HC2.out)) (fun y hy => by rw [List.mem_singleton.1 hy]; exact HOW.out)).mono ?_
    rintro E W ⟨b2, z2, rfl, rfl⟩
    have HB2 : Hid (Below w.heap.size w ((w1.alloc (.cells #[.slice pb x.bs.length cb, .slice ps x.sy.length cs, .slice pf x.fx.length cf, .slice pm x.mk_.length cm] 39)).drewN z2)) := below_draws (below_step HB1.out HC2.out) z2
    have HM2 : Hid (Blk ((w1.alloc (.cells #[.slice pb x.bs.length cb, .slice ps x.sy.length cs, .slice pf x.fx.length cf, .slice pm x.mk_.length cm] 39)).drewN z2) w.heap.size 39 #[.slice pb x.bs.length cb, .slice ps x.sy.length cs, .slice pf x.fx.length cf, .slice pm x.mk_.length cm]) := HM1.out.grow (below_draws HC2.out z2)
    generalize (w1.alloc (.cells #[.slice pb x.bs.length cb, .slice ps x.sy.length cs, .slice pf x.fx.length cf, .slice pm x.mk_.length cm] 39)).drewN z2 = w2 at *
    clear m0 m1 m2 m3 HC2 HM1 HB1
    cases b2 with
    | true =>
      go_wp2_with (go_at_call 15; refine (awake_any w2).mono ?_; rintro E w3 ⟨rfl, hb3⟩)
      go_ret
      exact ⟨rfl, below_step HB2.out hb3⟩
    | false =>
      have m0 : w2.cell? ⟨w.heap.size, 0, none⟩ = some (.slice pb x.bs.length cb) := HM2.out.cell 0
      have m1 : w2.cell? ⟨w.heap.size, 1, none⟩ = some (.slice ps x.sy.length cs) := HM2.out.cell 1
      have m2 : w2.cell? ⟨w.heap.size, 2, none⟩ = some (.slice pf x.fx.length cf) := HM2.out.cell 2
      have m3 : w2.cell? ⟨w.heap.size, 3, none⟩ = some (.slice pm x.mk_.length cm) := HM2.out.cell 3
      have hC := fun W (k : Below w.heap.size w W) => copyObjects_any p xs.length c xs W rfl hn96 (HX.out.below k) HW.out
      go_upto_region 3 with fail
      have HBd : Hid (Below w.heap.size w w2.drew) := below_draws HB2.out 1
      have HMd : Hid (Blk w2.drew w.heap.size 39 #[.slice pb x.bs.length cb, .slice ps x.sy.length cs, .slice pf x.fx.length cf, .slice pm x.mk_.length cm]) := HM2.out
      have HBa : Hid (Below w.heap.size w ((w2.alloc (.cells #[.slice pb x.bs.length cb, .slice ps x.sy.length cs, .slice pf x.fx.length cf, .slice pm x.mk_.length cm] 39)).drew)) := below_draws (below_alloc HB2.out _) 1
      have HMa : Hid (Blk ((w2.alloc (.cells #[.slice pb x.bs.length cb, .slice ps x.sy.length cs, .slice pf x.fx.length cf, .slice pm x.mk_.length cm] 39)).drew) w.heap.size 39 #[.slice pb x.bs.length cb, .slice ps x.sy.length cs, .slice pf x.fx.length cf, .slice pm x.mk_.length cm]) := HM2.out.grow (below_draws (new_alloc w2 _) 1)
      have HEa : Hid (Blk ((w2.alloc (.cells #[.slice pb x.bs.length cb, .slice ps x.sy.length cs, .slice pf x.fx.length cf, .slice pm x.mk_.length cm] 39)).drew) w2.heap.size 39 #[.slice pb x.bs.length cb, .slice ps x.sy.length cs, .slice pf x.fx.length cf, .slice pm x.mk_.length cm]) := Blk.new w2 39 _
      go_region_held3 (fun W => W.cell? ⟨w.heap.size, 0, none⟩ = some (.slice pb x.bs.length cb) ∧ W.cell? ⟨w.heap.size, 1, none⟩ = some (.slice ps x.sy.length cs) ∧ W.cell? ⟨w.heap.size, 2, none⟩ = some (.slice pf x.fx.length cf) ∧ W.cell? ⟨w.heap.size, 3, none⟩ = some (.slice pm x.mk_.length cm)) (first | go_keep | exact hk3 | exact hk4)
        (first
          | (go_at_call 17; (with_reducible refine (hC w2.drew HBd.out).mono ?_); rintro E w3 ⟨v, rfl, ⟨L, hL1, hL2, hL3⟩, hb3⟩; have HD3 := Hid.in hb3; have HL1 := Hid.in hL1; have HL2 := Hid.in hL2; have HL3 := Hid.in hL3; have HM3 := Hid.in (HMd.out.grow HD3.out); have hk3 : w3.cell? ⟨w.heap.size, 0, none⟩ = some (.slice pb x.bs.length cb) ∧ w3.cell? ⟨w.heap.size, 1, none⟩ = some (.slice ps x.sy.length cs) ∧ w3.cell? ⟨w.heap.size, 2, none⟩ = some (.slice pf x.fx.length cf) ∧ w3.cell? ⟨w.heap.size, 3, none⟩ = some (.slice pm x.mk_.length cm) := ⟨HM3.out.cell 0, HM3.out.cell 1, HM3.out.cell 2, HM3.out.cell 3⟩; clear hL1 hL2 hL3 hb3)
          | (go_at_call 17; (with_reducible refine (hC ((w2.alloc (.cells #[.slice pb x.bs.length cb, .slice ps x.sy.length cs, .slice pf x.fx.length cf, .slice pm x.mk_.length cm] 39)).drew) HBa.out).mono ?_); rintro E w3 ⟨v, rfl, ⟨L, hL1, hL2, hL3⟩, hb3⟩; have HD3 := Hid.in hb3; have HL1 := Hid.in hL1; have HL2 := Hid.in hL2; have HL3 := Hid.in hL3; have HM3 := Hid.in (HMa.out.grow HD3.out); have HE3 := Hid.in (HEa.out.grow HD3.out); have hk3 : w3.cell? ⟨w.heap.size, 0, none⟩ = some (.slice pb x.bs.length cb) ∧ w3.cell? ⟨w.heap.size, 1, none⟩ = some (.slice ps x.sy.length cs) ∧ w3.cell? ⟨w.heap.size, 2, none⟩ = some (.slice pf x.fx.length cf) ∧ w3.cell? ⟨w.heap.size, 3, none⟩ = some (.slice pm x.mk_.length cm) := ⟨HM3.out.cell 0, HM3.out.cell 1, HM3.out.cell 2, HM3.out.cell 3⟩; clear hL1 hL2 hL3 hb3)
          | (refine step_qpush _ (by rfl) _ _ (by rfl) w2.drew.heap.size v L (by rfl) (HL2.out.below (new_alloc w3 (.cells #[.slice pb x.bs.length cb, .slice ps x.sy.length cs, .slice pf x.fx.length cf, .slice pm x.mk_.length cm] 39))) ⟨w3.heap.size, 0, none⟩ 1 (.slice pb x.bs.length cb, .slice ps x.sy.length cs, .slice pf x.fx.length cf, .slice pm x.mk_.length cm) ⟨rfl, rfl, rfl, rfl⟩ (by rfl) (news4 _ _ _) (by rw [HL1.out]; omega) (Nat.le_trans HD3.out.size (new_alloc w3 (.cells #[.slice pb x.bs.length cb, .slice ps x.sy.length cs, .slice pf x.fx.length cf, .slice pm x.mk_.length cm] 39)).size) ?_; intro g4 c4 w4 hT4 hg4 hb4; have HG4 := Hid.in (hb4 w2.drew (below_step HD3.out (new_alloc w3 (.cells #[.slice pb x.bs.length cb, .slice ps x.sy.length cs, .slice pf x.fx.length cf, .slice pm x.mk_.length cm] 39)))); have HU4 := Hid.in (units_behind HL1.out (HL2.out.below (new_alloc w3 (.cells #[.slice pb x.bs.length cb, .slice ps x.sy.length cs, .slice pf x.fx.length cf, .slice pm x.mk_.length cm] 39))) (own_below HL3.out (new_alloc w3 (.cells #[.slice pb x.bs.length cb, .slice ps x.sy.length cs, .slice pf x.fx.length cf, .slice pm x.mk_.length cm] 39))) (HO.out.below (below_step HBd.out HG4.out)) hT4 hg4); have HM4 := Hid.in (HMd.out.grow HG4.out); have HB4 := Hid.in (below_step HBd.out HG4.out); have hk4 : w4.cell? ⟨w.heap.size, 0, none⟩ = some (.slice pb x.bs.length cb) ∧ w4.cell? ⟨w.heap.size, 1, none⟩ = some (.slice ps x.sy.length cs) ∧ w4.cell? ⟨w.heap.size, 2, none⟩ = some (.slice pf x.fx.length cf) ∧ w4.cell? ⟨w.heap.size, 3, none⟩ = some (.slice pm x.mk_.length cm) := ⟨HM4.out.cell 0, HM4.out.cell 1, HM4.out.cell 2, HM4.out.cell 3⟩; clear hT4 hg4 hb4)
          | (refine step_qpush _ (by rfl) _ _ (by rfl) ((w2.alloc (.cells #[.slice pb x.bs.length cb, .slice ps x.sy.length cs, .slice pf x.fx.length cf, .slice pm x.mk_.length cm] 39)).drew).heap.size v L (by rfl) HL2.out ⟨w2.heap.size, 0, none⟩ 1 (.slice pb x.bs.length cb, .slice ps x.sy.length cs, .slice pf x.fx.length cf, .slice pm x.mk_.length cm) ⟨rfl, rfl, rfl, rfl⟩ (by rfl) (news_blk HE3.out) (by rw [HL1.out]; omega) HD3.out.size ?_; intro g4 c4 w4 hT4 hg4 hb4; have HG4 := Hid.in (hb4 ((w2.alloc (.cells #[.slice pb x.bs.length cb, .slice ps x.sy.length cs, .slice pf x.fx.length cf, .slice pm x.mk_.length cm] 39)).drew) HD3.out); have HU4 := Hid.in (units_behind HL1.out HL2.out HL3.out (HO.out.below (below_step HBa.out HG4.out)) hT4 hg4); have HM4 := Hid.in (HMa.out.grow HG4.out); have HB4 := Hid.in (below_step HBa.out HG4.out); have hk4 : w4.cell? ⟨w.heap.size, 0, none⟩ = some (.slice pb x.bs.length cb) ∧ w4.cell? ⟨w.heap.size, 1, none⟩ = some (.slice ps x.sy.length cs) ∧ w4.cell? ⟨w.heap.size, 2, none⟩ = some (.slice pf x.fx.length cf) ∧ w4.cell? ⟨w.heap.size, 3, none⟩ = some (.slice pm x.mk_.length cm) := ⟨HM4.out.cell 0, HM4.out.cell 1, HM4.out.cell 2, HM4.out.cell 3⟩; clear hT4 hg4 hb4))
      all_goals clear hk3 hk4 m0 m1 m2 m3 hC HM2 HMd HBa HMa HEa HBd HB2 HL1 HL2 HL3 HD3 HM3 HM4 HG4
      all_goals obtain ⟨p9, c9, hp9, hu9⟩ := HU4.out
      all_goals rw [List.length_append, show [x].length = 1 from rfl] at hp9
      all_goals rw [hp9]
      all_goals have HU9 := Hid.in hu9
      all_goals clear hp9 hu9 HU4
      all_goals
        by_cases hf : (tabL (xs ++ [x])).e = 0
        · as_aux_lemma =>
            have HF := Hid.in hf
            have h16 := (tab_good hf).1
            obtain ⟨-, hTL2, -, -, -⟩ := tab_good hf
            obtain ⟨-, hTL1, -, -, -⟩ := tab_good (tab_ahead hf)
            rw [begs_app, labs_app] at hTL2
            clear hf
            rw [List.length_append, show [x].length = 1 from rfl] at h16
            generalize hbx : begs (endAt 0 xs xs.length) [x] = bx at *
            generalize labs (endAt 0 xs xs.length) [x] = lx at *
            have hbxl : bx.length = 1 := by rw [← hbx, begs_len]; rfl
            clear hbx
            have hT1 := table_any p xs.length c xs w4 rfl hn63 (HX.out.below HB4.out)
            unfold TabIs at hT1
            rw [hTL1] at hT1
            have hsl : (startsV (begs 0 xs)).length = xs.length := by unfold startsV; rw [List.length_map, begs_len]
            have hsl2 : (startsV (begs 0 xs ++ bx)).length = xs.length + 1 := by unfold startsV; rw [List.length_map, List.length_append, begs_len, hbxl]
            go_upto_region 5 with (go_at_call 9; refine hT1.mono ?_; rintro E w5 ⟨v2, v3, rfl, h2, h3, hb5⟩; obtain ⟨p2, c2, hv2, hr2, -, -⟩ := h2.slice; obtain ⟨p3, c3, hv3, hcap1, hcap2, hr3⟩ := h3.row3; rw [List.length_map] at hv3 hcap1; rw [hsl] at hv2; subst hv2 hv3; have HD5 := Hid.in hb5; have HR2 := Hid.in hr2; have HR3 := Hid.in hr3; have hlb := Nat.le_trans hcap1 hcap2; clear h2 h3 hr2 hr3 hb5 hcap1 hcap2)
            clear hT1
            have HB5 := Hid.in (below_step HB4.out HD5.out)
            have HU5 := Hid.in (HU9.out.below HD5.out)
            have hT2 := table_any p9 (xs.length + 1) c9 (xs ++ [x]) w5 (by rw [List.length_append]; rfl) (by omega) HU5.out
            unfold TabIs at hT2
            rw [hTL2] at hT2
            go_upto_region 6 with (go_at_call 9; refine hT2.mono ?_; rintro E w6 ⟨v4, v5, rfl, h4, h5, hb6⟩; obtain ⟨p4, c4', hv4, hr4, hcp4, -⟩ := h4.slice; obtain ⟨p5, c5, hv5, hcap1, hcap2, hr5⟩ := h5.row3; rw [List.length_map] at hv5 hcap1; rw [hsl2] at hv4 hcp4; subst hv4 hv5; have HD6 := Hid.in hb6; have HR4 := Hid.in hr4; have HR5 := Hid.in hr5; have hlb2 := Nat.le_trans hcap1 hcap2; clear h4 h5 hr4 hr5 hb6 hcap2)
            clear hT2
            have HB6 := Hid.in (below_step HB5.out HD6.out)
            have HU6 := Hid.in (HU5.out.below HD6.out)
            have HR26 := Hid.in (HR2.out.below HD6.out)
            have HR36 := Hid.in (HR3.out.below HD6.out)
            have HA4 : Hid (GRow w6 p4 (startsV (begs 0 xs))) := by
              have h := HR4.out
              unfold startsV at h
              rw [List.map_append] at h
              exact h.ahead
            have HA5 : Hid (Row3 w6 p5 ((labs 0 xs).map syV)) := by
              have h := HR5.out
              rw [List.map_append] at h
              exact h.ahead
            obtain ⟨b4, o4, hp4, -⟩ := HR4.out (by rw [hsl2]; omega)
            subst hp4
            rw [List.length_append] at hcap1 hlb2
            have hle4 : xs.length ≤ c4' := by omega
            have hle5 : (labs 0 xs).length ≤ c5 := by omega
            unfold maxLen at hlb hlb2
            have hS14 := fun W (h1 : GRow W (some ⟨b4, o4, none⟩) (startsV (begs 0 xs))) (h2 : GRow W p2 (startsV (begs 0 xs))) => same_sn (some ⟨b4, o4, none⟩) p2 xs.length c4' c2 (begs 0 xs) W (begs_len xs 0) hn63 h1 h2
            have hS19 := fun W (h1 : Row3 W p5 ((labs 0 xs).map syV)) (h2 : Row3 W p3 ((labs 0 xs).map syV)) => same_sl p5 p3 c5 c3 (labs 0 xs) W (by omega) h1 h2
            clear HU9 HD5 HD6 HR4 HR5 HR2 HR3 HU5 HB5 hbxl hsl hsl2 hcp4 hcap1
            go_upto_region 10 with (first
              | (go_at_call 14; refine (hS14 w6 HA4.out HR26.out).mono ?_; rintro E W ⟨rfl, z7, rfl⟩; have HD7 : Hid (Below w6.heap.size w6 (w6.drewN z7)) := below_draws (below_self w6) z7; have HA57 := Hid.in (HA5.out.below HD7.out); have HR37 := Hid.in (HR36.out.below HD7.out); have HB7 := Hid.in (below_step HB6.out HD7.out); have HU7 := Hid.in (HU6.out.below HD7.out); generalize w6.drewN z7 = w7 at *)
              | (go_at_call 19; refine (hS19 w7 HA57.out HR37.out).mono ?_; rintro E W ⟨rfl, z8, rfl⟩; have HD8 : Hid (Below w7.heap.size w7 (w7.drewN z8)) := below_draws (below_self w7) z8; have HB8 := Hid.in (below_step HB7.out HD8.out); have HU8 := Hid.in (HU7.out.below HD8.out); generalize w7.drewN z8 = w8 at *))
            clear hS14 hS19 HA5 HA57 HR26 HR36 HR37 HA4 HD7 HD8 HB7 HU7 HB6 HU6
            rcases Nat.eq_zero_or_pos xs.length with h0 | h0
            · have h0i : (xs.length : Int) = 0 := by omega
              go_wp2_with (go_at_call 15; refine (awake_any w8).mono ?_; rintro E w9 ⟨rfl, hb9⟩)
              go_ret
              exact ⟨rfl, below_step HB8.out hb9⟩
            · have h0i : ¬ (xs.length : Int) = 0 := by omega
              have h0b : ((xs.length : Int) == 0) = false := by simpa using h0i
              go_wp2_with (go_at_call 25; refine Hid.out ?_)
              refine Lib.hid ?_
              refine (pick_any u xs.length h0 hn63 w8).mono ?_
              rintro E W ⟨⟨k, hk, rfl⟩, hW8⟩
              have hW9 := hW8.symm
              clear hW8
              subst hW9
              have HRA := Hid.in (res_ahead HF.out hk (s := s))
              have hR1 := resolve_any p xs.length c xs k s w8 rfl hn63 (HX.out.below HB8.out)
              go_wp2_with (go_at_call 12; refine Hid.out ?_)
              refine Lib.hid ?_
              refine hR1.mono ?_
              rintro E w9 ⟨rfl, hb9⟩
              have hR2 := resolve_any p9 (xs.length + 1) c9 (xs ++ [x]) k s w9 (by rw [List.length_append]; rfl) (by omega) (HU8.out.below hb9)
              have HB9 := Hid.in (below_step HB8.out hb9)
              clear hR1 hb9 HU8
              generalize resL (xs ++ [x]) k s = r2 at *
              generalize resL xs k s = r1 at *
              obtain ⟨a1, e1⟩ := r1
              obtain ⟨a2, e2⟩ := r2
              simp only at hR2 HRA
              go_wp2_with (go_at_call 12; refine Hid.out ?_)
              refine Lib.hid ?_
              refine hR2.mono ?_
              rintro E w10 ⟨rfl, hb10⟩
              have HB10 := Hid.in (below_step HB9.out hb10)
              clear hR2 hb10
              by_cases hg : e1 = 0
              · have h12 := HRA.out hg
                simp only [Prod.mk.injEq] at h12
                obtain ⟨rfl, rfl⟩ := h12
                subst hg
                go_wp2_with (go_at_call 15; refine (awake_any w10).mono ?_; rintro E w11 ⟨rfl, hb11⟩)
                go_ret
                exact ⟨rfl, below_step HB10.out hb11⟩
              · have hgb : (e1 != 0) = true := by simpa using hg
                go_wp2_with (go_at_call 15; refine (awake_any w10).mono ?_; rintro E w11 ⟨rfl, hb11⟩)
                go_ret
                exact ⟨rfl, below_step HB10.out hb11⟩
        · as_aux_lemma =>
            have hT1 := table_any p xs.length c xs w4 rfl hn63 (HX.out.below HB4.out)
            unfold TabIs at hT1
            have hT2 := fun W (k : Below w4.heap.size w4 W) => table_any p9 (xs.length + 1) c9 (xs ++ [x]) W (by rw [List.length_append]; rfl) (by omega) (HU9.out.below k)
            unfold TabIs at hT2
            generalize tabL (xs ++ [x]) = T2 at *
            generalize tabL xs = T1 at *
            obtain ⟨ss, ts, te, tu⟩ := T2
            simp only at *
            go_upto_region 5 with (go_at_call 9; refine hT1.mono ?_; rintro E w5 ⟨v2, v3, rfl, h2, h3, hb5⟩; have HD5 := Hid.in hb5; clear h2 h3 hb5)
            go_upto_region 6 with (go_at_call 9; refine (hT2 w5 HD5.out).mono ?_; rintro E w6 ⟨v4, v5, rfl, h4, h5, hb6⟩; have HD6 := Hid.in hb6; clear h4 h5 hb6)
            have HB6 := Hid.in (below_step (below_step HB4.out HD5.out) HD6.out)
            have hnb : (te != 0) = true := by simpa using hf
            go_wp2_with (go_at_call 15; refine (awake_any w6).mono ?_; rintro E w7 ⟨rfl, hb7⟩)
            go_ret
            exact ⟨rfl, below_step HB6.out hb7⟩

end Go.Proofs.Ytnmcdkhfjkpklaa
