/- What the law IsaEncodes answers: true, for every instruction. -/
import Derived.Test.YtkbpdnckbgnfnaaRefEnc
import Derived.Deep.CutRange
import Derived.Deep.RegionWith
import Derived.Deep.AppendLies
namespace Go.Proofs.Ytkbpdnckbgnfnaa
open Go.RowKit

theorem Own.grown {w w' : World} {B g r cap : Nat} {xs : List Int} (ho : Own w B g cap xs) (hg : w.grownBy w' (some r)) (hne : g ≠ r) : Own w' B g cap xs := by
  obtain ⟨cur, h1, h2, h3, h4, h5, h6⟩ := ho.parts
  exact Own.mk h1 ((hg.block g ho.lt (fun e => hne (by injection e))).trans h2) h3 h4 h5 h6

set_option maxHeartbeats 2000000 in
theorem encodes_yes (o a b n : Int) (L : Nat) (xs : List Int) (w : World) (hL : 1 ≤ L ∧ L ≤ 6) (hxl : xs.length = L)
    (hE : ∀ w, Calls Try.prog 16 #[ins o a b n] w fun e w' => ∃ g cap, e = .returned (.tuple #[.slice (some ⟨g, 0, none⟩) L cap, .int .i64 0]) ∧ Own w' w.heap.size g cap xs ∧ Below w.heap.size w w')
    (hW : ∀ w, Calls Try.prog 17 #[ins o a b n] w fun e w' => ∃ g cap, e = .returned (.tuple #[.slice (some ⟨g, 0, none⟩) L cap, .int .i64 0]) ∧ Own w' w.heap.size g cap xs ∧ Below w.heap.size w w')
    (h18 : ∀ w, Calls Try.prog 18 #[ins o a b n] w fun e w' => e = .returned (.bool true) ∧ Below w.heap.size w w')
    (h19 : ∀ w, Calls Try.prog 19 #[ins o a b n] w fun e w' => e = .returned (.bool true) ∧ Below w.heap.size w w') :
    Calls Try.prog 4 #[ins o a b n] w fun e w' => e = .returned (.bool true) ∧ Below w.heap.size w w' := by
  have HX : Hid (xs.length = L) := hxl
  clear hxl
  go_enter Try.func4, Try.ntmps4
  go_wp2_with fail
  refine (hE _).mono ?_
  rintro e w1 ⟨gb, cb, rfl, hob, hb1⟩
  have hI := (At4.new w (.int .u8 o) (.int .u8 a) (.int .u8 b) (.int .i32 n) 26).below hb1
  have hbw := below_step (new_alloc w _) hb1
  have HI1 : Hid (At4 w1 w.heap.size (.int .u8 o) (.int .u8 a) (.int .u8 b) (.int .i32 n)) := hI
  have lb := hob.lt
  have bb : w.heap.size < gb := by have := hob.base; simp at this; omega
  clear hb1
  obtain ⟨i0, i1, i2, i3⟩ := hI
  go_wp2_with fail
  refine (hE _).mono ?_
  rintro e w2 ⟨gc, cc, rfl, hoc, hb2⟩
  have hob2 := (hob.below hb2).raise (Nat.le_refl _)
  have hI := HI1.out.below hb2
  have HI2 : Hid (At4 w2 w.heap.size (.int .u8 o) (.int .u8 a) (.int .u8 b) (.int .i32 n)) := hI
  have hbw2 := below_step hbw hb2
  have lc := hoc.lt
  have bc := hoc.base
  clear hb2 hbw hob HI1 i0 i1 i2 i3 hE
  obtain ⟨i0, i1, i2, i3⟩ := hI
  go_wp2_with fail
  refine (hW _).mono ?_
  rintro e w3 ⟨gw, cw, rfl, how, hb3⟩
  have hob3 := hob2.below hb3
  have hoc3 := (hoc.below hb3).raise (Nat.le_refl _)
  have hI := HI2.out.below hb3
  have HI3 : Hid (At4 w3 w.heap.size (.int .u8 o) (.int .u8 a) (.int .u8 b) (.int .i32 n)) := hI
  have hbw3 := below_step hbw2 hb3
  have lw := how.lt
  have bw := how.base
  have how3 := how.raise (Nat.le_refl _)
  clear hb3 hbw2 hob2 hoc how HI2 i0 i1 i2 i3 hW
  obtain ⟨i0, i1, i2, i3⟩ := hI
  have hord : gb < gc ∧ gc < gw := by omega
  clear lb lc bc bw
  go_upto_region 4 with fail
  go_cut [40] from 25 to 39 (fun s wx => s = .bool false ∧ Below w3.heap.size w3 wx)
  case first =>
    go_region_with (first
      | (go_at_call 18; refine (h18 _).mono ?_; rintro e y18 ⟨rfl, k18⟩; first | (have q18 := At4.below (w := w3.drew) HI3.out k18; have r18 := below_step ((Below.refl w3.heap.size w3).drew) k18; have q18' := q18; obtain ⟨i0, i1, i2, i3⟩ := q18') | (have q18 := At4.below q19 k18; have r18 := below_step r19 k18; have q18' := q18; obtain ⟨i0, i1, i2, i3⟩ := q18'; have last := r18))
      | (go_at_call 19; refine (h19 _).mono ?_; rintro e y19 ⟨rfl, k19⟩; first | (have q19 := At4.below (w := w3.drew) HI3.out k19; have r19 := below_step ((Below.refl w3.heap.size w3).drew) k19; have q19' := q19; obtain ⟨i0, i1, i2, i3⟩ := q19') | (have q19 := At4.below q18 k19; have r19 := below_step r18 k19; have q19' := q19; obtain ⟨i0, i1, i2, i3⟩ := q19'; have last := r19))
      | (go_at_call 20; refine (sameBytes_any _ _ L cb L cw xs xs _ HX.out HX.out (by omega) (hob3.row.below last) (how3.row.below last)).mono ?_; rw [sameB_self]; rintro e y20 ⟨rfl, m20, hw20⟩; have fin : Below w3.heap.size w3 y20 := (by rw [hw20]; exact below_draws last m20); clear hw20))
    all_goals
      go_wp2_with fail
      go_meet
      case rel => exact ⟨rfl, fin⟩
  case rest =>
    obtain ⟨rfl, hbx⟩ := hcut
    have ob := hob3.below hbx
    have oc := hoc3.below hbx
    have ow := how3.below hbx
    have hbr := below_step hbw3 hbx
    clear hob3 hoc3 how3 hbx hbw3 HI3 i0 i1 i2 i3 h18 h19
    go_wp2_with fail
    go_loopw [9] (fun i wr => ∃ (k : Nat) (ya : List Int), k ≤ L ∧ i = .int .i64 k ∧ ya.length = L ∧ Own wr gb gb cb ya ∧ Own wr gc gc cc xs ∧ Own wr gw gw cw xs ∧ Below w.heap.size w wr) (fun i _ => L - (intOf i).toNat)
    case atStart => exact ⟨0, xs, Nat.zero_le _, rfl, HX.out, ob, oc, ow, hbr⟩
    case round =>
      clear ob oc ow hbr
      obtain ⟨k, ya, hk, rfl, la, oa, oc, ow, hbr⟩ := hrel
      by_cases hlt : k < L
      · have c1 := oa.cell k (by omega)
        have f1 := oa.free k
        generalize ya.getD k 0 = z1 at *
        go_wp2
        go_roundw
        case rel => exact ⟨k + 1, ya.set k 7, by omega, by go_num, by simp [la], oa.store k 7, oc.far (by omega), ow.far (by omega), hbr.setCell (Nat.le_of_lt bb) _⟩
        case measure => simp [intOf]; omega
      · have hown := oa.val
        rw [la] at hown
        have HLA : Hid (ya.length = L) := la
        have oc' := oc.below (new_alloc wr (.cells #[.int .u8 1, .int .u8 2, .int .u8 3] 5))
        have ow' := ow.below (new_alloc wr (.cells #[.int .u8 1, .int .u8 2, .int .u8 3] 5))
        have hbr' := below_alloc hbr (.cells #[.int .u8 1, .int .u8 2, .int .u8 3] 5)
        clear oa oc ow hbr la
        go_wp2_with (at_builtin; refine wp_push _ rfl _ _ rfl w.heap.size _ ya rfl ((hown.lowerV (Nat.le_of_lt bb)).alloc _) ⟨wr.heap.size, 0, none⟩ 3 3 [1, 2, 3] rfl rfl (World.news_of_block (cs := #[.int .u8 1, .int .u8 2, .int .u8 3]) (t := 5) (fr := (0, 0)) (heap_alloc_new wr _)) (by rw [HLA.out]; omega) (by have := hbr'.size; exact this) ?_; intro v1 x1 hown1 hgrow hbel1 _; have hX1 := hbel1 w hbr'; have oc1 := oc'.grown (r := gb) hgrow (by omega); have ow1 := ow'.grown (r := gb) hgrow (by omega); obtain ⟨p1, c1, hv1, _, _⟩ := hown1.slice; rw [List.length_append, HLA.out] at hv1; rw [hv1]; clear hown1 hv1 hgrow hbel1 hown)
        go_wp2_with fail
        refine (sameBytes_any _ _ L cc L cw xs xs _ HX.out HX.out (by omega) oc1.row ow1.row).mono ?_
        rw [sameB_self]
        rintro e y1 ⟨rfl, m1, hy1⟩
        have hb9 : Below w.heap.size w y1 := by rw [hy1]; exact below_draws hX1 m1
        clear hy1 oc1 ow1 hX1
        go_wp2_with fail
        refine (awake_any _).mono ?_
        rintro e y2 ⟨rfl, hb10⟩
        go_wp2
        go_ret
        exact ⟨rfl, below_step hb9 hb10⟩

set_option maxHeartbeats 2000000 in
theorem encodes_no (o a b n : Int) (w : World)
    (hE : ∀ w, Calls Try.prog 16 #[ins o a b n] w fun e w' => e = .returned (.tuple #[.slice none 0 0, .int .i64 2]) ∧ Below w.heap.size w w')
    (hW : ∀ w, Calls Try.prog 17 #[ins o a b n] w fun e w' => e = .returned (.tuple #[.slice none 0 0, .int .i64 2]) ∧ Below w.heap.size w w')
    (h18 : ∀ w, Calls Try.prog 18 #[ins o a b n] w fun e w' => e = .returned (.bool false) ∧ Below w.heap.size w w')
    (h19 : ∀ w, Calls Try.prog 19 #[ins o a b n] w fun e w' => e = .returned (.bool false) ∧ Below w.heap.size w w') :
    Calls Try.prog 4 #[ins o a b n] w fun e w' => e = .returned (.bool true) ∧ Below w.heap.size w w' := by
  go_enter Try.func4, Try.ntmps4
  go_wp2_with fail
  refine (hE _).mono ?_
  rintro e w1 ⟨rfl, hb1⟩
  have hI := (At4.new w (.int .u8 o) (.int .u8 a) (.int .u8 b) (.int .i32 n) 26).below hb1
  have hbw := below_step (new_alloc w _) hb1
  have HI1 : Hid (At4 w1 w.heap.size (.int .u8 o) (.int .u8 a) (.int .u8 b) (.int .i32 n)) := hI
  clear hb1
  obtain ⟨i0, i1, i2, i3⟩ := hI
  go_wp2_with fail
  refine (hE _).mono ?_
  rintro e w2 ⟨rfl, hb2⟩
  have hI := HI1.out.below hb2
  have HI2 : Hid (At4 w2 w.heap.size (.int .u8 o) (.int .u8 a) (.int .u8 b) (.int .i32 n)) := hI
  have hbw2 := below_step hbw hb2
  clear hb2 hbw HI1 i0 i1 i2 i3 hE
  obtain ⟨i0, i1, i2, i3⟩ := hI
  go_wp2_with fail
  refine (hW _).mono ?_
  rintro e w3 ⟨rfl, hb3⟩
  have hI := HI2.out.below hb3
  have HI3 : Hid (At4 w3 w.heap.size (.int .u8 o) (.int .u8 a) (.int .u8 b) (.int .i32 n)) := hI
  have hbw3 := below_step hbw2 hb3
  clear hb3 hbw2 HI2 i0 i1 i2 i3 hW
  obtain ⟨i0, i1, i2, i3⟩ := hI
  go_upto_region 4 with fail
  go_cut [40] from 25 to 39 (fun s wx => s = .bool false ∧ Below w3.heap.size w3 wx)
  case first =>
    go_region_with (first
      | (go_at_call 18; refine (h18 _).mono ?_; rintro e y18 ⟨rfl, k18⟩; first | (have q18 := At4.below (w := w3.drew) HI3.out k18; have r18 := below_step ((Below.refl w3.heap.size w3).drew) k18; have q18' := q18; obtain ⟨i0, i1, i2, i3⟩ := q18') | (have q18 := At4.below q19 k18; have r18 := below_step r19 k18; have q18' := q18; obtain ⟨i0, i1, i2, i3⟩ := q18'; have last := r18))
      | (go_at_call 19; refine (h19 _).mono ?_; rintro e y19 ⟨rfl, k19⟩; first | (have q19 := At4.below (w := w3.drew) HI3.out k19; have r19 := below_step ((Below.refl w3.heap.size w3).drew) k19; have q19' := q19; obtain ⟨i0, i1, i2, i3⟩ := q19') | (have q19 := At4.below q18 k19; have r19 := below_step r18 k19; have q19' := q19; obtain ⟨i0, i1, i2, i3⟩ := q19'; have last := r19))
      | (go_at_call 20; refine (sameBytes_zero _ _ 0 0 _).mono ?_; rintro e y20 ⟨rfl, rfl⟩; have fin := last))
    all_goals
      go_wp2_with fail
      go_meet
      case rel => exact ⟨rfl, fin⟩
  case rest =>
    obtain ⟨rfl, hbx⟩ := hcut
    have hbr := below_step hbw3 hbx
    clear hbx hbw3 HI3 i0 i1 i2 i3 h18 h19
    go_wp2_with fail
    refine wp_loop_rounds 1 ?_
    have hbr' := below_alloc hbr (.cells #[.int .u8 1, .int .u8 2, .int .u8 3] 5)
    rw [rounds_succ]; go_wp2_with (at_builtin; refine wp_push _ rfl _ _ rfl w.heap.size _ [] rfl (OwnV.nil _ _) ⟨wc.heap.size, 0, none⟩ 3 3 [1, 2, 3] rfl rfl (World.news_of_block (cs := #[.int .u8 1, .int .u8 2, .int .u8 3]) (t := 5) (fr := (0, 0)) (heap_alloc_new wc _)) (by decide) (by have := hbr'.size; exact this) ?_; intro v1 x1 hown1 hgrow hbel1 _; have hX1 := hbel1 w hbr'; obtain ⟨p1, c1, hv1, _, _⟩ := hown1.slice; rw [hv1]; clear hown1 hv1 hgrow hbel1)
    refine (sameBytes_zero _ _ 0 0 _).mono ?_
    rintro e y1 ⟨rfl, rfl⟩
    go_wp2_with fail
    refine (awake_any _).mono ?_
    rintro e y2 ⟨rfl, hb10⟩
    go_wp2
    go_ret
    exact ⟨rfl, below_step hX1 hb10⟩

theorem encL_ne (o : Nat) (a b n : Int) (h1 : 1 ≤ o) (h2 : o < 17) : encL o a b n ≠ [] := fun h => by
  have := encL_length o a b n h2
  rw [h] at this
  have hl := lenN_in o h1 h2
  simp at this
  omega

theorem lawEncodes_any (o a b n : Int) (w : World) (ho : 0 ≤ o ∧ o ≤ 255) (ha : 0 ≤ a ∧ a ≤ 255) (hb : 0 ≤ b ∧ b ≤ 255) :
    Calls Try.prog 4 #[ins o a b n] w fun e w' => e = .returned (.bool true) ∧ Below w.heap.size w w' := by
  obtain ⟨o, rfl⟩ := Int.eq_ofNat_of_zero_le ho.1
  have h18 := fun w => right_any o a b n w (by omega) ha hb
  have h19 := fun w => rright_any o a b n w ha hb
  cases hR : rightB o a b n
  · rw [hR] at h18 h19
    exact encodes_no o a b n w (fun w => encode_no o a b n w (by omega) ha hb hR) (fun w => rencode_no o a b n w ha hb hR) h18 h19
  · rw [hR] at h18 h19
    obtain ⟨⟨r1, r2⟩, _⟩ := rightB_parts hR
    refine encodes_yes o a b n (lenN o) (encL o a b n) w (lenN_in o r1 r2) (encL_length o a b n r2) (fun w => encode_yes o a b n w ha hb hR) (fun w => ?_) h18 h19
    refine (rencode_yes o a b n w ha hb hR).mono ?_
    rintro e w' ⟨v, he, hv, hbl⟩
    rcases hv.shape with ⟨_, h0⟩ | ⟨g, cap, rfl, hown⟩
    · exact absurd h0 (encL_ne o a b n r1 r2)
    · rw [encL_length o a b n r2] at he
      exact ⟨g, cap, he, hown, hbl⟩
end Go.Proofs.Ytkbpdnckbgnfnaa
