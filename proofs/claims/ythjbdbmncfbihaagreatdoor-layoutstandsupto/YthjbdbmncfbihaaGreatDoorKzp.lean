/- Texts put together: StandsX. -/
import Derived.Test.YthjbdbmncfbihaaGreatDoorKzo

/- switchyardlaw05.LayoutStands answers true, of items that have places. -/
namespace Go.Proofs.YthjbdbmncfbihaaGreatDoor
open Go.RowKit

theorem good_al {x : Src} (hg : GoodP x) (hk6 : x.k = 6) : ¬ x.n = 0 := by
  rcases hg with h | ⟨h, _⟩ | h | ⟨h, _⟩ | ⟨h, _⟩ | ⟨_, h⟩ | h
  · rw [h] at hk6; cases hk6
  · rw [h] at hk6; cases hk6
  · rw [h] at hk6; cases hk6
  · rw [h] at hk6; cases hk6
  · rw [h] at hk6; cases hk6
  · omega
  · rw [h] at hk6; cases hk6
theorem good_pos {x : Src} (hg : GoodP x) (hk6 : x.k = 6) : 0 ≤ x.n := by
  rcases hg with h | ⟨h, _⟩ | h | ⟨h, _⟩ | ⟨h, _⟩ | ⟨_, h⟩ | h
  · rw [h] at hk6; cases hk6
  · rw [h] at hk6; cases hk6
  · rw [h] at hk6; cases hk6
  · rw [h] at hk6; cases hk6
  · rw [h] at hk6; cases hk6
  · omega
  · rw [h] at hk6; cases hk6
theorem good_rem {x : Src} (hg : GoodP x) (hk6 : x.k = 6) (a0 sz : Nat) (hs : sizeL x a0 = sz) : (((a0 : Int) + (sz : Int)) % x.n != 0) = false := by
  have := good_pos hg hk6
  rw [rem_num a0 sz x.n x.n.toNat (by omega), ← hs, align_end hg hk6 a0]; rfl
theorem good_enc {x : Src} (hx : Fit x) (hg : GoodP x) (hk2 : x.k = 2) (a0 sz : Nat) (hs : sizeL x a0 = sz) (W : World) :
    Calls Tryz.prog 20 #[.agg #[.int .u8 x.o, .int .u8 x.a, .int .u8 x.b, .int .i32 x.m]] W fun E w' => ∃ g cap, E = .returned (.tuple #[.slice (some ⟨g, 0, none⟩) sz cap, .int .i64 0]) ∧ Row w' (some ⟨g, 0, none⟩) (pieceL x a0) ∧ Below W.heap.size W w' := by
  have hR : rightB x.o.toNat x.a x.b x.m = true := by
    rcases hg with h | ⟨_, h⟩ | h | ⟨h, _⟩ | ⟨h, _⟩ | ⟨h, _⟩ | h
    · rw [h] at hk2; cases hk2
    · exact h
    · rw [h] at hk2; cases hk2
    · rw [h] at hk2; cases hk2
    · rw [h] at hk2; cases hk2
    · rw [h] at hk2; cases hk2
    · rw [h] at hk2; cases hk2
  obtain ⟨o', ho⟩ := Int.eq_ofNat_of_zero_le hx.o0
  have hp : pieceL x a0 = encL o' x.a x.b x.m := by
    unfold pieceL saidL; rw [if_neg (by omega), if_pos hk2, ho]; rfl
  rw [ho] at hR ⊢
  have hR : rightB o' x.a x.b x.m = true := hR
  refine (encode_yes o' x.a x.b x.m W ⟨hx.a0, hx.a1⟩ ⟨hx.b0, hx.b1⟩ hR).mono ?_
  rintro E w' ⟨g, cap, rfl, hO, hb⟩
  have hl : lenN o' = sz := by rw [← hs, ← piece_size, hp, encL_length _ _ _ _ (rightB_parts hR).1.2]
  rw [hp, ← hl]
  exact ⟨g, cap, rfl, hO.row, hb⟩

theorem OwnV.slice2 {w : World} {B : Nat} {v : Value} {xs : List Int} (h : OwnV w B v xs) : ∃ p cap, v = .slice p xs.length cap ∧ Row w p xs ∧ xs.length ≤ cap := by
  rcases h.shape with ⟨rfl, rfl⟩ | ⟨g, cap, rfl, ho⟩
  · exact ⟨none, 0, rfl, fun h => absurd h (Nat.lt_irrefl 0), Nat.le_refl _⟩
  · exact ⟨_, cap, rfl, ho.row, ho.cap⟩
theorem IOwn.lower {w : World} {B B' : Nat} {v : Value} {L : List (Src × Value)} (h : IOwn w B v L) (hB : B' ≤ B) : IOwn w B' v L :=
  ⟨⟨h.row.1, h.row.2.imp id fun ⟨g, cap, cur, e1, e2, e3⟩ => ⟨g, cap, cur, e1, Nat.le_trans hB e2, e3⟩⟩, fun q hq => (h.dat q hq).lowerV hB⟩

set_option maxRecDepth 20000 in
set_option maxHeartbeats 8000000 in
theorem stands_ok (p : Option Addr) (n c : Nat) (xs : List Src) (q2 : Option Addr) (n2 c2 : Nat) (ys : List Src) (w : World) (he : Env w) (hn : xs.length = n) (hnc : n ≤ c) (hc : c ≤ 1048576) (hx : Items w p xs)
    (hn2 : ys.length = n2) (hnc2 : n2 ≤ c2) (hc2 : c2 ≤ 1048576) (hy : Items w q2 ys) (hq2 : q2 = none → n2 = 0 ∧ c2 = 0) (hl : layE xs = 0) :
    Calls Tryz.prog 5 #[.slice p n c, .slice q2 n2 c2] w fun E w' => E = .returned (.bool true) ∧ Below w.heap.size w w' := by
  obtain ⟨hck, hend⟩ := layE_ok hl
  obtain ⟨hl4, hmay⟩ := check_good hck
  have hP := places_any p n c xs w he hn hnc (by omega) hx
  have hB := fun W hW hX => bytes_ok p n c xs W hl hW hn hnc (by omega) hX
  have hA := fun W hW => awake_any W hW
  have h2 : endI xs = (placesL 0 xs).2 := by unfold endI; rw [if_pos hl]
  have h3 : placesI xs = ints (placesL 0 xs).1 := by unfold placesI; rw [if_pos hl]
  unfold PlacesIs at hP
  rw [h2, h3, hl] at hP
  obtain ⟨i0, hi, hz0, hz1, hz2⟩ := info_parts Tryz.info5
  obtain ⟨EE, hEE⟩ : ∃ EE, (placesL 0 xs).2 = EE := ⟨_, rfl⟩
  rw [hEE] at hP hend hB
  have HX := Hid.in hx
  have HE := Hid.in he
  have HN := Hid.in hn
  have HY := Hid.in hy
  have HQ2 := Hid.in hq2
  have HN2 := Hid.in hn2
  have HMAY := Hid.in hmay
  have HEE := Hid.in hEE
  have HL := Hid.in hl
  have HLN : Hid ((nums (ints (placesL 0 xs).1)).length = n) := by
    rw [show (nums (ints (placesL 0 xs).1)).length = (placesL 0 xs).1.length by simp [nums, ints], places_length, HN.out]; exact rfl
  have hn4 : n ≤ 4096 := by omega
  clear hl hck hmay he hx hn hl4 hEE h2 h3 hy hq2 hn2
  go_enter Tryz.func5, Tryz.ntmps5
  go_wp2_with (first
    | (go_at_call 13; refine hP.mono ?_; rintro E w1 ⟨v1, rfl, hv1, hb1⟩; obtain ⟨p1, c1, hpv, hr1, -, -⟩ := hv1.slice; rw [HLN.out] at hpv; subst hpv; have HR1 := Hid.in hr1; have HB1 := Hid.in hb1; clear hv1 hb1 hr1)
    | (go_at_call 15; refine (hB _ (HE.out.below HB1.out) (HX.out.below HB1.out)).mono ?_; rintro E w2 ⟨g, rfl, hO2, hb2⟩; have HB2 := Hid.in (below_step HB1.out hb2); have HO2 := Hid.in hO2; have HR2 := Hid.in (HR1.out.below hb2); clear hb2 hO2))
  clear hP hB HR1 HB1
  go_loopw [10, 11] (fun a i wr => ∃ k : Nat, k ≤ n ∧ i = .int .i64 k ∧ a = .int .i64 ((placesL 0 (xs.take k)).2 : Nat) ∧ Below w2.heap.size w2 wr) (fun _ i _ => n - (intOf i).toNat)
  case atStart => exact ⟨0, Nat.zero_le _, rfl, rfl, below_self _⟩
  case round =>
    obtain ⟨k, hk, rfl, rfl, hb⟩ := hrel
    have HBK := Hid.in hb
    have HBW := Hid.in (below_step HB2.out hb)
    have HOK := Hid.in (HO2.out.below hb)
    have HRK := Hid.in (HR2.out.below hb)
    clear hb
    by_cases hlt : k < n
    · have hkx : k < xs.length := by rw [HN.out]; exact hlt
      have hmy := HMAY.out _ (List.getElem_mem hkx)
      have hgd := may_good hmy
      obtain ⟨pb, po, hpp, hpc⟩ := HRK.out (by rw [HLN.out]; omega)
      have hat : (nums (ints (placesL 0 xs).1))[k]? = some (.int .i64 ((placesL 0 (xs.take k)).2 : Nat)) := by
        simp [nums, ints, place_get xs 0 k hkx]
      have cp := (hpc k (by rw [HLN.out]; exact hlt)).trans hat
      subst hpp
      have hle := place_le xs 0 (k + 1)
      have HST := Hid.in (place_step xs 0 k hkx)
      rw [HEE.out, HST.out] at hle
      obtain ⟨b, o, hp, hcc⟩ := HX.out (by omega)
      subst hp
      obtain ⟨q, cq, hR, hrow, hfit⟩ := hcc k hkx
      have HPR := fun (W : World) (h : Below wr.heap.size wr W) => Hid.in (piece_row (HOK.out.below h) k hkx)
      have HPS := Hid.in (piece_size xs[k] (placesL 0 (xs.take k)).2)
      have hS := fun (W : World) (hW : Env W) (hR : Row W q (xs[k]'hkx).d) => laySize_any (xs[k]'hkx) hfit q _ cq ((placesL 0 (xs.take k)).2 : Nat) W hW rfl hR
      have hsp : sizeP xs[k] ((placesL 0 (xs.take k)).2 : Nat) = (sizeL xs[k] (placesL 0 (xs.take k)).2 : Int) := by
        unfold sizeP; rw [if_neg (by simp [hmy])]; rfl
      rw [hsp] at hS
      have hsm := size_small hgd (placesL 0 (xs.take k)).2
      clear hsp hat hpc hcc
      generalize (placesL 0 (xs.take k)).2 = a0 at *
      generalize hxk : xs[k] = x at *
      generalize hszz : sizeL x a0 = sz at *
      have HR := Hid.in hR
      have HROW := Hid.in hrow
      have HFIT := Hid.in hfit
      have HGD := Hid.in hgd
      have HSZ := Hid.in hszz
      clear hR hrow hfit hgd hmy hszz hxk
      have HPL := Hid.in (show sz ≤ 9223372036854775807 by omega)
      have hSB : ∀ (W : World) (pp qq : Option Addr) (cc dd : Nat), Row W pp (pieceL x a0) → Row W qq (pieceL x a0) → Calls Tryz.prog 18 #[.slice pp sz cc, .slice qq sz dd] W fun e w' => e = .returned (.bool true) ∧ ∃ m, w' = w'.drewN 0 ∧ w' = W.drewN m := fun W pp qq cc dd h1 h2 => by
        have := sameBytes_any pp qq sz cc sz dd (pieceL x a0) (pieceL x a0) W HPS.out HPS.out HPL.out h1 h2
        rw [sameB_self] at this
        refine this.mono ?_
        rintro E w' ⟨rfl, m, rfl⟩
        exact ⟨rfl, m, rfl, rfl⟩
      by_cases hend0 : EE = a0
      · have hs0 : sz = 0 := by omega
        subst hend0
        subst hs0
        have HPC : Hid (pieceL x EE = List.replicate 0 0) := by
          have : pieceL x EE = [] := List.eq_nil_of_length_eq_zero HPS.out
          exact this
        have hk4 : ¬ x.k = 4 := fun h4 => by
          have h1 := HSZ.out
          rcases HGD.out with h | ⟨h, _⟩ | h | ⟨_, h, _⟩ | ⟨h, _⟩ | ⟨h, _⟩ | h
          · rw [h] at h4; cases h4
          · rw [h] at h4; cases h4
          · rw [h] at h4; cases h4
          · rw [← piece_size] at h1
            unfold pieceL saidL at h1
            rw [if_neg (by omega), if_neg (by omega), if_pos h4] at h1
            omega
          · rw [h] at h4; cases h4
          · rw [h] at h4; cases h4
          · rw [h] at h4; cases h4
        have hk2 : ¬ x.k = 2 := fun h2 => by
          have h1 := HSZ.out
          rw [← piece_size] at h1
          unfold pieceL saidL at h1
          rw [if_neg (by omega), if_pos h2] at h1
          rcases HGD.out with h | ⟨_, hR⟩ | h | ⟨h, _⟩ | ⟨h, _⟩ | ⟨h, _⟩ | h
          · rw [h] at h2; cases h2
          · have ho : 1 ≤ x.o.toNat ∧ x.o.toNat < 17 := (rightB_parts hR).1
            rw [encL_length _ _ _ _ ho.2] at h1
            have : ∀ q, q < 17 → 1 ≤ q → lenN q ≠ 0 := by decide
            exact this _ ho.2 ho.1 h1
          · rw [h] at h2; cases h2
          · rw [h] at h2; cases h2
          · rw [h] at h2; cases h2
          · rw [h] at h2; cases h2
          · rw [h] at h2; cases h2
        by_cases hk6 : x.k = 6
        · have hn0 : ¬ x.n = 0 := good_al HGD.out hk6
          have hrem := good_rem HGD.out hk6 EE 0 HSZ.out
          simp only [Int.natCast_zero, Int.add_zero] at hrem
          go_wp2_with (first
            | (refine step_load_at (range_below HR.out HBW.out) rfl 28 (.tmp 74) rfl rfl _ Tryz.underlying28 rfl Tryz.sz28 ?_)
            | (go_at_call 8; refine (hS _ (HE.out.below HBW.out) (HROW.out.below HBW.out)).mono ?_; rintro E w5 ⟨rfl, hb5⟩; have HB5 := Hid.in hb5; have HBW5 := Hid.in (below_step HBW.out hb5); have i50 : w5.cell? ⟨b, o + k * 9, none⟩ = some (.int .u8 x.k) := range_below HR.out HBW5.out 0 _ rfl; have i57 : w5.cell? ⟨b, o + k * 9 + 7, none⟩ = some (.int .i64 x.n) := range_below HR.out HBW5.out 7 _ rfl; have cp5 := (hb5.cell (p := ⟨pb, po + k, none⟩) (cell_lt cp)).trans cp; clear hb5)
            | (at_make; refine wpList_make_full _ rfl _ _ 26 rfl _ 5 i0 (.int .u8 0) 1 Tryz.underlying26 hi hz0 hz1 _ _ _ _ 0 rfl rfl rfl rfl (by rw [hz2]; omega) (by unfold maxLen; omega) (Nat.le_refl _) ?_; intro w6 hown hgrow; have HO6 := Hid.in (Own.of_made hown); have hb6 := (Below.refl w5.heap.size w5).grown hgrow (Nat.le_refl _) (by simp); have HB6 := Hid.in (below_step HB5.out hb6); have HBW6 := Hid.in (below_step HBW5.out hb6); have i60 : w6.cell? ⟨b, o + k * 9, none⟩ = some (.int .u8 x.k) := range_below HR.out HBW6.out 0 _ rfl; clear hown hgrow hb6)
            | (go_at_call 18; refine (hSB _ _ _ _ _ (fun h => absurd h (by rw [HPS.out]; omega)) (by rw [HPC.out]; exact HO6.out.row)).mono ?_; rintro E w7 ⟨rfl, m7, -, rfl⟩))
          go_roundw
          case rel => exact ⟨k + 1, by omega, by go_num, by rw [HST.out]; go_num, HBK.out.trans ((below_step HB6.out (below_draws (below_self w6) m7)).mono HBK.out.size)⟩
          case measure => simp [intOf]; omega
        · go_wp2_with (first
            | (refine step_load_at (range_below HR.out HBW.out) rfl 28 (.tmp 74) rfl rfl _ Tryz.underlying28 rfl Tryz.sz28 ?_)
            | (go_at_call 8; refine (hS _ (HE.out.below HBW.out) (HROW.out.below HBW.out)).mono ?_; rintro E w5 ⟨rfl, hb5⟩; have HB5 := Hid.in hb5; have HBW5 := Hid.in (below_step HBW.out hb5); have i50 : w5.cell? ⟨b, o + k * 9, none⟩ = some (.int .u8 x.k) := range_below HR.out HBW5.out 0 _ rfl; have i57 : w5.cell? ⟨b, o + k * 9 + 7, none⟩ = some (.int .i64 x.n) := range_below HR.out HBW5.out 7 _ rfl; have cp5 := (hb5.cell (p := ⟨pb, po + k, none⟩) (cell_lt cp)).trans cp; clear hb5)
            | (at_make; refine wpList_make_full _ rfl _ _ 26 rfl _ 5 i0 (.int .u8 0) 1 Tryz.underlying26 hi hz0 hz1 _ _ _ _ 0 rfl rfl rfl rfl (by rw [hz2]; omega) (by unfold maxLen; omega) (Nat.le_refl _) ?_; intro w6 hown hgrow; have HO6 := Hid.in (Own.of_made hown); have hb6 := (Below.refl w5.heap.size w5).grown hgrow (Nat.le_refl _) (by simp); have HB6 := Hid.in (below_step HB5.out hb6); have HBW6 := Hid.in (below_step HBW5.out hb6); have i60 : w6.cell? ⟨b, o + k * 9, none⟩ = some (.int .u8 x.k) := range_below HR.out HBW6.out 0 _ rfl; clear hown hgrow hb6)
            | (go_at_call 18; refine (hSB _ _ _ _ _ (fun h => absurd h (by rw [HPS.out]; omega)) (by rw [HPC.out]; exact HO6.out.row)).mono ?_; rintro E w7 ⟨rfl, m7, -, rfl⟩))
          go_roundw
          case rel => exact ⟨k + 1, by omega, by go_num, by rw [HST.out]; go_num, HBK.out.trans ((below_step HB6.out (below_draws (below_self w6) m7)).mono HBK.out.size)⟩
          case measure => simp [intOf]; omega
      · by_cases hk6 : x.k = 6
        · have hn0 : ¬ x.n = 0 := good_al HGD.out hk6
          have hrem := good_rem HGD.out hk6 a0 sz HSZ.out
          have HPC : Hid (pieceL x a0 = List.replicate sz 0) := by
            have : pieceL x a0 = List.replicate sz 0 := by unfold pieceL; rw [if_pos (.inr hk6), HSZ.out]
            exact this
          go_wp2_with (first
            | (refine step_load_at (range_below HR.out HBW.out) rfl 28 (.tmp 74) rfl rfl _ Tryz.underlying28 rfl Tryz.sz28 ?_)
            | (go_at_call 8; refine (hS _ (HE.out.below HBW.out) (HROW.out.below HBW.out)).mono ?_; rintro E w5 ⟨rfl, hb5⟩; have HB5 := Hid.in hb5; have HBW5 := Hid.in (below_step HBW.out hb5); have i50 : w5.cell? ⟨b, o + k * 9, none⟩ = some (.int .u8 x.k) := range_below HR.out HBW5.out 0 _ rfl; have i57 : w5.cell? ⟨b, o + k * 9 + 7, none⟩ = some (.int .i64 x.n) := range_below HR.out HBW5.out 7 _ rfl; have cp5 := (hb5.cell (p := ⟨pb, po + k, none⟩) (cell_lt cp)).trans cp; clear hb5)
            | (at_make; refine wpList_make_full _ rfl _ _ 26 rfl _ 5 i0 (.int .u8 0) 1 Tryz.underlying26 hi hz0 hz1 _ _ _ _ sz rfl rfl rfl rfl (by rw [hz2]; omega) (by unfold maxLen; omega) (Nat.le_refl _) ?_; intro w6 hown hgrow; have HO6 := Hid.in (Own.of_made hown); have hb6 := (Below.refl w5.heap.size w5).grown hgrow (Nat.le_refl _) (by simp); have HB6 := Hid.in (below_step HB5.out hb6); have HBW6 := Hid.in (below_step HBW5.out hb6); have i60 : w6.cell? ⟨b, o + k * 9, none⟩ = some (.int .u8 x.k) := range_below HR.out HBW6.out 0 _ rfl; clear hown hgrow hb6)
            | (go_at_call 18; refine (hSB _ _ _ _ _ (HPR _ HB6.out).out (by rw [HPC.out]; exact HO6.out.row)).mono ?_; rintro E w7 ⟨rfl, m7, -, rfl⟩))
          go_roundw
          case rel => exact ⟨k + 1, by omega, by go_num, by rw [HST.out]; go_num, HBK.out.trans ((below_step HB6.out (below_draws (below_self w6) m7)).mono HBK.out.size)⟩
          case measure => simp [intOf]; omega
        by_cases hk4 : x.k = 4
        · have hpd : pieceL x a0 = x.d := by unfold pieceL saidL; rw [if_neg (by omega), if_neg (by omega), if_pos hk4]
          have HPD := Hid.in hpd
          have HDL : Hid (x.d.length = sz) := by rw [← hpd]; exact HPS.out
          clear hpd
          go_wp2_with (first
            | (refine step_load_at (range_below HR.out HBW.out) rfl 28 (.tmp 74) rfl rfl _ Tryz.underlying28 rfl Tryz.sz28 ?_)
            | (go_at_call 8; refine (hS _ (HE.out.below HBW.out) (HROW.out.below HBW.out)).mono ?_; rintro E w5 ⟨rfl, hb5⟩; have HB5 := Hid.in hb5; have HBW5 := Hid.in (below_step HBW.out hb5); have i50 : w5.cell? ⟨b, o + k * 9, none⟩ = some (.int .u8 x.k) := range_below HR.out HBW5.out 0 _ rfl; have i57 : w5.cell? ⟨b, o + k * 9 + 7, none⟩ = some (.int .i64 x.n) := range_below HR.out HBW5.out 7 _ rfl; have cp5 := (hb5.cell (p := ⟨pb, po + k, none⟩) (cell_lt cp)).trans cp; clear hb5)
            | (at_make; refine wpList_make_full _ rfl _ _ 26 rfl _ 5 i0 (.int .u8 0) 1 Tryz.underlying26 hi hz0 hz1 _ _ _ _ sz rfl rfl rfl rfl (by rw [hz2]; omega) (by unfold maxLen; omega) (Nat.le_refl _) ?_; intro w6 hown hgrow; have HO6 := Hid.in (Own.of_made hown); have hb6 := (Below.refl w5.heap.size w5).grown hgrow (Nat.le_refl _) (by simp); have HB6 := Hid.in (below_step HB5.out hb6); have HBW6 := Hid.in (below_step HBW5.out hb6); have i60 : w6.cell? ⟨b, o + k * 9, none⟩ = some (.int .u8 x.k) := range_below HR.out HBW6.out 0 _ rfl; have i68 : w6.cell? ⟨b, o + k * 9 + 8, none⟩ = some (.slice q sz cq) := (range_below HR.out HBW6.out 8 _ rfl).trans (by rw [HDL.out]); clear hown hgrow hb6)
            | (go_at_call 18; refine (hSB _ _ _ _ _ (HPR _ HB6.out).out (by rw [HPD.out]; exact HROW.out.below HBW6.out)).mono ?_; rintro E w7 ⟨rfl, m7, -, rfl⟩))
          go_roundw
          case rel => exact ⟨k + 1, by omega, by go_num, by rw [HST.out]; go_num, HBK.out.trans ((below_step HB6.out (below_draws (below_self w6) m7)).mono HBK.out.size)⟩
          case measure => simp [intOf]; omega
        by_cases hk2 : x.k = 2
        · have hEnc := good_enc HFIT.out HGD.out hk2 a0 sz HSZ.out
          go_wp2_with (first
            | (refine step_load_at (range_below HR.out HBW.out) rfl 28 (.tmp 74) rfl rfl _ Tryz.underlying28 rfl Tryz.sz28 ?_)
            | (go_at_call 8; refine (hS _ (HE.out.below HBW.out) (HROW.out.below HBW.out)).mono ?_; rintro E w5 ⟨rfl, hb5⟩; have HB5 := Hid.in hb5; have HBW5 := Hid.in (below_step HBW.out hb5); have i50 : w5.cell? ⟨b, o + k * 9, none⟩ = some (.int .u8 x.k) := range_below HR.out HBW5.out 0 _ rfl; have i57 : w5.cell? ⟨b, o + k * 9 + 7, none⟩ = some (.int .i64 x.n) := range_below HR.out HBW5.out 7 _ rfl; have cp5 := (hb5.cell (p := ⟨pb, po + k, none⟩) (cell_lt cp)).trans cp; clear hb5)
            | (at_make; refine wpList_make_full _ rfl _ _ 26 rfl _ 5 i0 (.int .u8 0) 1 Tryz.underlying26 hi hz0 hz1 _ _ _ _ sz rfl rfl rfl rfl (by rw [hz2]; omega) (by unfold maxLen; omega) (Nat.le_refl _) ?_; intro w6 hown hgrow; have HO6 := Hid.in (Own.of_made hown); have hb6 := (Below.refl w5.heap.size w5).grown hgrow (Nat.le_refl _) (by simp); have HB6 := Hid.in (below_step HB5.out hb6); have HBW6 := Hid.in (below_step HBW5.out hb6); have i60 : w6.cell? ⟨b, o + k * 9, none⟩ = some (.int .u8 x.k) := range_below HR.out HBW6.out 0 _ rfl; have i63 : w6.cell? ⟨b, o + k * 9 + 3, none⟩ = some (.int .u8 x.o) := range_below HR.out HBW6.out 3 _ rfl; have i64 : w6.cell? ⟨b, o + k * 9 + 4, none⟩ = some (.int .u8 x.a) := range_below HR.out HBW6.out 4 _ rfl; have i65 : w6.cell? ⟨b, o + k * 9 + 5, none⟩ = some (.int .u8 x.b) := range_below HR.out HBW6.out 5 _ rfl; have i66 : w6.cell? ⟨b, o + k * 9 + 6, none⟩ = some (.int .i32 x.m) := range_below HR.out HBW6.out 6 _ rfl; clear hown hgrow hb6)
            | (go_at_call 20; refine (hEnc _).mono ?_; rintro E w7 ⟨g7, c7, rfl, hr7, hb7⟩; have HR7 := Hid.in hr7; have HB7 := Hid.in hb7; clear hr7 hb7)
            | (go_at_call 18; refine (hSB _ _ _ _ _ (HPR _ (below_step HB6.out HB7.out)).out HR7.out).mono ?_; rintro E w8 ⟨rfl, m7, -, rfl⟩))
          go_roundw
          case rel => exact ⟨k + 1, by omega, by go_num, by rw [HST.out]; go_num, HBK.out.trans ((below_step (below_step HB6.out HB7.out) (below_draws (below_self w7) m7)).mono HBK.out.size)⟩
          case measure => simp [intOf]; omega
        · have HPC : Hid (pieceL x a0 = List.replicate sz 0) := by
            have : pieceL x a0 = List.replicate sz 0 := by
              by_cases h5 : x.k = 5
              · unfold pieceL; rw [if_pos (.inl h5), HSZ.out]
              · have h6 : pieceL x a0 = [] := by unfold pieceL saidL; rw [if_neg (by omega), if_neg hk2, if_neg hk4]
                have h7 := HPS.out
                rw [h6] at h7 ⊢
                rw [← h7]; rfl
            exact this
          go_wp2_with (first
            | (refine step_load_at (range_below HR.out HBW.out) rfl 28 (.tmp 74) rfl rfl _ Tryz.underlying28 rfl Tryz.sz28 ?_)
            | (go_at_call 8; refine (hS _ (HE.out.below HBW.out) (HROW.out.below HBW.out)).mono ?_; rintro E w5 ⟨rfl, hb5⟩; have HB5 := Hid.in hb5; have HBW5 := Hid.in (below_step HBW.out hb5); have i50 : w5.cell? ⟨b, o + k * 9, none⟩ = some (.int .u8 x.k) := range_below HR.out HBW5.out 0 _ rfl; have i57 : w5.cell? ⟨b, o + k * 9 + 7, none⟩ = some (.int .i64 x.n) := range_below HR.out HBW5.out 7 _ rfl; have cp5 := (hb5.cell (p := ⟨pb, po + k, none⟩) (cell_lt cp)).trans cp; clear hb5)
            | (at_make; refine wpList_make_full _ rfl _ _ 26 rfl _ 5 i0 (.int .u8 0) 1 Tryz.underlying26 hi hz0 hz1 _ _ _ _ sz rfl rfl rfl rfl (by rw [hz2]; omega) (by unfold maxLen; omega) (Nat.le_refl _) ?_; intro w6 hown hgrow; have HO6 := Hid.in (Own.of_made hown); have hb6 := (Below.refl w5.heap.size w5).grown hgrow (Nat.le_refl _) (by simp); have HB6 := Hid.in (below_step HB5.out hb6); have HBW6 := Hid.in (below_step HBW5.out hb6); have i60 : w6.cell? ⟨b, o + k * 9, none⟩ = some (.int .u8 x.k) := range_below HR.out HBW6.out 0 _ rfl; clear hown hgrow hb6)
            | (go_at_call 18; refine (hSB _ _ _ _ _ (HPR _ HB6.out).out (by rw [HPC.out]; exact HO6.out.row)).mono ?_; rintro E w7 ⟨rfl, m7, -, rfl⟩))
          go_roundw
          case rel => exact ⟨k + 1, by omega, by go_num, by rw [HST.out]; go_num, HBK.out.trans ((below_step HB6.out (below_draws (below_self w6) m7)).mono HBK.out.size)⟩
          case measure => simp [intOf]; omega
    · have hkn : k = n := by omega
      subst hkn
      have htk : xs.take k = xs := by rw [← HN.out, List.take_length]
      rw [htk, HEE.out]
      have hC := copyItems_any p k c xs wr HN.out (by omega) (HX.out.below HBW.out)
      go_upto_region 27 with (first
        | (go_at_call 12; refine hC.mono ?_; rintro E w3 ⟨v3, L3, rfl, hm3, hI3, hb3⟩; have HM3 := Hid.in hm3; have HI3 := Hid.in hI3; have HB3 := Hid.in hb3; clear hm3 hI3 hb3)
        | (at_builtin; refine gappendI w w3 rfl _ _ rfl v3 L3 xs ys rfl (HI3.out.lower HBW.out.size) HM3.out HX.out.fit q2 n2 c2 rfl HN2.out HQ2.out HY.out (below_step HBW.out HB3.out) (by rw [HN.out]; omega) ?_; intro p4 c4 w4 hc41 hc42 hi4 hb4 hg4; have HB4 := Hid.in ((HB3.out).grown hg4 HB3.out.size fun kk hkk => (HI3.out.row.lt kk hkk).1); have HI4 := Hid.in hi4; have HW4 := Hid.in hb4; clear hi4 hb4 hg4))
      have hlen : (xs ++ ys).length = xs.length + n2 := by rw [List.length_append, HN2.out]
      have hP4 := places_any p4 (xs.length + n2) c4 (xs ++ ys) w4 (HE.out.below HW4.out) hlen hc41 (Nat.le_trans hc42 (by unfold maxLen; decide)) HI4.out
      have hB4 := fun W hW hX => bytes_any p4 (xs.length + n2) c4 (xs ++ ys) W hW hlen hc41 (Nat.le_trans hc42 (by unfold maxLen; decide)) hX
      unfold PlacesIs at hP4
      unfold BytesIs at hB4
      have HR4 := Hid.in (HRK.out.below HB4.out)
      have HO4 := Hid.in (HOK.out.below HB4.out)
      clear HI3 HB3 HM3 hC htk
      by_cases hboth : layE (xs ++ ys) = 0
      · obtain ⟨e1, e2, e3, e4, e5, e6⟩ := both_ok HL.out hboth
        rw [hboth] at hP4 hB4
        rw [HEE.out] at e2 e3
        have hpl : placesI xs = ints (placesL 0 xs).1 := by unfold placesI; rw [if_pos HL.out]
        have HPX : Hid ((ints (placesL 0 xs).1).length = k) := by
          have := HLN.out
          rw [show (nums (ints (placesL 0 xs).1)).length = (ints (placesL 0 xs).1).length from List.length_map _] at this
          exact this
        rw [hpl, HN.out] at e1
        have HE1 := Hid.in e1
        have HE2 := Hid.in e2
        have HE4 := Hid.in e4
        have HE5 : Hid ((nums (placesI (xs ++ ys))).length = k + n2) := by
          rw [show (nums (placesI (xs ++ ys))).length = (placesI (xs ++ ys)).length from List.length_map _, e5, HN.out, HN2.out]; exact rfl
        have HBL := Hid.in (bytes_len0 xs)
        generalize endI (xs ++ ys) = ei at *
        clear e1 e2 e4 e5 hpl hboth
        go_wp2_with (first
          | (go_at_call 13; refine hP4.mono ?_; rintro E w5 ⟨v5, rfl, hv5, hb5⟩; obtain ⟨p5, c5, hp5, hr5, hl5, -⟩ := hv5.slice; rw [HE5.out] at hp5 hl5; subst hp5; have HR5 := Hid.in hr5; have HB5 := Hid.in hb5; have HW5 := Hid.in (below_step HW4.out hb5); clear hv5 hr5 hb5)
          | (go_at_call 15; refine (hB4 _ (HE.out.below HW5.out) (HI4.out.below HB5.out)).mono ?_; rintro E w6 ⟨v6, rfl, hv6, hb6⟩; obtain ⟨p6, c6, hp6, hr6, hl6'⟩ := hv6.slice2; rw [HE4.out] at hp6 hl6'; subst hp6; refine Hid.out ?_))
        refine Lib.hid ?_
        have HR6 := Hid.in (row_take hr6 EE)
        have HR6' : Hid (Row w6 p6 (bytesL 0 xs)) := by
          have := HR6.out
          rw [HE2.out] at this
          exact this
        have HQ6 : Hid (GRow w6 p5 (nums (ints (placesL 0 xs).1))) := by
          have := (grow_take HR5.out k).below hb6
          rw [HE1.out] at this
          exact this
        have HP6 := Hid.in (HR4.out.below (below_step HB5.out hb6))
        have HO6 := Hid.in ((HO4.out.below (below_step HB5.out hb6)).row)
        have HW6 := Hid.in (below_step HW5.out hb6)
        have hSI := sameInts_self p5 p1 k c5 c1 (ints (placesL 0 xs).1) w6 (by omega) HPX.out HQ6.out HP6.out
        have hSB := fun m => sameBytes_any p6 (some ⟨g, 0, none⟩) EE c6 EE EE (bytesL 0 xs) (bytesL 0 xs) (w6.drewN m) (by rw [HBL.out, HEE.out]) (by rw [HBL.out, HEE.out]) (by omega) (HR6'.out.drewN m) (HO6.out.drewN m)
        rw [sameB_self] at hSB
        clear hv6 hb6 hr6 HR6 HR6' HQ6 HP6 HO6 HR5 HB5 HW5 HR4 HO4 hP4 hB4
        go_wp2_with (first
          | (go_at_call 17; refine hSI.mono ?_; rintro E w7 ⟨rfl, m7, rfl⟩)
          | (go_at_call 18; refine (hSB _).mono ?_; rintro E w8 ⟨rfl, m8, rfl⟩)
          | (go_at_call 11; refine (hA _ (HE.out.below (below_draws HW6.out _))).mono ?_; rintro E w9 ⟨rfl, hb9⟩; have HB9 := Hid.in (below_step (below_draws HW6.out _) hb9); clear hb9))
        go_ret
        exact ⟨rfl, HB9.out⟩
      · generalize layE (xs ++ ys) = le2 at *
        clear hB4 HR4 HO4
        go_wp2_with (first
          | (go_at_call 13; refine hP4.mono ?_; rintro E w5 ⟨v5, rfl, hv5, hb5⟩; have HW5 := Hid.in (below_step HW4.out hb5); clear hv5 hb5)
          | (go_at_call 11; refine (hA _ (HE.out.below HW5.out)).mono ?_; rintro E w9 ⟨rfl, hb9⟩))
        go_ret
        exact ⟨rfl, below_step HW5.out hb9⟩
theorem stands_any (p : Option Addr) (n c : Nat) (xs : List Src) (q2 : Option Addr) (n2 c2 : Nat) (ys : List Src) (w : World) (he : Env w) (hn : xs.length = n) (hnc : n ≤ c) (hc : c ≤ 1048576) (hx : Items w p xs)
    (hn2 : ys.length = n2) (hnc2 : n2 ≤ c2) (hc2 : c2 ≤ 1048576) (hy : Items w q2 ys) (hq2 : q2 = none → n2 = 0 ∧ c2 = 0) :
    Calls Tryz.prog 5 #[.slice p n c, .slice q2 n2 c2] w fun E w' => E = .returned (.bool true) ∧ Below w.heap.size w w' := by
  by_cases hl : layE xs = 0
  · exact stands_ok p n c xs q2 n2 c2 ys w he hn hnc hc hx hn2 hnc2 hc2 hy hq2 hl
  · exact stands_bad p n c xs _ w he hn hnc hc hx hl

end Go.Proofs.YthjbdbmncfbihaaGreatDoor
