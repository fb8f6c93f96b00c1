/- Texts put together: Byt1, Byt2. -/
import Derived.Test.YtkianldkbfjehaaGreatDoorKs
import Derived.Laws.CopyOwn
import Derived.Test.YtkianldkbfjehaaGreatDoorKzd

/- layout.Bytes: what has been copied so far. -/
namespace Go.Proofs.YtkianldkbfjehaaGreatDoor
open Go.RowKit

theorem own_full {w : World} {B g cap : Nat} {xs : List Int} (h : Own w B g cap xs) (hl : xs.length = cap) : w.heap[g]? = some (.cells (byts xs).toArray 5 (0, 0)) := by
  obtain ⟨cur, _, h2, _, _, h5, h6⟩ := h.parts
  have : cur.toList = byts xs := by
    rw [← h6, hl, ← h5, ← Array.length_toList, List.take_length]
  rw [h2, ← this]
theorem own_of_full {w : World} {B g : Nat} {xs : List Int} (hB : B ≤ g) (h : w.heap[g]? = some (.cells (byts xs).toArray 5 (0, 0))) (hm : xs.length ≤ maxLen) : Own w B g xs.length xs :=
  Own.mk hB h (Nat.le_refl _) hm (by simp [byts]) (by rw [← show (byts xs).length = xs.length from List.length_map _]; exact List.take_length)
/-- what stands in the slice that was made, with k items copied -/
def outL (xs : List Src) (E k : Nat) : List Int := bytesL 0 (xs.take k) ++ List.replicate (E - (placesL 0 (xs.take k)).2) 0
theorem bytes_len0 (xs : List Src) : (bytesL 0 xs).length = (placesL 0 xs).2 := by
  have := bytes_length xs 0
  omega
theorem outL_len (xs : List Src) (E k : Nat) (h : (placesL 0 xs).2 = E) : (outL xs E k).length = E := by
  have := place_le xs 0 k
  unfold outL
  rw [List.length_append, List.length_replicate, bytes_len0]
  omega
theorem outL_zero (xs : List Src) (E : Nat) : outL xs E 0 = List.replicate E 0 := by simp [outL, bytesL, placesL]
theorem outL_end (xs : List Src) (E : Nat) (h : (placesL 0 xs).2 = E) : outL xs E xs.length = bytesL 0 xs := by
  unfold outL
  rw [List.take_length, h, Nat.sub_self]; simp
theorem said_le (x : Src) (a : Nat) : (saidL x).length ≤ sizeL x a := by
  unfold sizeL
  by_cases h5 : x.k = 5
  · rw [if_pos h5]; unfold saidL; rw [if_neg (by omega), if_neg (by omega)]; exact Nat.zero_le _
  · rw [if_neg h5]
    by_cases h6 : x.k = 6
    · rw [if_pos h6]; unfold saidL; rw [if_neg (by omega), if_neg (by omega)]; exact Nat.zero_le _
    · rw [if_neg h6]; exact Nat.le_refl _
theorem outL_step (xs : List Src) (E k : Nat) (hk : k < xs.length) (h : (placesL 0 xs).2 = E) :
    splice (byts (outL xs E k)) (placesL 0 (xs.take k)).2 (byts (saidL xs[k])) = byts (outL xs E (k + 1)) := by
  have hle := place_le xs 0 (k + 1)
  have hst := place_step xs 0 k hk
  have hbt := bytes_take xs 0 k hk
  have hln := bytes_len0 (xs.take k)
  unfold splice outL
  rw [hbt]
  generalize (placesL 0 (xs.take (k + 1))).2 = a1 at *
  generalize (placesL 0 (xs.take k)).2 = a0 at *
  generalize bytesL 0 (xs.take k) = A at *
  generalize xs[k] = x at *
  have e1 : (byts (A ++ List.replicate (E - a0) 0)).take a0 = byts A := by
    unfold byts
    rw [List.map_append, List.take_left' (by simp [hln])]
  have e2 : ∀ s, (byts (A ++ List.replicate (E - a0) 0)).drop (a0 + s) = byts (List.replicate (E - a0 - s) 0) := fun s => by
    unfold byts
    rw [List.map_append, List.drop_append, List.drop_eq_nil_of_le (by simp [hln]), List.nil_append, List.length_map, hln, ← List.map_drop, List.drop_replicate, Nat.add_sub_cancel_left]
  rw [e1, e2]
  have hl2 : (byts (saidL x)).length = (saidL x).length := List.length_map _
  rw [hl2]
  have hp : pieceL x a0 = saidL x ∧ sizeL x a0 = (saidL x).length ∨ saidL x = [] ∧ pieceL x a0 = List.replicate (sizeL x a0) 0 := by
    by_cases h56 : x.k = 5 ∨ x.k = 6
    · refine .inr ⟨?_, ?_⟩
      · unfold saidL; rw [if_neg (by omega), if_neg (by omega)]
      · unfold pieceL; rw [if_pos h56]
    · refine .inl ⟨?_, ?_⟩
      · unfold pieceL; rw [if_neg h56]
      · unfold sizeL; rw [if_neg (fun e => h56 (.inl e)), if_neg (fun e => h56 (.inr e))]
  rcases hp with ⟨h1, h2⟩ | ⟨h1, h2⟩
  · rw [h1, show E - a0 - (saidL x).length = E - a1 by omega]
    simp [byts]
  · rw [h1, h2, show E - a0 - ([] : List Int).length = sizeL x a0 + (E - a1) by simp; omega, ← List.replicate_append_replicate]
    simp [byts]

end Go.Proofs.YtkianldkbfjehaaGreatDoor

/- layout.Bytes, for every list of items. -/
namespace Go.Proofs.YtkianldkbfjehaaGreatDoor
open Go.RowKit

def bytesI (xs : List Src) : List Int := if layE xs = 0 then bytesL 0 xs else []
def BytesIs (xs : List Src) (w : World) (E : Ending) (w' : World) : Prop := ∃ v, E = .returned (.tuple #[v, .int .i64 (layE xs)]) ∧ OwnV w' w.heap.size v (bytesI xs) ∧ Below w.heap.size w w'

theorem byts_len (xs : List Int) : (byts xs).length = xs.length := List.length_map _
theorem byts_one (xs : List Int) : ∀ v ∈ byts xs, v.oneCell' = true := by
  intro v hv
  unfold byts at hv
  rw [List.mem_map] at hv
  obtain ⟨z, _, rfl⟩ := hv
  rfl
theorem row_news {w : World} {q : Option Addr} {xs : List Int} (h : Row w q xs) (h0 : 0 < (byts xs).length) : ∃ ad, q = some ad ∧ ∀ j v, (byts xs)[j]? = some v → w.cell? (ad.add j) = some v := by
  rw [byts_len] at h0
  obtain ⟨b, o, rfl, hc⟩ := h h0
  refine ⟨_, rfl, fun j v hv => ?_⟩
  have hj : j < xs.length := by
    have := (List.getElem?_eq_some_iff.1 hv).1
    rw [byts_len] at this
    exact this
  rw [Go.WideShapes.add_plain, hc j hj, ← hv, getD_byts xs j hj]

set_option maxRecDepth 20000 in
set_option maxHeartbeats 2000000 in
theorem bytes_any (p : Option Addr) (n c : Nat) (xs : List Src) (w : World) (he : Env w) (hn : xs.length = n) (hnc : n ≤ c) (hc63 : c ≤ 9223372036854775807) (hx : Items w p xs) :
    Calls Tryz.prog 17 #[.slice p n c] w (BytesIs xs w) := by
  have hP := places_any p n c xs w he hn hnc hc63 hx
  by_cases hl : layE xs = 0
  · obtain ⟨hck, hend⟩ := layE_ok hl
    obtain ⟨hl4, hmay⟩ := check_good hck
    obtain ⟨i0, hi, hz0, hz1, hz2⟩ := info_parts Tryz.info5
    have h2 : endI xs = (placesL 0 xs).2 := by unfold endI; rw [if_pos hl]
    have h3 : placesI xs = ints (placesL 0 xs).1 := by unfold placesI; rw [if_pos hl]
    unfold PlacesIs at hP
    rw [hl, h2, h3] at hP
    have HL : Hid (BytesIs xs w = fun E w' => ∃ v, E = .returned (.tuple #[v, .int .i64 0]) ∧ OwnV w' w.heap.size v (bytesL 0 xs) ∧ Below w.heap.size w w') := by
      have h4 : bytesI xs = bytesL 0 xs := by unfold bytesI; rw [if_pos hl]
      unfold BytesIs
      rw [hl, h4]; exact rfl
    rw [HL.out]
    obtain ⟨EE, hEE⟩ : ∃ EE, (placesL 0 xs).2 = EE := ⟨_, rfl⟩
    rw [hEE] at hP hend
    have HX := Hid.in hx
    have HN := Hid.in hn
    have HMAY := Hid.in hmay
    have HEE := Hid.in hEE
    have hn4 : n ≤ 4096 := by omega
    have HLN : Hid ((nums (ints (placesL 0 xs).1)).length = n) := by
      rw [show (nums (ints (placesL 0 xs).1)).length = (placesL 0 xs).1.length by simp [nums, ints], places_length, HN.out]; exact rfl
    clear HL h2 h3 hl hck hmay he hx hn hl4 hEE
    go_enter Tryz.func17, Tryz.ntmps17
    go_upto_region 5 with (first
      | (go_at_call 18; refine hP.mono ?_; rintro E w1 ⟨v1, rfl, hv1, hb1⟩; obtain ⟨p1, c1, hpv, hr1, -, -⟩ := hv1.slice; rw [HLN.out] at hpv; subst hpv; have HR1 := Hid.in hr1; have HB1 := Hid.in hb1; clear hv1 hb1 hr1)
      | (at_make; refine wpList_make_full _ rfl _ _ 24 rfl _ 5 i0 (.int .u8 0) 1 Tryz.underlying24 hi hz0 hz1 _ _ _ _ EE rfl rfl rfl rfl (by rw [hz2]; omega) (by unfold maxLen; omega) (Nat.le_refl _) ?_; intro w2 hown hgrow; have HO2 := Hid.in (Own.of_made hown); have HW2 := Hid.in ((Below.refl w1.heap.size w1).grown hgrow (Nat.le_refl _) (by simp)); clear hown hgrow))
    have HSZ := Hid.in HB1.out.size
    have HX1 := Hid.in (HX.out.below HB1.out)
    clear hP
    go_wp2_with fail
    go_loopw [22] (fun i wr => ∃ k : Nat, k ≤ n ∧ i = .int .i64 k ∧ Own wr w1.heap.size w1.heap.size EE (outL xs EE k) ∧ Below w1.heap.size w1 wr) (fun i _ => n - (intOf i).toNat)
    case atStart => exact ⟨0, Nat.zero_le _, rfl, by rw [outL_zero]; exact HO2.out, HW2.out⟩
    case round =>
      obtain ⟨k, hk, rfl, hO, hb⟩ := hrel
      have HO := Hid.in hO
      have HB := Hid.in hb
      clear hO hb
      by_cases hlt : k < n
      · have hkx : k < xs.length := by rw [HN.out]; exact hlt
        obtain ⟨pb, po, hpp, hpc⟩ := HR1.out.below HB.out (by rw [HLN.out]; omega)
        have hat : (nums (ints (placesL 0 xs).1))[k]? = some (.int .i64 ((placesL 0 (xs.take k)).2 : Nat)) := by
          simp [nums, ints, place_get xs 0 k hkx]
        have cp := (hpc k (by rw [HLN.out]; exact hlt)).trans hat
        obtain ⟨b, o, hp, hc⟩ := HX1.out.below HB.out (by omega)
        subst hpp
        subst hp
        obtain ⟨q, cq, hR, hrow, hfit⟩ := hc k hkx
        have hg := may_good (HMAY.out _ (List.getElem_mem hkx))
        have hle := place_le xs 0 (k + 1)
        have hst := place_step xs 0 k hkx
        rw [HEE.out, hst] at hle
        have hsl := said_le xs[k] (placesL 0 (xs.take k)).2
        have HST := Hid.in (outL_step xs EE k hkx HEE.out)
        have HFULL := Hid.in (own_full HO.out (outL_len xs EE k HEE.out))
        clear hpc hat hc hst
        generalize (placesL 0 (xs.take k)).2 = a0 at *
        generalize xs[k] = x at *
        have hZ := fun y => said_any x hfit hg q _ cq (wr.drewN y) rfl (hrow.drewN y)
        have hae : a0 ≤ EE := by omega
        have i0 : wr.cell? ⟨b, o + k * 9, none⟩ = some (.int .u8 x.k) := hR 0 _ rfl
        have i1 : wr.cell? ⟨b, o + k * 9 + 1, none⟩ = some (.string x.name) := hR 1 _ rfl
        have i2 : wr.cell? ⟨b, o + k * 9 + 2, none⟩ = some (.string x.tg) := hR 2 _ rfl
        have i3 : wr.cell? ⟨b, o + k * 9 + 3, none⟩ = some (.int .u8 x.o) := hR 3 _ rfl
        have i4 : wr.cell? ⟨b, o + k * 9 + 4, none⟩ = some (.int .u8 x.a) := hR 4 _ rfl
        have i5 : wr.cell? ⟨b, o + k * 9 + 5, none⟩ = some (.int .u8 x.b) := hR 5 _ rfl
        have i6 : wr.cell? ⟨b, o + k * 9 + 6, none⟩ = some (.int .i32 x.m) := hR 6 _ rfl
        have i7 : wr.cell? ⟨b, o + k * 9 + 7, none⟩ = some (.int .i64 x.n) := hR 7 _ rfl
        have i8 : wr.cell? ⟨b, o + k * 9 + 8, none⟩ = some (.slice q x.d.length cq) := hR 8 _ rfl
        have hsz := hle
        simp only [cellsOf] at hZ
        clear hR hrow hfit hg
        have HOL := Hid.in (outL_len xs EE k HEE.out)
        have HOL2 := Hid.in (outL_len xs EE (k + 1) HEE.out)
        generalize outL xs EE k = o0 at *
        generalize hO1 : outL xs EE (k + 1) = o1 at *
        have HO1 := Hid.in hO1
        clear hO1
        generalize saidL x = sd at *
        generalize sizeL x a0 = sz at *
        by_cases hend0 : EE = a0
        · have hs0 : sd.length = 0 := by omega
          have hsd : sd = [] := List.eq_nil_of_length_eq_zero hs0
          subst hsd
          subst hend0
          go_wp2_with fail
          go_region_law (first
            | (go_simp; go_at_call 49; refine (hZ 1).mono ?_; rintro E w5 ⟨q5, c5, rfl, hr5, hb5⟩; have HR5 := Hid.in hr5; have HB5 := Hid.in (below_step (below_draws (below_self wr) 1) hb5); have cp5 := (HB5.out.cell (p := ⟨pb, po + k, none⟩) (cell_lt cp)).trans cp; clear hr5 hb5)
            | (refine step_copy_splice (by rfl) _ _ 24 24 (by rfl) 5 Tryz.underlying24 Tryz.size5 _ _ _ _ _ _ (by rfl) (by rfl) w1.heap.size EE (byts o0) 5 ((HB5.out.block _ HO.out.lt).trans HFULL.out) (byts []) (by simp [byts]) (fun h => absurd h (Nat.lt_irrefl 0)) (by simp [byts]; have := HOL.out; omega) (byts_one _) w1.heap.size w1 (HB.out.trans (HB5.out.mono HB.out.size)) (Nat.le_refl _) ?_; intro w6 hH6 hb6; have HB6 := Hid.in hb6; clear hb6))
          all_goals
            rw [HST.out] at hH6
            go_wp2_with fail
            go_roundw
            case rel => exact ⟨k + 1, by omega, by go_num, by have := own_of_full (Nat.le_refl _) hH6.out (by rw [HOL2.out]; unfold maxLen; omega); rw [HOL2.out] at this; rw [HO1.out]; exact this, HB6.out⟩
            case measure => simp [intOf]; omega
        · go_wp2_with fail
          go_region_law (first
            | (go_simp; go_at_call 49; refine (hZ 1).mono ?_; rintro E w5 ⟨q5, c5, rfl, hr5, hb5⟩; have HR5 := Hid.in hr5; have HB5 := Hid.in (below_step (below_draws (below_self wr) 1) hb5); have cp5 := (HB5.out.cell (p := ⟨pb, po + k, none⟩) (cell_lt cp)).trans cp; clear hr5 hb5)
            | (refine step_copy_splice (by rfl) _ _ 24 24 (by rfl) 5 Tryz.underlying24 Tryz.size5 _ _ _ _ _ _ (by rfl) (by rfl) w1.heap.size a0 (byts o0) 5 ((HB5.out.block _ HO.out.lt).trans HFULL.out) (byts sd) (by rw [byts_len]; exact (Nat.min_eq_left (by omega)).symm) (fun h => ⟨by first | rfl | simp, row_news HR5.out h⟩) (by rw [byts_len, byts_len, HOL.out]; omega) (byts_one _) w1.heap.size w1 (HB.out.trans (HB5.out.mono HB.out.size)) (Nat.le_refl _) ?_; intro w6 hH6 hb6; have HB6 := Hid.in hb6; clear hb6))
          all_goals
            rw [HST.out] at hH6
            go_wp2_with fail
            go_roundw
            case rel => exact ⟨k + 1, by omega, by go_num, by have := own_of_full (Nat.le_refl _) hH6.out (by rw [HOL2.out]; unfold maxLen; omega); rw [HOL2.out] at this; rw [HO1.out]; exact this, HB6.out⟩
            case measure => simp [intOf]; omega
      · have hkn : k = n := by omega
        have HEND : Hid (Own wr w1.heap.size w1.heap.size EE (bytesL 0 xs)) := by
          have := HO.out
          rw [hkn, ← HN.out, outL_end xs EE HEE.out] at this
          exact this
        go_wp2_with fail
        go_ret2
        refine ⟨_, rfl, ?_, HB1.out.trans (HB.out.mono HSZ.out)⟩
        have hv := (HEND.out.lower HSZ.out).val
        rw [bytes_len0, HEE.out] at hv
        exact hv
  · have HL : Hid (BytesIs xs w = fun E w' => ∃ v, E = .returned (.tuple #[v, .int .i64 (layE xs)]) ∧ OwnV w' w.heap.size v [] ∧ Below w.heap.size w w') := by
      have h4 : bytesI xs = [] := by unfold bytesI; rw [if_neg hl]
      unfold BytesIs
      rw [h4]; exact rfl
    rw [HL.out]
    unfold PlacesIs at hP
    generalize layE xs = r1 at *
    generalize endI xs = r2 at *
    clear HL he hx hn
    go_enter Tryz.func17, Tryz.ntmps17
    go_wp2_with (go_at_call 18; refine hP.mono ?_; rintro E w1 ⟨v1, rfl, -, hb1⟩)
    go_ret2
    exact ⟨_, rfl, OwnV.nil _ _, hb1⟩

end Go.Proofs.YtkianldkbfjehaaGreatDoor
