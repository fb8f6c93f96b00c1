/- Texts put together: TellsW. -/
import Derived.Test.YthjbdbmncfbihaaGreatDoorKzh
import Derived.Test.YthjbdbmncfbihaaGreatDoorKzg
import Derived.Test.YthjbdbmncfbihaaGreatDoorKzi
import Derived.Test.YthjbdbmncfbihaaGreatDoorKzd

/- switchyardlaw05.LayoutTells answers true. -/
namespace Go.Proofs.YthjbdbmncfbihaaGreatDoor
open Go.RowKit

theorem IOwn.fitting {xs : List Src} {L : List (Src × Value)} (hm : L.map Prod.fst = xs) (hf : ∀ x ∈ xs, Fit x) : ∀ q ∈ L, Fit q.1 := fun q hq => hf _ (by rw [← hm]; exact List.mem_map_of_mem hq)
theorem IOwn.list {w : World} {B : Nat} {v : Value} {L : List (Src × Value)} {xs : List Src} (h : IOwn w B v L) (hm : L.map Prod.fst = xs) (hf : ∀ x ∈ xs, Fit x) : ∃ p cap, v = .slice p xs.length cap ∧ xs.length ≤ cap ∧ cap ≤ maxLen ∧ Items w p xs := by
  obtain ⟨p, cap, rfl, h1, h2, -⟩ := h.shape
  have hl : L.length = xs.length := by rw [← hm, List.length_map]
  rw [hl] at h1
  refine ⟨p, cap, by rw [hl], h1, h2, ?_⟩
  rw [← hm]
  exact h.items (IOwn.fitting hm hf) rfl

theorem placesI_len (xs : List Src) : (placesI xs).length ≤ xs.length := by
  unfold placesI
  split
  · rw [show (ints (placesL 0 xs).1).length = (placesL 0 xs).1.length from List.length_map _, places_length]; exact Nat.le_refl _
  · exact Nat.zero_le _
theorem bytesI_len (xs : List Src) : (bytesI xs).length ≤ 65536 := by
  unfold bytesI
  split
  · rename_i h
    rw [bytes_len0]
    exact (layE_ok h).2
  · exact Nat.zero_le _

set_option maxRecDepth 20000 in
set_option maxHeartbeats 2000000 in
theorem tells_any (p : Option Addr) (n c : Nat) (xs : List Src) (w : World) (he : Env w) (hn : xs.length = n) (hnc : n ≤ c) (hc : c ≤ 1048576) (hx : Items w p xs) :
    Calls Tryz.prog 4 #[.slice p n c] w fun E w' => E = .returned (.bool true) ∧ Below w.heap.size w w' := by
  have hC := copyItems_any p n c xs w hn (by omega) hx
  have HX := Hid.in hx
  have HE := Hid.in he
  have HN := Hid.in hn
  clear hx he
  go_enter Tryz.func4, Tryz.ntmps4
  go_upto_region 2 with (go_at_call 12; refine hC.mono ?_; rintro E w1 ⟨v1, L1, rfl, hm1, hI1, hb1⟩; obtain ⟨p1, c1, rfl, hl1, hlm1, hi1⟩ := hI1.list hm1 HX.out.fit; have HI1 := Hid.in hi1; have HB1 := Hid.in hb1; clear hI1 hi1 hb1 hm1)
  rw [HN.out] at hl1
  have hP1 := fun W hW hX => places_any p1 n c1 xs W hW HN.out hl1 (Nat.le_trans hlm1 (by unfold maxLen; decide)) hX
  have hP2 := fun W hX => refPlaces_any p n c xs W HN.out (by omega) hX
  have hB1 := fun W hW hX => bytes_any p1 n c1 xs W hW HN.out hl1 (Nat.le_trans hlm1 (by unfold maxLen; decide)) hX
  have hB2 := fun W hX => refBytes_any p n c xs W HN.out (by omega) hX
  have hS := fun W hX hY => sameItems_yes p1 p n c1 c xs W HN.out (by omega) (fun x hx => Nat.le_trans (HX.out.fit x hx).dz (by decide)) hX hY
  have hA := fun W hW => awake_any W hW
  unfold PlacesIs at hP1 hP2
  unfold BytesIs at hB1 hB2
  have HZI : Hid ((placesI xs).length ≤ n) := HN.out ▸ placesI_len xs
  have HZB := Hid.in (bytesI_len xs)
  generalize endI xs = ei at *
  generalize layE xs = le at *
  clear hC hn
  go_wp2_with (first
    | (go_at_call 13; refine (hP1 _ (HE.out.below HB1.out) HI1.out).mono ?_; rintro E w2 ⟨v2, rfl, hv2, hb2⟩; have HB2 := Hid.in (below_step HB1.out hb2); have HI2 := Hid.in (HI1.out.below hb2); have HV2 := Hid.in hv2; clear hb2 hv2)
    | (go_at_call 14; refine (hP2 _ (HX.out.below HB2.out)).mono ?_; rintro E w3 ⟨v3, rfl, hv3, hb3⟩; have HB3 := Hid.in (below_step HB2.out hb3); have HI3 := Hid.in (HI2.out.below hb3); have HV3 := Hid.in (HV2.out.below hb3); have HU3 := Hid.in hv3; clear hb3 hv3)
    | (go_at_call 15; refine (hB1 _ (HE.out.below HB3.out) HI3.out).mono ?_; rintro E w4 ⟨v4, rfl, hv4, hb4⟩; have HB4 := Hid.in (below_step HB3.out hb4); have HI4 := Hid.in (HI3.out.below hb4); have HV4 := Hid.in (HV3.out.below hb4); have HU4 := Hid.in (HU3.out.below hb4); have HS4 := Hid.in hv4; clear hb4 hv4)
    | (go_at_call 16; refine (hB2 _ (HX.out.below HB4.out)).mono ?_; rintro E w5 ⟨v5, rfl, hv5, hb5⟩; have HB5 := Hid.in (below_step HB4.out hb5); have HI5 := Hid.in (HI4.out.below hb5); have HV5 := Hid.in (HV4.out.below hb5); have HU5 := Hid.in (HU4.out.below hb5); have HS5 := Hid.in (HS4.out.below hb5); have HT5 := Hid.in hv5; clear hb5 hv5; refine Hid.out ?_))
  refine Lib.hid ?_
  clear HI1 HI2 HI3 HI4 HV2 HV3 HV4 HU3 HU4 HS4 hP1 hP2 hB1 hB2
  obtain ⟨q2, d2, hq2, hr2, -, -⟩ := HV5.out.slice
  obtain ⟨q3, d3, hq3, hr3, -, -⟩ := HU5.out.slice
  obtain ⟨q4, d4, hq4, hr4, -⟩ := HS5.out.slice
  obtain ⟨q5, d5, hq5, hr5, -⟩ := HT5.out.slice
  have hSI := sameInts_self q2 q3 (placesI xs).length d2 d3 (placesI xs) w5 (by have := HZI.out; omega) rfl hr2 hr3
  have hnl : (nums (placesI xs)).length = (placesI xs).length := by simp [nums]
  rw [hnl] at hq2 hq3
  have HR4 := Hid.in hr4
  have HR5 := Hid.in hr5
  generalize (placesI xs).length = zi at *
  have hSB := fun m => sameBytes_any q4 q5 (bytesI xs).length d4 (bytesI xs).length d5 (bytesI xs) (bytesI xs) (w5.drewN m) rfl rfl (Nat.le_trans HZB.out (by decide)) (HR4.out.drewN m) (HR5.out.drewN m)
  rw [sameB_self] at hSB
  generalize (bytesI xs).length = zb at *
  subst hq2 hq3 hq4 hq5
  clear HV5 HU5 HS5 HT5 hr2 hr3 hr4 hr5 hnl HR4 HR5
  go_wp2_with (first
    | (go_at_call 17; refine hSI.mono ?_; rintro E w6 ⟨rfl, m6, rfl⟩)
    | (go_at_call 18; refine (hSB _).mono ?_; rintro E w7 ⟨rfl, m7, rfl⟩)
    | (go_at_call 19; refine (hS _ (HI5.out.below (below_draws (below_self w5) _)) (HX.out.below (below_draws HB5.out _))).mono ?_; rintro E w8 ⟨rfl, hb8⟩; have HB8 := Hid.in (below_step (below_draws HB5.out _) hb8); clear hb8)
    | (go_at_call 11; refine (hA _ (HE.out.below HB8.out)).mono ?_; rintro E w9 ⟨rfl, hb9⟩))
  go_ret
  exact ⟨rfl, below_step HB8.out hb9⟩

end Go.Proofs.YthjbdbmncfbihaaGreatDoor
