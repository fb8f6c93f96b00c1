/- Texts put together: MakeW, MakeX, MakeY, MakeZ. -/
import Derived.Test.YtkianldkbfjehaaGreatDoorKzt
import Derived.Test.YtkianldkbfjehaaGreatDoorKzr
import Derived.Test.YtkianldkbfjehaaGreatDoorKzs
import Derived.Test.YtkianldkbfjehaaGreatDoorKzo
import Derived.Test.YtkianldkbfjehaaGreatDoorKi

/- object.Make: the errors. -/
namespace Go.Proofs.YtkianldkbfjehaaGreatDoor
open Go.RowKit

abbrev noObj : Array Value := #[.slice none 0 0, .slice none 0 0, .slice none 0 0, .slice none 0 0]

theorem noObj_one : noObj.all (·.oneCell') = true := by kernel_rfl
theorem Tryz.sz29 : (Tryz.prog.info? 29).map (·.size) = some noObj.size := by kernel_rfl
set_option maxRecDepth 20000 in
set_option maxHeartbeats 2000000 in
theorem make_bad (p : Option Addr) (n c : Nat) (xs : List Src) (w : World) (he : Env w) (hn : xs.length = n) (hnc : n ≤ c) (hc63 : c ≤ 9223372036854775807) (hx : Items w p xs) (hck : (checkL xs).1 ≠ 0) :
    Calls Tryz.prog 8 #[.slice p n c] w fun E w' => E = .returned (.tuple #[.agg noObj, .int .i64 (checkL xs).1, .int .i64 (checkL xs).2]) ∧ Below w.heap.size w w' := by
  have hC := check_any p n c xs (w.alloc (.cells noObj 29)) (he.below (new_alloc w _)) hn hnc hc63 (hx.below (new_alloc w _))
  have hB0 := Hid.in (Blk.new w 29 noObj)
  clear he hn hx
  generalize checkL xs = r at *
  obtain ⟨r1, r2⟩ := r
  simp only at hC hck ⊢
  go_enter Tryz.func8, Tryz.ntmps8
  go_upto_region 2 with (go_at_call 23; refine hC.mono ?_; rintro E w1 ⟨rfl, hb1⟩; have HK1 := Hid.in (hB0.out.grow hb1); have HB1 := Hid.in (below_step (new_alloc w _) hb1); clear hb1)
  clear hC hB0
  go_wp2_with (refine step_store_blk HK1.out rfl 29 (.tmp 2) (.tmp 21) rfl rfl rfl noObj rfl Tryz.sz29 rfl noObj_one ?_; intro w2 hK2 hg2; have HK2 := Hid.in hK2; have HG2 := Hid.in hg2; clear hK2 hg2)
  have hld := HK2.out.load 29 _ Tryz.underlying29 rfl Tryz.sz29
  exact bodyPost_ret (v := .tuple #[.agg noObj, .int .i64 r1, .int .i64 r2]) (by simp [results, Tryz.results8, asAddr, hld]) rfl ⟨rfl, HB1.out.grown HG2.out HB1.out.size (fun k hk => by cases hk; exact Nat.le_refl _)⟩

end Go.Proofs.YtkianldkbfjehaaGreatDoor

/- object.Make: a source that is too long. -/
namespace Go.Proofs.YtkianldkbfjehaaGreatDoor
open Go.RowKit

set_option maxRecDepth 20000 in
set_option maxHeartbeats 2000000 in
theorem make_long (p : Option Addr) (n c : Nat) (xs : List Src) (w : World) (he : Env w) (hn : xs.length = n) (hnc : n ≤ c) (hc63 : c ≤ 9223372036854775807) (hx : Items w p xs) (hck : (checkL xs).1 = 0) (hle : layE xs ≠ 0) :
    Calls Tryz.prog 8 #[.slice p n c] w fun E w' => E = .returned (.tuple #[.agg noObj, .int .i64 (layE xs), .int .i64 0]) ∧ Below w.heap.size w w' := by
  have hC := check_any p n c xs (w.alloc (.cells noObj 29)) (he.below (new_alloc w _)) hn hnc hc63 (hx.below (new_alloc w _))
  have hP := fun W hW hX => places_any p n c xs W hW hn hnc hc63 hX
  have HE := Hid.in he
  have HX := Hid.in hx
  have hB0 := Hid.in (Blk.new w 29 noObj)
  clear he hn hx
  rw [hck] at hC
  unfold PlacesIs at hP
  generalize (checkL xs).2 = r2 at *
  generalize layE xs = r1 at *
  generalize endI xs = r3 at *
  clear hck
  go_enter Tryz.func8, Tryz.ntmps8
  go_upto_region 5 with (first
    | (go_at_call 23; refine hC.mono ?_; rintro E w1 ⟨rfl, hb1⟩; have HK1 := Hid.in (hB0.out.grow hb1); have HB1 := Hid.in (below_step (new_alloc w _) hb1); clear hb1)
    | (go_at_call 18; refine (hP _ (HE.out.below HB1.out) (HX.out.below HB1.out)).mono ?_; rintro E w2 ⟨v2, rfl, -, hb2⟩; have HK2 := Hid.in (HK1.out.grow hb2); have HB2 := Hid.in (below_step HB1.out hb2); clear hb2))
  clear hC hP hB0
  go_wp2_with (refine step_store_blk HK2.out rfl 29 (.tmp 2) (.tmp 32) rfl rfl rfl noObj rfl Tryz.sz29 rfl noObj_one ?_; intro w3 hK3 hg3; have HK3 := Hid.in hK3; have HG3 := Hid.in hg3; clear hK3 hg3)
  have hld := HK3.out.load 29 _ Tryz.underlying29 rfl Tryz.sz29
  exact bodyPost_ret (v := .tuple #[.agg noObj, .int .i64 r1, .int .i64 0]) (by simp [results, Tryz.results8, asAddr, hld]) rfl ⟨rfl, HB2.out.grown HG3.out HB2.out.size (fun k hk => by cases hk; exact Nat.le_refl _)⟩

end Go.Proofs.YtkianldkbfjehaaGreatDoor

/- object.Make: a label twice, a global with no label. -/
namespace Go.Proofs.YtkianldkbfjehaaGreatDoor
open Go.RowKit

set_option maxRecDepth 20000 in
set_option maxHeartbeats 2000000 in
theorem make_sym (p : Option Addr) (n c : Nat) (xs : List Src) (w : World) (he : Env w) (hn : xs.length = n) (hnc : n ≤ c) (hc63 : c ≤ 9223372036854775807) (hx : Items w p xs) (hl : layE xs = 0) (e : Int) (i : Nat) (he0 : e ≠ 0)
    (hs : dupAt 0 [] xs = some i ∧ e = 170 ∨ dupAt 0 [] xs = none ∧ undAt 0 (labN xs) xs = some i ∧ e = 171) :
    Calls Tryz.prog 8 #[.slice p n c] w fun E w' => E = .returned (.tuple #[.agg noObj, .int .i64 e, .int .i64 (i : Nat)]) ∧ Below w.heap.size w w' := by
  obtain ⟨hck, hend⟩ := layE_ok hl
  obtain ⟨hl4, hmay⟩ := check_good hck
  have hC := check_any p n c xs (w.alloc (.cells noObj 29)) (he.below (new_alloc w _)) hn hnc hc63 (hx.below (new_alloc w _))
  have hP := fun W hW hX => places_any p n c xs W hW hn hnc hc63 hX
  have hpl : (placesL 0 xs).1.length = n := by rw [places_length, hn]
  have hS : ∀ W q d, Items W p xs → GRow W q (nums (ints (placesL 0 xs).1)) → Calls Tryz.prog 24 #[.slice p n c, .slice q n d] W fun E w' => E = .returned (.tuple #[.slice none 0 0, .int .i64 e, .int .i64 (i : Nat)]) ∧ Below W.heap.size W w' := fun W q d hX hG => by
    refine (symbolsOf_any p q n c d xs _ W hn hpl (by omega) hX hG).mono ?_
    rintro E w' ⟨hb, hE⟩
    refine ⟨?_, hb⟩
    rcases hs with ⟨h1, h2⟩ | ⟨h1, h2, h3⟩
    · rw [h1] at hE; rw [h2]; exact hE
    · rw [h1] at hE
      simp only [h2] at hE
      rw [h3]; exact hE
  have HLN : Hid ((nums (ints (placesL 0 xs).1)).length = n) := by
    rw [show (nums (ints (placesL 0 xs).1)).length = (placesL 0 xs).1.length by simp [nums, ints], hpl]; exact rfl
  have h3 : placesI xs = ints (placesL 0 xs).1 := by unfold placesI; rw [if_pos hl]
  have HE := Hid.in he
  have HX := Hid.in hx
  have hB0 := Hid.in (Blk.new w 29 noObj)
  clear he hx hs hpl hmay hl4 hend hn
  rw [hck] at hC
  unfold PlacesIs at hP
  rw [hl, h3] at hP
  clear hck hl h3
  generalize (checkL xs).2 = r2 at *
  generalize nums (ints (placesL 0 xs).1) = vs at *
  generalize endI xs = r3 at *
  go_enter Tryz.func8, Tryz.ntmps8
  go_upto_region 8 with (first
    | (go_at_call 23; refine hC.mono ?_; rintro E w1 ⟨rfl, hb1⟩; have HK1 := Hid.in (hB0.out.grow hb1); have HB1 := Hid.in (below_step (new_alloc w _) hb1); clear hb1)
    | (go_at_call 18; refine (hP _ (HE.out.below HB1.out) (HX.out.below HB1.out)).mono ?_; rintro E w2 ⟨v2, rfl, hv2, hb2⟩; obtain ⟨p2, c2, hpv, hr2, -, -⟩ := hv2.slice; rw [HLN.out] at hpv; subst hpv; have HR2 := Hid.in hr2; have HK2 := Hid.in (HK1.out.grow hb2); have HB2 := Hid.in (below_step HB1.out hb2); clear hb2 hv2 hr2)
    | (go_at_call 24; refine (hS _ _ _ (HX.out.below HB2.out) HR2.out).mono ?_; rintro E w3 ⟨rfl, hb3⟩; have HK3 := Hid.in (HK2.out.grow hb3); have HB3 := Hid.in (below_step HB2.out hb3); clear hb3))
  clear hC hP hB0 hS
  go_wp2_with (refine step_store_blk HK3.out rfl 29 (.tmp 2) (.tmp 43) rfl rfl rfl noObj rfl Tryz.sz29 rfl noObj_one ?_; intro w4 hK4 hg4; have HK4 := Hid.in hK4; have HG4 := Hid.in hg4; clear hK4 hg4)
  have hld := HK4.out.load 29 _ Tryz.underlying29 rfl Tryz.sz29
  exact bodyPost_ret (v := .tuple #[.agg noObj, .int .i64 e, .int .i64 (i : Nat)]) (by simp [results, Tryz.results8, asAddr, hld]) rfl ⟨rfl, HB3.out.grown HG4.out HB3.out.size (fun k hk => by cases hk; exact Nat.le_refl _)⟩

end Go.Proofs.YtkianldkbfjehaaGreatDoor

/- object.Make: the object. -/
namespace Go.Proofs.YtkianldkbfjehaaGreatDoor
open Go.RowKit

theorem TOwn.far {T : TypeId} {w : World} {B g : Nat} {v : Value} {L : List V3} (h : TOwn T w B v L) (hg : g < B) : v = .slice none 0 0 ∨ v.ownBlock ≠ some g := by
  rcases h.2 with ⟨e1, _⟩ | ⟨g', cap, cur, e1, e2, _⟩
  · exact .inl e1
  · refine .inr ?_
    rw [e1]
    simp only [Value.ownBlock]
    intro ee
    injection ee with ee
    have : g' = g := ee
    omega
theorem TOwn.lower {T : TypeId} {w : World} {B B' : Nat} {v : Value} {L : List V3} (h : TOwn T w B v L) (hB : B' ≤ B) : TOwn T w B' v L := by
  obtain ⟨h0, h1⟩ := h
  refine ⟨h0, h1.imp id ?_⟩
  rintro ⟨g, cap, cur, e1, e2, e3⟩
  exact ⟨g, cap, cur, e1, Nat.le_trans hB e2, e3⟩
theorem TOwn.one {T : TypeId} {w : World} {B : Nat} {v : Value} {L : List V3} (h : TOwn T w B v L) : v.oneCell' = true := by
  obtain ⟨p, cap, rfl, _⟩ := h.shape
  rfl
theorem places_mem {xs : List Src} (h : (placesL 0 xs).2 ≤ 65536) : ∀ a ∈ (placesL 0 xs).1, a ≤ 65536 := fun a ha => by
  obtain ⟨i, hi, rfl⟩ := List.getElem_of_mem ha
  have h2 := place_get xs 0 i (by rw [← places_length xs 0]; exact hi)
  rw [List.getElem?_eq_getElem hi] at h2
  injection h2 with h2
  have := place_le xs 0 i
  omega
theorem obj_one {a b c d : Value} (ha : a.oneCell' = true) (hb : b.oneCell' = true) (hc : c.oneCell' = true) (hd : d.oneCell' = true) : (#[a, b, c, d] : Array Value).all (·.oneCell') = true := by simp [ha, hb, hc, hd]
def MadeIs (xs : List Src) (w : World) (E : Ending) (w' : World) : Prop :=
  ∃ g vs vf vm, E = .returned (.tuple #[.agg #[.slice (some ⟨g, 0, none⟩) (placesL 0 xs).2 (placesL 0 xs).2, vs, vf, vm], .int .i64 0, .int .i64 0]) ∧
    Own w' w.heap.size g (placesL 0 xs).2 (bytesL 0 xs) ∧ TOwn 36 w' w.heap.size vs (symsL xs (placesL 0 xs).1) ∧ TOwn 39 w' w.heap.size vf (fixesL xs (placesL 0 xs).1) ∧ TOwn 41 w' w.heap.size vm (marksL xs (placesL 0 xs).1) ∧ Below w.heap.size w w'

set_option maxRecDepth 20000 in
set_option maxHeartbeats 2000000 in
theorem make_ok (p : Option Addr) (n c : Nat) (xs : List Src) (w : World) (he : Env w) (hn : xs.length = n) (hnc : n ≤ c) (hc63 : c ≤ 9223372036854775807) (hx : Items w p xs) (hl : layE xs = 0) (hd : dupAt 0 [] xs = none) (hu : undAt 0 (labN xs) xs = none) :
    Calls Tryz.prog 8 #[.slice p n c] w (MadeIs xs w) := by
  obtain ⟨hck, hend⟩ := layE_ok hl
  obtain ⟨hl4, hmay⟩ := check_good hck
  unfold MadeIs
  have hC := check_any p n c xs (w.alloc (.cells noObj 29)) (he.below (new_alloc w _)) hn hnc hc63 (hx.below (new_alloc w _))
  have hP := fun W hW hX => places_any p n c xs W hW hn hnc hc63 hX
  have hY := fun W hW hX => bytes_ok p n c xs W hl hW hn hnc hc63 hX
  have hpl : (placesL 0 xs).1.length = n := by rw [places_length, hn]
  have hS : ∀ W q d, Items W p xs → GRow W q (nums (ints (placesL 0 xs).1)) → Calls Tryz.prog 24 #[.slice p n c, .slice q n d] W fun E w' => (∃ v, E = .returned (.tuple #[v, .int .i64 0, .int .i64 0]) ∧ TOwn 36 w' W.heap.size v (symsL xs (placesL 0 xs).1)) ∧ Below W.heap.size W w' := fun W q d hX hG => by
    refine (symbolsOf_any p q n c d xs _ W hn hpl (by omega) hX hG).mono ?_
    rintro E w' ⟨hb, hE⟩
    refine ⟨?_, hb⟩
    rw [hd] at hE
    simp only [hu] at hE
    exact hE
  have hF := fun W q d hW hX hG => fixesOf_any p q n c d xs (placesL 0 xs).1 W hW hn hpl (by omega) hmay (places_mem hend) hX hG
  have hM := fun W q d hX hG => marksOf_any p q n c d xs (placesL 0 xs).1 W hn hpl (by omega) hX hG
  have HLN : Hid ((nums (ints (placesL 0 xs).1)).length = n) := by
    rw [show (nums (ints (placesL 0 xs).1)).length = (placesL 0 xs).1.length by simp [nums, ints], hpl]; exact rfl
  have h3 : placesI xs = ints (placesL 0 xs).1 := by unfold placesI; rw [if_pos hl]
  have HE := Hid.in he
  have HX := Hid.in hx
  have hB0 := Hid.in (Blk.new w 29 noObj)
  have hgt : w.heap.size < (w.alloc (.cells noObj 29)).heap.size := by simp
  have HGT := Hid.in hgt
  clear he hx hpl hmay hl4 hend hn hd hu hgt
  rw [hck] at hC
  unfold PlacesIs at hP
  rw [hl, h3] at hP
  clear hck hl h3
  generalize (checkL xs).2 = r2 at *
  generalize nums (ints (placesL 0 xs).1) = vs at *
  generalize endI xs = r3 at *
  generalize symsL xs (placesL 0 xs).1 = LS at *
  generalize fixesL xs (placesL 0 xs).1 = LF at *
  generalize marksL xs (placesL 0 xs).1 = LM at *
  generalize (placesL 0 xs).2 = EE at *
  go_enter Tryz.func8, Tryz.ntmps8
  go_upto_region 8 with (first
    | (go_at_call 23; refine hC.mono ?_; rintro E w1 ⟨rfl, hb1⟩; have HK1 := Hid.in (hB0.out.grow hb1); have HS1 := Hid.in hb1.size; have HB1 := Hid.in (below_step (new_alloc w _) hb1); clear hb1)
    | (go_at_call 18; refine (hP _ (HE.out.below HB1.out) (HX.out.below HB1.out)).mono ?_; rintro E w2 ⟨v2, rfl, hv2, hb2⟩; obtain ⟨p2, c2, hpv, hr2, -, -⟩ := hv2.slice; rw [HLN.out] at hpv; subst hpv; have HR2 := Hid.in hr2; have HK2 := Hid.in (HK1.out.grow hb2); have HS2 := Hid.in hb2.size; have HB2 := Hid.in (below_step HB1.out hb2); clear hb2 hv2 hr2)
    | (go_at_call 24; refine (hS _ _ _ (HX.out.below HB2.out) HR2.out).mono ?_; rintro E w3 ⟨⟨v3, rfl, hT3⟩, hb3⟩; obtain ⟨p3, e3, hv3, -, -, -⟩ := hT3.shape; subst hv3; have HT3 := Hid.in hT3; have HC3 := Hid.in hb3; have HK3 := Hid.in (HK2.out.grow hb3); have HB3 := Hid.in (below_step HB2.out hb3); clear hb3 hT3))
  clear hC hP hB0 hS
  go_upto_region 11 with (go_at_call 17; refine (hY _ (HE.out.below HB3.out) (HX.out.below HB3.out)).mono ?_; rintro E w4 ⟨g4, rfl, hO4, hb4⟩; have HO4 := Hid.in hO4; have HC4 := Hid.in hb4; have HK4 := Hid.in (HK3.out.grow hb4); have HB4 := Hid.in (below_step HB3.out hb4); have HR4 := Hid.in ((HR2.out.below HC3.out).below hb4); have HT4 := Hid.in (HT3.out.below hb4); clear hb4 hO4)
  clear hY
  go_wp2_with (first
    | (go_at_call 25; refine (hF _ _ _ (HE.out.below HB4.out) (HX.out.below HB4.out) HR4.out).mono ?_; rintro E w5 ⟨v5, rfl, hT5, hb5⟩; obtain ⟨p5, e5, hv5, -, -, -⟩ := hT5.shape; subst hv5; have HF5 := Hid.in hT5; have HC5 := Hid.in hb5; have HK5 := Hid.in (HK4.out.grow hb5); have HB5 := Hid.in (below_step HB4.out hb5); have HR5 := Hid.in (HR4.out.below hb5); have HT5 := Hid.in (HT4.out.below hb5); have HO5 := Hid.in (HO4.out.below hb5); clear hT5 hb5)
    | (go_at_call 26; refine (hM _ _ _ (HX.out.below HB5.out) HR5.out).mono ?_; rintro E w6 ⟨v6, rfl, hT6, hb6⟩; obtain ⟨p6, e6, hv6, -, -, -⟩ := hT6.shape; subst hv6; have HM6 := Hid.in hT6; have HC6 := Hid.in hb6; have HK6 := Hid.in (HK5.out.grow hb6); have HB6 := Hid.in (below_step HB5.out hb6); have HT6 := Hid.in (HT5.out.below hb6); have HO6 := Hid.in (HO5.out.below hb6); have HF6 := Hid.in (HF5.out.below hb6); clear hT6 hb6)
    | (refine step_store_blk HK6.out rfl 29 (.tmp 2) (.tmp 59) rfl rfl rfl #[.slice (some ⟨g4, 0, none⟩) EE EE, .slice p3 LS.length e3, .slice p5 LF.length e5, .slice p6 LM.length e6] rfl Tryz.sz29 rfl (obj_one rfl rfl rfl rfl) ?_; intro w7 hK7 hg7; have HK7 := Hid.in hK7; have HG7 := Hid.in hg7; clear hK7 hg7))
  have hld := HK7.out.load 29 _ Tryz.underlying29 rfl Tryz.sz29
  have hB7 := HB6.out.grown HG7.out HB6.out.size (fun k hk => by cases hk; exact Nat.le_refl _)
  have l2 : w.heap.size < w2.heap.size := by have := HGT.out; have := HS1.out; have := HS2.out; omega
  have l3 : w.heap.size < w3.heap.size := by have := HC3.out.size; omega
  have l4 : w.heap.size < w4.heap.size := by have := HC4.out.size; omega
  have l5 : w.heap.size < w5.heap.size := by have := HC5.out.size; omega
  have hO7 : Own w7 w3.heap.size g4 EE (bytesL 0 xs) := World.ownsRow.kept HO6.out HG7.out (.inr (fun e => by
    have e' : some g4 = some w.heap.size := e
    injection e' with e'
    have := HO6.out.base
    omega))
  exact bodyPost_ret (v := .tuple #[.agg #[.slice (some ⟨g4, 0, none⟩) EE EE, .slice p3 LS.length e3, .slice p5 LF.length e5, .slice p6 LM.length e6], .int .i64 0, .int .i64 0]) (by simp [results, Tryz.results8, asAddr, hld]) rfl
    ⟨g4, _, _, _, rfl, hO7.lower (Nat.le_of_lt l3), (HT6.out.kept HG7.out (HT6.out.far l2)).lower (Nat.le_of_lt l2), (HF6.out.kept HG7.out (HF6.out.far l4)).lower (Nat.le_of_lt l4), (HM6.out.kept HG7.out (HM6.out.far l5)).lower (Nat.le_of_lt l5), hB7⟩

end Go.Proofs.YtkianldkbfjehaaGreatDoor
