/- Texts put together: CpyI, SamI, BckL, NonW, AwkI, AwkJ, Pick, CutW, BckW. -/
import Derived.Test.YtfhjaabbfaamjaaGd
import Derived.Deep.RegionHeld3
import Derived.Test.YtfhjaabbfaamjaaOwn
import Derived.Lib.Hide

/- switchyardkit.CopyImage: an image in memory of its own. -/
namespace Go.Proofs.Ytfhjaabbfaamjaa
open Go.RowKit

theorem Try.results7 : Try.f7.results = #[.cell 2 27] := rfl
theorem res7 {tmps : Array Value} {W : World} {R : Nat} {v0 v1 v2 v3 : Value} (h : Blk W R 27 #[v0, v1, v2, v3]) (h2 : tmps.getD 2 undef = .pointer (some ⟨R, 0, none⟩)) :
    (results Try.f7 tmps).run Try.prog W = .ok (.agg #[v0, v1, v2, v3]) W := by
  have hld := load_im h
  simp only [Array.getD_eq_getD_getElem?] at h2
  simp [results, asAddr, hld, h2]

set_option maxRecDepth 20000 in
set_option maxHeartbeats 2000000 in
theorem copyImage_any (m : IM) (pb pk ps pu : Option Addr) (nb cb nk ck ns cs nu cu : Nat) (w : World) (h : ImIn w m pb pk ps pu nb cb nk ck ns cs nu cu) (h1 : nb ≤ 140737488355328) (h2 : nk * 16 ≤ 140737488355328) (h3 : ns ≤ 5864062014634) (h4 : nu * 8 ≤ 140737488355328) :
    Calls Try.prog 7 #[.agg (imA pb pk ps pu nb cb nk ck ns cs nu cu)] w fun E w' => ∃ vb vk vs vu, E = .returned (.agg #[vb, vk, vs, vu]) ∧ ImOwn w' w.heap.size m vb vk vs vu ∧ Below w.heap.size w w' := by
  have hB := fun W (k : ImIn W m pb pk ps pu nb cb nk ck ns cs nu cu) => copy_any pb nb cb m.bs W k.lb h1 k.rb
  have hK := fun W (k : ImIn W m pb pk ps pu nb cb nk ck ns cs nu cu) => copyTexts_any pk nk ck m.ks W k.lk h2 k.rk
  have hS := fun W (k : ImIn W m pb pk ps pu nb cb nk ck ns cs nu cu) => copySites_any ps ns cs m.si W k.ls h3 k.rs
  have hU := fun W (k : ImIn W m pb pk ps pu nb cb nk ck ns cs nu cu) => copyInts_any pu nu cu m.un W k.lu h4 k.ru
  have H := Hid.in h
  clear h
  go_enter Try.func7, Try.ntmps7
  go_upto_region 1 with fail
  have HA0 : Hid (Blk ((w.alloc (.cells (imA pb pk ps pu nb cb nk ck ns cs nu cu) 27)).alloc (.cells nil4 27)) w.heap.size 27 (imA pb pk ps pu nb cb nk ck ns cs nu cu)) := (Blk.new w 27 _).grow (new_alloc _ _)
  have HB0 : Hid (Blk ((w.alloc (.cells (imA pb pk ps pu nb cb nk ck ns cs nu cu) 27)).alloc (.cells nil4 27)) (w.heap.size + 1) 27 nil4) := by
    have := Blk.new (w.alloc (.cells (imA pb pk ps pu nb cb nk ck ns cs nu cu) 27)) 27 nil4
    rw [size_one] at this
    exact this
  have HW0 : Hid (Below w.heap.size w ((w.alloc (.cells (imA pb pk ps pu nb cb nk ck ns cs nu cu) 27)).alloc (.cells nil4 27))) := below_alloc (new_alloc w _) _
  have hs0 : ((w.alloc (.cells (imA pb pk ps pu nb cb nk ck ns cs nu cu) 27)).alloc (.cells nil4 27)).heap.size = w.heap.size + 2 := by rw [size_one, size_one]
  generalize (w.alloc (.cells (imA pb pk ps pu nb cb nk ck ns cs nu cu) 27)).alloc (.cells nil4 27) = w0 at *
  have a0 : w0.cell? ⟨w.heap.size, 0, none⟩ = some (.slice pb nb cb) := HA0.out.cell 0
  have a1 : w0.cell? ⟨w.heap.size, 1, none⟩ = some (.slice pk nk ck) := HA0.out.cell 1
  have a2 : w0.cell? ⟨w.heap.size, 2, none⟩ = some (.slice ps ns cs) := HA0.out.cell 2
  have a3 : w0.cell? ⟨w.heap.size, 3, none⟩ = some (.slice pu nu cu) := HA0.out.cell 3
  have HS0 := Hid.in (Nat.le_of_eq hs0.symm)
  clear hs0
  go_region_held3 (fun W => W.cell? ⟨w.heap.size, 0, none⟩ = some (.slice pb nb cb) ∧ W.cell? ⟨w.heap.size, 1, none⟩ = some (.slice pk nk ck) ∧ W.cell? ⟨w.heap.size, 2, none⟩ = some (.slice ps ns cs) ∧ W.cell? ⟨w.heap.size, 3, none⟩ = some (.slice pu nu cu)) (first | go_keep | exact hk1 | exact hk2 | exact hk3 | exact hk4)
    (first
      | (go_at_call 18; refine (hB _ (H.out.below (below_draws HW0.out 1))).mono ?_; rintro E w1 ⟨v1, rfl, ho1, hb1⟩; obtain ⟨p1, n1, c1, rfl, -⟩ := ho1.sl; have HW1 := Hid.in (below_step (below_draws HW0.out 1) hb1); have HC1 := Hid.in (below_step (below_draws (below_self w0) 1) hb1); have HA1 := Hid.in (HA0.out.grow HC1.out); have HB1 := Hid.in (HB0.out.grow HC1.out); have HO1 : Hid (OwnV w1 (w.heap.size + 2) (.slice p1 n1 c1) m.bs) := own_lower ho1 HS0.out; have HS1 := Hid.in (Nat.le_trans HS0.out HC1.out.size); have hk1 : w1.cell? ⟨w.heap.size, 0, none⟩ = some (.slice pb nb cb) ∧ w1.cell? ⟨w.heap.size, 1, none⟩ = some (.slice pk nk ck) ∧ w1.cell? ⟨w.heap.size, 2, none⟩ = some (.slice ps ns cs) ∧ w1.cell? ⟨w.heap.size, 3, none⟩ = some (.slice pu nu cu) := ⟨HA1.out.cell 0, HA1.out.cell 1, HA1.out.cell 2, HA1.out.cell 3⟩; clear ho1 hb1)
      | (go_at_call 20; refine (hK _ (H.out.below HW1.out)).mono ?_; rintro E w2 ⟨v2, rfl, ho2, hb2⟩; obtain ⟨p2, n2, c2, rfl, -⟩ := ho2.sl; have HW2 := Hid.in (below_step HW1.out hb2); have HA2 := Hid.in (HA1.out.grow hb2); have HB2 := Hid.in (HB1.out.grow hb2); have HO2 := Hid.in (HO1.out.below hb2); have HK2 : Hid (GOwnV 9 w2 (w.heap.size + 2) (.slice p2 n2 c2) (strV m.ks)) := own_lower ho2 HS1.out; have HS2 := Hid.in (Nat.le_trans HS1.out hb2.size); have hk2 : w2.cell? ⟨w.heap.size, 0, none⟩ = some (.slice pb nb cb) ∧ w2.cell? ⟨w.heap.size, 1, none⟩ = some (.slice pk nk ck) ∧ w2.cell? ⟨w.heap.size, 2, none⟩ = some (.slice ps ns cs) ∧ w2.cell? ⟨w.heap.size, 3, none⟩ = some (.slice pu nu cu) := ⟨HA2.out.cell 0, HA2.out.cell 1, HA2.out.cell 2, HA2.out.cell 3⟩; clear ho2 hb2)
      | (go_at_call 21; refine (hS _ (H.out.below HW2.out)).mono ?_; rintro E w3 ⟨v3, rfl, ho3, hb3⟩; obtain ⟨p3, n3, c3', rfl, -⟩ := ho3.sl; have HW3 := Hid.in (below_step HW2.out hb3); have HA3 := Hid.in (HA2.out.grow hb3); have HB3 := Hid.in (HB2.out.grow hb3); have HO3 := Hid.in (HO2.out.below hb3); have HK3 := Hid.in (HK2.out.below hb3); have HV3 : Hid (TOwn 52 w3 (w.heap.size + 2) (.slice p3 n3 c3') (m.si.map siV)) := own_lower ho3 HS2.out; have HS3 := Hid.in (Nat.le_trans HS2.out hb3.size); have hk3 : w3.cell? ⟨w.heap.size, 0, none⟩ = some (.slice pb nb cb) ∧ w3.cell? ⟨w.heap.size, 1, none⟩ = some (.slice pk nk ck) ∧ w3.cell? ⟨w.heap.size, 2, none⟩ = some (.slice ps ns cs) ∧ w3.cell? ⟨w.heap.size, 3, none⟩ = some (.slice pu nu cu) := ⟨HA3.out.cell 0, HA3.out.cell 1, HA3.out.cell 2, HA3.out.cell 3⟩; clear ho3 hb3)
      | (go_at_call 22; refine (hU _ (H.out.below HW3.out)).mono ?_; rintro E w4 ⟨v4, rfl, ho4, hb4⟩; obtain ⟨p4, n4', c4, rfl, -⟩ := ho4.sl; have HW4 := Hid.in (below_step HW3.out hb4); have HA4 := Hid.in (HA3.out.grow hb4); have HB4 := Hid.in (HB3.out.grow hb4); have HI4 : Hid (ImOwn w4 (w.heap.size + 2) m (.slice p1 n1 c1) (.slice p2 n2 c2) (.slice p3 n3 c3') (.slice p4 n4' c4)) := ⟨HO3.out.below hb4, HK3.out.below hb4, HV3.out.below hb4, own_lower ho4 HS3.out⟩; have hk4 : w4.cell? ⟨w.heap.size, 0, none⟩ = some (.slice pb nb cb) ∧ w4.cell? ⟨w.heap.size, 1, none⟩ = some (.slice pk nk ck) ∧ w4.cell? ⟨w.heap.size, 2, none⟩ = some (.slice ps ns cs) ∧ w4.cell? ⟨w.heap.size, 3, none⟩ = some (.slice pu nu cu) := ⟨HA4.out.cell 0, HA4.out.cell 1, HA4.out.cell 2, HA4.out.cell 3⟩; obtain ⟨e0, e1, e2, e3⟩ := HB4.out.cells4; have z0 := HB4.out.free 0; have z1 := HB4.out.free 1; have z2 := HB4.out.free 2; have z3 := HB4.out.free 3; clear ho4 hb4))
  have HBE := Hid.in (HB4.out.set4 rfl (.slice p1 n1 c1) (.slice p2 n2 c2) (.slice p3 n3 c3') (.slice p4 n4' c4) rfl)
  have HIE := Hid.in (HI4.out.set4 (R := w.heap.size + 1) (Nat.lt_succ_self _) (.slice p1 n1 c1) (.slice p2 n2 c2) (.slice p3 n3 c3') (.slice p4 n4' c4))
  have HLE := Hid.in (below4 (R := w.heap.size + 1) (Below.refl _ w4) (.slice p1 n1 c1) (.slice p2 n2 c2) (.slice p3 n3 c3') (.slice p4 n4' c4))
  generalize ((((w4.setCell ⟨w.heap.size + 1, 0, none⟩ (.slice p1 n1 c1)).setCell ⟨w.heap.size + 1, 1, none⟩ (.slice p2 n2 c2)).setCell ⟨w.heap.size + 1, 2, none⟩ (.slice p3 n3 c3')).setCell ⟨w.heap.size + 1, 3, none⟩ (.slice p4 n4' c4)) = w5 at *
  clear e0 e1 e2 e3 z0 z1 z2 z3 hk1 hk2 hk3 hk4 a0 a1 a2 a3 hB hK hS hU
  go_wp2_with fail
  exact bodyPost_ret (v := .agg #[.slice p1 n1 c1, .slice p2 n2 c2, .slice p3 n3 c3', .slice p4 n4' c4]) (res7 HBE.out rfl) rfl ⟨_, _, _, _, rfl, HIE.out.lower (by omega), HW4.out.trans (HLE.out.mono (Nat.le_succ _))⟩
end Go.Proofs.Ytfhjaabbfaamjaa

/- switchyardkit.SameImage at the same image twice. -/
namespace Go.Proofs.Ytfhjaabbfaamjaa
open Go.RowKit

set_option maxRecDepth 20000 in
set_option maxHeartbeats 2000000 in
theorem sameImage_yes (m : IM) (pb pk ps pu qb qk qs qu : Option Addr) (nb cb nk ck ns cs nu cu db dk ds du : Nat) (w : World) (h : ImIn w m pb pk ps pu nb cb nk ck ns cs nu cu) (h' : ImIn w m qb qk qs qu nb db nk dk ns ds nu du) :
    Calls Try.prog 11 #[.agg (imA pb pk ps pu nb cb nk ck ns cs nu cu), .agg (imA qb qk qs qu nb db nk dk ns ds nu du)] w fun E w' => E = .returned (.bool true) ∧ Below w.heap.size w w' := by
  have hB := fun W (hW : Below w.heap.size w W) => sameBytes_any pb qb nb cb nb db m.bs m.bs W h.lb h.lb (by have := h.kb; have := h.mb; omega) (h.below hW).rb (h'.below hW).rb
  have hK := fun W (hW : Below w.heap.size w W) => sameTexts_self pk qk nk ck dk m.ks W (by have := h.mc; omega) h.lk (h.below hW).rk (h'.below hW).rk
  have hS := fun W (hW : Below w.heap.size w W) => sameSites_any ps qs ns cs ns ds m.si m.si W h.ls h.ls (by have := h.ms; omega) (by have := h.ms; omega) (h.below hW).rs (h'.below hW).rs
  have hU := fun W (hW : Below w.heap.size w W) => sameInts_self pu qu nu cu du m.un W (by have := h.mu; omega) h.lu (h.below hW).ru (h'.below hW).ru
  simp only [sameB_self] at hB
  have HA0 : Hid (Blk ((w.alloc (.cells (imA pb pk ps pu nb cb nk ck ns cs nu cu) 27)).alloc (.cells (imA qb qk qs qu nb db nk dk ns ds nu du) 27)) w.heap.size 27 (imA pb pk ps pu nb cb nk ck ns cs nu cu)) := (Blk.new w 27 _).grow (new_alloc _ _)
  have HB0 : Hid (Blk ((w.alloc (.cells (imA pb pk ps pu nb cb nk ck ns cs nu cu) 27)).alloc (.cells (imA qb qk qs qu nb db nk dk ns ds nu du) 27)) (w.heap.size + 1) 27 (imA qb qk qs qu nb db nk dk ns ds nu du)) := by
    have := Blk.new (w.alloc (.cells (imA pb pk ps pu nb cb nk ck ns cs nu cu) 27)) 27 (imA qb qk qs qu nb db nk dk ns ds nu du)
    rw [size_one] at this
    exact this
  have HW0 : Hid (Below w.heap.size w ((w.alloc (.cells (imA pb pk ps pu nb cb nk ck ns cs nu cu) 27)).alloc (.cells (imA qb qk qs qu nb db nk dk ns ds nu du) 27))) := below_alloc (new_alloc w _) _
  obtain ⟨a0, a1, a2, a3⟩ := HA0.out.cells4
  obtain ⟨b0, b1, b2, b3⟩ := HB0.out.cells4
  clear h h'
  go_enter Try.func11, Try.ntmps11
  go_wp2_with (first
    | (go_at_call 10; refine (hB _ HW0.out).mono ?_; rintro e w1 ⟨rfl, z1, hz1⟩; have HW1 : Hid (Below w.heap.size w w1) := (by rw [hz1]; exact below_draws HW0.out z1); have HA1 : Hid (Blk w1 w.heap.size 27 (imA pb pk ps pu nb cb nk ck ns cs nu cu)) := (by rw [hz1]; exact HA0.out); have HB1 : Hid (Blk w1 (w.heap.size + 1) 27 (imA qb qk qs qu nb db nk dk ns ds nu du)) := (by rw [hz1]; exact HB0.out); obtain ⟨a0, a1, a2, a3⟩ := HA1.out.cells4; obtain ⟨b0, b1, b2, b3⟩ := HB1.out.cells4; clear hz1 hB)
    | (go_at_call 28; refine (hK _ HW1.out).mono ?_; rintro e w2 ⟨rfl, z1, hz1⟩; have HW2 : Hid (Below w.heap.size w w2) := (by rw [hz1]; exact below_draws HW1.out z1); have HA2 : Hid (Blk w2 w.heap.size 27 (imA pb pk ps pu nb cb nk ck ns cs nu cu)) := (by rw [hz1]; exact HA1.out); have HB2 : Hid (Blk w2 (w.heap.size + 1) 27 (imA qb qk qs qu nb db nk dk ns ds nu du)) := (by rw [hz1]; exact HB1.out); obtain ⟨a0, a1, a2, a3⟩ := HA2.out.cells4; obtain ⟨b0, b1, b2, b3⟩ := HB2.out.cells4; clear hz1 hK)
    | (go_at_call 29; refine (hS _ HW2.out).mono ?_; rintro e w3 ⟨⟨t, rfl, ht⟩, z1, hz1⟩; obtain rfl : t = true := ht.2 (by trivial); have HW3 : Hid (Below w.heap.size w w3) := (by rw [hz1]; exact below_draws HW2.out z1); have HA3 : Hid (Blk w3 w.heap.size 27 (imA pb pk ps pu nb cb nk ck ns cs nu cu)) := (by rw [hz1]; exact HA2.out); have HB3 : Hid (Blk w3 (w.heap.size + 1) 27 (imA qb qk qs qu nb db nk dk ns ds nu du)) := (by rw [hz1]; exact HB2.out); obtain ⟨a0, a1, a2, a3⟩ := HA3.out.cells4; obtain ⟨b0, b1, b2, b3⟩ := HB3.out.cells4; clear hz1 hS ht)
    | (go_at_call 30; refine (hU _ HW3.out).mono ?_; rintro e w4 ⟨rfl, z1, hz1⟩; have HW4 : Hid (Below w.heap.size w w4) := (by rw [hz1]; exact below_draws HW3.out z1); clear hz1 hU))
  go_ret
  exact ⟨rfl, HW4.out⟩
end Go.Proofs.Ytfhjaabbfaamjaa

/- Get of what Put tells, of a part of it, of more than it; and back. -/
namespace Go.Proofs.Ytfhjaabbfaamjaa
open Go.RowKit

theorem strOf_strL (s : ByteArray) : strOfNums (strL s) = s := by
  unfold strOfNums strL
  rw [List.map_map]
  have : ((fun n : Int => UInt8.ofNat n.toNat) ∘ fun b : UInt8 => (b.toNat : Int)) = id := by
    funext b
    show UInt8.ofNat ((b.toNat : Int)).toNat = b
    rw [Int.toNat_natCast]
    exact UInt8.ofNat_toNat
  rw [this, List.map_id, Array.toArray_toList]
theorem imOf_im (m : IM) : imOf m.im = m := by
  unfold imOf IM.im
  simp only [List.map_map]
  have : (strOfNums ∘ strL) = id := funext strOf_strL
  rw [this, List.map_id]
theorem getL_put {m : IM} (h : okI m = true) : getL (putI m.im) = (m, 0) := by
  have he := (read_eats (okI_im h)).all []
  rw [List.append_nil] at he
  unfold getL
  rw [he, imOf_im, if_neg (by simp [endR]), if_pos h]
theorem getL_cut {m : IM} (h : okI m = true) (k : Nat) (hk : k < (putI m.im).length) : getL ((putI m.im).take k) = (noIM, 4) := by
  have he := (read_eats (okI_im h)).cut k hk
  have e : endR (readI ⟨(putI m.im).take k, 0⟩).2 = 4 := by unfold endR; rw [he, if_neg (by omega)]
  unfold getL
  rw [e, if_pos (by decide)]
theorem getL_more {m : IM} (h : okI m = true) (xs : List Int) (hx : 0 < xs.length) : getL (putI m.im ++ xs) = (noIM, 200) := by
  have he := (read_eats (okI_im h)).all xs
  have e : endR (readI ⟨putI m.im ++ xs, 0⟩).2 = 200 := by rw [he]; unfold endR; rw [if_pos ⟨rfl, hx⟩]
  unfold getL
  rw [e, if_pos (by decide)]
theorem strL_strOf {k : List Int} (h : ∀ z ∈ k, 0 ≤ z ∧ z ≤ 255) : strL (strOfNums k) = k := by
  unfold strOfNums strL
  show ((k.map fun n => UInt8.ofNat n.toNat).toArray.toList).map (fun b => (b.toNat : Int)) = k
  rw [List.toList_toArray, List.map_map]
  have : ∀ z ∈ k, ((fun b : UInt8 => (b.toNat : Int)) ∘ fun n : Int => UInt8.ofNat n.toNat) z = z := fun z hz => by
    have := h z hz
    show ((UInt8.ofNat z.toNat).toNat : Int) = z
    rw [UInt8.toNat_ofNat', Nat.mod_eq_of_lt (by omega)]
    omega
  rw [List.map_congr_left this, List.map_id']
theorem im_imOf {m : Im} (h : ∀ k ∈ m.ks, ∀ z ∈ k, 0 ≤ z ∧ z ≤ 255) : (imOf m).im = m := by
  obtain ⟨bs, ks, si, un⟩ := m
  unfold imOf IM.im
  simp only [List.map_map]
  have : ∀ k ∈ ks, (strL ∘ strOfNums) k = k := fun k hk => strL_strOf (h k hk)
  rw [List.map_congr_left this, List.map_id']
theorem getL_back {bs : List Int} (hb : Byt bs) (h : (getL bs).2 = 0) : okI (getL bs).1 = true ∧ putI (getL bs).1.im = bs := by
  unfold getL at *
  by_cases he : endR (readI ⟨bs, 0⟩).2 = 0
  · rw [if_neg (by simp [he])] at *
    by_cases hok : okI (imOf (readI ⟨bs, 0⟩).1) = true
    · rw [if_pos hok] at *
      refine ⟨hok, ?_⟩
      have hr : (readI ⟨bs, 0⟩).2.e = 0 ∧ (readI ⟨bs, 0⟩).2.l.length = 0 := by
        unfold endR at he
        by_cases h1 : (readI ⟨bs, 0⟩).2.e = 0 ∧ 0 < (readI ⟨bs, 0⟩).2.l.length
        · rw [if_pos h1] at he; exact absurd he (by decide)
        · rw [if_neg h1] at he
          exact ⟨he, by have := fun h => h1 ⟨he, h⟩; omega⟩
      obtain ⟨e1, _, _⟩ := read_inv hb hr.1
      rw [List.eq_nil_of_length_eq_zero hr.2, List.append_nil] at e1
      rw [im_imOf ?_]
      · exact e1.symm
      · intro k hk z hz
        refine hb.mem z ?_
        rw [e1]
        unfold putI
        have : z ∈ (readI ⟨bs, 0⟩).1.ks.flatMap keyB := List.mem_flatMap.2 ⟨k, hk, by unfold keyB; exact List.mem_append_right _ hz⟩
        simp only [List.mem_append]
        exact Or.inr (Or.inr (Or.inr (Or.inr (Or.inl this))))
    · rw [if_neg hok] at h
      exact absurd h (by decide)
  · rw [if_pos he] at h
    exact absurd h he
theorem getL_bad {bs : List Int} (h : (getL bs).2 ≠ 0) : (getL bs).1 = noIM := by
  unfold getL at *
  split
  · rfl
  · rename_i h1
    rw [if_neg h1] at h
    split
    · rename_i h2
      rw [if_pos h2] at h
      exact absurd rfl h
    · rfl
end Go.Proofs.Ytfhjaabbfaamjaa

/- The law's none(): the bytes of the image of no units. -/
namespace Go.Proofs.Ytfhjaabbfaamjaa
open Go.RowKit

def noneL : List Int := [83, 87, 89, 49] ++ List.replicate 16 0
theorem zero16 : (Builtin.zeroCells (Value.int .u8 0).cells 16).toList = byts (List.replicate 16 0) := by kernel_rfl
theorem none_any (w : World) : Calls Try.prog 31 #[] w fun E w' => ∃ g cap, E = .returned (.slice (some ⟨g, 0, none⟩) 20 cap) ∧ Own w' w.heap.size g cap noneL ∧ Below w.heap.size w w' := by
  have hge := Hid.in (grownCap_ge w 20 4 5)
  have hcm := Hid.in (grownCap_le_maxLen w 20 4 5 (by unfold maxLen; omega))
  go_enter Try.func31, Try.ntmps31
  go_wp2_with fail
  go_ret
  refine ⟨w.heap.size + 1, grownCap w 20 4 5, rfl, Own.mk (cur := #[.int .u8 83, .int .u8 87, .int .u8 89, .int .u8 49] ++ (Builtin.zeroCells #[.int .u8 0] 16 ++ Builtin.zeroCells #[.int .u8 0] (grownCap w 20 4 5 - 20))) (by omega) ?_ hge.out hcm.out ?_ ?_, ?_⟩
  · have h := World.alloc_heap_new (w.alloc (.cells #[.int .u8 83, .int .u8 87, .int .u8 89, .int .u8 49] 5)) (.cells (#[.int .u8 83, .int .u8 87, .int .u8 89, .int .u8 49] ++ (Builtin.zeroCells #[.int .u8 0] 16 ++ Builtin.zeroCells #[.int .u8 0] (grownCap w 20 4 5 - 20))) 5)
    rw [size_one] at h
    exact h
  · have := hge.out
    simp [size_zeroCells]
    omega
  · rw [Array.toList_append, Array.toList_append, ← List.append_assoc]
    rw [show (Builtin.zeroCells #[Value.int .u8 0] 16).toList = byts (List.replicate 16 0) from zero16]
    show List.take noneL.length (byts noneL ++ _) = byts noneL
    rw [show noneL.length = (byts noneL).length from by simp]
    exact List.take_left
  · exact below_draws (below_alloc (new_alloc w _) _) 1

theorem noneL_put : noneL = putI noIM.im := by decide
theorem okI_none : okI noIM = true := by decide
theorem getL_none : getL noneL = (noIM, 0) := by rw [noneL_put, getL_put okI_none]
theorem getL_nil : getL [] = (noIM, 4) := by
  have e : endR (readI ⟨[], 0⟩).2 = 4 := by decide
  unfold getL
  rw [e, if_pos (by decide)]
theorem getL_eight : getL [83, 87, 89, 49, 255, 255, 255, 255] = (noIM, 200) := by
  have e : endR (readI ⟨[83, 87, 89, 49, 255, 255, 255, 255], 0⟩).2 = 200 := by decide
  unfold getL
  rw [e, if_pos (by decide)]
end Go.Proofs.Ytfhjaabbfaamjaa

/- The chapter's examples: awake. -/
namespace Go.Proofs.Ytfhjaabbfaamjaa
open Go.RowKit

theorem ImIn.nil (w : World) : ImIn w noIM none none none none 0 0 0 0 0 0 0 0 :=
  ⟨rfl, rfl, rfl, rfl, Nat.le_refl _, by omega, by omega, by omega, by omega, fun h => absurd h (Nat.lt_irrefl 0), GRow.nil _ _, Row3.nil _ _, GRow.nil _ _, fun i => by simp [noIM], fun k hk => absurd hk List.not_mem_nil, fun u hu => absurd hu List.not_mem_nil⟩
/-- an image of nothing, in memory of its own -/
theorem ImOwn.none4 {w : World} {B : Nat} {vb vk vs vu : Value} (h : ImOwn w B noIM vb vk vs vu) : ∃ pb pk ps pu cb ck cs cu, vb = .slice pb 0 cb ∧ vk = .slice pk 0 ck ∧ vs = .slice ps 0 cs ∧ vu = .slice pu 0 cu ∧ ∀ W, ImIn W noIM pb pk ps pu 0 cb 0 ck 0 cs 0 cu := by
  obtain ⟨pb, nb, cb, rfl, e1⟩ := h.b.sl
  obtain ⟨pk, nk, ck, rfl, e2⟩ := h.k.sl
  obtain ⟨ps, ns, cs, rfl, e3⟩ := h.s.sl
  obtain ⟨pu, nu, cu, rfl, e4⟩ := h.u.sl
  obtain rfl : nb = 0 := e1.1
  obtain rfl : nk = 0 := e2
  obtain rfl : ns = 0 := e3
  obtain rfl : nu = 0 := e4
  exact ⟨pb, pk, ps, pu, cb, ck, cs, cu, rfl, rfl, rfl, rfl, fun W => ⟨rfl, rfl, rfl, rfl, e1.2.1, e1.2.2, by omega, by omega, by omega, fun h => absurd h (Nat.lt_irrefl 0), GRow.nil _ _, Row3.nil _ _, GRow.nil _ _, fun i => by simp [noIM], fun k hk => absurd hk List.not_mem_nil, fun u hu => absurd hu List.not_mem_nil⟩⟩
theorem byt_none : Byt noneL := byt_app (byt_cons (by omega) (byt_cons (by omega) (byt_cons (by omega) (byt_cons (by omega) fun i => by simp)))) fun i => by
  rw [List.getD_eq_getElem?_getD, List.getElem?_replicate]
  split <;> simp
def eightL : List Int := [83, 87, 89, 49, 255, 255, 255, 255]
theorem byt_eight : Byt eightL := byt_cons (by omega) (byt_cons (by omega) (byt_cons (by omega) (byt_cons (by omega) (byt_cons (by omega) (byt_cons (by omega) (byt_cons (by omega) (byt_cons (by omega) fun i => by simp)))))))

theorem get_noim {p : Option Addr} {n c : Nat} {e : Int} {bs : List Int} {w : World} (hl : bs.length = n) (hc : n ≤ c) (hm : c ≤ 9223372036854775807) (hr : Row w p bs) (hf : ∀ a, p = some a → a.block < w.heap.size) (hb : Byt bs) (hg : getL bs = (noIM, e)) :
    Calls Try.prog 14 #[.slice p n c] w fun E w' => ∃ pb pk ps pu cb ck cs cu, E = .returned (.tuple #[.agg (imA pb pk ps pu 0 cb 0 ck 0 cs 0 cu), .int .i64 e]) ∧ (∀ W, ImIn W noIM pb pk ps pu 0 cb 0 ck 0 cs 0 cu) ∧ Below w.heap.size w w' := by
  have h1 := get_any p n c bs w hl hc hm hr hf hb
  rw [hg] at h1
  refine h1.mono ?_
  rintro E w' ⟨vb, vk, vs, vu, rfl, hi, hbb⟩
  obtain ⟨pb, pk, ps, pu, cb, ck, cs, cu, rfl, rfl, rfl, rfl, hin⟩ := hi.none4
  exact ⟨pb, pk, ps, pu, cb, ck, cs, cu, rfl, hin, hbb⟩
theorem Own.capM {w : World} {B g c : Nat} {xs : List Int} (h : Own w B g c xs) : c ≤ 9223372036854775807 := by
  obtain ⟨cur, _, _, _, h4, _⟩ := h.parts
  unfold maxLen at h4; omega
theorem get_none {B : Nat} (g c : Nat) (w : World) (h : Own w B g c noneL) :
    Calls Try.prog 14 #[.slice (some ⟨g, 0, none⟩) 20 c] w fun E w' => ∃ pb pk ps pu cb ck cs cu, E = .returned (.tuple #[.agg (imA pb pk ps pu 0 cb 0 ck 0 cs 0 cu), .int .i64 0]) ∧ (∀ W, ImIn W noIM pb pk ps pu 0 cb 0 ck 0 cs 0 cu) ∧ Below w.heap.size w w' :=
  get_noim (bs := noneL) (by simp [noneL]) (by have := h.cap; simpa [noneL] using this) h.capM h.row (fun a e => by cases e; exact h.lt) byt_none getL_none
theorem get_nil (w : World) : Calls Try.prog 14 #[.slice none 0 0] w fun E w' => ∃ pb pk ps pu cb ck cs cu, E = .returned (.tuple #[.agg (imA pb pk ps pu 0 cb 0 ck 0 cs 0 cu), .int .i64 4]) ∧ (∀ W, ImIn W noIM pb pk ps pu 0 cb 0 ck 0 cs 0 cu) ∧ Below w.heap.size w w' :=
  get_noim (bs := []) rfl (Nat.le_refl _) (by omega) (fun h => absurd h (Nat.lt_irrefl 0)) (fun a e => by cases e) (fun i => by simp) getL_nil
theorem get_eight (w : World) : Calls Try.prog 14 #[.slice (some ⟨w.heap.size, 0, none⟩) 8 8] (w.alloc (.cells #[.int .u8 83, .int .u8 87, .int .u8 89, .int .u8 49, .int .u8 255, .int .u8 255, .int .u8 255, .int .u8 255] 5)) fun E w' => ∃ pb pk ps pu cb ck cs cu, E = .returned (.tuple #[.agg (imA pb pk ps pu 0 cb 0 ck 0 cs 0 cu), .int .i64 200]) ∧ (∀ W, ImIn W noIM pb pk ps pu 0 cb 0 ck 0 cs 0 cu) ∧ Below (w.alloc (.cells #[.int .u8 83, .int .u8 87, .int .u8 89, .int .u8 49, .int .u8 255, .int .u8 255, .int .u8 255, .int .u8 255] 5)).heap.size (w.alloc (.cells #[.int .u8 83, .int .u8 87, .int .u8 89, .int .u8 49, .int .u8 255, .int .u8 255, .int .u8 255, .int .u8 255] 5)) w' := by
  have h : Own (w.alloc (.cells #[.int .u8 83, .int .u8 87, .int .u8 89, .int .u8 49, .int .u8 255, .int .u8 255, .int .u8 255, .int .u8 255] 5)) w.heap.size w.heap.size 8 eightL := Own.lit w eightL (by unfold maxLen; decide)
  exact get_noim (bs := eightL) rfl (Nat.le_refl _) (by omega) h.row (fun a e => by cases e; exact h.lt) byt_eight getL_eight
end Go.Proofs.Ytfhjaabbfaamjaa

/- The chapter's examples: awake. -/
namespace Go.Proofs.Ytfhjaabbfaamjaa
open Go.RowKit

theorem OwnV.rowAt {w : World} {B n c : Nat} {p : Option Addr} {xs : List Int} (h : OwnV w B (.slice p n c) xs) : Row w p xs := by
  obtain ⟨_, _, e, r, _⟩ := h.sliceC
  injection e with a; subst a
  exact r
theorem noneL_len : noneL.length = 20 := by simp [noneL]
set_option maxRecDepth 20000 in
set_option maxHeartbeats 1000000 in
theorem awake_any (w : World) : Calls Try.prog 12 #[] w fun E w' => E = .returned (.bool true) ∧ Below w.heap.size w w' := by
  have h8 := put_yes noIM none none none none 0 0 0 0 0 0 0 0 w (ImIn.nil w) okI_none (fun _ => ⟨rfl, rfl⟩)
  rw [← noneL_put] at h8
  go_enter Try.func12, Try.ntmps12
  go_wp2_with (go_at_call 8; refine h8.mono ?_; rintro e w1 ⟨v1, rfl, ho1, hb1⟩; obtain ⟨p1, n1, c1, rfl, hn1⟩ := ho1.sl; have HO1 := Hid.in ho1; have HN1 := Hid.in hn1; have HB1 := Hid.in hb1; clear ho1 hb1 hn1)
  go_wp2_with (go_at_call 31; refine (none_any w1).mono ?_; rintro e w2 ⟨g2, c2, rfl, ho2, hb2⟩; have h14 := get_none g2 c2 w2 ho2; have HB2 := Hid.in (below_step HB1.out hb2); have HC2 := Hid.in hb2; clear ho2 hb2)
  go_wp2_with (go_at_call 14; (with_reducible refine h14.mono ?_); rintro e w3 ⟨pb, pk, ps, pu, cb, ck, cs, cu, rfl, hin, hb3⟩; have HIN := Hid.in hin; have HB3 := Hid.in (below_step HB2.out hb3); have HC3 := Hid.in (below_step HC2.out hb3); have HM3 : Hid (Blk (w3.alloc (.cells (imA pb pk ps pu 0 cb 0 ck 0 cs 0 cu) 27)) w3.heap.size 27 (imA pb pk ps pu 0 cb 0 ck 0 cs 0 cu)) := Blk.new _ _ _; clear hin hb3 h14)
  have h14 := get_nil (w3.alloc (.cells (imA pb pk ps pu 0 cb 0 ck 0 cs 0 cu) 27))
  go_wp2_with (go_at_call 14; (with_reducible refine h14.mono ?_); rintro e w4 ⟨p4, p5, p6, p7, c4, c5, c6, c7, rfl, -, hb4⟩; have HB4 := Hid.in (below_step (below_alloc HB3.out _) hb4); have HC4 := Hid.in (below_step (below_alloc HC3.out _) hb4); have HM4 := Hid.in (HM3.out.grow hb4); clear hb4 h14)
  have h14 := get_eight (w4.alloc (.cells (imA p4 p5 p6 p7 0 c4 0 c5 0 c6 0 c7) 27))
  rw [size_one] at h14
  go_wp2_with (go_at_call 14; (with_reducible refine h14.mono ?_); rintro e w5 ⟨q4, q5, q6, q7, d4, d5, d6, d7, rfl, -, hb5⟩; have HB5 := Hid.in (below_step (below_alloc (below_alloc HB4.out _) _) hb5); have HC5 := Hid.in (below_step (below_alloc (below_alloc HC4.out _) _) hb5); have HM5 := Hid.in ((HM4.out.grow (below_alloc (new_alloc _ _) _)).grow hb5); clear hb5 h14)
  have HR1 := Hid.in HO1.out.rowAt
  have HN2 : Hid (noneL.length = n1) := HN1.out.1.symm
  have hn9 : n1 ≤ 9223372036854775807 := by have := HN1.out.2; omega
  have HL : Hid (noneL.length = 20) := noneL_len
  go_wp2_with (first
    | (go_at_call 31; refine (none_any _).mono ?_; rintro e w6 ⟨g6, c6, rfl, ho6, hb6⟩; have HB6 := Hid.in (below_step (below_alloc HB5.out _) hb6); have HC6 := Hid.in (below_step (below_alloc HC5.out _) hb6); have HM6 := Hid.in ((HM5.out.grow (new_alloc _ _)).grow hb6); have HR6 := Hid.in ho6.row; clear ho6 hb6)
    | (go_at_call 10; (with_reducible refine (sameBytes_any p1 (some ⟨g6, 0, none⟩) n1 c1 20 c6 noneL noneL w6 HN2.out HL.out hn9 (HR1.out.below HC6.out) HR6.out).mono ?_); rintro e w7 ⟨rfl, z7, hz7⟩; rw [sameB_self]; have HB7 : Hid (Below w.heap.size w w7) := (by rw [hz7]; exact below_draws HB6.out z7); have HM7 : Hid (Blk w7 w3.heap.size 27 (imA pb pk ps pu 0 cb 0 ck 0 cs 0 cu)) := (by rw [hz7]; exact HM6.out); obtain ⟨l0, l1, l2, l3⟩ := HM7.out.cells4; have h11 := sameImage_yes noIM pb pk ps pu none none none none 0 cb 0 ck 0 cs 0 cu 0 0 0 0 w7 (HIN.out w7) (ImIn.nil w7); clear hz7)
    | (go_at_call 11; (with_reducible refine h11.mono ?_); rintro e w8 ⟨rfl, hb8⟩; have HB8 := Hid.in (below_step HB7.out hb8); clear hb8))
  go_ret
  exact ⟨rfl, HB8.out⟩
end Go.Proofs.Ytfhjaabbfaamjaa

/- switchyardkit.Pick: a number below n. -/
namespace Go.Proofs.Ytfhjaabbfaamjaa
open Go.RowKit

set_option maxRecDepth 20000 in
theorem pick_any (a : Int) (n : Nat) (h0 : 0 < n) (hn : n ≤ 9223372036854775807) (w : World) : Calls Try.prog 19 #[.int .i64 a, .int .i64 n] w fun E w' => (∃ k : Nat, k < n ∧ E = .returned (.int .i64 k)) ∧ w' = w := by
  have h1 := Int.lt_tmod_of_pos a (show (0 : Int) < (n : Int) by omega)
  have h2 := Int.tmod_lt_of_pos a (show (0 : Int) < (n : Int) by omega)
  have hm1 : ¬ (n : Int) = 0 := by omega
  have hw : IntKind.i64.wrap (a.tmod n) = a.tmod n := by rw [IntKind.wrap_i64]; omega
  go_enter Try.func19, Try.ntmps19
  by_cases hneg : a.tmod n < 0
  · have hw2 : IntKind.i64.wrap (a.tmod n + (n : Int)) = a.tmod n + (n : Int) := by rw [IntKind.wrap_i64]; omega
    go_wp2_with fail
    go_ret
    refine ⟨⟨(a.tmod n + n).toNat, by omega, ?_⟩, rfl⟩
    rw [Int.toNat_of_nonneg (by omega)]; rfl
  · go_wp2_with fail
    go_ret
    refine ⟨⟨(a.tmod n).toNat, by omega, ?_⟩, rfl⟩
    rw [Int.toNat_of_nonneg (by omega)]; rfl

end Go.Proofs.Ytfhjaabbfaamjaa

/- StoreCut, walked: what is cut is too short, what is longer is no image. -/
namespace Go.Proofs.Ytfhjaabbfaamjaa
open Go.RowKit

/-- a copy is an image in memory as the first one is -/
theorem ImOwn.like {w w0 : World} {B : Nat} {m : IM} {vb vk vs vu : Value} {pb pk ps pu : Option Addr} {nb cb nk ck ns cs nu cu : Nat} (h : ImOwn w B m vb vk vs vu) (H : ImIn w0 m pb pk ps pu nb cb nk ck ns cs nu cu) :
    ∃ qb qk qs qu db dk ds du, vb = .slice qb nb db ∧ vk = .slice qk nk dk ∧ vs = .slice qs ns ds ∧ vu = .slice qu nu du ∧ ImIn w m qb qk qs qu nb db nk dk ns ds nu du ∧ (qb = none → nb = 0 ∧ db = 0) := by
  obtain ⟨qb, db, e1, r1, l1, l2⟩ := h.b.sliceC
  obtain ⟨qk, dk, e2, r2, _⟩ := h.k.slice
  obtain ⟨qs, ds, e3, _, _, r3⟩ := h.s.row3
  obtain ⟨qu, du, e4, r4, _⟩ := h.u.slice
  have hz : qb = none → nb = 0 ∧ db = 0 := fun e => by
    rcases h.b.shape with ⟨a1, a2⟩ | ⟨g, cap, a1, _⟩
    · rw [e1] at a1
      injection a1 with _ _ a3
      rw [← H.lb, a2]; exact ⟨rfl, a3⟩
    · rw [e1] at a1
      injection a1 with a3
      rw [e] at a3; cases a3
  rw [H.lb] at e1 l1
  rw [List.length_map, H.lk] at e2
  rw [List.length_map, H.ls] at e3
  rw [List.length_map, H.lu] at e4
  exact ⟨qb, qk, qs, qu, db, dk, ds, du, e1, e2, e3, e4, ⟨H.lb, H.lk, H.ls, H.lu, l1, l2, H.mc, H.ms, H.mu, r1, r2, r3, r4, H.byt, H.ksz, H.uns⟩, hz⟩

set_option maxRecDepth 20000 in
set_option maxHeartbeats 1000000 in
theorem cut_no (m : IM) (pb pk ps pu q : Option Addr) (nb cb nk ck ns cs nu cu n d : Nat) (at_ : Int) (w : World) (h : ImIn w m pb pk ps pu nb cb nk ck ns cs nu cu) (h1 : nb ≤ 140737488355328) (h2 : nk * 16 ≤ 140737488355328) (h3 : ns ≤ 5864062014634) (h4 : nu * 8 ≤ 140737488355328) (hok : okI m = false) :
    Calls Try.prog 6 #[.agg (imA pb pk ps pu nb cb nk ck ns cs nu cu), .int .i64 at_, .slice q n d] w fun E w' => E = .returned (.bool true) ∧ Below w.heap.size w w' := by
  have HK0 : Hid (Blk (w.alloc (.cells (imA pb pk ps pu nb cb nk ck ns cs nu cu) 27)) w.heap.size 27 (imA pb pk ps pu nb cb nk ck ns cs nu cu)) := Blk.new _ _ _
  have HB0 : Hid (Below w.heap.size w (w.alloc (.cells (imA pb pk ps pu nb cb nk ck ns cs nu cu) 27))) := new_alloc _ _
  have hc := copyImage_any m pb pk ps pu nb cb nk ck ns cs nu cu _ (h.below HB0.out) h1 h2 h3 h4
  have H := Hid.in h
  obtain ⟨k0, k1, k2, k3⟩ := HK0.out.cells4
  clear h
  go_enter Try.func6, Try.ntmps6
  go_wp2_with (first
    | (go_at_call 7; (with_reducible refine hc.mono ?_); rintro e w1 ⟨vb, vk, vs, vu, rfl, hi, hb1⟩; obtain ⟨qb, qk, qs, qu, db, dk, ds, du, rfl, rfl, rfl, rfl, hin, -⟩ := hi.like H.out; have hp := put_no m qb qk qs qu nb db nk dk ns ds nu du w1 hin hok; have HB1 := Hid.in (below_step HB0.out hb1); clear hi hb1 hin)
    | (go_at_call 8; (with_reducible refine hp.mono ?_); rintro e w2 ⟨rfl, hb2⟩; have HB2 := Hid.in (below_step HB1.out hb2); clear hb2)
    | (go_at_call 12; refine (awake_any _).mono ?_; rintro e w3 ⟨rfl, hb3⟩; have HB3 := Hid.in (below_step HB2.out hb3); clear hb3))
  go_ret
  exact ⟨rfl, HB3.out⟩

theorem putI_byt {m : IM} (h : Byt m.bs) : Byt (putI m.im) := by
  have hk : ∀ (ks : List (List Int)), (∀ k ∈ ks, Byt k) → Byt (ks.flatMap keyB) := fun ks => by
    induction ks with
    | nil => exact fun _ i => by simp
    | cons k r ih => exact fun hh => by rw [List.flatMap_cons]; exact byt_app (byt_app (lb4_byt _) (hh k (by simp))) (ih fun y hy => hh y (by simp [hy]))
  have hs : ∀ (si : List Si), Byt (si.flatMap siteL) := fun si => by
    induction si with
    | nil => exact fun i => by simp
    | cons k r ih => rw [List.flatMap_cons]; exact byt_app (byt_app (lb4_byt _) (byt_app (lb4_byt _) (lb4_byt _))) ih
  have hu : ∀ (un : List Int), Byt (un.flatMap fun u => lb4 u.toNat) := fun un => by
    induction un with
    | nil => exact fun i => by simp
    | cons k r ih => rw [List.flatMap_cons]; exact byt_app (lb4_byt _) ih
  unfold putI IM.im
  refine byt_app byt_swy (byt_app (lb4_byt _) (byt_app h (byt_app (lb4_byt _) (byt_app (hk _ fun k hk2 => ?_) (byt_app (lb4_byt _) (byt_app (hs _) (byt_app (lb4_byt _) (hu _))))))))
  obtain ⟨s, _, rfl⟩ := List.mem_map.1 hk2
  exact strL_byt s
theorem putI_len {m : IM} (h : okI m = true) : (putI m.im).length ≤ 100000 := by
  rw [← pre_all, List.length_append]
  have h1 := pre3_len h
  have h2 := flat_len (f := unitL) (c := 4) m.un fun x _ => Nat.le_of_eq (lb4_len _)
  have h3 := (okI_im h).un
  have : m.un.length ≤ 16 := h3
  omega
theorem putI_pos (m : IM) : 0 < (putI m.im).length := by unfold putI; rw [List.length_append]; exact Nat.lt_of_lt_of_le (by decide : 0 < swy.length) (Nat.le_add_right _ _)
theorem OwnV.farV {w : World} {B n c : Nat} {p : Option Addr} {xs : List Int} (h : OwnV w B (.slice p n c) xs) : ∀ a, p = some a → a.block < w.heap.size := fun a e => by
  rcases h.shape with ⟨e1, _⟩ | ⟨g, cap, e1, ho⟩
  · injection e1 with e2; rw [e] at e2; cases e2
  · injection e1 with e2
    rw [e] at e2
    injection e2 with e3
    rw [e3]; exact ho.lt

theorem two_own {w1 w2 w3 : World} {B n m c d : Nat} {p q : Option Addr} {xs ys : List Int} {w6 : World} (h1 : OwnV w1 B (.slice p n c) xs) (h2 : OwnV w2 B (.slice p n c) xs) (h3 : OwnV w6 w1.heap.size (.slice q m d) ys) (hg : w2.grownBy w3 (Value.slice q m d).ownBlock) : OwnV w3 B (.slice p n c) xs := by
  refine World.ownsRow.kept h2 hg ?_
  cases e : (Value.slice p n c).ownBlock with
  | none => exact Or.inl rfl
  | some k =>
    refine Or.inr fun e2 => ?_
    have a := own_lt h1 k e
    have b := own_ge h3 k e2.symm
    omega

theorem OwnV.nilV {w : World} {B n c : Nat} {p : Option Addr} {xs : List Int} (h : OwnV w B (.slice p n c) xs) : p = none → n = 0 ∧ c = 0 := fun e => by
  rcases h.shape with ⟨e1, _⟩ | ⟨g, cap, e1, ho⟩
  · injection e1 with _ e2 e3; exact ⟨e2, e3⟩
  · injection e1 with e2; rw [e] at e2; cases e2

set_option maxRecDepth 20000 in
set_option maxHeartbeats 1000000 in
theorem cut_yes (m : IM) (pb pk ps pu q : Option Addr) (nb cb nk ck ns cs nu cu n d : Nat) (at_ : Int) (ys : List Int) (w : World) (h : ImIn w m pb pk ps pu nb cb nk ck ns cs nu cu) (h1 : nb ≤ 140737488355328) (h2 : nk * 16 ≤ 140737488355328) (h3 : ns ≤ 5864062014634) (h4 : nu * 8 ≤ 140737488355328) (hok : okI m = true) (hy : ys.length = n) (hn : n ≤ 140737488200000) (hr : Row w q ys) (hby : Byt ys) :
    Calls Try.prog 6 #[.agg (imA pb pk ps pu nb cb nk ck ns cs nu cu), .int .i64 at_, .slice q n d] w fun E w' => E = .returned (.bool true) ∧ Below w.heap.size w w' := by
  have HK0 : Hid (Blk (w.alloc (.cells (imA pb pk ps pu nb cb nk ck ns cs nu cu) 27)) w.heap.size 27 (imA pb pk ps pu nb cb nk ck ns cs nu cu)) := Blk.new _ _ _
  have HB0 : Hid (Below w.heap.size w (w.alloc (.cells (imA pb pk ps pu nb cb nk ck ns cs nu cu) 27))) := new_alloc _ _
  have hc := copyImage_any m pb pk ps pu nb cb nk ck ns cs nu cu _ (h.below HB0.out) h1 h2 h3 h4
  have H := Hid.in h
  have HY := Hid.in hy
  have HR := Hid.in hr
  have HBY := Hid.in hby
  have HPB := Hid.in (putI_byt h.byt)
  have hpos := putI_pos m
  have hlen := putI_len hok
  have HCUT := Hid.in (getL_cut hok)
  have HMORE := Hid.in (getL_more hok)
  obtain ⟨k0, k1, k2, k3⟩ := HK0.out.cells4
  clear h hy hr hby
  go_enter Try.func6, Try.ntmps6
  go_wp2_with (go_at_call 7; (with_reducible refine hc.mono ?_); rintro e w1 ⟨vb, vk, vs, vu, rfl, hi, hb1⟩; obtain ⟨qb, qk, qs, qu, db, dk, ds, du, rfl, rfl, rfl, rfl, hin, hz⟩ := hi.like H.out; have hp := put_yes m qb qk qs qu nb db nk dk ns ds nu du w1 hin hok hz; have HB1 := Hid.in (below_step HB0.out hb1); clear hi hb1 hin hz)
  generalize putI m.im = P at *
  go_wp2_with (go_at_call 8; (with_reducible refine hp.mono ?_); rintro e w2 ⟨v2, rfl, ho2, hb2⟩; obtain ⟨p2, N, c2, rfl, hN, hNc, hc2⟩ := ho2.sl; have HO2 := Hid.in ho2; have HN := Hid.in hN; have HB2 := Hid.in (below_step HB1.out hb2); have HC2 := Hid.in (below_self w2); rw [← hN] at hpos hlen; have hpk := pick_any at_ N hpos (by omega) w2; clear ho2 hb2 hN)
  go_wp2_with (first
    | (go_at_call 19; (with_reducible refine hpk.mono ?_); rintro e w3 ⟨⟨k, hk, rfl⟩, hw3⟩; subst hw3; have hi1 := (fun W => slice_hi p2 N c2 k W (by omega)); have hi2 := (fun W => slice_hi' p2 N c2 k W (by omega)); have hg := get_noim (bs := P.take k) (e := 4) (p := p2) (n := k) (c := c2) (w := w3) (by rw [List.length_take, ← HN.out]; omega) (by omega) hc2 (HO2.out.rowAt.take k) HO2.out.farV (byt_takeS HPB.out k) (HCUT.out k (by rw [← HN.out]; exact hk)); clear hpk)
    | (go_at_call 14; (with_reducible refine hg.mono ?_); rintro e w4 ⟨r4, r5, r6, r7, s4, s5, s6, s7, rfl, -, hb4⟩; have HB4 := Hid.in (below_step HB2.out hb4); have HC4 := Hid.in hb4; clear hb4 hg))
  have hNb : N ≤ 140737488355328 := by omega
  have HN2 : Hid (P.length = N) := HN.out.symm
  have HRB := Hid.in ((HO2.out.rowAt.below HC4.out).below (new_alloc w4 (.cells (imA r4 r5 r6 r7 0 s4 0 s5 0 s6 0 s7) 27)))
  have HRY := Hid.in ((HR.out.below HB4.out).below (new_alloc w4 (.cells (imA r4 r5 r6 r7 0 s4 0 s5 0 s6 0 s7) 27)))
  have HBA := Hid.in (below_alloc HB4.out (.cells (imA r4 r5 r6 r7 0 s4 0 s5 0 s6 0 s7) 27))
  have hc5 := copy_any p2 N c2 P _ HN2.out hNb HRB.out
  have hc6 := fun W (hW : Below (w4.alloc (.cells (imA r4 r5 r6 r7 0 s4 0 s5 0 s6 0 s7) 27)).heap.size (w4.alloc (.cells (imA r4 r5 r6 r7 0 s4 0 s5 0 s6 0 s7) 27)) W) => copy_any q n d ys W HY.out (by omega) (HRY.out.below hW)
  go_wp2_with (go_at_call 18; (with_reducible refine hc5.mono ?_); rintro e w5 ⟨v5, rfl, ho5, hb5⟩; obtain ⟨p5, n5, c5, rfl, hn5⟩ := ho5.sl; have HO5 := Hid.in ho5; have HB5 := Hid.in (below_step HBA.out hb5); have h18 := hc6 w5 hb5; have hs5 := hb5.size; clear ho5 hb5 hn5)
  go_wp2_with (first
    | (go_at_call 18; (with_reducible refine h18.mono ?_); rintro e w6 ⟨v6, rfl, ho6, hb6⟩; obtain ⟨p6, n6, c6, rfl, hn6⟩ := ho6.sl; have HO6 := Hid.in ho6; have HB6 := Hid.in (below_step HB5.out hb6); have hs6 := hb6.size; have HP6 := Hid.in (HO5.out.below hb6); clear ho6 hb6 hn6)
    | (at_builtin; first
      | (refine wp_push _ rfl _ _ rfl w5.heap.size _ ys rfl (HO6.out.alloc _) ⟨w6.heap.size, 0, none⟩ 1 1 [0] rfl rfl (cell_one_new _ _ _) (by rw [HY.out]; omega) (by simp; omega) ?_; intro v7 w7 ho7 hg7 hb7 _; obtain ⟨p7, n7, c7, rfl, hn7⟩ := ho7.sl; have HO7 := Hid.in ho7; have HN7 := Hid.in hn7; have HP7 : Hid (OwnV w7 (w4.alloc (.cells (imA r4 r5 r6 r7 0 s4 0 s5 0 s6 0 s7) 27)).heap.size (.slice p5 n5 c5) P) := two_own HO5.out (HP6.out.alloc _) HO6.out hg7; have HB7 := Hid.in ((below_alloc HB6.out (.cells #[.int .u8 0] 5)).grown hg7 (below_alloc HB6.out _).size (fun k hk => Nat.le_trans HB5.out.size (own_ge HO6.out k hk))); have hs7 := hg7.size; have HS8 : Hid (w6.heap.size + 1 ≤ w7.heap.size) := (by have := hg7.size; rw [size_one] at this; exact this); clear ho7 hg7 hb7 hn7 hs7)
      | (refine wp_push_own _ rfl _ _ rfl (w4.alloc (.cells (imA r4 r5 r6 r7 0 s4 0 s5 0 s6 0 s7) 27)).heap.size _ P rfl HP7.out p7 n7 c7 (ys ++ [0]) rfl HN7.out.1.symm HO7.out.rowAt HO7.out.nilV (by rw [HN7.out.1, HN2.out, List.length_append, HY.out]; simp; omega) (Nat.le_of_lt (Nat.lt_of_le_of_lt hs5 (Nat.lt_of_lt_of_le (Nat.lt_succ_of_le hs6) HS8.out))) ?_; intro v8 w8 ho8 hg8 hb8; obtain ⟨p8, n8, c8, rfl, hn8⟩ := ho8.sl; have HO8 := Hid.in ho8; have HN8 := Hid.in hn8; have HB8 := Hid.in (HB7.out.grown hg8 HB7.out.size (fun k hk => Nat.le_trans HBA.out.size (own_ge HP7.out k hk))); clear ho8 hg8 hb8 hn8)))
  have hgm := get_noim (bs := P ++ (ys ++ [0])) (e := 200) (p := p8) (n := n8) (c := c8) (w := w8) HN8.out.1.symm HN8.out.2.1 HN8.out.2.2 HO8.out.rowAt HO8.out.farV (byt_app HPB.out (byt_app HBY.out (byt_cons (by omega) fun i => by simp))) (HMORE.out (ys ++ [0]) (by simp))
  go_wp2_with (first
    | (go_at_call 14; (with_reducible refine hgm.mono ?_); rintro e w9 ⟨t4, t5, t6, t7, y4, y5, y6, y7, rfl, -, hb9⟩; have HB9 := Hid.in (below_step HB8.out hb9); clear hb9 hgm)
    | (go_at_call 12; refine (awake_any _).mono ?_; rintro e w10 ⟨rfl, hb10⟩; have HB10 := Hid.in (below_step (below_alloc HB9.out _) hb10); clear hb10))
  go_ret
  exact ⟨rfl, HB10.out⟩
end Go.Proofs.Ytfhjaabbfaamjaa

/- StoreBack, walked: what is put is got as it was; what is got is right, and put as these bytes. -/
namespace Go.Proofs.Ytfhjaabbfaamjaa
open Go.RowKit

/-- an image that a call has made and that is right, in memory -/
theorem ImOwn.inOk {w : World} {B : Nat} {m : IM} {vb vk vs vu : Value} (h : ImOwn w B m vb vk vs vu) (hok : okI m = true) (hbyt : Byt m.bs) :
    ∃ qb qk qs qu db dk ds du, vb = .slice qb m.bs.length db ∧ vk = .slice qk m.ks.length dk ∧ vs = .slice qs m.si.length ds ∧ vu = .slice qu m.un.length du ∧ ImIn w m qb qk qs qu m.bs.length db m.ks.length dk m.si.length ds m.un.length du ∧ (qb = none → m.bs.length = 0 ∧ db = 0) := by
  have hB := okI_im hok
  have b1 : m.bs.length ≤ 65536 := hB.bs
  have b2 : m.ks.length ≤ 64 := by have := hB.ks; simpa [IM.im] using this
  have b3 : m.si.length ≤ 256 := hB.si
  have b4 : m.un.length ≤ 16 := hB.un
  obtain ⟨qb, db, e1, r1, l1, l2⟩ := h.b.sliceC
  obtain ⟨qk, dk, e2, r2, _⟩ := h.k.slice
  obtain ⟨qs, ds, e3, _, _, r3⟩ := h.s.row3
  obtain ⟨qu, du, e4, r4, _⟩ := h.u.slice
  have hz : qb = none → m.bs.length = 0 ∧ db = 0 := fun e => by
    rcases h.b.shape with ⟨a1, a2⟩ | ⟨g, cap, a1, _⟩
    · rw [e1] at a1
      injection a1 with _ _ a3
      rw [a2]; exact ⟨rfl, a3⟩
    · rw [e1] at a1
      injection a1 with a3
      rw [e] at a3; cases a3
  rw [List.length_map] at e2 e3 e4
  refine ⟨qb, qk, qs, qu, db, dk, ds, du, e1, e2, e3, e4, ⟨rfl, rfl, rfl, rfl, l1, l2, by omega, by omega, by omega, r1, r2, r3, r4, hbyt, fun k hk => ?_, fun u hu => ?_⟩, hz⟩
  · have := keyU_len hok k hk
    simp only [keyU, List.length_append, lb4_len, strL_len] at this
    unfold maxLen; omega
  · have := hB.unit u hu
    unfold sNum at this
    unfold i64P; omega
theorem putI_mem {m : IM} {x : Int} (h : x ∈ m.bs) : x ∈ putI m.im := by
  simp only [putI, IM.im, List.mem_append]
  exact .inr (.inr (.inl h))
theorem byt_part {m : IM} {bs : List Int} (hb : Byt bs) (h : putI m.im = bs) : Byt m.bs := fun i => by
  by_cases hi : i < m.bs.length
  · have := Byt.mem hb m.bs[i] (by rw [← h]; exact putI_mem (List.getElem_mem hi))
    simpa [List.getD, hi] using this
  · simp [List.getD, List.getElem?_eq_none (show m.bs.length ≤ i by omega)]

set_option maxRecDepth 20000 in
set_option maxHeartbeats 4000000 in
theorem back_noN (m : IM) (pb pk ps pu q : Option Addr) (nb cb nk ck ns cs nu cu n d : Nat) (ys : List Int) (w : World) (h : ImIn w m pb pk ps pu nb cb nk ck ns cs nu cu) (h1 : nb ≤ 140737488355328) (h2 : nk * 16 ≤ 140737488355328) (h3 : ns ≤ 5864062014634) (h4 : nu * 8 ≤ 140737488355328) (hok : okI m = false) (hy : ys.length = n) (hn : n ≤ 140737488351232) (hr : Row w q ys) (hby : Byt ys) (hgl : (getL ys).2 ≠ 0) :
    Calls Try.prog 5 #[.agg (imA pb pk ps pu nb cb nk ck ns cs nu cu), .slice q n d] w fun E w' => E = .returned (.bool true) ∧ Below w.heap.size w w' := by
  have HK0 : Hid (Blk (w.alloc (.cells (imA pb pk ps pu nb cb nk ck ns cs nu cu) 27)) w.heap.size 27 (imA pb pk ps pu nb cb nk ck ns cs nu cu)) := Blk.new _ _ _
  have HB0 : Hid (Below w.heap.size w (w.alloc (.cells (imA pb pk ps pu nb cb nk ck ns cs nu cu) 27))) := new_alloc _ _
  have HC := Hid.in (fun W (hW : ImIn W m pb pk ps pu nb cb nk ck ns cs nu cu) => copyImage_any m pb pk ps pu nb cb nk ck ns cs nu cu W hW h1 h2 h3 h4)
  have H := Hid.in h
  have HY := Hid.in hy
  have HR := Hid.in hr
  have HBY := Hid.in hby
  have HPB := Hid.in (putI_byt h.byt)
  obtain ⟨er, HER⟩ : ∃ er, Hid (getL ys = (noIM, er)) := ⟨(getL ys).2, Prod.ext (getL_bad hgl) rfl⟩
  have her : (er != 0) = true := by rw [HER.out] at hgl; exact bne_iff_ne.2 hgl
  clear hgl
  obtain ⟨k0, k1, k2, k3⟩ := HK0.out.cells4
  clear h hy hr hby
  go_enter Try.func5, Try.ntmps5
  go_wp2_with (go_at_call 7; refine Hid.out ?_)
  refine Lib.hid ?_
  with_reducible refine (HC.out _ (H.out.below HB0.out)).mono ?_
  rintro e w1 ⟨vb, vk, vs, vu, rfl, hi, hb1⟩
  obtain ⟨qb, qk, qs, qu, db, dk, ds, du, rfl, rfl, rfl, rfl, hin, hz⟩ := hi.like H.out
  have HB1 := Hid.in (below_step HB0.out hb1)
  have HK1 := Hid.in (HK0.out.grow hb1)
  have hp := put_no m qb qk qs qu nb db nk dk ns ds nu du w1 hin hok
  clear hi hb1 hin hz HK0 k0 k1 k2 k3
  go_wp2_with (go_at_call 8; refine Hid.out ?_)
  refine Lib.hid ?_
  with_reducible refine hp.mono ?_
  rintro e w2 ⟨rfl, hb2⟩
  have HB2 := Hid.in (below_step HB1.out hb2)
  have HK2 := Hid.in (HK1.out.grow hb2)
  clear hb2 hp HB1 HK1
  obtain ⟨k0, k1, k2, k3⟩ := HK2.out.cells4
  go_wp2_with (go_at_call 7; refine Hid.out ?_)
  refine Lib.hid ?_
  with_reducible refine (HC.out _ (H.out.below HB2.out)).mono ?_
  rintro e w3 ⟨vb', vk', vs', vu', rfl, hi, hb3⟩
  obtain ⟨tb, tk, ts, tu, fb, fk, fs, fu, rfl, rfl, rfl, rfl, hin, -⟩ := hi.like H.out
  have hp := iright_any m tb tk ts tu nb fb nk fk ns fs nu fu w3 hin
  rw [hok] at hp
  have HB3 := Hid.in (below_step HB2.out hb3)
  have HC3 := Hid.in hb3
  have HK3 := Hid.in (HK2.out.grow hb3)
  clear hi hb3 hin HK2 k0 k1 k2 k3
  go_wp2_with (go_at_call 17; refine Hid.out ?_)
  refine Lib.hid ?_
  with_reducible refine hp.mono ?_
  rintro e w4 ⟨rfl, hb4⟩
  have HB4 := Hid.in (below_step HB3.out hb4)
  have HC4 := Hid.in (below_step HC3.out hb4)
  have HK4 := Hid.in (HK3.out.grow hb4)
  clear hb4 hp HK3 HB3 HC3 HB2
  have HB6 := HB4
  obtain ⟨w6, hw6⟩ : ∃ w6, w6 = w4 := ⟨_, rfl⟩
  rw [← hw6] at HB6 ⊢
  clear hw6 HK4 HB4 HC4
  have hc7 := copy_any q n d ys w6 HY.out (by omega) (HR.out.below HB6.out)
  go_wp2_with (go_at_call 18; refine Hid.out ?_)
  refine Lib.hid ?_
  with_reducible refine hc7.mono ?_
  rintro e w7 ⟨v7, rfl, ho7, hb7⟩
  obtain ⟨p7, n7, c7, rfl, hn7, hnc7, hcm7⟩ := ho7.sl
  have HB7 := Hid.in (below_step HB6.out hb7)
  have HO7 := Hid.in ho7
  have HN7 : Hid (ys.length = n7) := hn7.symm
  clear ho7 hb7 hn7 hc7 HB6
  have hg := get_noim (bs := ys) (e := er) (p := p7) (n := n7) (c := c7) (w := w7) HN7.out hnc7 hcm7 HO7.out.rowAt HO7.out.farV HBY.out HER.out
  go_wp2_with (go_at_call 14; refine Hid.out ?_)
  refine Lib.hid ?_
  with_reducible refine hg.mono ?_
  rintro e w8 ⟨tb, tk, ts, tu, fb, fk, fs, fu, rfl, hin8, hb8⟩
  have HN8 := Hid.in (new_alloc w8 (.cells (imA tb tk ts tu 0 fb 0 fk 0 fs 0 fu) 27))
  have HB8 := Hid.in (below_step (below_step HB7.out hb8) HN8.out)
  have HM8 := Hid.in (Blk.new w8 27 (imA tb tk ts tu 0 fb 0 fk 0 fs 0 fu))
  have hs := sameImage_yes noIM tb tk ts tu none none none none 0 fb 0 fk 0 fs 0 fu 0 0 0 0 (w8.alloc (.cells (imA tb tk ts tu 0 fb 0 fk 0 fs 0 fu) 27)) (hin8 _) (ImIn.nil _)
  clear hb8 hin8 HN8 hg HB7 HO7
  obtain ⟨l0, l1, l2, l3⟩ := HM8.out.cells4
  go_wp2_with (go_at_call 11; refine Hid.out ?_)
  refine Lib.hid ?_
  with_reducible refine hs.mono ?_
  rintro e w9 ⟨rfl, hb9⟩
  go_wp2_with (go_at_call 12; refine Hid.out ?_)
  refine Lib.hid ?_
  refine (awake_any _).mono ?_
  rintro e w10 ⟨rfl, hb10⟩
  go_wp2_with fail
  go_ret
  exact ⟨rfl, below_step (below_step HB8.out hb9) hb10⟩

set_option maxRecDepth 20000 in
set_option maxHeartbeats 4000000 in
theorem back_noY (m : IM) (pb pk ps pu q : Option Addr) (nb cb nk ck ns cs nu cu n d : Nat) (ys : List Int) (w : World) (h : ImIn w m pb pk ps pu nb cb nk ck ns cs nu cu) (h1 : nb ≤ 140737488355328) (h2 : nk * 16 ≤ 140737488355328) (h3 : ns ≤ 5864062014634) (h4 : nu * 8 ≤ 140737488355328) (hok : okI m = false) (hy : ys.length = n) (hn : n ≤ 140737488351232) (hr : Row w q ys) (hby : Byt ys) (hgl : (getL ys).2 = 0) :
    Calls Try.prog 5 #[.agg (imA pb pk ps pu nb cb nk ck ns cs nu cu), .slice q n d] w fun E w' => E = .returned (.bool true) ∧ Below w.heap.size w w' := by
  have HK0 : Hid (Blk (w.alloc (.cells (imA pb pk ps pu nb cb nk ck ns cs nu cu) 27)) w.heap.size 27 (imA pb pk ps pu nb cb nk ck ns cs nu cu)) := Blk.new _ _ _
  have HB0 : Hid (Below w.heap.size w (w.alloc (.cells (imA pb pk ps pu nb cb nk ck ns cs nu cu) 27))) := new_alloc _ _
  have HC := Hid.in (fun W (hW : ImIn W m pb pk ps pu nb cb nk ck ns cs nu cu) => copyImage_any m pb pk ps pu nb cb nk ck ns cs nu cu W hW h1 h2 h3 h4)
  have H := Hid.in h
  have HY := Hid.in hy
  have HR := Hid.in hr
  have HBY := Hid.in hby
  have HPB := Hid.in (putI_byt h.byt)
  obtain ⟨mm, HMM⟩ : ∃ mm, Hid (getL ys = (mm, 0)) := ⟨(getL ys).1, Prod.ext rfl hgl⟩
  have hbk := getL_back hby hgl
  rw [HMM.out] at hbk
  have HOKM := Hid.in hbk.1
  have HPTM := Hid.in hbk.2
  have HBYM := Hid.in (byt_part hby hbk.2)
  clear hbk hgl
  obtain ⟨k0, k1, k2, k3⟩ := HK0.out.cells4
  clear h hy hr hby
  go_enter Try.func5, Try.ntmps5
  go_wp2_with (go_at_call 7; refine Hid.out ?_)
  refine Lib.hid ?_
  with_reducible refine (HC.out _ (H.out.below HB0.out)).mono ?_
  rintro e w1 ⟨vb, vk, vs, vu, rfl, hi, hb1⟩
  obtain ⟨qb, qk, qs, qu, db, dk, ds, du, rfl, rfl, rfl, rfl, hin, hz⟩ := hi.like H.out
  have HB1 := Hid.in (below_step HB0.out hb1)
  have HK1 := Hid.in (HK0.out.grow hb1)
  have hp := put_no m qb qk qs qu nb db nk dk ns ds nu du w1 hin hok
  clear hi hb1 hin hz HK0 k0 k1 k2 k3
  go_wp2_with (go_at_call 8; refine Hid.out ?_)
  refine Lib.hid ?_
  with_reducible refine hp.mono ?_
  rintro e w2 ⟨rfl, hb2⟩
  have HB2 := Hid.in (below_step HB1.out hb2)
  have HK2 := Hid.in (HK1.out.grow hb2)
  clear hb2 hp HB1 HK1
  obtain ⟨k0, k1, k2, k3⟩ := HK2.out.cells4
  go_wp2_with (go_at_call 7; refine Hid.out ?_)
  refine Lib.hid ?_
  with_reducible refine (HC.out _ (H.out.below HB2.out)).mono ?_
  rintro e w3 ⟨vb', vk', vs', vu', rfl, hi, hb3⟩
  obtain ⟨tb, tk, ts, tu, fb, fk, fs, fu, rfl, rfl, rfl, rfl, hin, -⟩ := hi.like H.out
  have hp := iright_any m tb tk ts tu nb fb nk fk ns fs nu fu w3 hin
  rw [hok] at hp
  have HB3 := Hid.in (below_step HB2.out hb3)
  have HC3 := Hid.in hb3
  have HK3 := Hid.in (HK2.out.grow hb3)
  clear hi hb3 hin HK2 k0 k1 k2 k3
  go_wp2_with (go_at_call 17; refine Hid.out ?_)
  refine Lib.hid ?_
  with_reducible refine hp.mono ?_
  rintro e w4 ⟨rfl, hb4⟩
  have HB4 := Hid.in (below_step HB3.out hb4)
  have HC4 := Hid.in (below_step HC3.out hb4)
  have HK4 := Hid.in (HK3.out.grow hb4)
  clear hb4 hp HK3 HB3 HC3 HB2
  have HB6 := HB4
  obtain ⟨w6, hw6⟩ : ∃ w6, w6 = w4 := ⟨_, rfl⟩
  rw [← hw6] at HB6 ⊢
  clear hw6 HK4 HB4 HC4
  have hc7 := copy_any q n d ys w6 HY.out (by omega) (HR.out.below HB6.out)
  go_wp2_with (go_at_call 18; refine Hid.out ?_)
  refine Lib.hid ?_
  with_reducible refine hc7.mono ?_
  rintro e w7 ⟨v7, rfl, ho7, hb7⟩
  obtain ⟨p7, n7, c7, rfl, hn7, hnc7, hcm7⟩ := ho7.sl
  have HB7 := Hid.in (below_step HB6.out hb7)
  have HO7 := Hid.in ho7
  have HN7 : Hid (ys.length = n7) := hn7.symm
  clear ho7 hb7 hn7 hc7 HB6
  have hg := get_any p7 n7 c7 ys w7 HN7.out hnc7 hcm7 HO7.out.rowAt HO7.out.farV HBY.out
  rw [HMM.out] at hg
  dsimp only at hg
  go_wp2_with (go_at_call 14; refine Hid.out ?_)
  refine Lib.hid ?_
  with_reducible refine hg.mono ?_
  rintro e w8 ⟨gb, gk, gs, gu, rfl, hi8, hb8⟩
  obtain ⟨tb, tk, ts, tu, fb, fk, fs, fu, rfl, rfl, rfl, rfl, hin8, hz8⟩ := hi8.inOk HOKM.out HBYM.out
  generalize mm.bs.length = Nb at *
  generalize mm.ks.length = Nk at *
  generalize mm.si.length = Ns at *
  generalize mm.un.length = Nu at *
  have HN8 := Hid.in (new_alloc w8 (.cells (imA tb tk ts tu Nb fb Nk fk Ns fs Nu fu) 27))
  have HB8 := Hid.in (below_step (below_step HB7.out hb8) HN8.out)
  have HM8 := Hid.in (Blk.new w8 27 (imA tb tk ts tu Nb fb Nk fk Ns fs Nu fu))
  have HI8 := Hid.in (hin8.below HN8.out)
  have hp := put_yes mm tb tk ts tu Nb fb Nk fk Ns fs Nu fu (w8.alloc (.cells (imA tb tk ts tu Nb fb Nk fk Ns fs Nu fu) 27)) HI8.out HOKM.out hz8
  rw [HPTM.out] at hp
  clear hi8 hb8 hin8 HN8 hg HB7 HO7
  obtain ⟨l0, l1, l2, l3⟩ := HM8.out.cells4
  go_wp2_with (go_at_call 8; refine Hid.out ?_)
  refine Lib.hid ?_
  with_reducible refine hp.mono ?_
  rintro e w9 ⟨v9, rfl, ho9, hb9⟩
  obtain ⟨p9, n9, c9, rfl, hn9, -, -⟩ := ho9.sl
  have HB9 := Hid.in (below_step HB8.out hb9)
  have HM9 := Hid.in (HM8.out.grow hb9)
  have HI9 := Hid.in (HI8.out.below hb9)
  have HO9 := Hid.in ho9
  have HN9 : Hid (ys.length = n9) := hn9.symm
  clear ho9 hb9 hn9 hp HB8 HM8 HI8 l0 l1 l2 l3 hz8
  obtain ⟨l0, l1, l2, l3⟩ := HM9.out.cells4
  have hq := iright_any mm tb tk ts tu Nb fb Nk fk Ns fs Nu fu w9 HI9.out
  rw [HOKM.out] at hq
  go_wp2_with (go_at_call 17; refine Hid.out ?_)
  refine Lib.hid ?_
  with_reducible refine hq.mono ?_
  rintro e w10 ⟨rfl, hb10⟩
  have HB10 := Hid.in (below_step HB9.out hb10)
  have h10 := sameBytes_any p9 q n9 c9 n d ys ys w10 HN9.out HY.out (by have := HN9.out; have := HY.out; omega) (HO9.out.rowAt.below hb10) (HR.out.below HB10.out)
  rw [sameB_self] at h10
  clear hb10 hq HB9 HM9 HI9 l0 l1 l2 l3
  go_wp2_with (go_at_call 10; refine Hid.out ?_)
  refine Lib.hid ?_
  with_reducible refine h10.mono ?_
  rintro e w11 ⟨rfl, mq, rfl⟩
  go_wp2_with (go_at_call 12; refine Hid.out ?_)
  refine Lib.hid ?_
  refine (awake_any _).mono ?_
  rintro e w12 ⟨rfl, hb12⟩
  go_wp2_with fail
  go_ret
  exact ⟨rfl, below_step (below_draws HB10.out mq) hb12⟩

set_option maxRecDepth 20000 in
set_option maxHeartbeats 4000000 in
theorem back_yesN (m : IM) (pb pk ps pu q : Option Addr) (nb cb nk ck ns cs nu cu n d : Nat) (ys : List Int) (w : World) (h : ImIn w m pb pk ps pu nb cb nk ck ns cs nu cu) (h1 : nb ≤ 140737488355328) (h2 : nk * 16 ≤ 140737488355328) (h3 : ns ≤ 5864062014634) (h4 : nu * 8 ≤ 140737488355328) (hok : okI m = true) (hy : ys.length = n) (hn : n ≤ 140737488351232) (hr : Row w q ys) (hby : Byt ys) (hgl : (getL ys).2 ≠ 0) :
    Calls Try.prog 5 #[.agg (imA pb pk ps pu nb cb nk ck ns cs nu cu), .slice q n d] w fun E w' => E = .returned (.bool true) ∧ Below w.heap.size w w' := by
  have HK0 : Hid (Blk (w.alloc (.cells (imA pb pk ps pu nb cb nk ck ns cs nu cu) 27)) w.heap.size 27 (imA pb pk ps pu nb cb nk ck ns cs nu cu)) := Blk.new _ _ _
  have HB0 : Hid (Below w.heap.size w (w.alloc (.cells (imA pb pk ps pu nb cb nk ck ns cs nu cu) 27))) := new_alloc _ _
  have HC := Hid.in (fun W (hW : ImIn W m pb pk ps pu nb cb nk ck ns cs nu cu) => copyImage_any m pb pk ps pu nb cb nk ck ns cs nu cu W hW h1 h2 h3 h4)
  have H := Hid.in h
  have HY := Hid.in hy
  have HR := Hid.in hr
  have HBY := Hid.in hby
  have HPB := Hid.in (putI_byt h.byt)
  have HG := Hid.in (getL_put hok)
  have hlen := putI_len hok
  obtain ⟨er, HER⟩ : ∃ er, Hid (getL ys = (noIM, er)) := ⟨(getL ys).2, Prod.ext (getL_bad hgl) rfl⟩
  have her : (er != 0) = true := by rw [HER.out] at hgl; exact bne_iff_ne.2 hgl
  clear hgl
  obtain ⟨k0, k1, k2, k3⟩ := HK0.out.cells4
  clear h hy hr hby
  go_enter Try.func5, Try.ntmps5
  go_wp2_with (go_at_call 7; refine Hid.out ?_)
  refine Lib.hid ?_
  with_reducible refine (HC.out _ (H.out.below HB0.out)).mono ?_
  rintro e w1 ⟨vb, vk, vs, vu, rfl, hi, hb1⟩
  obtain ⟨qb, qk, qs, qu, db, dk, ds, du, rfl, rfl, rfl, rfl, hin, hz⟩ := hi.like H.out
  have HB1 := Hid.in (below_step HB0.out hb1)
  have HK1 := Hid.in (HK0.out.grow hb1)
  have hp := put_yes m qb qk qs qu nb db nk dk ns ds nu du w1 hin hok hz
  clear hi hb1 hin hz HK0 k0 k1 k2 k3
  generalize putI m.im = P at *
  go_wp2_with (go_at_call 8; refine Hid.out ?_)
  refine Lib.hid ?_
  with_reducible refine hp.mono ?_
  rintro e w2 ⟨v2, rfl, ho2, hb2⟩
  obtain ⟨p2, N, c2, rfl, hN, hNc, hc2⟩ := ho2.sl
  have HO2 := Hid.in ho2
  have HN : Hid (P.length = N) := hN.symm
  rw [← hN] at hlen
  have HB2 := Hid.in (below_step HB1.out hb2)
  have HK2 := Hid.in (HK1.out.grow hb2)
  clear ho2 hb2 hN hp HB1 HK1
  obtain ⟨k0, k1, k2, k3⟩ := HK2.out.cells4
  go_wp2_with (go_at_call 7; refine Hid.out ?_)
  refine Lib.hid ?_
  with_reducible refine (HC.out _ (H.out.below HB2.out)).mono ?_
  rintro e w3 ⟨vb', vk', vs', vu', rfl, hi, hb3⟩
  obtain ⟨tb, tk, ts, tu, fb, fk, fs, fu, rfl, rfl, rfl, rfl, hin, -⟩ := hi.like H.out
  have hp := iright_any m tb tk ts tu nb fb nk fk ns fs nu fu w3 hin
  rw [hok] at hp
  have HB3 := Hid.in (below_step HB2.out hb3)
  have HC3 := Hid.in hb3
  have HK3 := Hid.in (HK2.out.grow hb3)
  clear hi hb3 hin HK2 k0 k1 k2 k3
  go_wp2_with (go_at_call 17; refine Hid.out ?_)
  refine Lib.hid ?_
  with_reducible refine hp.mono ?_
  rintro e w4 ⟨rfl, hb4⟩
  have HB4 := Hid.in (below_step HB3.out hb4)
  have HC4 := Hid.in (below_step HC3.out hb4)
  have HK4 := Hid.in (HK3.out.grow hb4)
  clear hb4 hp HK3 HB3 HC3 HB2
  have HO4 := Hid.in (HO2.out.below HC4.out)
  have hg := get_any p2 N c2 P w4 HN.out hNc hc2 HO4.out.rowAt HO4.out.farV HPB.out
  rw [HG.out] at hg
  dsimp only at hg
  go_wp2_with (go_at_call 14; refine Hid.out ?_)
  refine Lib.hid ?_
  with_reducible refine hg.mono ?_
  rintro e w5 ⟨gb, gk, gs, gu, rfl, hi5, hb5⟩
  obtain ⟨tb, tk, ts, tu, fb, fk, fs, fu, rfl, rfl, rfl, rfl, hin5, -⟩ := hi5.like H.out
  have HN5 := Hid.in (new_alloc w5 (.cells (imA tb tk ts tu nb fb nk fk ns fs nu fu) 27))
  have HB5 := Hid.in (below_step (below_step HB4.out hb5) HN5.out)
  have HK5 := Hid.in ((HK4.out.grow hb5).grow HN5.out)
  have HM5 := Hid.in (Blk.new w5 27 (imA tb tk ts tu nb fb nk fk ns fs nu fu))
  have HI5 := Hid.in (hin5.below HN5.out)
  clear hi5 hb5 hin5 HN5 hg HO2 HO4 HC4 HK4 HB4
  obtain ⟨k0, k1, k2, k3⟩ := HK5.out.cells4
  obtain ⟨l0, l1, l2, l3⟩ := HM5.out.cells4
  have hs := sameImage_yes m pb pk ps pu tb tk ts tu nb cb nk ck ns cs nu cu fb fk fs fu _ (H.out.below HB5.out) HI5.out
  go_wp2_with (go_at_call 11; refine Hid.out ?_)
  refine Lib.hid ?_
  with_reducible refine hs.mono ?_
  rintro e w6 ⟨rfl, hb6⟩
  have HB6 := Hid.in (below_step HB5.out hb6)
  clear hb6 hs HB5 HK5 HM5 HI5 k0 k1 k2 k3 l0 l1 l2 l3
  have hc7 := copy_any q n d ys w6 HY.out (by omega) (HR.out.below HB6.out)
  go_wp2_with (go_at_call 18; refine Hid.out ?_)
  refine Lib.hid ?_
  with_reducible refine hc7.mono ?_
  rintro e w7 ⟨v7, rfl, ho7, hb7⟩
  obtain ⟨p7, n7, c7, rfl, hn7, hnc7, hcm7⟩ := ho7.sl
  have HB7 := Hid.in (below_step HB6.out hb7)
  have HO7 := Hid.in ho7
  have HN7 : Hid (ys.length = n7) := hn7.symm
  clear ho7 hb7 hn7 hc7 HB6
  have hg := get_noim (bs := ys) (e := er) (p := p7) (n := n7) (c := c7) (w := w7) HN7.out hnc7 hcm7 HO7.out.rowAt HO7.out.farV HBY.out HER.out
  go_wp2_with (go_at_call 14; refine Hid.out ?_)
  refine Lib.hid ?_
  with_reducible refine hg.mono ?_
  rintro e w8 ⟨tb, tk, ts, tu, fb, fk, fs, fu, rfl, hin8, hb8⟩
  have HN8 := Hid.in (new_alloc w8 (.cells (imA tb tk ts tu 0 fb 0 fk 0 fs 0 fu) 27))
  have HB8 := Hid.in (below_step (below_step HB7.out hb8) HN8.out)
  have HM8 := Hid.in (Blk.new w8 27 (imA tb tk ts tu 0 fb 0 fk 0 fs 0 fu))
  have hs := sameImage_yes noIM tb tk ts tu none none none none 0 fb 0 fk 0 fs 0 fu 0 0 0 0 (w8.alloc (.cells (imA tb tk ts tu 0 fb 0 fk 0 fs 0 fu) 27)) (hin8 _) (ImIn.nil _)
  clear hb8 hin8 HN8 hg HB7 HO7
  obtain ⟨l0, l1, l2, l3⟩ := HM8.out.cells4
  go_wp2_with (go_at_call 11; refine Hid.out ?_)
  refine Lib.hid ?_
  with_reducible refine hs.mono ?_
  rintro e w9 ⟨rfl, hb9⟩
  go_wp2_with (go_at_call 12; refine Hid.out ?_)
  refine Lib.hid ?_
  refine (awake_any _).mono ?_
  rintro e w10 ⟨rfl, hb10⟩
  go_wp2_with fail
  go_ret
  exact ⟨rfl, below_step (below_step HB8.out hb9) hb10⟩

set_option maxRecDepth 20000 in
set_option maxHeartbeats 4000000 in
theorem back_yesY (m : IM) (pb pk ps pu q : Option Addr) (nb cb nk ck ns cs nu cu n d : Nat) (ys : List Int) (w : World) (h : ImIn w m pb pk ps pu nb cb nk ck ns cs nu cu) (h1 : nb ≤ 140737488355328) (h2 : nk * 16 ≤ 140737488355328) (h3 : ns ≤ 5864062014634) (h4 : nu * 8 ≤ 140737488355328) (hok : okI m = true) (hy : ys.length = n) (hn : n ≤ 140737488351232) (hr : Row w q ys) (hby : Byt ys) (hgl : (getL ys).2 = 0) :
    Calls Try.prog 5 #[.agg (imA pb pk ps pu nb cb nk ck ns cs nu cu), .slice q n d] w fun E w' => E = .returned (.bool true) ∧ Below w.heap.size w w' := by
  have HK0 : Hid (Blk (w.alloc (.cells (imA pb pk ps pu nb cb nk ck ns cs nu cu) 27)) w.heap.size 27 (imA pb pk ps pu nb cb nk ck ns cs nu cu)) := Blk.new _ _ _
  have HB0 : Hid (Below w.heap.size w (w.alloc (.cells (imA pb pk ps pu nb cb nk ck ns cs nu cu) 27))) := new_alloc _ _
  have HC := Hid.in (fun W (hW : ImIn W m pb pk ps pu nb cb nk ck ns cs nu cu) => copyImage_any m pb pk ps pu nb cb nk ck ns cs nu cu W hW h1 h2 h3 h4)
  have H := Hid.in h
  have HY := Hid.in hy
  have HR := Hid.in hr
  have HBY := Hid.in hby
  have HPB := Hid.in (putI_byt h.byt)
  have HG := Hid.in (getL_put hok)
  have hlen := putI_len hok
  obtain ⟨mm, HMM⟩ : ∃ mm, Hid (getL ys = (mm, 0)) := ⟨(getL ys).1, Prod.ext rfl hgl⟩
  have hbk := getL_back hby hgl
  rw [HMM.out] at hbk
  have HOKM := Hid.in hbk.1
  have HPTM := Hid.in hbk.2
  have HBYM := Hid.in (byt_part hby hbk.2)
  clear hbk hgl
  obtain ⟨k0, k1, k2, k3⟩ := HK0.out.cells4
  clear h hy hr hby
  go_enter Try.func5, Try.ntmps5
  go_wp2_with (go_at_call 7; refine Hid.out ?_)
  refine Lib.hid ?_
  with_reducible refine (HC.out _ (H.out.below HB0.out)).mono ?_
  rintro e w1 ⟨vb, vk, vs, vu, rfl, hi, hb1⟩
  obtain ⟨qb, qk, qs, qu, db, dk, ds, du, rfl, rfl, rfl, rfl, hin, hz⟩ := hi.like H.out
  have HB1 := Hid.in (below_step HB0.out hb1)
  have HK1 := Hid.in (HK0.out.grow hb1)
  have hp := put_yes m qb qk qs qu nb db nk dk ns ds nu du w1 hin hok hz
  clear hi hb1 hin hz HK0 k0 k1 k2 k3
  generalize putI m.im = P at *
  go_wp2_with (go_at_call 8; refine Hid.out ?_)
  refine Lib.hid ?_
  with_reducible refine hp.mono ?_
  rintro e w2 ⟨v2, rfl, ho2, hb2⟩
  obtain ⟨p2, N, c2, rfl, hN, hNc, hc2⟩ := ho2.sl
  have HO2 := Hid.in ho2
  have HN : Hid (P.length = N) := hN.symm
  rw [← hN] at hlen
  have HB2 := Hid.in (below_step HB1.out hb2)
  have HK2 := Hid.in (HK1.out.grow hb2)
  clear ho2 hb2 hN hp HB1 HK1
  obtain ⟨k0, k1, k2, k3⟩ := HK2.out.cells4
  go_wp2_with (go_at_call 7; refine Hid.out ?_)
  refine Lib.hid ?_
  with_reducible refine (HC.out _ (H.out.below HB2.out)).mono ?_
  rintro e w3 ⟨vb', vk', vs', vu', rfl, hi, hb3⟩
  obtain ⟨tb, tk, ts, tu, fb, fk, fs, fu, rfl, rfl, rfl, rfl, hin, -⟩ := hi.like H.out
  have hp := iright_any m tb tk ts tu nb fb nk fk ns fs nu fu w3 hin
  rw [hok] at hp
  have HB3 := Hid.in (below_step HB2.out hb3)
  have HC3 := Hid.in hb3
  have HK3 := Hid.in (HK2.out.grow hb3)
  clear hi hb3 hin HK2 k0 k1 k2 k3
  go_wp2_with (go_at_call 17; refine Hid.out ?_)
  refine Lib.hid ?_
  with_reducible refine hp.mono ?_
  rintro e w4 ⟨rfl, hb4⟩
  have HB4 := Hid.in (below_step HB3.out hb4)
  have HC4 := Hid.in (below_step HC3.out hb4)
  have HK4 := Hid.in (HK3.out.grow hb4)
  clear hb4 hp HK3 HB3 HC3 HB2
  have HO4 := Hid.in (HO2.out.below HC4.out)
  have hg := get_any p2 N c2 P w4 HN.out hNc hc2 HO4.out.rowAt HO4.out.farV HPB.out
  rw [HG.out] at hg
  dsimp only at hg
  go_wp2_with (go_at_call 14; refine Hid.out ?_)
  refine Lib.hid ?_
  with_reducible refine hg.mono ?_
  rintro e w5 ⟨gb, gk, gs, gu, rfl, hi5, hb5⟩
  obtain ⟨tb, tk, ts, tu, fb, fk, fs, fu, rfl, rfl, rfl, rfl, hin5, -⟩ := hi5.like H.out
  have HN5 := Hid.in (new_alloc w5 (.cells (imA tb tk ts tu nb fb nk fk ns fs nu fu) 27))
  have HB5 := Hid.in (below_step (below_step HB4.out hb5) HN5.out)
  have HK5 := Hid.in ((HK4.out.grow hb5).grow HN5.out)
  have HM5 := Hid.in (Blk.new w5 27 (imA tb tk ts tu nb fb nk fk ns fs nu fu))
  have HI5 := Hid.in (hin5.below HN5.out)
  clear hi5 hb5 hin5 HN5 hg HO2 HO4 HC4 HK4 HB4
  obtain ⟨k0, k1, k2, k3⟩ := HK5.out.cells4
  obtain ⟨l0, l1, l2, l3⟩ := HM5.out.cells4
  have hs := sameImage_yes m pb pk ps pu tb tk ts tu nb cb nk ck ns cs nu cu fb fk fs fu _ (H.out.below HB5.out) HI5.out
  go_wp2_with (go_at_call 11; refine Hid.out ?_)
  refine Lib.hid ?_
  with_reducible refine hs.mono ?_
  rintro e w6 ⟨rfl, hb6⟩
  have HB6 := Hid.in (below_step HB5.out hb6)
  clear hb6 hs HB5 HK5 HM5 HI5 k0 k1 k2 k3 l0 l1 l2 l3
  have hc7 := copy_any q n d ys w6 HY.out (by omega) (HR.out.below HB6.out)
  go_wp2_with (go_at_call 18; refine Hid.out ?_)
  refine Lib.hid ?_
  with_reducible refine hc7.mono ?_
  rintro e w7 ⟨v7, rfl, ho7, hb7⟩
  obtain ⟨p7, n7, c7, rfl, hn7, hnc7, hcm7⟩ := ho7.sl
  have HB7 := Hid.in (below_step HB6.out hb7)
  have HO7 := Hid.in ho7
  have HN7 : Hid (ys.length = n7) := hn7.symm
  clear ho7 hb7 hn7 hc7 HB6
  have hg := get_any p7 n7 c7 ys w7 HN7.out hnc7 hcm7 HO7.out.rowAt HO7.out.farV HBY.out
  rw [HMM.out] at hg
  dsimp only at hg
  go_wp2_with (go_at_call 14; refine Hid.out ?_)
  refine Lib.hid ?_
  with_reducible refine hg.mono ?_
  rintro e w8 ⟨gb, gk, gs, gu, rfl, hi8, hb8⟩
  obtain ⟨tb, tk, ts, tu, fb, fk, fs, fu, rfl, rfl, rfl, rfl, hin8, hz8⟩ := hi8.inOk HOKM.out HBYM.out
  generalize mm.bs.length = Nb at *
  generalize mm.ks.length = Nk at *
  generalize mm.si.length = Ns at *
  generalize mm.un.length = Nu at *
  have HN8 := Hid.in (new_alloc w8 (.cells (imA tb tk ts tu Nb fb Nk fk Ns fs Nu fu) 27))
  have HB8 := Hid.in (below_step (below_step HB7.out hb8) HN8.out)
  have HM8 := Hid.in (Blk.new w8 27 (imA tb tk ts tu Nb fb Nk fk Ns fs Nu fu))
  have HI8 := Hid.in (hin8.below HN8.out)
  have hp := put_yes mm tb tk ts tu Nb fb Nk fk Ns fs Nu fu (w8.alloc (.cells (imA tb tk ts tu Nb fb Nk fk Ns fs Nu fu) 27)) HI8.out HOKM.out hz8
  rw [HPTM.out] at hp
  clear hi8 hb8 hin8 HN8 hg HB7 HO7
  obtain ⟨l0, l1, l2, l3⟩ := HM8.out.cells4
  go_wp2_with (go_at_call 8; refine Hid.out ?_)
  refine Lib.hid ?_
  with_reducible refine hp.mono ?_
  rintro e w9 ⟨v9, rfl, ho9, hb9⟩
  obtain ⟨p9, n9, c9, rfl, hn9, -, -⟩ := ho9.sl
  have HB9 := Hid.in (below_step HB8.out hb9)
  have HM9 := Hid.in (HM8.out.grow hb9)
  have HI9 := Hid.in (HI8.out.below hb9)
  have HO9 := Hid.in ho9
  have HN9 : Hid (ys.length = n9) := hn9.symm
  clear ho9 hb9 hn9 hp HB8 HM8 HI8 l0 l1 l2 l3 hz8
  obtain ⟨l0, l1, l2, l3⟩ := HM9.out.cells4
  have hq := iright_any mm tb tk ts tu Nb fb Nk fk Ns fs Nu fu w9 HI9.out
  rw [HOKM.out] at hq
  go_wp2_with (go_at_call 17; refine Hid.out ?_)
  refine Lib.hid ?_
  with_reducible refine hq.mono ?_
  rintro e w10 ⟨rfl, hb10⟩
  have HB10 := Hid.in (below_step HB9.out hb10)
  have h10 := sameBytes_any p9 q n9 c9 n d ys ys w10 HN9.out HY.out (by have := HN9.out; have := HY.out; omega) (HO9.out.rowAt.below hb10) (HR.out.below HB10.out)
  rw [sameB_self] at h10
  clear hb10 hq HB9 HM9 HI9 l0 l1 l2 l3
  go_wp2_with (go_at_call 10; refine Hid.out ?_)
  refine Lib.hid ?_
  with_reducible refine h10.mono ?_
  rintro e w11 ⟨rfl, mq, rfl⟩
  go_wp2_with (go_at_call 12; refine Hid.out ?_)
  refine Lib.hid ?_
  refine (awake_any _).mono ?_
  rintro e w12 ⟨rfl, hb12⟩
  go_wp2_with fail
  go_ret
  exact ⟨rfl, below_step (below_draws HB10.out mq) hb12⟩

theorem back_walk (m : IM) (pb pk ps pu q : Option Addr) (nb cb nk ck ns cs nu cu n d : Nat) (ys : List Int) (w : World) (h : ImIn w m pb pk ps pu nb cb nk ck ns cs nu cu) (h1 : nb ≤ 140737488355328) (h2 : nk * 16 ≤ 140737488355328) (h3 : ns ≤ 5864062014634) (h4 : nu * 8 ≤ 140737488355328) (hy : ys.length = n) (hn : n ≤ 140737488351232) (hr : Row w q ys) (hby : Byt ys) :
    Calls Try.prog 5 #[.agg (imA pb pk ps pu nb cb nk ck ns cs nu cu), .slice q n d] w fun E w' => E = .returned (.bool true) ∧ Below w.heap.size w w' := by
  cases hok : okI m <;> by_cases hg : (getL ys).2 = 0
  · exact back_noY m pb pk ps pu q nb cb nk ck ns cs nu cu n d ys w h h1 h2 h3 h4 hok hy hn hr hby hg
  · exact back_noN m pb pk ps pu q nb cb nk ck ns cs nu cu n d ys w h h1 h2 h3 h4 hok hy hn hr hby hg
  · exact back_yesY m pb pk ps pu q nb cb nk ck ns cs nu cu n d ys w h h1 h2 h3 h4 hok hy hn hr hby hg
  · exact back_yesN m pb pk ps pu q nb cb nk ck ns cs nu cu n d ys w h h1 h2 h3 h4 hok hy hn hr hby hg

end Go.Proofs.Ytfhjaabbfaamjaa
