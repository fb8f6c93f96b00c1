/- Texts put together: KitS, KitT, RefT, RefM, RefN, Short, RefO, RefP. -/
import Derived.Test.YtkianldkbfjehaaGreatDoorKo
import Derived.Deep.RegionLaw
import Derived.Test.YtkianldkbfjehaaGreatDoorKl
import Derived.Test.YtkianldkbfjehaaGreatDoorKm
import Derived.Test.YtkianldkbfjehaaGreatDoorMv
import Derived.Test.YtkianldkbfjehaaGreatDoorMx

/- switchyardkit.SameItem of two items that are the same. -/
namespace Go.Proofs.YtkianldkbfjehaaGreatDoor
open Go.RowKit

set_option maxRecDepth 20000 in
set_option maxHeartbeats 1000000 in
theorem sameItem_yes (x : Src) (p q : Option Addr) (m e m' e' : Nat) (w : World) (h1 : x.d.length = m) (h2 : x.d.length = m') (hm : m ≤ 9223372036854775807) (hr1 : Row w p x.d) (hr2 : Row w q x.d) :
    Calls Tryz.prog 35 #[.agg (cellsOf x (.slice p m e)), .agg (cellsOf x (.slice q m' e'))] w fun E w' => E = .returned (.bool true) ∧ Below w.heap.size w w' := by
  have hS := fun W k1 k2 => sameBytes_any p q m e m' e' x.d x.d W h1 h2 hm k1 k2
  rw [sameB_self] at hS
  have HR1 := fun o o' => Hid.in ((hr1.below (new_alloc w o)).below (new_alloc (w.alloc o) o'))
  have HR2 := fun o o' => Hid.in ((hr2.below (new_alloc w o)).below (new_alloc (w.alloc o) o'))
  clear hr1 hr2 h1 h2 hm
  unfold cellsOf
  obtain ⟨k, name, tg, o, a, b, n4, n, d⟩ := x
  simp only at *
  go_enter Tryz.func35, Tryz.ntmps35
  go_wp2_with (go_at_call 19; refine (hS _ (HR1 _ _).out (HR2 _ _).out).mono ?_; rintro E w1 ⟨rfl, z, rfl⟩)
  go_ret
  exact ⟨rfl, below_draws (below_alloc (new_alloc _ _) _) z⟩

end Go.Proofs.YtkianldkbfjehaaGreatDoor

/- switchyardkit.SameItems of two lists that are the same. -/
namespace Go.Proofs.YtkianldkbfjehaaGreatDoor
open Go.RowKit

/-- the nine cells of an item, one by one -/
theorem range9 {w : World} {b o : Nat} {x : Src} {d : Value} (h : w.rangeAt b o (cellsOf x d).toList) :
    w.cell? ⟨b, o, none⟩ = some (.int .u8 x.k) ∧ w.cell? ⟨b, o + 1, none⟩ = some (.string x.name) ∧ w.cell? ⟨b, o + 2, none⟩ = some (.string x.tg) ∧ w.cell? ⟨b, o + 3, none⟩ = some (.int .u8 x.o) ∧ w.cell? ⟨b, o + 4, none⟩ = some (.int .u8 x.a) ∧ w.cell? ⟨b, o + 5, none⟩ = some (.int .u8 x.b) ∧ w.cell? ⟨b, o + 6, none⟩ = some (.int .i32 x.m) ∧ w.cell? ⟨b, o + 7, none⟩ = some (.int .i64 x.n) ∧ w.cell? ⟨b, o + 8, none⟩ = some d :=
  ⟨h 0 _ rfl, h 1 _ rfl, h 2 _ rfl, h 3 _ rfl, h 4 _ rfl, h 5 _ rfl, h 6 _ rfl, h 7 _ rfl, h 8 _ rfl⟩

set_option maxRecDepth 20000 in
set_option maxHeartbeats 1000000 in
theorem sameItems_yes (p q : Option Addr) (n c c' : Nat) (xs : List Src) (w : World) (hn : xs.length = n) (hn63 : n ≤ 4611686018427387904) (hd : ∀ x ∈ xs, x.d.length ≤ 9223372036854775807) (hx : Items w p xs) (hy : Items w q xs) :
    Calls Tryz.prog 11 #[.slice p n c, .slice q n c'] w fun E w' => E = .returned (.bool true) ∧ Below w.heap.size w w' := by
  have HX := Hid.in hx
  have HY := Hid.in hy
  have HN := Hid.in hn
  have HD := Hid.in hd
  clear hx hy hn hd
  go_enter Tryz.func11, Tryz.ntmps11
  go_wp2
  go_loopw [5] (fun i wr => ∃ k : Nat, k ≤ n ∧ i = .int .i64 k ∧ Below w.heap.size w wr) (fun i _ => n - (intOf i).toNat)
  case atStart => exact ⟨0, Nat.zero_le _, rfl, below_self _⟩
  case round =>
    obtain ⟨k, hk, rfl, hb⟩ := hrel
    have HB := Hid.in hb
    clear hb
    by_cases hlt : k < n
    · have hlt' : k < xs.length := by rw [HN.out]; exact hlt
      obtain ⟨b, o, hp, hc⟩ := HX.out.below HB.out (by omega)
      subst hp
      obtain ⟨b2, o2, hq, hc2⟩ := HY.out.below HB.out (by omega)
      subst hq
      obtain ⟨q1, e1, hR1, hrow1, -⟩ := hc k hlt'
      obtain ⟨q2, e2, hR2, hrow2, -⟩ := hc2 k hlt'
      have hdl := HD.out _ (List.getElem_mem hlt')
      have hS := fun (W : World) (k1 : Row W q1 (xs[k]'hlt').d) (k2 : Row W q2 (xs[k]'hlt').d) => sameItem_yes (xs[k]'hlt') q1 q2 _ e1 _ e2 W rfl rfl hdl k1 k2
      have HR1 := fun z => Hid.in (hrow1.below (below_draws (below_self wr) z))
      have HR2 := fun z => Hid.in (hrow2.below (below_draws (below_self wr) z))
      obtain ⟨a0, a1, a2, a3, a4, a5, a6, a7, a8⟩ := range9 hR1
      obtain ⟨b0, b1, b2', b3, b4, b5, b6, b7, b8⟩ := range9 hR2
      unfold cellsOf at hS
      clear hc hc2 hrow1 hrow2 hR1 hR2 hdl
      generalize xs[k] = x at *
      obtain ⟨xk, name, tg, xo, xa, xb, n4, xn, d⟩ := x
      simp only at *
      go_wp2_with fail
      go_region_law (go_simp; go_at_call 35; refine (hS _ (HR1 _).out (HR2 _).out).mono ?_; rintro E w5 ⟨rfl, hb5⟩; have HB5 := Hid.in hb5; clear hb5)
      all_goals
        go_wp2_with fail
        go_roundw
        case rel => exact ⟨k + 1, by omega, by go_num, below_step (below_drewN HB.out 1) HB5.out⟩
        case measure => simp [intOf]; omega
    · go_wp2
      go_ret
      exact ⟨rfl, HB.out⟩

end Go.Proofs.YtkianldkbfjehaaGreatDoor

/- switchyardref03.Told: a number in digits. -/
namespace Go.Proofs.YtkianldkbfjehaaGreatDoor
open Go.RowKit

/-- a number's digits, the last one first -/
def rdI (u : Nat) : List Int := if _h : u = 0 then [] else (48 + ((u % 10 : Nat) : Int)) :: rdI (u / 10)
termination_by u
decreasing_by omega
theorem rdI_zero : rdI 0 = [] := by rw [rdI, dif_pos rfl]
theorem rdI_pos {u : Nat} (h : u ≠ 0) : rdI u = (48 + ((u % 10 : Nat) : Int)) :: rdI (u / 10) := by rw [rdI, dif_neg h]
theorem rdI_len : ∀ (k u : Nat), u < 10 ^ k → (rdI u).length ≤ k
  | 0, u, h => by
    have : u = 0 := by simp at h; omega
    rw [this, rdI_zero]; exact Nat.le_refl _
  | k + 1, u, h => by
    by_cases h0 : u = 0
    · rw [h0, rdI_zero]; exact Nat.zero_le _
    · rw [rdI_pos h0, List.length_cons]
      have := rdI_len k (u / 10) (by rw [Nat.div_lt_iff_lt_mul (by decide), ← Nat.pow_succ]; exact h)
      omega
theorem rdI_ne {u : Nat} (h : u ≠ 0) : 0 < (rdI u).length := by rw [rdI_pos h]; simp
def chI (z : Int) : UInt8 := UInt8.ofNat z.toNat
theorem rdI_dec (u : Nat) : u ≠ 0 → (rdI u).reverse.map chI = Lib.decDigits u := by
  induction u using Nat.strongRecOn with
  | _ u ih =>
    intro h
    rw [rdI_pos h, Lib.decDigits]
    by_cases h10 : u < 10
    · rw [dif_pos h10, show u / 10 = 0 by omega, rdI_zero]
      simp only [List.reverse_cons, List.reverse_nil, List.nil_append, List.map_cons, List.map_nil, chI]
      congr 2
      omega
    · rw [dif_neg h10, List.reverse_cons, List.map_append, ih (u / 10) (by omega) (by omega)]
      simp only [List.map_cons, List.map_nil, chI]
      congr 3
theorem told_str (ys : List Int) (l : List UInt8) (h : ys.map chI = l) : strOfNums ys = bytesOf l := by
  apply ByteArray.ext
  apply Array.ext'
  rw [strOfNums_data, bytesOf_list, ← h]
  rfl
/-- the signs of a number, the last one first -/
def backI (n : Int) : List Int := if n < 0 then rdI n.natAbs ++ [45] else rdI n.natAbs
theorem backI_itoa (n : Int) (h : n ≠ 0) : (backI n).reverse.map chI = Lib.itoa n := by
  unfold backI Lib.itoa
  by_cases h0 : n < 0
  · rw [if_pos h0, if_pos h0, List.reverse_append, List.map_append, rdI_dec _ (by omega)]
    rfl
  · rw [if_neg h0, if_neg h0, rdI_dec _ (by omega)]
    congr 1
    omega
theorem parts10 (m : Int) (h1 : -9223372036854775808 ≤ m) (h2 : m ≤ 9223372036854775807) :
    (m.tdiv 10).natAbs = m.natAbs / 10 ∧ -9223372036854775808 ≤ m.tdiv 10 ∧ m.tdiv 10 ≤ 9223372036854775807 ∧ (m.tmod 10).natAbs = m.natAbs % 10 ∧ -9 ≤ m.tmod 10 ∧ m.tmod 10 ≤ 9 := by
  rcases Int.lt_or_le m 0 with h0 | h0
  · have e0 : m = -(-m) := by omega
    have e1 : m.tmod 10 = -((-m) % 10) := by rw [e0, Int.neg_tmod, Int.tmod_eq_emod_of_nonneg (by omega), Int.neg_neg]
    have e2 : m.tdiv 10 = -((-m) / 10) := by rw [e0, Int.neg_tdiv, Int.tdiv_eq_ediv_of_nonneg (by omega), Int.neg_neg]
    omega
  · have e1 := Int.tmod_eq_emod_of_nonneg (a := m) (b := 10) h0
    have e2 := Int.tdiv_eq_ediv_of_nonneg (a := m) (b := 10) h0
    omega
theorem Own.of_made {w : World} {B g n : Nat} (h : w.ownsRow B 5 1 (.slice (some ⟨g, 0, none⟩) n n) n (madeCells (Value.int .u8 0).cells (n * 1)).toList) : Own w B g n (List.replicate n 0) := by
  unfold Own
  have e : (madeCells (Value.int .u8 0).cells (n * 1)).toList = byts (List.replicate n 0) := by
    rw [show (Value.int .u8 0).cells = #[Value.int .u8 0] from rfl, toList_madeCells_one]; simp [byts]
  rw [e] at h
  simpa using h
/-- the list turned round, as far as k -/
def revTo (xs : List Int) (k : Nat) : List Int := xs.reverse.take k ++ List.replicate (xs.length - k) 0
theorem revTo_zero (xs : List Int) : revTo xs 0 = List.replicate xs.length 0 := by simp [revTo]
theorem revTo_end (xs : List Int) : revTo xs xs.length = xs.reverse := by simp [revTo, List.take_of_length_le]
theorem revTo_len (xs : List Int) (k : Nat) (h : k ≤ xs.length) : (revTo xs k).length = xs.length := by simp [revTo]; omega
theorem revTo_step (xs : List Int) (k : Nat) (h : k < xs.length) : (revTo xs k).set k (xs.getD (xs.length - 1 - k) 0) = revTo xs (k + 1) := by
  unfold revTo
  have hl : (xs.reverse.take k).length = k := by simp; omega
  rw [List.set_append_right _ _ (by omega), hl, Nat.sub_self, show xs.length - k = (xs.length - (k + 1)) + 1 by omega, List.replicate_succ, List.set_cons_zero, List.take_succ_eq_append_getElem (by simp; omega), List.append_assoc]
  congr 1
  simp only [List.singleton_append]
  congr 1
  rw [List.getElem_reverse, List.getD_eq_getElem?_getD, List.getElem?_eq_getElem (by omega)]
  rfl

set_option maxRecDepth 20000 in
set_option maxHeartbeats 1000000 in
theorem told_zero (w : World) : Calls Tryz.prog 103 #[.int .i64 0] w fun e w' => e = .returned (.string (bytesOf (Lib.itoa 0))) ∧ Below w.heap.size w w' := by
  go_enter Tryz.func103, Tryz.ntmps103
  go_wp2
  go_ret
  exact ⟨by rw [show Lib.itoa 0 = [48] by simp [Lib.itoa, Lib.decDigits]]; rfl, below_self _⟩

set_option maxRecDepth 100000 in
set_option maxHeartbeats 2000000 in
theorem told_any (n : Int) (w : World) (h1 : -9223372036854775808 ≤ n) (h2 : n ≤ 9223372036854775807) :
    Calls Tryz.prog 103 #[.int .i64 n] w fun e w' => e = .returned (.string (bytesOf (Lib.itoa n))) ∧ Below w.heap.size w w' := by
  by_cases hn0 : n = 0
  · rw [hn0]; exact told_zero w
  obtain ⟨i0, hi, hz0, hz1, hz2⟩ := info_parts Tryz.info5
  have HRL := Hid.in (rdI_len 19 n.natAbs (by rw [show (10 : Nat) ^ 19 = 10000000000000000000 by decide]; omega))
  have HNE := Hid.in (rdI_ne (u := n.natAbs) (by omega))
  have HIT : Hid (∀ ys, ys = (backI n).reverse → strOfNums ys = bytesOf (Lib.itoa n)) := fun ys h => told_str ys _ (by rw [h]; exact backI_itoa n hn0)
  generalize bytesOf (Lib.itoa n) = out at *
  go_enter Tryz.func103, Tryz.ntmps103
  go_wp2_with fail
  have HN0 := Hid.in hn0
  clear hn0
  generalize (n == 0) = bz
  go_loopw [3, 4, 5] (fun v i _ wr => ∃ (m : Int) (xs : List Int), i = .int .i64 m ∧ GOwnV 5 wr w.heap.size v (byts xs) ∧ xs ++ rdI m.natAbs = rdI n.natAbs ∧ -9223372036854775808 ≤ m ∧ m ≤ 9223372036854775807 ∧ Below w.heap.size w wr) (fun _ i _ _ => (intOf i).natAbs)
  case atStart => exact ⟨n, [], rfl, GOwnV.nil _ _ _, rfl, h1, h2, below_self _⟩
  case round =>
    obtain ⟨m, xs, rfl, hV, hx, hm1, hm2, hb⟩ := hrel
    have HV := Hid.in hV
    have HX := Hid.in hx
    have HB := Hid.in hb
    have hbl : (byts xs).length = xs.length := List.length_map _
    have hxl : xs.length ≤ 19 := by
      have := congrArg List.length hx
      rw [List.length_append] at this
      have := HRL.out
      omega
    obtain ⟨p, cap, hp, -, -, -⟩ := hV.slice
    rw [hbl] at hp
    subst hp
    have HL := Hid.in hbl
    clear hV hx hb hbl
    by_cases hm0 : m = 0
    · subst hm0
      have hxe : xs = rdI n.natAbs := by have := HX.out; rw [show (0 : Int).natAbs = 0 from rfl, rdI_zero, List.append_nil] at this; exact this
      have hxp : 0 < xs.length := by rw [hxe]; exact HNE.out
      have HXE := Hid.in hxe
      clear hxe
      by_cases hneg : n < 0
      · go_upto_region 13 with (at_builtin; refine gpush Tryz.elem26 _ rfl _ _ rfl w.heap.size _ (byts xs) rfl (HV.out.alloc _) ⟨wr.heap.size, 0, none⟩ 1 1 [.int .u8 45] rfl rfl (cell_one_new _ _ _) (by simp [Value.oneCell']) (by rw [HL.out]; omega) (by rw [HL.out]; omega) (by have := HB.out.size; simp; omega) ?_; intro v' w5 hown hgrow hbel _hnil; obtain ⟨g2, cap2, hv2⟩ := ownsRow_succ' hown; rw [List.length_map] at hv2; subst hv2; have hO2 : GOwnV 5 w5 w.heap.size (.slice (some ⟨g2, 0, none⟩) (xs.length + 1) cap2) (byts (xs ++ [45])) := (by simpa [byts] using hown); have HO := Hid.in hO2; clear hO2; have HB5 := Hid.in (hbel w (below_alloc HB.out _)); clear hown hgrow hbel)
        obtain ⟨Lb, hLb⟩ : ∃ Lb, xs.length + 1 = Lb := ⟨_, rfl⟩
        rw [hLb] at HO ⊢
        have hbs : (xs ++ [45]).length = Lb := by simp [← hLb]
        have HBS := Hid.in hbs
        have hL0 : 0 < Lb := by omega
        have hL9 : Lb ≤ 20 := by omega
        have HCB : Hid (∀ i, i < Lb → w5.cell? ⟨g2, i, none⟩ = some (.int .u8 ((xs ++ [45]).getD i 0))) := fun i hi => by
          rcases HO.out.shape with ⟨e, _⟩ | ⟨g, c, e, ho⟩
          · cases e
          · injection e with e1
            injection e1 with e1
            injection e1 with e1
            have hi' : i < (byts (xs ++ [45])).length := by rw [List.length_map, HBS.out]; exact hi
            have := ho.cell i hi'
            rw [getD_byts _ i (by rw [HBS.out]; exact hi), ← e1] at this
            exact this
        have HRV : Hid (∀ ys, ys = revTo (xs ++ [45]) Lb → strOfNums ys = out) := fun ys h => HIT.out ys (by
          rw [h, ← HBS.out, revTo_end]
          congr 1
          unfold backI
          rw [if_pos hneg, HXE.out])
        clear hbs hLb
        generalize (xs ++ [45]) = bs at *
        go_wp2_with (at_make; refine wpList_make_full _ rfl _ _ 24 rfl _ 5 i0 (.int .u8 0) 1 Tryz.underlying24 hi hz0 hz1 _ _ _ _ Lb rfl rfl (by omega) (by omega) (by rw [hz2]; omega) (by unfold maxLen; omega) (Nat.le_refl _) ?_; intro w6 hown6 hgrow6; have hb6 := (Below.refl w5.heap.size w5).grown hgrow6 (Nat.le_refl _) (by simp); have HO6 : Hid (Own w6 w5.heap.size w5.heap.size Lb (List.replicate Lb 0)) := Own.of_made hown6; have HB6 := Hid.in hb6; clear hown6 hgrow6 hb6)
        go_loopw [7] (fun i wq => ∃ k : Nat, k ≤ Lb ∧ i = .int .i64 k ∧ Hid (Own wq w5.heap.size w5.heap.size Lb (revTo bs k)) ∧ Hid (Below w5.heap.size w5 wq)) (fun i _ => Lb - (intOf i).toNat)
        case atStart => exact ⟨0, Nat.zero_le _, rfl, by rw [revTo_zero, HBS.out]; exact HO6, HB6⟩
        case round =>
          obtain ⟨k, hk, rfl, HOk, HBk⟩ := hrel
          by_cases hlt : k < Lb
          · have c1 := (HBk.out.cell (p := ⟨g2, Lb - 1 - k, none⟩) (cell_lt (HCB.out (Lb - 1 - k) (by omega)))).trans (HCB.out (Lb - 1 - k) (by omega))
            have hgl : g2 < w5.heap.size := cell_lt (HCB.out 0 hL0)
            have hix : ((Lb : Int) - 1 - (k : Int)).toNat = Lb - 1 - k := by omega
            have hix0 : (0 : Int) ≤ (Lb : Int) - 1 - (k : Int) := by omega
            have hixL : (Lb : Int) - 1 - (k : Int) < (Lb : Int) := by omega
            have d0 := HOk.out.cell k (by rw [revTo_len bs k (by rw [HBS.out]; exact hk), HBS.out]; exact hlt)
            have f0 := HOk.out.free k
            have HS : Hid (Own (wr.setCell ⟨w5.heap.size, k, none⟩ (.int .u8 (bs.getD (Lb - 1 - k) 0))) w5.heap.size w5.heap.size Lb (revTo bs (k + 1))) := by
              have := revTo_step bs k (by rw [HBS.out]; exact hlt)
              rw [HBS.out] at this
              rw [← this]
              exact HOk.out.store _ _
            have HB7 : Hid (Below w5.heap.size w5 (wr.setCell ⟨w5.heap.size, k, none⟩ (.int .u8 (bs.getD (Lb - 1 - k) 0)))) := HBk.out.setCell (Nat.le_refl _) _
            generalize bs.getD (Lb - 1 - k) 0 = z at *
            generalize (revTo bs k).getD k 0 = y0 at d0
            go_wp2
            go_roundw
            case rel => exact ⟨k + 1, by omega, by go_num, HS, HB7⟩
            case measure => simp [intOf]; omega
          · obtain rfl : k = Lb := by omega
            have hcv := HOk.out.row.convert ((revTo_len bs k (by rw [HBS.out]; exact Nat.le_refl _)).trans HBS.out) k
            have HE : Hid (strOfNums (revTo bs k) = out) := HRV.out _ rfl
            generalize strOfNums (revTo bs k) = so at *
            go_wp2
            go_ret
            exact ⟨by rw [HE.out]; rfl, below_step HB5.out HBk.out⟩
      · rcases HV.out.shape with ⟨_, e⟩ | ⟨g2, cap2, e, ho⟩
        · have := congrArg List.length e
          rw [List.length_map, List.length_nil] at this
          omega
        rw [HL.out] at e
        injection e with e1 e2 e3
        subst e1
        subst e3
        clear e2 ho
        have HO := HV
        have HB5 := HB
        go_upto_region 13 with fail
        obtain ⟨w5, hw5⟩ : ∃ w5, w5 = wr := ⟨wr, rfl⟩
        rw [← hw5] at HO HB5
        rw [← hw5]
        clear hw5 HV HB HL HX
        obtain ⟨Lb, hLb⟩ : ∃ Lb, xs.length = Lb := ⟨_, rfl⟩
        rw [hLb] at HO ⊢
        have hbs : (xs).length = Lb := by simp [← hLb]
        have HBS := Hid.in hbs
        have hL0 : 0 < Lb := by omega
        have hL9 : Lb ≤ 20 := by omega
        have HCB : Hid (∀ i, i < Lb → w5.cell? ⟨g2, i, none⟩ = some (.int .u8 ((xs).getD i 0))) := fun i hi => by
          rcases HO.out.shape with ⟨e, _⟩ | ⟨g, c, e, ho⟩
          · cases e
          · injection e with e1
            injection e1 with e1
            injection e1 with e1
            have hi' : i < (byts (xs)).length := by rw [List.length_map, HBS.out]; exact hi
            have := ho.cell i hi'
            rw [getD_byts _ i (by rw [HBS.out]; exact hi), ← e1] at this
            exact this
        have HRV : Hid (∀ ys, ys = revTo (xs) Lb → strOfNums ys = out) := fun ys h => HIT.out ys (by
          rw [h, ← HBS.out, revTo_end]
          congr 1
          unfold backI
          rw [if_neg hneg, HXE.out])
        clear hbs hLb
        generalize (xs) = bs at *
        go_wp2_with (at_make; refine wpList_make_full _ rfl _ _ 24 rfl _ 5 i0 (.int .u8 0) 1 Tryz.underlying24 hi hz0 hz1 _ _ _ _ Lb rfl rfl (by omega) (by omega) (by rw [hz2]; omega) (by unfold maxLen; omega) (Nat.le_refl _) ?_; intro w6 hown6 hgrow6; have hb6 := (Below.refl w5.heap.size w5).grown hgrow6 (Nat.le_refl _) (by simp); have HO6 : Hid (Own w6 w5.heap.size w5.heap.size Lb (List.replicate Lb 0)) := Own.of_made hown6; have HB6 := Hid.in hb6; clear hown6 hgrow6 hb6)
        go_loopw [7] (fun i wq => ∃ k : Nat, k ≤ Lb ∧ i = .int .i64 k ∧ Hid (Own wq w5.heap.size w5.heap.size Lb (revTo bs k)) ∧ Hid (Below w5.heap.size w5 wq)) (fun i _ => Lb - (intOf i).toNat)
        case atStart => exact ⟨0, Nat.zero_le _, rfl, by rw [revTo_zero, HBS.out]; exact HO6, HB6⟩
        case round =>
          obtain ⟨k, hk, rfl, HOk, HBk⟩ := hrel
          by_cases hlt : k < Lb
          · have c1 := (HBk.out.cell (p := ⟨g2, Lb - 1 - k, none⟩) (cell_lt (HCB.out (Lb - 1 - k) (by omega)))).trans (HCB.out (Lb - 1 - k) (by omega))
            have hgl : g2 < w5.heap.size := cell_lt (HCB.out 0 hL0)
            have hix : ((Lb : Int) - 1 - (k : Int)).toNat = Lb - 1 - k := by omega
            have hix0 : (0 : Int) ≤ (Lb : Int) - 1 - (k : Int) := by omega
            have hixL : (Lb : Int) - 1 - (k : Int) < (Lb : Int) := by omega
            have d0 := HOk.out.cell k (by rw [revTo_len bs k (by rw [HBS.out]; exact hk), HBS.out]; exact hlt)
            have f0 := HOk.out.free k
            have HS : Hid (Own (wr.setCell ⟨w5.heap.size, k, none⟩ (.int .u8 (bs.getD (Lb - 1 - k) 0))) w5.heap.size w5.heap.size Lb (revTo bs (k + 1))) := by
              have := revTo_step bs k (by rw [HBS.out]; exact hlt)
              rw [HBS.out] at this
              rw [← this]
              exact HOk.out.store _ _
            have HB7 : Hid (Below w5.heap.size w5 (wr.setCell ⟨w5.heap.size, k, none⟩ (.int .u8 (bs.getD (Lb - 1 - k) 0)))) := HBk.out.setCell (Nat.le_refl _) _
            generalize bs.getD (Lb - 1 - k) 0 = z at *
            generalize (revTo bs k).getD k 0 = y0 at d0
            go_wp2
            go_roundw
            case rel => exact ⟨k + 1, by omega, by go_num, HS, HB7⟩
            case measure => simp [intOf]; omega
          · obtain rfl : k = Lb := by omega
            have hcv := HOk.out.row.convert ((revTo_len bs k (by rw [HBS.out]; exact Nat.le_refl _)).trans HBS.out) k
            have HE : Hid (strOfNums (revTo bs k) = out) := HRV.out _ rfl
            generalize strOfNums (revTo bs k) = so at *
            go_wp2
            go_ret
            exact ⟨by rw [HE.out]; rfl, below_step HB5.out HBk.out⟩
    · obtain ⟨hqa, hq1, hq2, hra, hr1, hr2⟩ := parts10 m hm1 hm2
      have HST : Hid (∀ v : Int, v = 48 + ((m.tmod 10).natAbs : Int) → (xs ++ [v]) ++ rdI (m.tdiv 10).natAbs = rdI n.natAbs) := fun v hv => by
        rw [hv, hqa, hra, ← HX.out, rdI_pos (u := m.natAbs) (by omega)]; simp
      have HQ := Hid.in hqa
      clear hqa hra
      have hmeas : (m.tdiv 10).natAbs < m.natAbs := by rw [HQ.out]; omega
      generalize hq : m.tdiv 10 = q at *
      generalize hr : m.tmod 10 = r at *
      by_cases hr0 : r < 0
      · go_wp2_with (at_builtin; refine gpush Tryz.elem26 _ rfl _ _ rfl w.heap.size _ (byts xs) rfl (HV.out.alloc _) ⟨wr.heap.size, 0, none⟩ 1 1 [.int .u8 (48 + -r)] rfl rfl (cell_one_new _ _ _) (by simp [Value.oneCell']) (by rw [HL.out]; omega) (by rw [HL.out]; omega) (by have := HB.out.size; simp; omega) ?_; intro v' w5 hown hgrow hbel _hnil; obtain ⟨g2, cap2, hv2⟩ := ownsRow_succ' hown; rw [List.length_map] at hv2; subst hv2; have HO := Hid.in hown; have HB5 := Hid.in (hbel w (below_alloc HB.out _)); clear hown hgrow hbel)
        go_roundw
        case rel => exact ⟨q, xs ++ [48 + -r], rfl, by simpa [byts] using HO.out, HST.out _ (by omega), hq1, hq2, HB5.out⟩
        case measure => simp [intOf]; omega
      · go_wp2_with (at_builtin; refine gpush Tryz.elem26 _ rfl _ _ rfl w.heap.size _ (byts xs) rfl (HV.out.alloc _) ⟨wr.heap.size, 0, none⟩ 1 1 [.int .u8 (48 + r)] rfl rfl (cell_one_new _ _ _) (by simp [Value.oneCell']) (by rw [HL.out]; omega) (by rw [HL.out]; omega) (by have := HB.out.size; simp; omega) ?_; intro v' w5 hown hgrow hbel _hnil; obtain ⟨g2, cap2, hv2⟩ := ownsRow_succ' hown; rw [List.length_map] at hv2; subst hv2; have HO := Hid.in hown; have HB5 := Hid.in (hbel w (below_alloc HB.out _)); clear hown hgrow hbel)
        go_roundw
        case rel => exact ⟨q, xs ++ [48 + r], rfl, by simpa [byts] using HO.out, HST.out _ (by omega), hq1, hq2, HB5.out⟩
        case measure => simp [intOf]; omega

end Go.Proofs.YtkianldkbfjehaaGreatDoor

/- switchyardref04.line of labels, marks, globals, spaces, aligns and unknown kinds. -/
namespace Go.Proofs.YtkianldkbfjehaaGreatDoor
open Go.RowKit

theorem cat_bytes (a b : List UInt8) : bytesOf a ++ bytesOf b = bytesOf (a ++ b) := by rw [append_bytes, bytesOf_list, bytesOf_list]
theorem cat_name (n : ByteArray) : n = bytesOf n.data.toList := rfl
theorem plT_label (l : List UInt8) : plT (l ++ [58]) = [] := by
  unfold plT
  cases h : formL (l ++ [58]) with
  | none => rfl
  | some t =>
    unfold formL at h
    cases hw : wdL (l ++ [58]) with
    | some i =>
      exfalso
      have h1 := List.find?_some hw
      have h2 := List.mem_of_find?_eq_some hw
      rw [List.mem_range] at h2
      simp only [beq_iff_eq] at h1
      have h3 := congrArg List.getLast? h1
      rw [List.getLast?_append] at h3
      have : i = 0 ∨ i = 1 ∨ i = 2 ∨ i = 3 ∨ i = 4 := by omega
      rcases this with rfl | rfl | rfl | rfl | rfl <;> simp [wd] at h3
    | none =>
      rw [hw] at h
      simp only at h
      cases ho : opL (l ++ [58]) with
      | some o =>
        exfalso
        have h1 := List.find?_some ho
        have h2 := List.mem_of_find?_eq_some ho
        rw [List.mem_range'] at h2
        simp only [beq_iff_eq] at h1
        have h3 := congrArg List.getLast? h1
        rw [List.getLast?_append] at h3
        have : o = 1 ∨ o = 2 ∨ o = 3 ∨ o = 4 ∨ o = 5 ∨ o = 6 ∨ o = 7 ∨ o = 8 ∨ o = 9 ∨ o = 10 ∨ o = 11 ∨ o = 12 ∨ o = 13 ∨ o = 14 ∨ o = 15 ∨ o = 16 := by omega
        rcases this with rfl | rfl | rfl | rfl | rfl | rfl | rfl | rfl | rfl | rfl | rfl | rfl | rfl | rfl | rfl | rfl <;> simp [nm] at h3
      | none =>
        rw [ho] at h
        simp only at h
        split at h
        · injection h with h; rw [← h]
        · cases h
theorem plT_w0 : plT (wd 0).data.toList = [3, 4] := by decide
theorem plT_w2 : plT (wd 2).data.toList = [6] := by decide
theorem plT_w3 : plT (wd 3).data.toList = [7] := by decide
theorem plT_w4 : plT (wd 4).data.toList = [3] := by decide
theorem lineT_1 (x : Src) (h : x.k = 1) : lineT x = x.name.data.toList ++ [58] := by
  have hh : headT x = x.name.data.toList ++ [58] := by simp [headT, h]
  have hf : filledT x = 0 := by simp [filledT, h, hh, plT_label]
  simp [lineT, midT, hf, hh]
theorem lineT_3 (x : Src) (h : x.k = 3) : lineT x = (wd 0).data.toList ++ 32 :: (x.name.data.toList ++ 32 :: x.tg.data.toList) := by
  have hh : headT x = (wd 0).data.toList := by simp [headT, h]
  have hf : filledT x = 2 := by rw [filledT, if_neg (by omega), hh, plT_w0]; rfl
  rw [lineT, midT, hf, hh, plT_w0]
  simp [List.range_succ, fieldT]
theorem lineT_7 (x : Src) (h : x.k = 7) : lineT x = (wd 4).data.toList ++ 32 :: x.name.data.toList := by
  have hh : headT x = (wd 4).data.toList := by simp [headT, h]
  have hf : filledT x = 1 := by rw [filledT, if_neg (by omega), hh, plT_w4]; rfl
  rw [lineT, midT, hf, hh, plT_w4]
  simp [List.range_succ, fieldT]
theorem lineT_5 (x : Src) (h : x.k = 5) : lineT x = (wd 2).data.toList ++ 32 :: Lib.itoa x.n := by
  have hh : headT x = (wd 2).data.toList := by simp [headT, h]
  have hf : filledT x = 1 := by rw [filledT, if_neg (by omega), hh, plT_w2]; rfl
  rw [lineT, midT, hf, hh, plT_w2]
  simp [List.range_succ, fieldT]
theorem lineT_6 (x : Src) (h : x.k = 6) : lineT x = (wd 3).data.toList ++ 32 :: Lib.itoa x.n := by
  have hh : headT x = (wd 3).data.toList := by simp [headT, h]
  have hf : filledT x = 1 := by rw [filledT, if_neg (by omega), hh, plT_w3]; rfl
  rw [lineT, midT, hf, hh, plT_w3]
  simp [List.range_succ, fieldT]
theorem plT_nil : plT [] = [] := by decide
theorem lineT_none (x : Src) (h1 : x.k ≠ 1) (h2 : x.k ≠ 2) (h3 : x.k ≠ 3) (h4 : x.k ≠ 4) (h5 : x.k ≠ 5) (h6 : x.k ≠ 6) (h7 : x.k ≠ 7) : lineT x = [] := by
  have hh : headT x = [] := by simp [headT, h1, h2, h3, h4, h5, h6, h7]
  have hf : filledT x = 0 := by rw [filledT, if_neg h4, hh, plT_nil]; rfl
  simp [lineT, midT, hf, hh]
theorem box28 (x : Src) (d : Value) (w : World) : Blk (w.alloc (.cells (cellsOf x d) 57)) w.heap.size 57 (cellsOf x d) ∧ Below w.heap.size w (w.alloc (.cells (cellsOf x d) 57)) := ⟨Blk.new _ _ _, new_alloc _ _⟩
theorem itoa_len (n : Int) (h0 : -9223372036854775808 ≤ n) (h1 : n ≤ 9223372036854775807) : (Lib.itoa n).length ≤ 20 := by
  by_cases hz : n = 0
  · rw [hz, show Lib.itoa 0 = [48] by simp [Lib.itoa, Lib.decDigits]]; decide
  · rw [← backI_itoa n hz, List.length_map, List.length_reverse]
    have := rdI_len 19 n.natAbs (by rw [show (10 : Nat) ^ 19 = 10000000000000000000 by decide]; omega)
    unfold backI
    split
    · rw [List.length_append]; simp; omega
    · omega

set_option maxRecDepth 20000 in
set_option maxHeartbeats 1000000 in
theorem refT_1 (x : Src) (d : Value) (w : World) (hf : Fit x) (h : x.k = 1) : Calls Tryz.prog 81 #[.agg (cellsOf x d)] w fun E w' => E = .returned (.string (bytesOf (lineT x))) ∧ Below w.heap.size w w' := by
  rw [lineT_1 x h]
  obtain ⟨hB, hW⟩ := box28 x d w
  have c0 : (w.alloc (.cells (cellsOf x d) 57)).cell? ⟨w.heap.size, 0, none⟩ = some (.int .u8 x.k) := hB.cell 0
  have c1 : (w.alloc (.cells (cellsOf x d) 57)).cell? ⟨w.heap.size, 1, none⟩ = some (.string x.name) := hB.cell 1
  have hz1 := hf.nz
  have HE0 : x.name ++ (⟨#[58]⟩ : ByteArray) = bytesOf (x.name.data.toList ++ [58]) := append_bytes _ _
  have HE := Hid.in HE0
  clear HE0
  have HW := Hid.in hW
  rw [h] at c0
  generalize hout : bytesOf (x.name.data.toList ++ [58]) = out at *
  clear hout
  generalize x.name = nmx at *
  clear hB hf h hW
  go_enter Tryz.func81, Tryz.ntmps81
  go_upto_region 1 with fail
  generalize w.alloc (.cells (cellsOf x d) 57) = w1 at *
  go_wp2
  go_ret
  exact ⟨by rw [← HE.out]; rfl, HW.out⟩
set_option maxRecDepth 20000 in
set_option maxHeartbeats 1000000 in
theorem refT_3 (x : Src) (d : Value) (w : World) (hf : Fit x) (h : x.k = 3) : Calls Tryz.prog 81 #[.agg (cellsOf x d)] w fun E w' => E = .returned (.string (bytesOf (lineT x))) ∧ Below w.heap.size w w' := by
  rw [lineT_3 x h]
  obtain ⟨hB, hW⟩ := box28 x d w
  have c0 : (w.alloc (.cells (cellsOf x d) 57)).cell? ⟨w.heap.size, 0, none⟩ = some (.int .u8 x.k) := hB.cell 0
  have c1 : (w.alloc (.cells (cellsOf x d) 57)).cell? ⟨w.heap.size, 1, none⟩ = some (.string x.name) := hB.cell 1
  have c2 : (w.alloc (.cells (cellsOf x d) 57)).cell? ⟨w.heap.size, 2, none⟩ = some (.string x.tg) := hB.cell 2
  have hz1 := hf.nz
  have hz2 := hf.tz
  have HE0 : ((((⟨#[109, 97, 114, 107, 32]⟩ : ByteArray) ++ x.name) ++ (⟨#[32]⟩ : ByteArray)) ++ x.tg) = bytesOf ((wd 0).data.toList ++ 32 :: (x.name.data.toList ++ 32 :: x.tg.data.toList)) := (by rw [append_bytes, append_bytes, append_bytes, bytesOf_list, bytesOf_list]; exact congrArg bytesOf (by simp [wd]))
  have HE := Hid.in HE0
  clear HE0
  have HW := Hid.in hW
  rw [h] at c0
  generalize hout : bytesOf ((wd 0).data.toList ++ 32 :: (x.name.data.toList ++ 32 :: x.tg.data.toList)) = out at *
  clear hout
  generalize x.name = nmx at *
  generalize x.tg = tgx at *
  clear hB hf h hW
  go_enter Tryz.func81, Tryz.ntmps81
  go_upto_region 1 with fail
  generalize w.alloc (.cells (cellsOf x d) 57) = w1 at *
  go_wp2
  go_ret
  exact ⟨by rw [← HE.out]; rfl, HW.out⟩
set_option maxRecDepth 20000 in
set_option maxHeartbeats 1000000 in
theorem refT_7 (x : Src) (d : Value) (w : World) (hf : Fit x) (h : x.k = 7) : Calls Tryz.prog 81 #[.agg (cellsOf x d)] w fun E w' => E = .returned (.string (bytesOf (lineT x))) ∧ Below w.heap.size w w' := by
  rw [lineT_7 x h]
  obtain ⟨hB, hW⟩ := box28 x d w
  have c0 : (w.alloc (.cells (cellsOf x d) 57)).cell? ⟨w.heap.size, 0, none⟩ = some (.int .u8 x.k) := hB.cell 0
  have c1 : (w.alloc (.cells (cellsOf x d) 57)).cell? ⟨w.heap.size, 1, none⟩ = some (.string x.name) := hB.cell 1
  have hz1 := hf.nz
  have HE0 : (⟨#[103, 108, 111, 98, 97, 108, 32]⟩ : ByteArray) ++ x.name = bytesOf ((wd 4).data.toList ++ 32 :: x.name.data.toList) := (by rw [append_bytes]; rfl)
  have HE := Hid.in HE0
  clear HE0
  have HW := Hid.in hW
  rw [h] at c0
  generalize hout : bytesOf ((wd 4).data.toList ++ 32 :: x.name.data.toList) = out at *
  clear hout
  generalize x.name = nmx at *
  clear hB hf h hW
  go_enter Tryz.func81, Tryz.ntmps81
  go_upto_region 1 with fail
  generalize w.alloc (.cells (cellsOf x d) 57) = w1 at *
  go_wp2
  go_ret
  exact ⟨by rw [← HE.out]; rfl, HW.out⟩
set_option maxRecDepth 20000 in
set_option maxHeartbeats 1000000 in
theorem refT_5 (x : Src) (d : Value) (w : World) (hf : Fit x) (h : x.k = 5) : Calls Tryz.prog 81 #[.agg (cellsOf x d)] w fun E w' => E = .returned (.string (bytesOf (lineT x))) ∧ Below w.heap.size w w' := by
  rw [lineT_5 x h]
  obtain ⟨hB, hW⟩ := box28 x d w
  have c0 : (w.alloc (.cells (cellsOf x d) 57)).cell? ⟨w.heap.size, 0, none⟩ = some (.int .u8 x.k) := hB.cell 0
  have c7 : (w.alloc (.cells (cellsOf x d) 57)).cell? ⟨w.heap.size, 7, none⟩ = some (.int .i64 x.n) := hB.cell 7
  have hT := fun W => told_any x.n W hf.n0 hf.n1
  have hz7 : (bytesOf (Lib.itoa x.n)).size ≤ 1073741824 := by rw [bytesOf_size]; have := itoa_len x.n hf.n0 hf.n1; omega
  have HE0 : (⟨#[115, 112, 97, 99, 101, 32]⟩ : ByteArray) ++ bytesOf (Lib.itoa x.n) = bytesOf ((wd 2).data.toList ++ 32 :: Lib.itoa x.n) := (by rw [append_bytes]; rfl)
  have HE := Hid.in HE0
  clear HE0
  have HW := Hid.in hW
  rw [h] at c0
  generalize hout : bytesOf ((wd 2).data.toList ++ 32 :: Lib.itoa x.n) = out at *
  clear hout
  generalize bytesOf (Lib.itoa x.n) = tn at *
  generalize x.n = nx at *
  clear hB hf h hW
  go_enter Tryz.func81, Tryz.ntmps81
  go_upto_region 1 with fail
  generalize w.alloc (.cells (cellsOf x d) 57) = w1 at *
  go_wp2_with (go_at_call 103; refine (hT _).mono ?_; rintro e w2 ⟨rfl, hb2⟩)
  go_ret
  exact ⟨by rw [← HE.out]; rfl, below_step HW.out hb2⟩
set_option maxRecDepth 20000 in
set_option maxHeartbeats 1000000 in
theorem refT_6 (x : Src) (d : Value) (w : World) (hf : Fit x) (h : x.k = 6) : Calls Tryz.prog 81 #[.agg (cellsOf x d)] w fun E w' => E = .returned (.string (bytesOf (lineT x))) ∧ Below w.heap.size w w' := by
  rw [lineT_6 x h]
  obtain ⟨hB, hW⟩ := box28 x d w
  have c0 : (w.alloc (.cells (cellsOf x d) 57)).cell? ⟨w.heap.size, 0, none⟩ = some (.int .u8 x.k) := hB.cell 0
  have c7 : (w.alloc (.cells (cellsOf x d) 57)).cell? ⟨w.heap.size, 7, none⟩ = some (.int .i64 x.n) := hB.cell 7
  have hT := fun W => told_any x.n W hf.n0 hf.n1
  have hz7 : (bytesOf (Lib.itoa x.n)).size ≤ 1073741824 := by rw [bytesOf_size]; have := itoa_len x.n hf.n0 hf.n1; omega
  have HE0 : (⟨#[97, 108, 105, 103, 110, 32]⟩ : ByteArray) ++ bytesOf (Lib.itoa x.n) = bytesOf ((wd 3).data.toList ++ 32 :: Lib.itoa x.n) := (by rw [append_bytes]; rfl)
  have HE := Hid.in HE0
  clear HE0
  have HW := Hid.in hW
  rw [h] at c0
  generalize hout : bytesOf ((wd 3).data.toList ++ 32 :: Lib.itoa x.n) = out at *
  clear hout
  generalize bytesOf (Lib.itoa x.n) = tn at *
  generalize x.n = nx at *
  clear hB hf h hW
  go_enter Tryz.func81, Tryz.ntmps81
  go_upto_region 1 with fail
  generalize w.alloc (.cells (cellsOf x d) 57) = w1 at *
  go_wp2_with (go_at_call 103; refine (hT _).mono ?_; rintro e w2 ⟨rfl, hb2⟩)
  go_ret
  exact ⟨by rw [← HE.out]; rfl, below_step HW.out hb2⟩
set_option maxRecDepth 20000 in
set_option maxHeartbeats 1000000 in
theorem refT_0 (x : Src) (d : Value) (w : World) (h1 : x.k ≠ 1) (h2 : x.k ≠ 2) (h3 : x.k ≠ 3) (h4 : x.k ≠ 4) (h5 : x.k ≠ 5) (h6 : x.k ≠ 6) (h7 : x.k ≠ 7) : Calls Tryz.prog 81 #[.agg (cellsOf x d)] w fun E w' => E = .returned (.string (bytesOf (lineT x))) ∧ Below w.heap.size w w' := by
  rw [lineT_none x h1 h2 h3 h4 h5 h6 h7]
  obtain ⟨hB, hW⟩ := box28 x d w
  have c0 : (w.alloc (.cells (cellsOf x d) 57)).cell? ⟨w.heap.size, 0, none⟩ = some (.int .u8 x.k) := hB.cell 0
  have HE0 : (⟨#[]⟩ : ByteArray) = bytesOf ([] : List UInt8) := rfl
  have HE := Hid.in HE0
  clear HE0
  have HW := Hid.in hW
  generalize hout : bytesOf ([] : List UInt8) = out at *
  clear hout
  generalize x.k = kx at *
  clear hB hW
  go_enter Tryz.func81, Tryz.ntmps81
  go_upto_region 1 with fail
  generalize w.alloc (.cells (cellsOf x d) 57) = w1 at *
  go_wp2
  go_ret
  exact ⟨by rw [← HE.out]; rfl, HW.out⟩

end Go.Proofs.YtkianldkbfjehaaGreatDoor

/- switchyardref04.line of bytes and of instructions. -/
namespace Go.Proofs.YtkianldkbfjehaaGreatDoor
open Go.RowKit

theorem plT_w1 : plT (wd 1).data.toList = List.replicate 64 5 := by decide
theorem mid_4 (x : Src) (h : x.k = 4) (k : Nat) (hk : k < 64) : midT x (k + 1) = midT x k ++ 32 :: Lib.itoa (x.d.getD k 0) := by
  have hh : headT x = (wd 1).data.toList := by simp [headT, h]
  rw [midT_succ, hh, plT_w1]
  have : (List.replicate 64 5).getD k 0 = 5 := by rw [List.getD_eq_getElem?_getD, List.getElem?_replicate, if_pos hk]; rfl
  rw [this]
  simp [fieldT]
theorem lineT_4 (x : Src) (h : x.k = 4) (hd : x.d.length ≤ 64) : lineT x = midT x x.d.length := by
  have hh : headT x = (wd 1).data.toList := by simp [headT, h]
  have hf : filledT x = x.d.length := by
    rw [filledT, if_pos h, hh, plT_w1, List.length_replicate]; omega
  rw [lineT, hf]
theorem mid0_4 (x : Src) (h : x.k = 4) : midT x 0 = (wd 1).data.toList := by simp [midT, headT, h]
theorem mid4_len (x : Src) (h : x.k = 4) (hb : Byt x.d) : ∀ k, k ≤ 64 → (midT x k).length ≤ 4 + k * 21
  | 0, _ => by rw [mid0_4 x h]; decide
  | k + 1, hk => by
    rw [mid_4 x h k (by omega), List.length_append, List.length_cons]
    have := mid4_len x h hb k (by omega)
    have hz := hb k
    have := itoa_len (x.d.getD k 0) (by omega) (by omega)
    omega

set_option maxRecDepth 20000 in
set_option maxHeartbeats 1000000 in
theorem refT_4 (x : Src) (q : Option Addr) (m e : Nat) (w : World) (hf : Fit x) (h : x.k = 4) (hm : x.d.length = m) (hm64 : m ≤ 64) (hr : Row w q x.d) :
    Calls Tryz.prog 81 #[.agg (cellsOf x (.slice q m e))] w fun E w' => E = .returned (.string (bytesOf (lineT x))) ∧ Below w.heap.size w w' := by
  rw [lineT_4 x h (by omega), hm]
  obtain ⟨hB, hW⟩ := box28 x (.slice q m e) w
  have HB := Hid.in hB
  have HW := Hid.in hW
  have HR := Hid.in (hr.below hW)
  have HF := Hid.in hf
  have HK := Hid.in h
  have HM := Hid.in hm
  clear hB hW hr hf
  go_enter Tryz.func81, Tryz.ntmps81
  go_upto_region 1 with fail
  have c0 : (w.alloc (.cells (cellsOf x (.slice q m e)) 57)).cell? ⟨w.heap.size, 0, none⟩ = some (.int .u8 4) := by rw [← h]; exact HB.out.cell 0
  generalize w.alloc (.cells (cellsOf x (.slice q m e)) 57) = w1 at *
  clear h hm
  go_wp2_with fail
  clear c0
  go_loopw [3, 4] (fun s i wr => ∃ k : Nat, k ≤ m ∧ i = .int .i64 k ∧ s = .string (bytesOf (midT x k)) ∧ Below w1.heap.size w1 wr) (fun _ i _ => m - (intOf i).toNat)
  case atStart => exact ⟨0, Nat.zero_le _, rfl, by rw [mid0_4 x HK.out]; rfl, below_self _⟩
  case round =>
    obtain ⟨k, hk, rfl, rfl, hbk⟩ := hrel
    have HBK := Hid.in hbk
    have c8 : wr.cell? ⟨w.heap.size, 8, none⟩ = some (.slice q m e) := (HB.out.grow hbk).cell 8
    clear hbk
    have hlen := mid4_len x HK.out HF.out.d k (by omega)
    have hsz : (bytesOf (midT x k)).size ≤ 2000 := by rw [bytesOf_size]; omega
    by_cases hlt : k < m
    · obtain ⟨b, o, hq, hc⟩ := HR.out (by rw [HM.out]; omega)
      subst hq
      have cd := (HBK.out.cell (p := ⟨b, o + k, none⟩) (cell_lt (hc k (by rw [HM.out]; exact hlt)))).trans (hc k (by rw [HM.out]; exact hlt))
      have hz := HF.out.d k
      have hT := fun W => told_any (x.d.getD k 0) W (by omega) (by omega)
      have HE : Hid ((bytesOf (midT x k) ++ (⟨#[32]⟩ : ByteArray)) ++ bytesOf (Lib.itoa (x.d.getD k 0)) = bytesOf (midT x (k + 1))) := by
        have e1 : bytesOf (midT x k) ++ (⟨#[32]⟩ : ByteArray) = bytesOf (midT x k ++ [32]) := cat_bytes _ [32]
        have : (bytesOf (midT x k) ++ (⟨#[32]⟩ : ByteArray)) ++ bytesOf (Lib.itoa (x.d.getD k 0)) = bytesOf (midT x (k + 1)) := by
          rw [e1, cat_bytes, mid_4 x HK.out k (by omega)]; simp
        exact this
      have hts : (bytesOf (Lib.itoa (x.d.getD k 0))).size ≤ 20 := by rw [bytesOf_size]; exact itoa_len _ (by omega) (by omega)
      clear hc
      generalize bytesOf (midT x k) = sx at *
      generalize bytesOf (Lib.itoa (x.d.getD k 0)) = tx at *
      generalize x.d.getD k 0 = z at *
      go_wp2_with (go_at_call 103; refine (hT _).mono ?_; rintro e' w3 ⟨rfl, hb3⟩; have HB3 := Hid.in hb3; clear hb3)
      go_roundw
      case rel => exact ⟨k + 1, by omega, by go_num, by rw [HE.out], below_step HBK.out HB3.out⟩
      case measure => simp [intOf]; omega
    · obtain rfl : k = m := by omega
      go_wp2_with fail
      go_ret
      exact ⟨rfl, below_step HW.out HBK.out⟩

theorem nm_none {o : Nat} (h : ¬ (1 ≤ o ∧ o < 17)) : nm o = ⟨#[]⟩ := by
  by_cases h0 : o = 0
  · rw [h0]; rfl
  · obtain ⟨k, hk⟩ : ∃ k, o = k + 17 := ⟨o - 17, by omega⟩
    rw [hk]; rfl
theorem rname_any (o : Int) (h0 : 0 ≤ o) (h1 : o ≤ 255) (w : World) : Calls Tryz.prog 104 #[.int .u8 o] w fun e w' => e = .returned (.string (nm o.toNat)) ∧ w' = w := by
  have ho : o = (o.toNat : Int) := by omega
  by_cases h : 1 ≤ o.toNat ∧ o.toNat < 17
  · have := rname_yes o.toNat w h.1 h.2
    rw [← ho] at this
    exact this
  · have hn : nm o.toNat = ⟨#[]⟩ := nm_none h
    rw [hn]
    exact rname_no o w (by omega)
theorem askL_nil : askL [] = none := by decide
set_option maxRecDepth 20000 in
set_option maxHeartbeats 1000000 in
theorem refT_2no (x : Src) (d : Value) (w : World) (hf : Fit x) (h : x.k = 2) (ho : ¬ (1 ≤ x.o.toNat ∧ x.o.toNat < 17)) :
    Calls Tryz.prog 81 #[.agg (cellsOf x d)] w fun E w' => E = .returned (.string (bytesOf (lineT x))) ∧ Below w.heap.size w w' := by
  have hn : nm x.o.toNat = ⟨#[]⟩ := nm_none ho
  have hl : lineT x = [] := by
    have hh : headT x = [] := by simp [headT, h, hn]
    have hf : filledT x = 0 := by rw [filledT, if_neg (by omega), hh, plT_nil]; rfl
    simp [lineT, midT, hf, hh]
  rw [hl]
  obtain ⟨hB, hW⟩ := box28 x d w
  have hN := fun W => rname_any x.o hf.o0 hf.o1 W
  rw [hn] at hN
  have hA := fun W => refAsks_any ⟨#[]⟩ W
  have hAn : askL (⟨#[]⟩ : ByteArray).data.toList = none := askL_nil
  rw [hAn] at hA
  have c0 : (w.alloc (.cells (cellsOf x d) 57)).cell? ⟨w.heap.size, 0, none⟩ = some (.int .u8 2) := by rw [← h]; exact hB.cell 0
  have c3 : (w.alloc (.cells (cellsOf x d) 57)).cell? ⟨w.heap.size, 3, none⟩ = some (.int .u8 x.o) := hB.cell 3
  have HW := Hid.in hW
  generalize x.o = ox at *
  clear hB hf hW h ho hn hl hAn
  go_enter Tryz.func81, Tryz.ntmps81
  go_upto_region 1 with fail
  generalize w.alloc (.cells (cellsOf x d) 57) = w1 at *
  go_wp2_with (first
    | (go_at_call 104; refine (hN _).mono ?_; rintro e w2 ⟨rfl, rfl⟩)
    | (go_at_call 100; refine (hA _).mono ?_; rintro e w3 ⟨hb3, rfl⟩))
  go_ret
  exact ⟨rfl, below_step HW.out hb3⟩

set_option maxRecDepth 20000 in
set_option maxHeartbeats 2000000 in
theorem refT_2 (x : Src) (d : Value) (w : World) (hf : Fit x) (h : x.k = 2) (ho : 1 ≤ x.o.toNat ∧ x.o.toNat < 17) :
    Calls Tryz.prog 81 #[.agg (cellsOf x d)] w fun E w' => E = .returned (.string (bytesOf (lineT x))) ∧ Below w.heap.size w w' := by
  have hh : headT x = (nm x.o.toNat).data.toList := by simp [headT, h]
  have hpt : plT (headT x) = plO x.o.toNat := by rw [hh]; exact plT_nm _
  have hl : lineT x = midT x (plO x.o.toNat).length := by
    rw [lineT, filledT, if_neg (by omega), hpt]
  rw [hl]
  have hm0 : midT x 0 = (nm x.o.toNat).data.toList := by simp [midT, hh]
  have hmid : ∀ k, k ≤ 2 → (midT x k).length ≤ 6442450944 := fun k hk => by
    have := midT_len x hf k
    omega
  have hN := fun W => rname_any x.o hf.o0 hf.o1 W
  have hA := fun W => refAsks_any (nm x.o.toNat) W
  have hAn : askL (nm x.o.toNat).data.toList = some (plO x.o.toNat, false) := by
    unfold askL
    rw [nm_word _ ho.1 ho.2]
    simp only [op_find _ ho.1 ho.2]
  rw [hAn] at hA
  have hlen := plO_len x.o.toNat
  have HPA := Hid.in (plO_at x.o.toNat)
  have HPT := Hid.in hpt
  have HM0 : Hid (bytesOf (midT x 0) = nm x.o.toNat) := by rw [hm0]; exact rfl
  have HMD := Hid.in hmid
  obtain ⟨hB, hW⟩ := box28 x d w
  have HBX0 := Hid.in hB
  have HW := Hid.in hW
  have HF := Hid.in hf
  generalize plO x.o.toNat = ps at *
  generalize nm x.o.toNat = y0 at *
  have c0 : (w.alloc (.cells (cellsOf x d) 57)).cell? ⟨w.heap.size, 0, none⟩ = some (.int .u8 2) := by rw [← h]; exact hB.cell 0
  have c3 : (w.alloc (.cells (cellsOf x d) 57)).cell? ⟨w.heap.size, 3, none⟩ = some (.int .u8 x.o) := hB.cell 3
  clear hB hW hh hpt hl hm0 hmid hAn ho hf h
  go_enter Tryz.func81, Tryz.ntmps81
  go_upto_region 1 with fail
  generalize w.alloc (.cells (cellsOf x d) 57) = w1 at *
  go_wp2_with (first
    | (go_at_call 104; refine (hN _).mono ?_; rintro e w2 ⟨rfl, rfl⟩)
    | (go_at_call 100; refine (hA _).mono ?_; rintro e w3 ⟨hb3, v3, rfl, hask⟩; have HBX := Hid.in (HBX0.out.grow hb3); have HW3 := Hid.in (below_step HW.out hb3); have HA3 := Hid.in hask; obtain ⟨pa, hpa⟩ := hask.shape; subst hpa; clear hb3 hask c0 c3))
  obtain ⟨np, hnp⟩ : ∃ np, ps.length = np := ⟨_, rfl⟩
  rw [hnp] at hlen HA3
  rw [hnp]
  have HNP := Hid.in hnp
  clear hnp HBX0 HW hA hN
  go_loopw [5, 9] (fun s i wr => ∃ k : Nat, k ≤ np ∧ i = .int .i64 k ∧ s = .string (bytesOf (midT x k)) ∧ Below w3.heap.size w3 wr) (fun _ i _ => np - (intOf i).toNat)
  case atStart => exact ⟨0, Nat.zero_le _, rfl, by rw [HM0.out], below_self _⟩
  case round =>
    obtain ⟨k, hk, rfl, rfl, hbk⟩ := hrel
    have HBK := Hid.in hbk
    clear hbk
    have hsz : (bytesOf (midT x k)).size ≤ 6442450944 := by rw [bytesOf_size]; exact HMD.out k (by omega)
    by_cases hlt : k < np
    · have hltp : k < ps.length := by rw [HNP.out]; exact hlt
      obtain ⟨ga, hga, hgB, hgw, hac⟩ := HA3.out.cells (by omega)
      rw [HNP.out] at hga
      injection hga with hga
      subst hga
      have hcase := HPA.out k hltp
      have hk01 : k = 0 ∨ k = 1 := by omega
      rcases hk01 with rfl | rfl
      · rcases hcase with ⟨hpk, -⟩ | ⟨-, hbad⟩ | hpk | hpk
        · skip
          have a0 : wr.cell? ⟨ga, 0, none⟩ = some (.int .u8 114) := by have := hac 0 hltp 0 (by decide); rw [hpk] at this; exact (HBK.out.cell (p := ⟨ga, 0, none⟩) hgw).trans this
          have cx : wr.cell? ⟨w.heap.size, 4, none⟩ = some (.int .u8 x.a) := (HBX.out.grow HBK.out).cell 4
          have hT := fun W => told_any x.a W (by have := HF.out.a0; omega) (by have := HF.out.a1; omega)
          have hts : (bytesOf (Lib.itoa x.a)).size ≤ 20 := by rw [bytesOf_size]; exact itoa_len _ (by have := HF.out.a0; omega) (by have := HF.out.a1; omega)
          have hv0 := HF.out.a0
          have hv1 := HF.out.a1
          have HE : Hid ((bytesOf (midT x 0) ++ (⟨#[32, 114]⟩ : ByteArray)) ++ bytesOf (Lib.itoa x.a) = bytesOf (midT x 1)) := by
            have e1 : bytesOf (midT x 0) ++ (⟨#[32, 114]⟩ : ByteArray) = bytesOf (midT x 0 ++ [32, 114]) := cat_bytes _ [32, 114]
            have : (bytesOf (midT x 0) ++ (⟨#[32, 114]⟩ : ByteArray)) ++ bytesOf (Lib.itoa x.a) = bytesOf (midT x 1) := by
              rw [e1, midT_succ x 0, HPT.out, List.getD_eq_getElem?_getD, List.getElem?_eq_getElem hltp, Option.getD_some, hpk]
              rw [cat_bytes]; simp [fieldT]
            exact this
          clear hac hpk
          generalize bytesOf (midT x 0) = sx at *
          generalize bytesOf (Lib.itoa x.a) = tx at *
          generalize x.a = vx at *
          go_wp2_with (go_at_call 103; refine (hT _).mono ?_; rintro e' w3 ⟨rfl, hb3⟩; have HB3 := Hid.in hb3; clear hb3)
          go_roundw
          case rel => exact ⟨1, by omega, by go_num, by rw [HE.out], below_step HBK.out HB3.out⟩
          case measure => simp [intOf]; omega
        · cases hbad
        · skip
          have a0 : wr.cell? ⟨ga, 0, none⟩ = some (.int .u8 110) := by have := hac 0 hltp 0 (by decide); rw [hpk] at this; exact (HBK.out.cell (p := ⟨ga, 0, none⟩) hgw).trans this
          have cx : wr.cell? ⟨w.heap.size, 6, none⟩ = some (.int .i32 x.m) := (HBX.out.grow HBK.out).cell 6
          have hT := fun W => told_any x.m W (by have := HF.out.m0; omega) (by have := HF.out.m1; omega)
          have hts : (bytesOf (Lib.itoa x.m)).size ≤ 20 := by rw [bytesOf_size]; exact itoa_len _ (by have := HF.out.m0; omega) (by have := HF.out.m1; omega)
          have hm0 := HF.out.m0
          have hm1 := HF.out.m1
          have HE : Hid ((bytesOf (midT x 0) ++ (⟨#[32]⟩ : ByteArray)) ++ bytesOf (Lib.itoa x.m) = bytesOf (midT x 1)) := by
            have e1 : bytesOf (midT x 0) ++ (⟨#[32]⟩ : ByteArray) = bytesOf (midT x 0 ++ [32]) := cat_bytes _ [32]
            have : (bytesOf (midT x 0) ++ (⟨#[32]⟩ : ByteArray)) ++ bytesOf (Lib.itoa x.m) = bytesOf (midT x 1) := by
              rw [e1, midT_succ x 0, HPT.out, List.getD_eq_getElem?_getD, List.getElem?_eq_getElem hltp, Option.getD_some, hpk]
              rw [cat_bytes]; simp [fieldT]
            exact this
          clear hac hpk
          generalize bytesOf (midT x 0) = sx at *
          generalize bytesOf (Lib.itoa x.m) = tx at *
          generalize x.m = vx at *
          go_wp2_with (go_at_call 103; refine (hT _).mono ?_; rintro e' w3 ⟨rfl, hb3⟩; have HB3 := Hid.in hb3; clear hb3)
          go_roundw
          case rel => exact ⟨1, by omega, by go_num, by rw [HE.out], below_step HBK.out HB3.out⟩
          case measure => simp [intOf]; omega
        · skip
          have a0 : wr.cell? ⟨ga, 0, none⟩ = some (.int .u8 119) := by have := hac 0 hltp 0 (by decide); rw [hpk] at this; exact (HBK.out.cell (p := ⟨ga, 0, none⟩) hgw).trans this
          have cx : wr.cell? ⟨w.heap.size, 1, none⟩ = some (.string x.name) := (HBX.out.grow HBK.out).cell 1
          have hts := HF.out.nz
          have HE : Hid ((bytesOf (midT x 0) ++ (⟨#[32]⟩ : ByteArray)) ++ x.name = bytesOf (midT x 1)) := by
            have e1 : bytesOf (midT x 0) ++ (⟨#[32]⟩ : ByteArray) = bytesOf (midT x 0 ++ [32]) := cat_bytes _ [32]
            have : (bytesOf (midT x 0) ++ (⟨#[32]⟩ : ByteArray)) ++ x.name = bytesOf (midT x 1) := by
              rw [e1, midT_succ x 0, HPT.out, List.getD_eq_getElem?_getD, List.getElem?_eq_getElem hltp, Option.getD_some, hpk]
              rw [append_bytes, bytesOf_list]; simp [fieldT]
            exact this
          clear hac hpk
          generalize bytesOf (midT x 0) = sx at *
          generalize x.name = nx at *
          go_wp2_with fail
          go_roundw
          case rel => exact ⟨1, by omega, by go_num, by rw [HE.out], HBK.out⟩
          case measure => simp [intOf]; omega
      · rcases hcase with ⟨-, hbad⟩ | ⟨hpk, -⟩ | hpk | hpk
        · cases hbad
        · skip
          have a0 : wr.cell? ⟨ga, 3, none⟩ = some (.int .u8 114) := by have := hac 1 hltp 0 (by decide); rw [hpk] at this; exact (HBK.out.cell (p := ⟨ga, 3, none⟩) hgw).trans this
          have cx : wr.cell? ⟨w.heap.size, 5, none⟩ = some (.int .u8 x.b) := (HBX.out.grow HBK.out).cell 5
          have hT := fun W => told_any x.b W (by have := HF.out.b0; omega) (by have := HF.out.b1; omega)
          have hts : (bytesOf (Lib.itoa x.b)).size ≤ 20 := by rw [bytesOf_size]; exact itoa_len _ (by have := HF.out.b0; omega) (by have := HF.out.b1; omega)
          have hv0 := HF.out.b0
          have hv1 := HF.out.b1
          have HE : Hid ((bytesOf (midT x 1) ++ (⟨#[32, 114]⟩ : ByteArray)) ++ bytesOf (Lib.itoa x.b) = bytesOf (midT x 2)) := by
            have e1 : bytesOf (midT x 1) ++ (⟨#[32, 114]⟩ : ByteArray) = bytesOf (midT x 1 ++ [32, 114]) := cat_bytes _ [32, 114]
            have : (bytesOf (midT x 1) ++ (⟨#[32, 114]⟩ : ByteArray)) ++ bytesOf (Lib.itoa x.b) = bytesOf (midT x 2) := by
              rw [e1, midT_succ x 1, HPT.out, List.getD_eq_getElem?_getD, List.getElem?_eq_getElem hltp, Option.getD_some, hpk]
              rw [cat_bytes]; simp [fieldT]
            exact this
          clear hac hpk
          generalize bytesOf (midT x 1) = sx at *
          generalize bytesOf (Lib.itoa x.b) = tx at *
          generalize x.b = vx at *
          go_wp2_with (go_at_call 103; refine (hT _).mono ?_; rintro e' w3 ⟨rfl, hb3⟩; have HB3 := Hid.in hb3; clear hb3)
          go_roundw
          case rel => exact ⟨2, by omega, by go_num, by rw [HE.out], below_step HBK.out HB3.out⟩
          case measure => simp [intOf]; omega
        · skip
          have a0 : wr.cell? ⟨ga, 3, none⟩ = some (.int .u8 110) := by have := hac 1 hltp 0 (by decide); rw [hpk] at this; exact (HBK.out.cell (p := ⟨ga, 3, none⟩) hgw).trans this
          have cx : wr.cell? ⟨w.heap.size, 6, none⟩ = some (.int .i32 x.m) := (HBX.out.grow HBK.out).cell 6
          have hT := fun W => told_any x.m W (by have := HF.out.m0; omega) (by have := HF.out.m1; omega)
          have hts : (bytesOf (Lib.itoa x.m)).size ≤ 20 := by rw [bytesOf_size]; exact itoa_len _ (by have := HF.out.m0; omega) (by have := HF.out.m1; omega)
          have hm0 := HF.out.m0
          have hm1 := HF.out.m1
          have HE : Hid ((bytesOf (midT x 1) ++ (⟨#[32]⟩ : ByteArray)) ++ bytesOf (Lib.itoa x.m) = bytesOf (midT x 2)) := by
            have e1 : bytesOf (midT x 1) ++ (⟨#[32]⟩ : ByteArray) = bytesOf (midT x 1 ++ [32]) := cat_bytes _ [32]
            have : (bytesOf (midT x 1) ++ (⟨#[32]⟩ : ByteArray)) ++ bytesOf (Lib.itoa x.m) = bytesOf (midT x 2) := by
              rw [e1, midT_succ x 1, HPT.out, List.getD_eq_getElem?_getD, List.getElem?_eq_getElem hltp, Option.getD_some, hpk]
              rw [cat_bytes]; simp [fieldT]
            exact this
          clear hac hpk
          generalize bytesOf (midT x 1) = sx at *
          generalize bytesOf (Lib.itoa x.m) = tx at *
          generalize x.m = vx at *
          go_wp2_with (go_at_call 103; refine (hT _).mono ?_; rintro e' w3 ⟨rfl, hb3⟩; have HB3 := Hid.in hb3; clear hb3)
          go_roundw
          case rel => exact ⟨2, by omega, by go_num, by rw [HE.out], below_step HBK.out HB3.out⟩
          case measure => simp [intOf]; omega
        · skip
          have a0 : wr.cell? ⟨ga, 3, none⟩ = some (.int .u8 119) := by have := hac 1 hltp 0 (by decide); rw [hpk] at this; exact (HBK.out.cell (p := ⟨ga, 3, none⟩) hgw).trans this
          have cx : wr.cell? ⟨w.heap.size, 1, none⟩ = some (.string x.name) := (HBX.out.grow HBK.out).cell 1
          have hts := HF.out.nz
          have HE : Hid ((bytesOf (midT x 1) ++ (⟨#[32]⟩ : ByteArray)) ++ x.name = bytesOf (midT x 2)) := by
            have e1 : bytesOf (midT x 1) ++ (⟨#[32]⟩ : ByteArray) = bytesOf (midT x 1 ++ [32]) := cat_bytes _ [32]
            have : (bytesOf (midT x 1) ++ (⟨#[32]⟩ : ByteArray)) ++ x.name = bytesOf (midT x 2) := by
              rw [e1, midT_succ x 1, HPT.out, List.getD_eq_getElem?_getD, List.getElem?_eq_getElem hltp, Option.getD_some, hpk]
              rw [append_bytes, bytesOf_list]; simp [fieldT]
            exact this
          clear hac hpk
          generalize bytesOf (midT x 1) = sx at *
          generalize x.name = nx at *
          go_wp2_with fail
          go_roundw
          case rel => exact ⟨2, by omega, by go_num, by rw [HE.out], HBK.out⟩
          case measure => simp [intOf]; omega
    · obtain rfl : k = np := by omega
      have HEND : Hid (bytesOf (midT x ps.length) = bytesOf (midT x k)) := by rw [HNP.out]; exact rfl
      go_wp2_with fail
      go_ret
      exact ⟨by rw [HEND.out]; rfl, below_step HW3.out HBK.out⟩

end Go.Proofs.YtkianldkbfjehaaGreatDoor

/- Items that may be have short lines. -/
namespace Go.Proofs.YtkianldkbfjehaaGreatDoor
open Go.RowKit

/-- names of at most 16 bytes -/
def Brief (x : Src) : Prop := x.name.size ≤ 16 ∧ x.tg.size ≤ 16
theorem srcK_brief (k : Int) : Brief (srcK k) := ⟨by show (0 : Nat) ≤ _; omega, by show (0 : Nat) ≤ _; omega⟩
theorem readL_brief (p : Nat) (x : Src) (hx : Brief x) (f : List UInt8) : Brief (readL p x f).2 := by
  unfold readL
  split
  · split <;> exact hx
  split
  · split <;> exact hx
  split
  · split
    · rename_i hn
      exact ⟨by show (bytesOf f).size ≤ 16; rw [bytesOf_size]; exact nameB_len hn, hx.2⟩
    · exact hx
  split
  · split
    · rename_i hn
      exact ⟨hx.1, by show (bytesOf f).size ≤ 16; rw [bytesOf_size]; exact nameB_len hn⟩
    · exact hx
  split
  · exact hx
  split
  · unfold putS; split
    · exact hx
    split <;> exact hx
  · exact hx
theorem goL_brief (fs : List (Nat × List UInt8)) : ∀ (x : Src) (ps : List Nat) (y : Src), Brief x → goL x ps fs = .inr y → Brief y := by
  induction fs with
  | nil =>
    intro x ps y hx h
    cases ps <;> (simp only [goL] at h; injection h with h; rw [← h]; exact hx)
  | cons q fs ih =>
    intro x ps y hx h
    obtain ⟨c, f⟩ := q
    cases ps with
    | nil => simp [goL] at h
    | cons p ps =>
      simp only [goL] at h
      split at h
      · exact ih _ _ _ (readL_brief p x hx f) h
      · cases h
theorem formL_brief {f : List UInt8} {x : Src} {ps : List Nat} {n : Nat} (h : formL f = some (x, ps, n)) : Brief x := by
  unfold formL at h
  split at h
  · rename_i i _
    injection h with h
    have h1 : Brief (formW i).1 := by
      unfold formW; split <;> exact srcK_brief _
    rw [h] at h1; exact h1
  · split at h
    · rename_i o ho
      injection h with h
      have h3 : Brief (formO o).1 := srcK_brief 2
      rw [h] at h3; exact h3
    · split at h
      · rename_i hc
        injection h with h
        injection h with h1 h2
        subst h1
        exact ⟨by show (bytesOf f.dropLast).size ≤ 16; rw [bytesOf_size]; exact nameB_len hc.2, by show (0 : Nat) ≤ _; omega⟩
      · cases h
theorem lineL_brief (l : List UInt8) : Brief (lineL l).1 := by
  have h0 : Brief src0 := srcK_brief 0
  unfold lineL
  cases hf : fieldsL l with
  | nil => exact h0
  | cons q fs =>
    obtain ⟨c, f⟩ := q
    simp only
    cases hm : formL f with
    | none => exact h0
    | some t =>
      obtain ⟨x, ps, n⟩ := t
      simp only
      cases hg : goL x ps fs with
      | inl r => obtain ⟨e, c⟩ := r; exact h0
      | inr y =>
        simp only
        split
        · exact h0
        · exact goL_brief fs x ps y (formL_brief hm) hg
theorem may_brief {x : Src} (h : mayB x = true) : Brief x := by
  have := ((mayB_iff x).1 h).2
  rw [← this]; exact lineL_brief _
theorem head_brief (x : Src) (h : Brief x) : (headT x).length ≤ 17 := by
  have hn := h.1
  rw [Lib.size_eq] at hn
  have := nm_len x.o.toNat
  unfold headT
  split
  · simp only [List.length_append, List.length_cons, List.length_nil]; omega
  split
  · omega
  split
  · decide
  split
  · decide
  split
  · decide
  split
  · decide
  split
  · decide
  · simp
theorem field_brief (p : Nat) (x : Src) (hx : Fit x) (hb : Brief x) (i : Nat) : (fieldT p x i).length ≤ 22 := by
  have hn := hb.1
  have ht := hb.2
  rw [Lib.size_eq] at hn ht
  have h1 := Lib.itoa_length_le x.a (by have := hx.a0; omega) (by have := hx.a1; omega)
  have h2 := Lib.itoa_length_le x.b (by have := hx.b0; omega) (by have := hx.b1; omega)
  have h3 := Lib.itoa_length_le x.m (by have := hx.m0; omega) (by have := hx.m1; omega)
  have h4 := Lib.itoa_length_le x.n hx.n0 hx.n1
  have h5 := Lib.itoa_length_le (x.d.getD i 0) (by have := getD_byte x hx i; omega) (by have := getD_byte x hx i; omega)
  unfold fieldT
  split
  · simp only [List.length_cons]; omega
  split
  · simp only [List.length_cons]; omega
  split
  · omega
  split
  · omega
  split
  · omega
  split
  · omega
  · omega
theorem mid_brief (x : Src) (hx : Fit x) (hb : Brief x) : ∀ k, (midT x k).length ≤ 17 + k * 23
  | 0 => by have := head_brief x hb; simp [midT]; omega
  | k + 1 => by
    have h1 := mid_brief x hx hb k
    have h2 := field_brief ((plT (headT x)).getD k 0) x hx hb k
    rw [midT_succ, List.length_append, List.length_cons]
    omega
theorem line_brief (x : Src) (hx : Fit x) (hm : mayB x = true) : (lineT x).length ≤ 1489 := by
  have h1 := mid_brief x hx (may_brief hm) (filledT x)
  have h2 : filledT x ≤ 64 := by
    have := (plT_ok x).1
    unfold filledT
    split <;> omega
  unfold lineT
  omega
/-- what is printed of items -/
def textT (xs : List Src) : List UInt8 := xs.flatMap fun x => lineT x ++ [10]
theorem textT_succ (xs : List Src) (k : Nat) (h : k < xs.length) : textT (xs.take (k + 1)) = textT (xs.take k) ++ (lineT xs[k] ++ [10]) := by
  unfold textT
  rw [List.take_succ_eq_append_getElem h, List.flatMap_append]
  simp
theorem textT_len (xs : List Src) (hx : ∀ x ∈ xs, Fit x) (hm : ∀ x ∈ xs, mayB x = true) : (textT xs).length ≤ xs.length * 1490 := by
  induction xs with
  | nil => simp [textT]
  | cons x xs ih =>
    have h1 := line_brief x (hx x (by simp)) (hm x (by simp))
    have h2 := ih (fun y hy => hx y (by simp [hy])) (fun y hy => hm y (by simp [hy]))
    unfold textT at *
    rw [List.flatMap_cons, List.length_append, List.length_append]
    simp only [List.length_cons, List.length_nil] at *
    omega
theorem chk_may (xs : List Src) : ∀ i, (chkAt i xs).1 = 0 → ∀ x ∈ xs, mayB x = true := by
  induction xs with
  | nil => intro i _ x hx; simp at hx
  | cons y ys ih =>
    intro i h x hx
    simp only [chkAt] at h
    split at h
    · exact absurd h (by simp)
    rename_i hy
    split at h
    · exact absurd h (by simp)
    rcases List.mem_cons.1 hx with rfl | hx
    · simpa using hy
    · exact ih _ h x hx
/-- what Print answers -/
def printL (xs : List Src) : List UInt8 × Int :=
  if (checkL xs).1 = 0 then (if 65536 < (textT xs).length then ([], 3) else (textT xs, 0)) else ([], (checkL xs).1)

end Go.Proofs.YtkianldkbfjehaaGreatDoor

/- switchyardref04: line, same, May. -/
namespace Go.Proofs.YtkianldkbfjehaaGreatDoor
open Go.RowKit

theorem refT_any (x : Src) (hx : Fit x) (q : Option Addr) (m e : Nat) (w : World) (hm : x.d.length = m) (hm64 : m ≤ 64) (hr : Row w q x.d) :
    Calls Tryz.prog 81 #[.agg (cellsOf x (.slice q m e))] w fun E w' => E = .returned (.string (bytesOf (lineT x))) ∧ Below w.heap.size w w' := by
  by_cases h1 : x.k = 1
  · exact refT_1 x _ w hx h1
  by_cases h2 : x.k = 2
  · by_cases ho : 1 ≤ x.o.toNat ∧ x.o.toNat < 17
    · exact refT_2 x _ w hx h2 ho
    · exact refT_2no x _ w hx h2 ho
  by_cases h3 : x.k = 3
  · exact refT_3 x _ w hx h3
  by_cases h4 : x.k = 4
  · exact refT_4 x q m e w hx h4 hm hm64 hr
  by_cases h5 : x.k = 5
  · exact refT_5 x _ w hx h5
  by_cases h6 : x.k = 6
  · exact refT_6 x _ w hx h6
  by_cases h7 : x.k = 7
  · exact refT_7 x _ w hx h7
  · exact refT_0 x _ w h1 h2 h3 h4 h5 h6 h7

set_option maxRecDepth 20000 in
set_option maxHeartbeats 1000000 in
theorem refSame_yes (x : Src) (p q : Option Addr) (m e m' e' : Nat) (w : World) (h1 : x.d.length = m) (h2 : x.d.length = m') (hr1 : Row w p x.d) (hr2 : Row w q x.d) :
    Calls Tryz.prog 82 #[.agg (cellsOf x (.slice p m e)), .agg (cellsOf x (.slice q m' e'))] w fun E w' => E = .returned (.bool true) ∧ Below w.heap.size w w' := by
  have hcv1 := fun o o' => ((hr1.below (new_alloc w o)).below (new_alloc (w.alloc o) o')).convert h1 e
  have hcv2 := fun o o' => ((hr2.below (new_alloc w o)).below (new_alloc (w.alloc o) o')).convert h2 e'
  clear hr1 hr2 h1 h2
  unfold cellsOf
  obtain ⟨k, name, tg, o, a, b, n4, n, d⟩ := x
  simp only at *
  generalize strOfNums d = sd at *
  go_enter Tryz.func82, Tryz.ntmps82
  go_wp2
  go_ret
  exact ⟨rfl, below_alloc (new_alloc _ _) _⟩

set_option maxRecDepth 20000 in
set_option maxHeartbeats 4000000 in
theorem refSame_no (x y : Src) (hne : ¬ x = y) (hx : Fit x) (hy : Fit y) (p q : Option Addr) (m e m' e' : Nat) (w : World) (h1 : x.d.length = m) (h2 : y.d.length = m') (hr1 : Row w p x.d) (hr2 : Row w q y.d) :
    Calls Tryz.prog 82 #[.agg (cellsOf x (.slice p m e)), .agg (cellsOf y (.slice q m' e'))] w fun E w' => E = .returned (.bool false) ∧ Below w.heap.size w w' := by
  have hcv1 := fun o o' => ((hr1.below (new_alloc w o)).below (new_alloc (w.alloc o) o')).convert h1 e
  have hcv2 := fun o o' => ((hr2.below (new_alloc w o)).below (new_alloc (w.alloc o) o')).convert h2 e'
  have hS := str_same hx.d hy.d
  clear hr1 hr2 hx hy h1 h2
  unfold cellsOf
  obtain ⟨k, name, tg, o, a, b, n4, n, d⟩ := x
  obtain ⟨k2, name2, tg2, o2, a2, b2, n42, n2, d2⟩ := y
  simp only [Src.mk.injEq] at *
  by_cases c1 : k = k2
  · subst c1
    by_cases c2 : name = name2
    · subst c2
      by_cases c3 : tg = tg2
      · subst c3
        by_cases c4 : o = o2
        · subst c4
          by_cases c5 : a = a2
          · subst c5
            by_cases c6 : b = b2
            · subst c6
              by_cases c7 : n4 = n42
              · subst c7
                by_cases c8 : n = n2
                · subst c8
                  have c9 : ¬ d = d2 := fun h => hne ⟨rfl, rfl, rfl, rfl, rfl, rfl, rfl, rfl, h⟩
                  rw [sameB_no c9] at hS
                  clear hne c9
                  generalize strOfNums d = sd at *
                  generalize strOfNums d2 = sd2 at *
                  go_enter Tryz.func82, Tryz.ntmps82
                  go_wp2
                  go_ret
                  exact ⟨rfl, below_alloc (new_alloc _ _) _⟩
                · clear hne hS hcv1 hcv2
                  go_enter Tryz.func82, Tryz.ntmps82
                  go_wp2
                  go_ret
                  exact ⟨rfl, below_alloc (new_alloc _ _) _⟩
              · clear hne hS hcv1 hcv2
                go_enter Tryz.func82, Tryz.ntmps82
                go_wp2
                go_ret
                exact ⟨rfl, below_alloc (new_alloc _ _) _⟩
            · clear hne hS hcv1 hcv2
              go_enter Tryz.func82, Tryz.ntmps82
              go_wp2
              go_ret
              exact ⟨rfl, below_alloc (new_alloc _ _) _⟩
          · clear hne hS hcv1 hcv2
            go_enter Tryz.func82, Tryz.ntmps82
            go_wp2
            go_ret
            exact ⟨rfl, below_alloc (new_alloc _ _) _⟩
        · clear hne hS hcv1 hcv2
          go_enter Tryz.func82, Tryz.ntmps82
          go_wp2
          go_ret
          exact ⟨rfl, below_alloc (new_alloc _ _) _⟩
      · have c3' := text_ne c3
        clear hne hS hcv1 hcv2 c3
        go_enter Tryz.func82, Tryz.ntmps82
        go_wp2
        go_ret
        exact ⟨rfl, below_alloc (new_alloc _ _) _⟩
    · have c2' := text_ne c2
      clear hne hS hcv1 hcv2 c2
      go_enter Tryz.func82, Tryz.ntmps82
      go_wp2
      go_ret
      exact ⟨rfl, below_alloc (new_alloc _ _) _⟩
  · clear hne hS hcv1 hcv2
    go_enter Tryz.func82, Tryz.ntmps82
    go_wp2
    go_ret
    exact ⟨rfl, below_alloc (new_alloc _ _) _⟩


end Go.Proofs.YtkianldkbfjehaaGreatDoor

/- switchyardref04.May. -/
namespace Go.Proofs.YtkianldkbfjehaaGreatDoor
open Go.RowKit

theorem lineL_ok (l : List UInt8) : (lineL l).2.1 = true → (lineL l).2.2.1 = 0 := by
  unfold lineL
  split
  · intro h; cases h
  · split
    · intro h; cases h
    · split
      · intro h; cases h
      · split
        · intro h; cases h
        · intro _; rfl
theorem goL_dlen : ∀ (fs : List (Nat × List UInt8)) (ps : List Nat) (x z : Src), goL x ps fs = .inr z → z.d.length ≤ x.d.length + fs.length
  | [], _, x, z, h => by rw [goL] at h; injection h with h; rw [h]; exact Nat.le_refl _
  | (c, f) :: fs, [], x, z, h => by simp [goL] at h
  | (c, f) :: fs, p :: ps, x, z, h => by
    rw [goL] at h
    split at h
    · have h1 := goL_dlen fs ps _ z h
      have h2 := readL_len p x f
      rw [List.length_cons]; omega
    · cases h
theorem formL_64 {f : List UInt8} {x : Src} {ps : List Nat} {n : Nat} (h : formL f = some (x, ps, n)) : ps.length ≤ 64 := by
  unfold formL at h
  split at h
  · rename_i i _
    injection h with h
    have h1 : (formW i).2.1.length ≤ 64 := by
      unfold formW; split <;> simp
    rw [h] at h1
    exact h1
  · split at h
    · rename_i o _
      injection h with h
      have h1 : (formO o).2.1.length ≤ 64 := Nat.le_trans (plO_len o) (by decide)
      rw [h] at h1
      exact h1
    · split at h
      · injection h with h
        injection h with h1 h2
        injection h2 with h2 h3
        rw [← h2]; simp
      · cases h
theorem lineL_64 (l : List UInt8) : (lineL l).1.d.length ≤ 64 := by
  unfold lineL
  split
  · exact Nat.zero_le _
  · split
    · exact Nat.zero_le _
    · rename_i x ps least hform
      split
      · exact Nat.zero_le _
      · rename_i y hgo
        split
        · exact Nat.zero_le _
        · have h1 := goL_dlen _ _ _ _ hgo
          have h2 := goL_len _ _ _ _ hgo
          have h3 := formL_64 hform
          have h4 := (formL_ok hform).1
          simp only
          rw [h4, List.length_nil] at h1
          omega
theorem may_64 {x : Src} (h : MayP x) : x.d.length ≤ 64 := by rw [← h.2]; exact lineL_64 _

set_option maxRecDepth 20000 in
set_option maxHeartbeats 2000000 in
theorem refMay_short (x : Src) (hx : Fit x) (q : Option Addr) (m e : Nat) (w : World) (hm64 : m ≤ 64) (hm : x.d.length = m) (hr : Row w q x.d) (b : Bool) (hb : b = true ↔ MayP x) :
    Calls Tryz.prog 65 #[.agg (cellsOf x (.slice q m e))] w fun E w' => E = .returned (.bool b) ∧ Below w.heap.size w w' := by
  have hl := lineT_len x hx
  have hO := fun W hR => refT_any x hx q m e W hm hm64 hR
  have hL := fun W => refLine_any (bytesOf (lineT x)) W (by rw [bytesOf_size]; omega)
  rw [bytesOf_list] at hL
  have hy := lineL_fit (lineT x) (by omega)
  have her := lineL_ok (lineT x)
  generalize bytesOf (lineT x) = s at *
  unfold MayP at hb
  generalize lineL (lineT x) = r at *
  obtain ⟨y, ok, er, c⟩ := r
  simp only at hy hb her
  have hR1 := fun o => Hid.in (hr.below (new_alloc w o))
  go_enter Tryz.func65, Tryz.ntmps65
  go_upto_region 1 with fail
  have c8 : (w.alloc (.cells (cellsOf x (.slice q m e)) 57)).cell? ⟨w.heap.size, 8, none⟩ = some (.slice q m e) := (Blk.new w 57 (cellsOf x (.slice q m e))).cell 8
  go_wp2_with (first
    | (refine step_load_blk (Blk.new w 57 (cellsOf x (.slice q m e))) rfl 57 _ rfl rfl (cellsOf x (.slice q m e)) (List.prefix_refl _) _ Tryz.underlying57 rfl Tryz.sz57 ?_)
    | (go_at_call 81; refine (hO _ (hR1 _).out).mono ?_; rintro E w1 ⟨rfl, hb1⟩; have HB1 : Hid (Blk w1 w.heap.size 57 (cellsOf x (.slice q m e))) := (Blk.new w 57 _).grow hb1; have HW1 := Hid.in (below_step (new_alloc w _) hb1); have HR1 := Hid.in ((hR1 _).out.below hb1); clear hb1)
    | (go_at_call 80; refine (hL _).mono ?_; rintro E w2 ⟨d, rfl, hd, hb2⟩; have HB2 := Hid.in (HB1.out.grow hb2); have HW2 := Hid.in (below_step HW1.out hb2); have HR2 := Hid.in (HR1.out.below hb2); obtain ⟨q2, cap2, rfl, hr2⟩ := hd.rowB; have HD2 := Hid.in hr2; clear hb2 hd hr2; unfold LineV; dsimp only)
    | (refine step_store_new rfl 57 (.tmp 3) (.tmp 15) rfl rfl rfl (cellsOf y (.slice q2 y.d.length cap2)) rfl Tryz.sz57 rfl (cells_one _ _ _ _) ?_; have HB3 := Hid.in (HB2.out.grow (new_alloc w2 (.cells (cellsOf y (.slice q2 y.d.length cap2)) 57))); have HY3 := Hid.in (Blk.new w2 57 (cellsOf y (.slice q2 y.d.length cap2))); have HW3 := Hid.in (below_alloc HW2.out (.cells (cellsOf y (.slice q2 y.d.length cap2)) 57)); have HR3 := Hid.in (HR2.out.below (new_alloc w2 (.cells (cellsOf y (.slice q2 y.d.length cap2)) 57))); have HD3 := Hid.in (HD2.out.below (new_alloc w2 (.cells (cellsOf y (.slice q2 y.d.length cap2)) 57))); generalize w2.alloc (.cells (cellsOf y (.slice q2 y.d.length cap2)) 57) = w3 at *; refine Hid.out ?_))
  refine Lib.hid ?_
  clear hO hL hR1 HB1 HB2 HW1 HW2 HR1 HR2 HD2 c8
  cases ok with
  | false =>
    have hbf : b = false := by
      cases b with
      | false => rfl
      | true => exact absurd (hb.1 rfl).1 (by simp)
    subst hbf
    clear hb her
    go_wp2
    go_ret
    exact ⟨rfl, HW3.out⟩
  | true =>
    obtain rfl := her rfl
    have hC : Calls Tryz.prog 82 #[.agg (cellsOf x (.slice q m e)), .agg (cellsOf y (.slice q2 y.d.length cap2))] w3 fun E w' => E = .returned (.bool b) ∧ Below w3.heap.size w3 w' := by
      by_cases hxy : y = x
      · subst hxy
        have hbt : b = true := hb.2 ⟨rfl, rfl⟩
        rw [hbt]
        exact refSame_yes y q q2 _ _ _ _ w3 hm rfl HR3.out HD3.out
      · have hbf : b = false := by
          cases b with
          | false => rfl
          | true => exact absurd (hb.1 rfl).2 hxy
        rw [hbf]
        exact refSame_no x y (fun e => hxy e.symm) hx hy q q2 _ _ _ _ w3 hm rfl HR3.out HD3.out
    obtain ⟨i0, i1, i2, i3, i4, i5, i6, i7, i8⟩ := item9 HB3.out
    obtain ⟨j0, j1, j2, j3, j4, j5, j6, j7, j8⟩ := item9 HY3.out
    simp only [cellsOf] at hC
    clear hb hy hx
    generalize w2.heap.size = g3 at *
    go_wp2_with (go_at_call 82; refine hC.mono ?_; rintro E w4 ⟨rfl, hb4⟩)
    go_ret
    exact ⟨rfl, below_step HW3.out hb4⟩


set_option maxRecDepth 20000 in
set_option maxHeartbeats 1000000 in
theorem refMay_long (x : Src) (q : Option Addr) (m e : Nat) (w : World) (hm64 : 64 < m) (hm63 : m ≤ 9223372036854775807) :
    Calls Tryz.prog 65 #[.agg (cellsOf x (.slice q m e))] w fun E w' => E = .returned (.bool false) ∧ Below w.heap.size w w' := by
  have c8 : (w.alloc (.cells (cellsOf x (.slice q m e)) 57)).cell? ⟨w.heap.size, 8, none⟩ = some (.slice q m e) := (Blk.new w 57 (cellsOf x (.slice q m e))).cell 8
  have HW := Hid.in (new_alloc w (.cells (cellsOf x (.slice q m e)) 57))
  go_enter Tryz.func65, Tryz.ntmps65
  go_upto_region 1 with fail
  generalize w.alloc (.cells (cellsOf x (.slice q m e)) 57) = w1 at *
  go_wp2
  go_ret
  exact ⟨rfl, HW.out⟩
theorem refMay_any (x : Src) (hx : Fit x) (q : Option Addr) (m e : Nat) (w : World) (hm : x.d.length = m) (hr : Row w q x.d) (b : Bool) (hb : b = true ↔ MayP x) :
    Calls Tryz.prog 65 #[.agg (cellsOf x (.slice q m e))] w fun E w' => E = .returned (.bool b) ∧ Below w.heap.size w w' := by
  by_cases h : m ≤ 64
  · exact refMay_short x hx q m e w h hm hr b hb
  · have hbf : b = false := by
      cases b with
      | false => rfl
      | true => exact absurd (may_64 (hb.1 rfl)) (by omega)
    rw [hbf]
    exact refMay_long x q m e w (by omega) (by have := hx.dz; omega)

end Go.Proofs.YtkianldkbfjehaaGreatDoor
