/- Texts put together: Plc, Plc2. -/
import Derived.Test.YtkianldkbfjehaaGreatDoorKr
import Derived.Test.YtkianldkbfjehaaGreatDoorKf
import Derived.Test.YtkianldkbfjehaaGreatDoorKa
import Derived.Deep.RegionLaw
import Derived.Test.YtkianldkbfjehaaGreatDoorKhb

/- layout.Places: its variables in memory, its closure. -/
namespace Go.Proofs.YtkianldkbfjehaaGreatDoor
open Go.RowKit

/-- the variables of Places in memory -/
structure LSt (w W : World) (p : Option Addr) (n c g lb pb eb : Nat) (vs : List Value) (e : Nat) : Prop where
  bl : Boxed W lb 22 (.slice p n c)
  bp : Boxed W pb 48 (.slice (some ⟨g, 0, none⟩) n n)
  be : Boxed W eb 3 (.int .i64 e)
  own : GOwn 3 W w.heap.size g n vs
  len : vs.length = n
  bel : Below w.heap.size w W
  wl : w.heap.size ≤ lb
  wp : w.heap.size ≤ pb
  we : w.heap.size ≤ eb
  gl : g ≠ lb
  gp : g ≠ pb
  ge : g ≠ eb
  el : eb ≠ lb
  ep : eb ≠ pb
theorem boxed_other {W : World} {B k i : Nat} {t : TypeId} {v u : Value} (h : Boxed W B t v) (hne : B ≠ k) : Boxed (W.setCell ⟨k, i, none⟩ u) B t v := (Below.heap_setCell _ _ _ B (fun e => hne e)).trans h
theorem LSt.put {w W : World} {p : Option Addr} {n c g lb pb eb : Nat} {vs : List Value} {e : Nat} (h : LSt w W p n c g lb pb eb vs e) (k : Nat) (v : Value) : LSt w (W.setCell ⟨g, k, none⟩ v) p n c g lb pb eb (vs.set k v) e :=
  { h with
    bl := boxed_other h.bl h.gl.symm
    bp := boxed_other h.bp h.gp.symm
    be := boxed_other h.be h.ge.symm
    own := h.own.store k v
    len := by rw [List.length_set]; exact h.len
    bel := h.bel.trans (below_grown (grown_setCell W g k v) h.own.base h.bel.size) }
theorem LSt.grow {w W W' : World} {p : Option Addr} {n c g lb pb eb : Nat} {vs : List Value} {e : Nat} (h : LSt w W p n c g lb pb eb vs e) (hb : Below W.heap.size W W') : LSt w W' p n c g lb pb eb vs e :=
  { h with bl := boxed_below h.bl hb, bp := boxed_below h.bp hb, be := boxed_below h.be hb, own := h.own.below hb, bel := below_step h.bel hb }
theorem LSt.next {w W : World} {p : Option Addr} {n c g lb pb eb : Nat} {vs : List Value} {e : Nat} (h : LSt w W p n c g lb pb eb vs e) (e' : Nat) : LSt w (W.setCell ⟨eb, 0, none⟩ (.int .i64 e')) p n c g lb pb eb vs e' :=
  { h with
    bl := boxed_other h.bl h.el.symm
    bp := boxed_other h.bp h.ep.symm
    be := h.be.set _
    own := h.own.grown (grown_setCell W eb 0 _) h.ge
    bel := h.bel.trans (below_grown (grown_setCell W eb 0 _) h.we h.bel.size) }

set_option maxRecDepth 20000 in
set_option maxHeartbeats 1000000 in
theorem behind_any (w W : World) (p : Option Addr) (n c g lb pb eb : Nat) (vs : List Value) (e k : Nat) (x : Src) (xs : List Src) (hS : LSt w W p n c g lb pb eb vs e) (hx : Items w p xs) (hn : xs.length = n) (hk : k < n) (hxk : xs[k]'(by omega) = x) (hm : mayB x = true) (he : e ≤ 4294967296) (hn63 : n ≤ 1048576) :
    Calls Tryz.prog 50 #[.int .i64 k, .pointer (some ⟨eb, 0, none⟩), .pointer (some ⟨pb, 0, none⟩), .pointer (some ⟨lb, 0, none⟩)] W fun E W' => (∃ v, E = .returned v) ∧ LSt w W' p n c g lb pb eb (vs.set k (.int .i64 e)) (e + sizeL x e) := by
  have hs1 := hS.put k (.int .i64 e)
  have cl := hS.bl.cell
  have cp := hS.bp.cell
  have ce := hS.be.cell
  obtain ⟨old, cg⟩ : ∃ v, W.cell? ⟨g, k, none⟩ = some v := ⟨vs[k]'(by rw [hS.len]; exact hk), by rw [hS.own.cell k (by rw [hS.len]; exact hk), List.getElem?_eq_getElem (by rw [hS.len]; exact hk)]⟩
  have fg := hS.own.free k
  have q0 : (0 : Int) ≤ (k : Int) := by omega
  have q1 : (k : Int) < (n : Int) := by omega
  have hz := size_small (may_good hm) e
  generalize hzz : sizeL x e = z at *
  clear hS
  go_enter Tryz.func50, Tryz.ntmps50
  go_upto_region 1 with fail
  generalize W.setCell ⟨g, k, none⟩ (.int .i64 e) = W1 at *
  clear cl cp ce cg fg
  obtain ⟨b, o, hp, hc⟩ := hx.below hs1.bel (by omega)
  subst hp
  obtain ⟨q, cq, hR, hrow, hfit⟩ := hc k (by omega)
  rw [hxk] at hR hrow hfit
  have hZ := fun y => size_any x hfit (may_good hm) q _ cq e (W1.drewN y) rfl (hrow.drewN y)
  have HR := Hid.in hR
  have HS1 := Hid.in hs1
  have cl := hs1.bl.cell
  have ce := hs1.be.cell
  have fe := hs1.be.frozen
  have i0 : W1.cell? ⟨b, o + k * 9, none⟩ = some (.int .u8 x.k) := hR 0 _ rfl
  have i1 : W1.cell? ⟨b, o + k * 9 + 1, none⟩ = some (.string x.name) := hR 1 _ rfl
  have i2 : W1.cell? ⟨b, o + k * 9 + 2, none⟩ = some (.string x.tg) := hR 2 _ rfl
  have i3 : W1.cell? ⟨b, o + k * 9 + 3, none⟩ = some (.int .u8 x.o) := hR 3 _ rfl
  have i4 : W1.cell? ⟨b, o + k * 9 + 4, none⟩ = some (.int .u8 x.a) := hR 4 _ rfl
  have i5 : W1.cell? ⟨b, o + k * 9 + 5, none⟩ = some (.int .u8 x.b) := hR 5 _ rfl
  have i6 : W1.cell? ⟨b, o + k * 9 + 6, none⟩ = some (.int .i32 x.m) := hR 6 _ rfl
  have i7 : W1.cell? ⟨b, o + k * 9 + 7, none⟩ = some (.int .i64 x.n) := hR 7 _ rfl
  have i8 : W1.cell? ⟨b, o + k * 9 + 8, none⟩ = some (.slice q x.d.length cq) := hR 8 _ rfl
  simp only [cellsOf, hzz] at hZ
  clear hc hR hrow hfit hs1 hm hx hxk HR
  clear hzz
  have HWR : Hid (IntKind.i64.wrap ((e : Int) + (z : Int)) = ((e + z : Nat) : Int)) := by
    have : IntKind.i64.wrap ((e : Int) + (z : Int)) = ((e + z : Nat) : Int) := by rw [IntKind.wrap_i64]; omega
    exact this
  go_region_law (go_simp; go_at_call 51; refine (hZ 1).mono ?_; rintro E w5 ⟨rfl, hb5⟩; have HS5 := Hid.in ((HS1.out.grow (below_draws (below_self W1) 1)).grow hb5); have ce5 := HS5.out.be.cell; have fe5 := HS5.out.be.frozen; clear hb5)
  all_goals
    rw [HWR.out]
    go_end0
    exact ⟨⟨_, rfl⟩, HS5.out.next (e + z)⟩

end Go.Proofs.YtkianldkbfjehaaGreatDoor

/- layout.Places, for every list of items. -/
namespace Go.Proofs.YtkianldkbfjehaaGreatDoor
open Go.RowKit

theorem Tryz.info3 : (Tryz.prog.info? 3).map (fun i => (i.zero, i.size, i.bytes)) = some (some (.int .i64 0), 1, 8) := by kernel_rfl
theorem GOwn.of_made3 {w : World} {B g n : Nat} (h : w.ownsRow B 3 1 (.slice (some ⟨g, 0, none⟩) n n) n (madeCells (Value.int .i64 0).cells (n * 1)).toList) : GOwn 3 w B g n (List.replicate n (.int .i64 0)) := by
  unfold GOwn
  have e : (madeCells (Value.int .i64 0).cells (n * 1)).toList = List.replicate n (.int .i64 0) := by
    rw [show (Value.int .i64 0).cells = #[Value.int .i64 0] from rfl, toList_madeCells_one]; simp
  rw [e] at h
  rw [List.length_replicate]
  exact h
def ints (l : List Nat) : List Int := l.map Int.ofNat
/-- the places that are told, and the end -/
def placesI (xs : List Src) : List Int := if layE xs = 0 then ints (placesL 0 xs).1 else []
def endI (xs : List Src) : Nat := if layE xs = 0 then (placesL 0 xs).2 else 0
def PlacesIs (xs : List Src) (w : World) (E : Ending) (w' : World) : Prop := ∃ v, E = .returned (.tuple #[v, .int .i64 (endI xs), .int .i64 (layE xs)]) ∧ GOwnV 3 w' w.heap.size v (nums (placesI xs)) ∧ Below w.heap.size w w'
/-- the places up to an item, and noughts -/
def plV (xs : List Src) (n k : Nat) : List Value := nums (ints (placesL 0 (xs.take k)).1) ++ List.replicate (n - k) (.int .i64 0)
theorem plV_len (xs : List Src) (n k : Nat) (hn : xs.length = n) (hk : k ≤ n) : (plV xs n k).length = n := by
  simp [plV, nums, ints, places_length]; omega
theorem plV_step (xs : List Src) (n k : Nat) (hn : xs.length = n) (hk : k < n) : (plV xs n k).set k (.int .i64 ((placesL 0 (xs.take k)).2 : Nat)) = plV xs n (k + 1) := by
  have hl : (nums (ints (placesL 0 (xs.take k)).1)).length = k := by simp [nums, ints, places_length]; omega
  unfold plV
  rw [List.set_append, if_neg (by omega), hl, Nat.sub_self, places_take xs 0 k (by omega), show n - k = (n - (k + 1)) + 1 by omega, List.replicate_succ, List.set_cons_zero]
  simp [nums, ints]
theorem plV_end (xs : List Src) (n : Nat) (hn : xs.length = n) : plV xs n n = nums (ints (placesL 0 xs).1) := by
  unfold plV
  rw [← hn, List.take_length, Nat.sub_self]; simp
theorem plV_zero (xs : List Src) (n : Nat) : plV xs n 0 = List.replicate n (.int .i64 0) := by simp [plV, placesL, nums, ints]

theorem LSt.start {w w1 w2 : World} {p : Option Addr} {n c : Nat} {vs : List Value} (hl : Boxed w1 w.heap.size 22 (.slice p n c)) (hb1 : Below w.heap.size w w1) (ho : GOwn 3 w2 w1.heap.size w1.heap.size n vs) (hv : vs.length = n) (hb2 : Below w1.heap.size w1 w2) :
    LSt w ((w2.alloc (.cells #[.slice (some ⟨w1.heap.size, 0, none⟩) n n] 48)).alloc (.cells #[.int .i64 0] 3)) p n c w1.heap.size w.heap.size w2.heap.size (w2.heap.size + 1) vs 0 := by
  have s1 := hl.lt
  have s2 := ho.lt
  have s3 := hb1.size
  have e1 := Boxed.new (w2.alloc (.cells #[.slice (some ⟨w1.heap.size, 0, none⟩) n n] 48)) 3 (.int .i64 0)
  rw [size_one] at e1
  exact ⟨((boxed_below hl hb2).alloc _).alloc _, (Boxed.new w2 48 _).alloc _, e1, ((ho.below (new_alloc w2 _)).below (new_alloc _ _)).lower s3, hv, below_alloc (below_alloc (below_step hb1 hb2) _) _, Nat.le_refl _, by omega, by omega, by omega, by omega, by omega, by omega, by omega⟩

set_option maxRecDepth 20000 in
set_option maxHeartbeats 1000000 in
theorem places_any (p : Option Addr) (n c : Nat) (xs : List Src) (w : World) (he : Env w) (hn : xs.length = n) (hnc : n ≤ c) (hc63 : c ≤ 9223372036854775807) (hx : Items w p xs) :
    Calls Tryz.prog 18 #[.slice p n c] w (PlacesIs xs w) := by
  have HE := Hid.in he
  have HX := Hid.in hx
  have hC := fun W hW hX => check_any p n c xs W hW hn hnc hc63 hX
  by_cases hck : (checkL xs).1 = 0
  · obtain ⟨hl4, hmay⟩ := check_good hck
    obtain ⟨i0, hi, hz0, hz1, hz2⟩ := info_parts Tryz.info3
    have HMAY := Hid.in hmay
    have hC' : ∀ W, Env W → Items W p xs → Calls Tryz.prog 23 #[.slice p n c] W fun E w' => E = .returned (.tuple #[.int .i64 0, .int .i64 (checkL xs).2]) ∧ Below W.heap.size W w' := fun W hW hX => by
      have := hC W hW hX
      rw [hck] at this
      exact this
    have HN := Hid.in hn
    have hn4 : n ≤ 4096 := by omega
    clear hC he hx hmay hn hl4
    generalize (checkL xs).2 = r2 at *
    go_enter Tryz.func18, Tryz.ntmps18
    go_upto_region 6 with (first
      | (go_at_call 23; refine (hC' _ (HE.out.below (new_alloc w _)) (HX.out.below (new_alloc w _))).mono ?_; rintro E w1 ⟨rfl, hb1⟩; have HL1 := Hid.in (boxed_below (Boxed.new w 22 (.slice p n c)) hb1); have HW1 := Hid.in (below_step (new_alloc w _) hb1); have cl1 := HL1.out.cell; clear hb1)
      | (at_make; refine wpList_make_full _ rfl _ _ 48 rfl _ 3 i0 (.int .i64 0) 1 Tryz.underlying48 hi hz0 hz1 _ _ _ _ n rfl rfl rfl rfl (by rw [hz2]; omega) (by unfold maxLen; omega) (Nat.le_refl _) ?_; intro w2 hown hgrow; have HO2 := Hid.in (GOwn.of_made3 hown); have HW2 := Hid.in ((Below.refl w1.heap.size w1).grown hgrow (Nat.le_refl _) (by simp)); clear hown hgrow))
    have HS : Hid (LSt w ((w2.alloc (.cells #[.slice (some ⟨w1.heap.size, 0, none⟩) n n] 48)).alloc (.cells #[.int .i64 0] 3)) p n c w1.heap.size w.heap.size w2.heap.size (w2.heap.size + 1) (plV xs n 0) 0) := by
      rw [plV_zero]
      exact LSt.start HL1.out HW1.out HO2.out List.length_replicate HW2.out
    generalize (w2.alloc (.cells #[.slice (some ⟨w1.heap.size, 0, none⟩) n n] 48)).alloc (.cells #[.int .i64 0] 3) = W0 at *
    generalize w2.heap.size = pb at *
    generalize w1.heap.size = g at *
    generalize hlb : w.heap.size = lb at *
    have HLB := Hid.in hlb
    clear HL1 HW1 HO2 HW2 cl1 hC' hlb
    have cl0 := HS.out.bl.cell
    go_wp2_with fail
    go_loopw [25] (fun i wr => ∃ k : Nat, k ≤ n ∧ i = .int .i64 k ∧ LSt w wr p n c g lb pb (pb + 1) (plV xs n k) (placesL 0 (xs.take k)).2) (fun i _ => n - (intOf i).toNat)
    case atStart => exact ⟨0, Nat.zero_le _, rfl, HS.out⟩
    case round =>
      obtain ⟨k, hk, rfl, hS⟩ := hrel
      have HSK := Hid.in hS
      clear hS cl0
      by_cases hlt : k < n
      · have hkx : k < xs.length := by rw [HN.out]; exact hlt
        have hB := behind_any w wr p n c g lb pb (pb + 1) (plV xs n k) (placesL 0 (xs.take k)).2 k xs[k] xs HSK.out HX.out HN.out hlt rfl (HMAY.out _ (List.getElem_mem hkx)) (by have := place_small HMAY.out k (by omega); omega) (by omega)
        rw [plV_step xs n k HN.out hlt, ← place_step xs 0 k hkx] at hB
        go_wp2_with (go_at_call 50; refine hB.mono ?_; rintro E w5 ⟨⟨v5, rfl⟩, hS5⟩)
        go_roundw
        case rel => exact ⟨k + 1, by omega, by go_num, hS5⟩
        case measure => simp [intOf]; omega
      · have hkn : k = n := by omega
        subst hkn
        have HS2 : Hid (LSt w wr p k c g lb pb (pb + 1) (nums (ints (placesL 0 xs).1)) (placesL 0 xs).2) := by
          have := HSK.out
          rw [plV_end xs k HN.out, ← HN.out, List.take_length, HN.out] at this
          exact this
        clear HSK
        by_cases hlong : 65536 < (placesL 0 xs).2
        · have HL : Hid (PlacesIs xs w = fun E w' => ∃ v, E = .returned (.tuple #[v, .int .i64 0, .int .i64 3]) ∧ GOwnV 3 w' w.heap.size v [] ∧ Below w.heap.size w w') := by
            have h1 : layE xs = 3 := by unfold layE; rw [if_neg (by simp [hck]), if_pos hlong]
            have h2 : endI xs = 0 := by unfold endI; rw [h1, if_neg (by decide)]
            have h3 : placesI xs = [] := by unfold placesI; rw [h1, if_neg (by decide)]
            unfold PlacesIs
            rw [h1, h2, h3]; exact rfl
          have cE := HS2.out.be.cell
          generalize (placesL 0 xs).2 = pe at *
          go_wp2_with fail
          go_ret3
          rw [HL.out]
          exact ⟨_, rfl, GOwnV.nil _ _ _, HS2.out.bel⟩
        · have HL : Hid (PlacesIs xs w = fun E w' => ∃ v, E = .returned (.tuple #[v, .int .i64 (placesL 0 xs).2, .int .i64 0]) ∧ GOwnV 3 w' w.heap.size v (nums (ints (placesL 0 xs).1)) ∧ Below w.heap.size w w') := by
            have h1 : layE xs = 0 := by unfold layE; rw [if_neg (by simp [hck]), if_neg hlong]
            have h2 : endI xs = (placesL 0 xs).2 := by unfold endI; rw [h1, if_pos rfl]
            have h3 : placesI xs = ints (placesL 0 xs).1 := by unfold placesI; rw [h1, if_pos rfl]
            unfold PlacesIs
            rw [h1, h2, h3]; exact rfl
          have cE := HS2.out.be.cell
          have cP := HS2.out.bp.cell
          have HV : Hid (GOwnV 3 wr w.heap.size (.slice (some ⟨g, 0, none⟩) k k) (nums (ints (placesL 0 xs).1))) := by
            have h1 := HS2.out.own.val
            rw [HS2.out.len] at h1
            exact h1
          generalize (placesL 0 xs).2 = pe at *
          generalize (placesL 0 xs).1 = pl at *
          go_wp2_with fail
          go_region_law fail
          all_goals
            go_wp2_with fail
            go_ret3
            rw [HL.out]
            exact ⟨_, rfl, HV.out.drewN 1, HS2.out.bel.trans ((below_draws (below_self wr) 1).mono HS2.out.bel.size)⟩
  · have HL : Hid (PlacesIs xs w = fun E w' => ∃ v, E = .returned (.tuple #[v, .int .i64 0, .int .i64 (checkL xs).1]) ∧ GOwnV 3 w' w.heap.size v [] ∧ Below w.heap.size w w') := by
      have h1 : layE xs = (checkL xs).1 := by unfold layE; rw [if_pos hck]
      have h2 : endI xs = 0 := by unfold endI; rw [h1, if_neg hck]
      have h3 : placesI xs = [] := by unfold placesI; rw [h1, if_neg hck]
      unfold PlacesIs
      rw [h1, h2, h3]; exact rfl
    rw [HL.out]
    clear HL he hx hn
    generalize (checkL xs).1 = r1 at *
    generalize (checkL xs).2 = r2 at *
    go_enter Tryz.func18, Tryz.ntmps18
    go_wp2_with (go_at_call 23; refine (hC _ (HE.out.below (new_alloc w _)) (HX.out.below (new_alloc w _))).mono ?_; rintro E w1 ⟨rfl, hb1⟩)
    go_ret3
    exact ⟨_, rfl, GOwnV.nil _ _ _, below_step (new_alloc w _) hb1⟩

end Go.Proofs.YtkianldkbfjehaaGreatDoor
