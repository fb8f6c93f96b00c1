/- MemoryPlays: the script is played. -/
import Derived.Test.YtammbaamkechhaaPlaW
namespace Go.Proofs.Ytammbaamkechhaa
open Go.RowKit

def two {α : Type} (a b : α) : Nat → α := fun i => if i = 0 then a else b
theorem two_all {α : Type} {P : Nat → α → Prop} {a b : α} (h0 : P 0 a) (h1 : P 1 b) : ∀ i, i < 2 → P i (two a b i) := fun i hi => by
  rcases (by omega : i = 0 ∨ i = 1) with rfl | rfl
  · exact h0
  · exact h1
theorem Mem.lower {w : World} {B B' q g : Nat} {xs : List Int} (h : Mem w B q g xs) (hB : B' ≤ B) : Mem w B' q g xs := ⟨h.blk, h.own.lower hB, Nat.le_trans hB h.base, h.ne⟩

theorem St.start {w w5 : World} {q0 g0 q1 g1 : Nat} {xs ys : List Int} {p r : Option Addr} {c d : Nat} (hb : Below w.heap.size w w5) (h0 : Mem w5 w.heap.size q0 g0 xs) (h1 : Mem w5 w.heap.size q1 g1 ys)
    (hn : q0 ≠ g1 ∧ g0 ≠ g1 ∧ q1 ≠ g0) (hs0 : Sl w5 p c xs) (hs1 : Sl w5 r d ys) (b0 : Byt xs) (b1 : Byt ys) (l0 : xs.length ≤ 2000) (l1 : ys.length ≤ 2000)
    (f0 : 0 < xs.length → ∀ b o, p = some ⟨b, o, none⟩ → b < w.heap.size) (f1 : 0 < ys.length → ∀ b o, r = some ⟨b, o, none⟩ → b < w.heap.size) :
    St w ((w5.alloc (.cells #[.pointer (some ⟨q0, 0, none⟩), .pointer (some ⟨q1, 0, none⟩)] 43)).alloc (.cells #[.slice p xs.length c, .slice r ys.length d] 44)) w5.heap.size (w5.heap.size + 1) (two q0 q1) (two g0 g1) (two xs ys) (two p r) (two c d) (two xs ys) := by
  have hb1 := new_alloc w5 (.cells #[.pointer (some ⟨q0, 0, none⟩), .pointer (some ⟨q1, 0, none⟩)] 43)
  have hb2 := below_alloc hb1 (.cells #[.slice p xs.length c, .slice r ys.length d] 44)
  have hsz := hb.size
  have e0 := h0.own.lt
  have e1 := h1.own.lt
  have e2 := h0.lt
  have e3 := h1.lt
  have a0 := h0.own.base
  have a1 := h1.own.base
  refine ⟨below_step hb hb2, ?_, ?_, two_all (P := fun _ x => Byt x) b0 b1, two_all (P := fun _ (x : List Int) => x.length ≤ 2000) l0 l1, ?_, ?_, hn.2.1, ?_, ?_, by omega, ?_, ?_, by omega, by omega⟩
  · intro i hi
    rcases (by omega : i = 0 ∨ i = 1) with rfl | rfl
    · exact h0.below hb2
    · exact h1.below hb2
  · intro i hi
    rcases (by omega : i = 0 ∨ i = 1) with rfl | rfl
    · exact hs0.below hb2
    · exact hs1.below hb2
  · exact (Blk.new w5 43 _).grow (new_alloc _ _)
  · have := Blk.new (w5.alloc (.cells #[.pointer (some ⟨q0, 0, none⟩), .pointer (some ⟨q1, 0, none⟩)] 43)) 44 #[.slice p xs.length c, .slice r ys.length d]
    rw [size_one] at this
    exact this
  · intro i hi j hj
    rcases (by omega : i = 0 ∨ i = 1) with rfl | rfl <;> rcases (by omega : j = 0 ∨ j = 1) with rfl | rfl
    · exact h0.ne
    · exact hn.1
    · exact hn.2.2
    · exact h1.ne
  · intro i hi
    rcases (by omega : i = 0 ∨ i = 1) with rfl | rfl
    · exact ⟨show w5.heap.size ≠ g0 by omega, show w5.heap.size + 1 ≠ g0 by omega, show w5.heap.size ≠ q0 by omega, show w5.heap.size + 1 ≠ q0 by omega⟩
    · exact ⟨show w5.heap.size ≠ g1 by omega, show w5.heap.size + 1 ≠ g1 by omega, show w5.heap.size ≠ q1 by omega, show w5.heap.size + 1 ≠ q1 by omega⟩
  · intro i hi j hj hl b o e e2
    have hbj : w.heap.size ≤ b := by
      rcases (by omega : j = 0 ∨ j = 1) with rfl | rfl
      · have : b = g0 := e2
        omega
      · have : b = g1 := e2
        omega
    rcases (by omega : i = 0 ∨ i = 1) with rfl | rfl
    · have := f0 hl b o e; omega
    · have := f1 hl b o e; omega
  · intro i hi hl b o e e2
    have hbj : w.heap.size ≤ b := by rcases e2 with e2 | e2 <;> omega
    rcases (by omega : i = 0 ∨ i = 1) with rfl | rfl
    · have := f0 hl b o e; omega
    · have := f1 hl b o e; omega

theorem St.four {w wr : World} {M V : Nat} {q g : Nat → Nat} {x : Nat → List Int} {p : Nat → Option Addr} {c : Nat → Nat} {y : Nat → List Int} (h : St w wr M V q g x p c y) :
    wr.cell? ⟨M, 0, none⟩ = some (.pointer (some ⟨q 0, 0, none⟩)) ∧ wr.cell? ⟨M, 1, none⟩ = some (.pointer (some ⟨q 1, 0, none⟩)) ∧ wr.cell? ⟨V, 0, none⟩ = some (.slice (p 0) (y 0).length (c 0)) ∧ wr.cell? ⟨V, 1, none⟩ = some (.slice (p 1) (y 1).length (c 1)) :=
  ⟨h.bm.cell 0, h.bm.cell 1, h.bv.cell 0, h.bv.cell 1⟩

set_option maxRecDepth 4000 in
set_option maxHeartbeats 8000000 in
theorem plays_go (p r s : Option Addr) (c d e : Nat) (xs ys : List Int) (L : List OpD) (w : World) (hr : Sl w p c xs) (hs : Sl w r d ys) (bx : Byt xs) (bY : Byt ys) (hx : xs.length ≤ 2000) (hy : ys.length ≤ 2000) (hL : L.length ≤ 9223372036854775807) (hsc : Scr w s L) :
    Calls Try.prog 4 #[.slice p xs.length c, .slice r ys.length d, .slice s L.length e] w fun e w' => e = .returned (.bool true) ∧ Below w.heap.size w w' := by
  have HR : Hid (∀ W, Below w.heap.size w W → Sl W p c xs) := fun W hW => hr.below hW
  have HS : Hid (∀ W, Below w.heap.size w W → Sl W r d ys) := fun W hW => hs.below hW
  have HC : Hid (∀ W, Below w.heap.size w W → Scr W s L) := fun W hW => hsc.below hW
  have HF1 : Hid (0 < xs.length → ∀ b o, p = some ⟨b, o, none⟩ → b < w.heap.size) := fun h0 b o e => hr.row.lt h0 b o e
  have HF2 : Hid (0 < ys.length → ∀ b o, r = some ⟨b, o, none⟩ → b < w.heap.size) := fun h0 b o e => hs.row.lt h0 b o e
  have HBX := Hid.in bx
  have HBY := Hid.in bY
  clear hsc bx bY
  have hr0 := hr.row
  clear hr hs
  go_enter Try.func4, Try.ntmps4
  go_wp2_with (first
    | (go_at_call 15; refine (lent_any p xs.length c xs _ rfl (by omega) hr0).mono ?_; rintro e w1 ⟨g1, cap, rfl, ho1, hb⟩; have HO1 := Hid.in ho1; have HB1 := Hid.in hb; clear ho1 hb hr0)
    | (go_at_call 7; first
      | ((with_reducible refine (new_ok _ xs.length cap xs w1 rfl (by omega) HO1.out.front.row).mono ?_); rintro e w2 ⟨q0, g0, rfl, hm, hb⟩; have HO2 := Hid.in (HO1.out.below hb); have HL1 := Hid.in HO1.out.lt; have HM2 := Hid.in hm; have HB2 := Hid.in (below_step HB1.out hb); have hs2 := (HS.out _ (below_step HB1.out hb)).row; clear hm hb HO1)
      | ((with_reducible refine (new_ok r ys.length d ys w2 rfl (by omega) hs2).mono ?_); rintro e w3 ⟨q1, g1', rfl, hm, hb⟩; have HO3 := Hid.in (HO2.out.below hb); have HM3 := Hid.in (HM2.out.below hb); have HL2 := Hid.in HM2.out.lt; have HL2g := Hid.in HM2.out.own.lt; have HN3 := Hid.in hm; have HB3 := Hid.in (below_step HB2.out hb); have hr3 := (HR.out _ (below_step HB2.out hb)).row; clear hm hb HO2 HM2 hs2))
    | (go_at_call 16; first
      | ((with_reducible refine (refNew_ok p xs.length c _ (by omega)).mono ?_); rintro e w2 ⟨rfl, rfl⟩)
      | ((with_reducible refine (refNew_ok r ys.length d _ (by omega)).mono ?_); rintro e w2 ⟨rfl, rfl⟩))
    | (go_at_call 17; refine (kept_any p g1 xs.length cap c _ xs _ rfl (by omega) HO3.out hr3).mono ?_; rintro e w4 ⟨rfl, m4, hw4⟩; have HO4 : Hid (Own w4 _ g1 cap (xs ++ [77, 78])) := (by rw [hw4]; exact HO3.out.drewN _); have HM4 : Hid (Mem w4 _ q0 g0 xs) := (by rw [hw4]; exact HM3.out.drewN _); have HN4 : Hid (Mem w4 _ q1 g1' ys) := (by rw [hw4]; exact HN3.out.drewN _); have HB4 : Hid (Below w.heap.size w w4) := (by rw [hw4]; exact below_draws HB3.out _); clear hw4 HO3 HM3 HN3 hr3)
    | (go_at_call 18; refine (over_any g1 xs.length cap _ _ w4 (by omega) (by simp) HO4.out).mono ?_; rintro e w5 ⟨rfl, hk⟩; have hw1 := HB1.out.size; have hl1 := HL1.out; have hM4 := HM4.out; have hN4 := HN4.out; have hlq := HL2.out; have hlg := HL2g.out; have hq0 := hM4.base; have hg0 := hM4.own.base; have hq1 := hN4.base; have hg1 := hN4.own.base; have hgb := HO4.out.base; have hw2 := HB2.out.size; have HM5 := Hid.in ((hM4.keeps hk (fun e => by have e2 : q0 = g1 := e; omega) (fun e => by have e2 : g0 = g1 := e; omega)).lower hw1); have HN5 := Hid.in ((hN4.keeps hk (fun e => by have e2 : q1 = g1 := e; omega) (fun e => by have e2 : g1' = g1 := e; omega)).lower hw2); have HNE : Hid (q0 ≠ g1' ∧ g0 ≠ g1' ∧ q1 ≠ g0) := ⟨by omega, by omega, by omega⟩; have HB5 := Hid.in (HB4.out.trans (hk.below HB4.out.size (fun j hj => by subst hj; exact hgb))); clear hk hw1 hl1 hM4 hN4 hlq hlg hq0 hg0 hq1 hg1 hgb hw2 HO4 HM4 HN4 HB4 HB3 HB2 HB1 HL1 HL2 HL2g))
  have HST := Hid.in (St.start HB5.out HM5.out HN5.out HNE.out (HR.out _ HB5.out) (HS.out _ HB5.out) HBX.out HBY.out hx hy HF1.out HF2.out)
  clear HM5 HN5 HNE HB5 HBX HBY HF1 HF2 HR HS
  generalize (w5.alloc (.cells #[.pointer (some ⟨q0, 0, none⟩), .pointer (some ⟨q1, 0, none⟩)] 43)).alloc (.cells #[.slice p xs.length c, .slice r ys.length d] 44) = w6 at *
  go_loopw [14] (fun i wr => ∃ (k : Nat) (q g : Nat → Nat) (x : Nat → List Int) (P : Nat → Option Addr) (C : Nat → Nat), k ≤ L.length ∧ k ≤ 300 ∧ i = .int .i64 k ∧ St w wr w5.heap.size (w5.heap.size + 1) q g x P C x) (fun i _ => 300 - (intOf i).toNat)
  case atStart => exact ⟨0, _, _, _, _, _, Nat.zero_le _, by omega, rfl, HST.out⟩
  case round =>
    obtain ⟨k, q, g, x, P, C, hk, hk3, rfl, hst⟩ := hrel
    clear HST
    have HST := Hid.in hst
    by_cases hgo : k < L.length ∧ k < 300
    · obtain ⟨hlt, hlt3⟩ := hgo
      obtain ⟨X, hX⟩ : ∃ X, L[k]? = some X := ⟨_, List.getElem?_eq_getElem hlt⟩
      obtain ⟨sb, so, rfl, hops⟩ := HC.out wr hst.bel (by omega)
      have hin := hops k X hX
      have HIN := Hid.in hin
      have s0 := hin.c0
      have s1 := hin.c1
      have HXK := Hid.in hX
      clear hops hX hin
      have h01 : bits .and .i64 X.on 1 = 0 ∨ bits .and .i64 X.on 1 = 1 := by rw [i64_and1]; omega
      have HXO : Hid (0 < X.ys.length → ∀ b o, X.r = some ⟨b, o, none⟩ → b < w.heap.size) := by
        obtain ⟨sb', so', e1, hops'⟩ := HC.out w (below_self w) (by omega)
        exact fun h0 b o e => (hops' k X HXK.out).row.lt h0 b o e
      rcases h01 with h01 | h01
      · by_cases hk6 : X.kind = 6
        · rw [hk6] at s0
          have m0 := hst.bm.cell 0
          have v0 := hst.bv.cell 0
          have m1 := hst.bm.cell 1
          have v1 := hst.bv.cell 1
          have fm := hst.bm.free 1
          have fv := hst.bv.free 1
          simp only [List.getElem?_toArray, List.getElem?_cons_zero, List.getElem?_cons_succ] at m0 m1 v0 v1
          clear hst
          have HT : Hid (St w wr.drew w5.heap.size (w5.heap.size + 1) q g x P C x) := HST.out.drewN 1
          have hC := fun W (hm : Mem W w.heap.size (q 0) (g 0) (x 0)) => mcopy_any (q 0) (g 0) _ (x 0) W hm (by have := HST.out.len 0 (by decide); omega)
          have hw1 : IntKind.i64.wrap 1 = 1 := by decide
          go_wp2_with fail
          go_region_law (go_simp; go_at_call 19; (with_reducible refine (hC _ (HT.out.mem 0 (by decide))).mono ?_); rintro e w7 ⟨q', g', rfl, hm, hb⟩; have h7 := HT.out.below hb; have m0' := h7.bm.cell 0; have m1' := h7.bm.cell 1; have v0' := h7.bv.cell 0; have v1' := h7.bv.cell 1; have fm' := h7.bm.free 1; have fv' := h7.bv.free 1; simp only [List.getElem?_toArray, List.getElem?_cons_zero, List.getElem?_cons_succ] at m0' m1' v0' v1'; have HM7 := Hid.in (HT.out.copyM 1 (by decide) hm hb); clear h7 hm hb)
          all_goals
            have HF := Hid.in (HM7.out.copyV 1 0 (by decide) (by decide))
            clear HM7 HT HST m0 m1 v0 v1 fm fv m0' m1' v0' v1' fm' fv'
            generalize ((w7.setCell ⟨w5.heap.size, 1, none⟩ (.pointer (some ⟨q', 0, none⟩))).setCell ⟨w5.heap.size + 1, 1, none⟩ (.slice (P 0) (x 0).length (C 0))) = w8 at *
            go_wp2
            go_roundw
            case rel => exact ⟨k + 1, _, _, _, _, _, by omega, by omega, by go_num, HF.out⟩
            case measure => simp [intOf]; omega
        · clear HXK
          have m0 := hst.bm.cell 0
          have v0 := hst.bv.cell 0
          have fv := hst.bv.free 0
          have s2 := HIN.out.c2
          have s3 := HIN.out.c3
          have s4 := HIN.out.c4
          simp only [List.getElem?_toArray, List.getElem?_cons_zero] at m0 v0
          clear hst
          have HT : Hid (St w wr.drew w5.heap.size (w5.heap.size + 1) q g x P C x) := HST.out.drewN 1
          have hD := does_any (q 0) (g 0) w.heap.size (P 0) X.r (C 0) X.d (x 0) X.ys X.kind X.on X.a X.n wr.drew HIN.out.nle (HT.out.mem 0 (by decide)) (HT.out.sl 0 (by decide)) (HT.out.byt 0 (by decide)) HIN.out.byt (by have := HT.out.len 0 (by decide); omega) (HIN.out.row.drewN 1) HIN.out.len (HT.out.off 0 (by decide) 0 (by decide)) (fun h0 b o e e2 => by have h1 := HXO.out h0 b o e; have h2 := (HT.out.mem 0 (by decide)).own.base; have e3 : b = g 0 := e2; omega)
          go_wp2_with fail
          go_region_law (go_simp; go_at_call 20; (with_reducible refine hD.mono ?_); rintro e w7 ⟨p', c', z, rfl, hd⟩; have hbv := (hd.keeps.block _ HT.out.bv.lt (HT.out.mg 0 (by decide)).2.1).trans HT.out.bv; have v0' := Blk.cell hbv 0; have fv' := Blk.free hbv 0; simp only [List.getElem?_toArray, List.getElem?_cons_zero] at v0'; have HF := Hid.in (HT.out.did 0 (by decide) hd); clear hbv hd)
          all_goals
            clear HT HST hD m0 v0 fv v0' fv' s2 s3 s4
            generalize w7.setCell ⟨w5.heap.size + 1, 0, none⟩ (.slice p' z.length c') = w8 at *
            go_wp2
            go_roundw
            case rel => exact ⟨k + 1, _, _, _, _, _, by omega, by omega, by go_num, HF.out⟩
            case measure => simp [intOf]; omega
      · by_cases hk6 : X.kind = 6
        · rw [hk6] at s0
          have m0 := hst.bm.cell 0
          have v0 := hst.bv.cell 0
          have m1 := hst.bm.cell 1
          have v1 := hst.bv.cell 1
          have fm := hst.bm.free 0
          have fv := hst.bv.free 0
          simp only [List.getElem?_toArray, List.getElem?_cons_zero, List.getElem?_cons_succ] at m0 m1 v0 v1
          clear hst
          have HT : Hid (St w wr.drew w5.heap.size (w5.heap.size + 1) q g x P C x) := HST.out.drewN 1
          have hC := fun W (hm : Mem W w.heap.size (q 1) (g 1) (x 1)) => mcopy_any (q 1) (g 1) _ (x 1) W hm (by have := HST.out.len 1 (by decide); omega)
          have hw1 : IntKind.i64.wrap 0 = 0 := by decide
          go_wp2_with fail
          go_region_law (go_simp; go_at_call 19; (with_reducible refine (hC _ (HT.out.mem 1 (by decide))).mono ?_); rintro e w7 ⟨q', g', rfl, hm, hb⟩; have h7 := HT.out.below hb; have m0' := h7.bm.cell 0; have m1' := h7.bm.cell 1; have v0' := h7.bv.cell 0; have v1' := h7.bv.cell 1; have fm' := h7.bm.free 0; have fv' := h7.bv.free 0; simp only [List.getElem?_toArray, List.getElem?_cons_zero, List.getElem?_cons_succ] at m0' m1' v0' v1'; have HM7 := Hid.in (HT.out.copyM 0 (by decide) hm hb); clear h7 hm hb)
          all_goals
            have HF := Hid.in (HM7.out.copyV 0 1 (by decide) (by decide))
            clear HM7 HT HST m0 m1 v0 v1 fm fv m0' m1' v0' v1' fm' fv'
            generalize ((w7.setCell ⟨w5.heap.size, 0, none⟩ (.pointer (some ⟨q', 0, none⟩))).setCell ⟨w5.heap.size + 1, 0, none⟩ (.slice (P 1) (x 1).length (C 1))) = w8 at *
            go_wp2
            go_roundw
            case rel => exact ⟨k + 1, _, _, _, _, _, by omega, by omega, by go_num, HF.out⟩
            case measure => simp [intOf]; omega
        · clear HXK
          have m0 := hst.bm.cell 1
          have v0 := hst.bv.cell 1
          have fv := hst.bv.free 1
          have s2 := HIN.out.c2
          have s3 := HIN.out.c3
          have s4 := HIN.out.c4
          simp only [List.getElem?_toArray, List.getElem?_cons_zero, List.getElem?_cons_succ] at m0 v0
          clear hst
          have HT : Hid (St w wr.drew w5.heap.size (w5.heap.size + 1) q g x P C x) := HST.out.drewN 1
          have hD := does_any (q 1) (g 1) w.heap.size (P 1) X.r (C 1) X.d (x 1) X.ys X.kind X.on X.a X.n wr.drew HIN.out.nle (HT.out.mem 1 (by decide)) (HT.out.sl 1 (by decide)) (HT.out.byt 1 (by decide)) HIN.out.byt (by have := HT.out.len 1 (by decide); omega) (HIN.out.row.drewN 1) HIN.out.len (HT.out.off 1 (by decide) 1 (by decide)) (fun h0 b o e e2 => by have h1 := HXO.out h0 b o e; have h2 := (HT.out.mem 1 (by decide)).own.base; have e3 : b = g 1 := e2; omega)
          go_wp2_with fail
          go_region_law (go_simp; go_at_call 20; (with_reducible refine hD.mono ?_); rintro e w7 ⟨p', c', z, rfl, hd⟩; have hbv := (hd.keeps.block _ HT.out.bv.lt (HT.out.mg 1 (by decide)).2.1).trans HT.out.bv; have v0' := Blk.cell hbv 1; have fv' := Blk.free hbv 1; simp only [List.getElem?_toArray, List.getElem?_cons_zero, List.getElem?_cons_succ] at v0'; have HF := Hid.in (HT.out.did 1 (by decide) hd); clear hbv hd)
          all_goals
            clear HT HST hD m0 v0 fv v0' fv' s2 s3 s4
            generalize w7.setCell ⟨w5.heap.size + 1, 1, none⟩ (.slice p' z.length c') = w8 at *
            go_wp2
            go_roundw
            case rel => exact ⟨k + 1, _, _, _, _, _, by omega, by omega, by go_num, HF.out⟩
            case measure => simp [intOf]; omega
    · have m0 := hst.bm.cell 0
      have v0 := hst.bv.cell 0
      have m1 := hst.bm.cell 1
      have v1 := hst.bv.cell 1
      simp only [List.getElem?_toArray, List.getElem?_cons_zero, List.getElem?_cons_succ] at m0 m1 v0 v1
      clear hst
      have HT : Hid (St w wr.drew w5.heap.size (w5.heap.size + 1) q g x P C x) := HST.out.drewN 1
      have l0 := HST.out.len 0 (by decide)
      have l1 := HST.out.len 1 (by decide)
      rcases (by omega : L.length ≤ k ∨ (k < L.length ∧ 300 ≤ k)) with hend | ⟨hend, hend3⟩
      all_goals
        clear hgo
        go_wp2_with fail
        go_region_held3 (fun w' => w'.cell? ⟨w5.heap.size, 0, none⟩ = some (.pointer (some ⟨q 0, 0, none⟩)) ∧ w'.cell? ⟨w5.heap.size, 1, none⟩ = some (.pointer (some ⟨q 1, 0, none⟩)) ∧ w'.cell? ⟨w5.heap.size + 1, 0, none⟩ = some (.slice (P 0) (x 0).length (C 0)) ∧ w'.cell? ⟨w5.heap.size + 1, 1, none⟩ = some (.slice (P 1) (x 1).length (C 1))) (first | go_keep | exact hk1 | exact hk2 | exact hk3 | exact hk4 | exact hk5) (first
          | (go_at_call 13; first
            | ((with_reducible refine (bytes_any (q 0) (g 0) _ (x 0) _ (HT.out.mem 0 (by decide)) (by omega)).mono ?_); rintro e w7 ⟨h7, rfl, ho, hb⟩; have HO7 := Hid.in ho; have HT7 := Hid.in (HT.out.below hb); have hk1 := HT7.out.four; clear ho hb)
            | ((with_reducible refine (bytes_any (q 1) (g 1) _ (x 1) _ (HT8.out.mem 1 (by decide)) (by omega)).mono ?_); rintro e w9 ⟨h9, rfl, ho, hb⟩; have HO9 := Hid.in ho; have HT9 := Hid.in (HT8.out.below hb); have hk3 := HT9.out.four; clear ho hb))
          | (go_at_call 12; first
            | ((with_reducible refine (sameBytes_any (some ⟨h7, 0, none⟩) (P 0) (x 0).length (x 0).length (x 0).length (C 0) (x 0) (x 0) w7 rfl rfl (by omega) HO7.out.row (HT7.out.sl 0 (by decide)).row).mono ?_); rw [sameB_self]; rintro e w8 ⟨rfl, m8, hw8⟩; have HT8 : Hid (St w w8 w5.heap.size (w5.heap.size + 1) q g x P C x) := (by rw [hw8]; exact HT7.out.drewN _); have hk2 := HT8.out.four; clear hw8)
            | ((with_reducible refine (sameBytes_any (some ⟨h9, 0, none⟩) (P 1) (x 1).length (x 1).length (x 1).length (C 1) (x 1) (x 1) w9 rfl rfl (by omega) HO9.out.row (HT9.out.sl 1 (by decide)).row).mono ?_); rw [sameB_self]; rintro e w10 ⟨rfl, m10, hw10⟩; have HT10 : Hid (St w w10 w5.heap.size (w5.heap.size + 1) q g x P C x) := (by rw [hw10]; exact HT9.out.drewN _); have hk4 := HT10.out.four; clear hw10))
          | (go_at_call 14; refine (awake_any _).mono ?_; rintro e w11 ⟨rfl, hb⟩; have HT11 := Hid.in (HT10.out.below hb); have hk5 := HT11.out.four; clear hb))
        go_wp2
        go_ret
        exact ⟨rfl, HT11.out.bel⟩

theorem plays_walk (p r s : Option Addr) (n c m d l e : Nat) (xs ys : List Int) (L : List OpD) (w : World) (hx : xs.length = n) (hy : ys.length = m) (hl : L.length = l) (hr : Sl w p c xs) (hs : Sl w r d ys) (bx : Byt xs) (bY : Byt ys) (hn : n ≤ 140737488351232) (hm : m ≤ 140737488351232) (hL : l ≤ 9223372036854775807) (hsc : Scr w s L) :
    Calls Try.prog 4 #[.slice p n c, .slice r m d, .slice s l e] w fun e w' => e = .returned (.bool true) ∧ Below w.heap.size w w' := by
  subst hx hy hl
  by_cases h : (2000 < xs.length ∧ xs.length ≤ 65536) ∨ (2000 < ys.length ∧ ys.length ≤ 65536)
  · exact plays_mid p r s _ c _ d _ e w (by omega) (by omega) h
  · by_cases h2 : xs.length ≤ 2000 ∧ ys.length ≤ 2000
    · exact plays_go p r s c d e xs ys L w hr hs bx bY h2.1 h2.2 hL hsc
    · exact plays_long p r s c d _ e xs ys w hr.row hs.row hn hm (by omega)

end Go.Proofs.Ytammbaamkechhaa
