/- Texts put together: HrtM, HrtN, HrtV, HrtW, HrtX, HrtZ, StlL, PlyL. -/
import Derived.Test.YtnpaijbkhmnfpaaGreatKar
import Derived.Test.YtnpaijbkhmnfpaaGreatKbd

/- A hart and a memory; so many steps. -/
namespace Go.Proofs.YtnpaijbkhmnfpaaGreat
open Go.RowKit Go.Maps

/-- what a step may turn -/
def G3 (h b mg : Nat) : Nat → Prop := fun j => j = h ∨ j = b ∨ j = mg
theorem HAt.turn {w : World} {G G2 : Nat → Prop} {B h l b : Nat} {id : Int} {H : Hs} (k : HAt w G B h l b id H) (hG : ∀ j, j < w.heap.size → G2 j → G j) (h1 : G2 h) (h2 : G2 b) (h3 : ¬ G2 l) : HAt w G2 B h l b id H := by
  obtain ⟨pS, cS, pH, cH, a1, a2, a3, a4, a5⟩ := k.blk
  refine ⟨⟨pS, cS, pH, cH, a1, a2, a3, fun h0 => ?_, fun h0 => ?_⟩, k.lin, h1, h2, h3, k.bh⟩
  · obtain ⟨g, o, rfl, hc⟩ := a2 h0
    obtain ⟨g', o', e, hg⟩ := a4 h0
    injection e with e; injection e with e1 e2; subst e1 e2
    exact ⟨g, o, rfl, fun e => hg (hG g (cell_lt (hc 0 h0)) e)⟩
  · obtain ⟨g, o, rfl, hc⟩ := a3 h0
    obtain ⟨g', o', e, hg⟩ := a5 h0
    injection e with e; injection e with e1 e2; subst e1 e2
    exact ⟨g, o, rfl, fun e => hg (hG g (cell_lt (hc 0 h0)) e)⟩
/-- a hart and a memory, behind w0 -/
structure HM (w0 w : World) (G : Nat → Prop) (q mg h l b : Nat) (id : Int) (H : Hs) (xs : List Int) : Prop where
  hat : HAt w G w0.heap.size h l b id H
  mem : Mem w w0.heap.size q mg xs
  bel : Below w0.heap.size w0 w
  gm : G mg
  gq : ¬ G q
  lt : ∀ j, G j → j < w.heap.size
section
variable {w0 w w' : World} {G : Nat → Prop} {q mg h l b : Nat} {id : Int} {H H' : Hs} {xs xs' : List Int}
theorem HM.below (k : HM w0 w G q mg h l b id H xs) (hb : Below w.heap.size w w') : HM w0 w' G q mg h l b id H xs := ⟨k.hat.below hb, k.mem.below hb, below_step k.bel hb, k.gm, k.gq, fun j hj => Nat.lt_of_lt_of_le (k.lt j hj) hb.size⟩
theorem HM.lt3 (k : HM w0 w G q mg h l b id H xs) : ∀ j, G3 h b mg j → w0.heap.size ≤ j ∧ j < w.heap.size := fun j hj => by
  obtain ⟨pS, cS, pH, cH, hB, -⟩ := k.hat.blk
  rcases hj with rfl | rfl | rfl
  · exact ⟨k.hat.bh, hB.lt⟩
  · obtain ⟨es, c, e⟩ := k.hat.lin.isMap
    exact ⟨k.hat.lin.hb, (Array.getElem?_eq_some_iff.1 e).1⟩
  · exact ⟨k.mem.own.base, k.mem.own.lt⟩
/-- what a step may turn is no list of another kind -/
theorem HM.no3 (k : HM w0 w G q mg h l b id H xs) {T : TypeId} {g : Nat} {cur : Array Value} (e3 : w.heap[g]? = some (.cells cur T (0, 0))) (h1 : T ≠ 56) (h2 : T ≠ 5) : ¬ G3 h b mg g := fun e => by
  obtain ⟨pS, cS, pH, cH, hB, -⟩ := k.hat.blk
  rcases e with rfl | rfl | rfl
  · rw [show w.heap[g]? = _ from hB] at e3
    injection e3 with e3
    injection e3 with _ e3 _
    exact h1 e3.symm
  · obtain ⟨es, c, e⟩ := k.hat.lin.isMap
    rw [e] at e3
    cases e3
  · obtain ⟨cur', _, e', _⟩ := k.mem.own.parts
    rw [e'] at e3
    injection e3 with e3
    injection e3 with _ e3 _
    exact h2 e3.symm
theorem HM.row (k : HM w0 w G q mg h l b id H xs) (hk : Keeps (G3 h b mg) w w') {T : TypeId} {z B n : Nat} {v : Value} {vs : List Value} (h0 : w.ownsRow B T z v n vs) (h1 : T ≠ 56) (h2 : T ≠ 5) : w'.ownsRow B T z v n vs := by
  refine ⟨h0.1, h0.2.imp _root_.id ?_⟩
  rintro ⟨g, cap, cur, e1, e2, e3, e4⟩
  exact ⟨g, cap, cur, e1, e2, (hk.block g (Array.getElem?_eq_some_iff.1 e3).1 (k.no3 e3 h1 h2)).trans e3, e4⟩
/-- a step -/
theorem HM.step (k : HM w0 w G q mg h l b id H xs) (hold : Bool) (v : Value) (tr : Option Nat) (hx6 : xs.length ≤ 65536) (hbx : Byt xs) (hok : HsOk 1000000 H) (ht : TrV w v tr) :
    Calls Tryz.prog 11 #[.pointer (some ⟨h, 0, none⟩), .pointer (some ⟨q, 0, none⟩), .bool hold, v] w fun e w' => ∃ vv, e = .returned (.tuple #[vv, .int .i64 0]) ∧ EOwn 41 w' w.heap.size vv (stpH id H xs hold tr).ev ∧ HM w0 w' G q mg h l b id (stpH id H xs hold tr).h (stpH id H xs hold tr).xs ∧ Keeps (G3 h b mg) w w' := by
  refine (hstep_any w0.heap.size w0.heap.size q mg h l b G id H xs hold v tr w k.hat k.mem k.lt k.gm k.gq hx6 hbx hok ht).mono ?_
  rintro e w' ⟨vv, rfl, ho, hh, hm, hk⟩
  exact ⟨vv, rfl, ho, ⟨hh, hm, k.bel.trans (hk.below k.bel.size (fun j hj => (k.lt3 j hj).1)), k.gm, k.gq, fun j hj => Nat.lt_of_lt_of_le (k.lt j hj) hk.size⟩, hk⟩
/-- a memory and a hart that was made behind it -/
theorem HM.new {w1 : World} {pc : Nat} (hm : Mem w1 w0.heap.size q mg xs) (hb1 : Below w0.heap.size w0 w1) (hB : Blk w h 56 (hrA id 0 pc Z8r (.slice none 0 0) (.slice none 0 0) l)) (hl : LinAt w w1.heap.size l b []) (hh : w1.heap.size ≤ h) (h1 : h ≠ l) (h2 : l < h) (h3 : b < h) (hb : Below w1.heap.size w1 w) : HM w0 w (G3 h b mg) q mg h l b id (newH pc) xs := by
  have hq := hm.lt
  have hg := hm.own.lt
  have hq' := hl.hq
  have hb' := hl.hb
  have hne := hl.ne
  have hs := hb1.size
  have hhl := hB.lt
  have hs2 := hb.size
  refine ⟨⟨⟨none, 0, none, 0, hB, fun h => absurd h (Nat.lt_irrefl 0), fun h => absurd h (Nat.lt_irrefl 0), Off.zero _ _, Off.zero _ _⟩, hl.lower hs, .inl rfl, .inr (.inl rfl), ?_, by omega⟩, hm.below hb, below_step hb1 hb, .inr (.inr rfl), ?_, ?_⟩
  · rintro (e | e | e)
    · exact h1 e.symm
    · exact hne e
    · omega
  · rintro (e | e | e)
    · omega
    · omega
    · exact hm.ne e
  · rintro j (e | e | e) <;> omega
/-- a list of events that lies apart is appended to -/
theorem HM.pushed {v : Value} {L : List Ev} {B g : Nat} (k : HM w0 w (fun j => G3 h b mg j ∨ v.ownBlock = some j) q mg h l b id H xs) (ho : EOwn 41 w B v L) (hB : w0.heap.size ≤ B) (hg : w.grownBy w' v.ownBlock) (hv : v.ownBlock = some g ∨ g = w.heap.size) (hlt : g < w'.heap.size) :
    HM w0 w' (fun j => G3 h b mg j ∨ some g = some j) q mg h l b id H xs := by
  have hk : Keeps (fun j => v.ownBlock = some j) w w' := (Keeps.refl _ w).grown hg (fun k e => .inl e)
  have hno : ∀ j, v.ownBlock = some j → ¬ G3 h b mg j ∧ w0.heap.size ≤ j ∧ j ≠ q ∧ j ≠ l := fun j hj => by
    have hge := ho.ownGe hj
    refine ⟨?_, by omega, fun e => k.gq (.inr (e ▸ hj)), fun e => k.hat.gl (.inr (e ▸ hj))⟩
    rcases ho.2 with ⟨e1, e2⟩ | ⟨g', cap, cur, e1, e2, e3, e4⟩
    · rw [e1] at hj; cases hj
    · rw [e1] at hj
      have e' : some g' = some j := hj
      injection e' with e'
      subst e'
      exact k.no3 e3 (by decide) (by decide)
  have hll : l < w.heap.size := (Array.getElem?_eq_some_iff.1 k.hat.lin.blk).1
  have hql := k.mem.lt
  have k1 : HAt w (fun j => (G3 h b mg j ∨ v.ownBlock = some j) ∨ j = g) w0.heap.size h l b id H := k.hat.turn (fun j hj e => by
    rcases e with e | e
    · exact e
    · rcases hv with hv | hv
      · exact .inr (e ▸ hv)
      · omega) (.inl k.hat.gh) (.inl k.hat.gb) (fun e => by
    rcases e with e | e
    · exact k.hat.gl e
    · rcases hv with hv | hv
      · exact (hno g hv).2.2.2 e.symm
      · omega)
  have k2 := k1.keeps hk (fun j e => .inl (.inr e)) (fun e => (hno h e).1 (.inl rfl)) (fun e => (hno b e).1 (.inr (.inl rfl)))
  refine ⟨k2.turn (fun j _ e => ?_) (.inl (.inl rfl)) (.inl (.inr (.inl rfl))) (fun e => k2.gl ?_), k.mem.keeps hk (fun e => k.gq (.inr e)) (fun e => (hno mg e).1 (.inr (.inr rfl))), k.bel.trans (hk.below k.bel.size (fun j hj => (hno j hj).2.1)), .inl (.inr (.inr rfl)), fun e => ?_, fun j e => ?_⟩
  · rcases e with e | e
    · exact .inl (.inl e)
    · injection e with e; exact .inr e.symm
  · rcases e with e | e
    · exact .inl (.inl e)
    · injection e with e; exact .inr e.symm
  · rcases e with e | e
    · exact k.gq (.inl e)
    · injection e with e
      rcases hv with hv | hv
      · exact k.gq (.inr (e ▸ hv))
      · omega
  · rcases e with e | e
    · exact Nat.lt_of_lt_of_le (k.lt3 j e).2 hg.size
    · injection e with e; omega
/-- .. at its start -/
theorem HM.apart (k : HM w0 w (G3 h b mg) q mg h l b id H xs) : HM w0 w (fun j => G3 h b mg j ∨ (Value.slice none 0 0).ownBlock = some j) q mg h l b id H xs :=
  ⟨k.hat.turn (fun j _ e => e.elim _root_.id (fun e => by cases e)) (.inl (.inl rfl)) (.inl (.inr (.inl rfl))) (fun e => e.elim k.hat.gl (fun e => by cases e)), k.mem, k.bel, .inl (.inr (.inr rfl)), fun e => e.elim k.gq (fun e => by cases e), fun j e => e.elim (k.lt j) (fun e => by cases e)⟩
end
/-- so many steps, the events behind one another -/
def itH (id : Int) (hold : Bool) (tr : Option Nat) (s : St) : Nat → St
  | 0 => s
  | k + 1 => ⟨(stpH id (itH id hold tr s k).h (itH id hold tr s k).xs hold tr).h, (stpH id (itH id hold tr s k).h (itH id hold tr s k).xs hold tr).xs, (itH id hold tr s k).ev ++ (stpH id (itH id hold tr s k).h (itH id hold tr s k).xs hold tr).ev⟩
theorem itH_ok {id : Int} {hold : Bool} {tr : Option Nat} {s : St} {m n : Nat} (h : StOk m n s) (ht : ∀ z, tr = some z → z ≤ 4294967295) : ∀ k, StOk (m + k) n (itH id hold tr s k)
  | 0 => h
  | k + 1 => by
    have := itH_ok (id := id) (hold := hold) h ht k
    have h2 := stpH_ok (id := id) (hold := hold) (tr := tr) this.h this.b ht
    rw [this.l] at h2
    exact ⟨h2.h, h2.b, h2.l⟩
theorem ERow.lit (w : World) (M : List Ev) : ERow (w.alloc (.cells (c7 M).toArray 41)) (some ⟨w.heap.size, 0, none⟩) M := fun _ => ⟨w.heap.size, 0, rfl, fun i hi j hj => by
  rw [Nat.zero_add, (Blk.new w 41 (c7 M).toArray).cell, List.getElem?_toArray, c7_at M i hi j hj]⟩

/-- the chapter's memory -/
def smallL : List Int := [184, 1, 5, 0, 0, 0, 230, 1, 204, 0]
set_option maxHeartbeats 400000 in
theorem small_any (w : World) : Calls Tryz.prog 9 #[] w fun e w' => ∃ g, e = .returned (.slice (some ⟨g, 0, none⟩) 10 10) ∧ Own w' w.heap.size g 10 smallL ∧ Below w.heap.size w w' := by
  go_enter Tryz.func9, Tryz.ntmps9
  go_wp2_with (refine wp_lit rfl 10 _ rfl smallL rfl (by decide) (by decide) rfl ?_; intro w1 g1 HO1 HB1)
  go_ret
  exact ⟨g1, rfl, HO1.out, HB1.out⟩

def aw0 : St := ⟨newH 0, smallL, []⟩
theorem aw0_ok : StOk 0 10 aw0 := ⟨newH_ok 0 (by decide), by
  intro i
  have h : ∀ k : Fin 10, 0 ≤ smallL.getD k.1 0 ∧ smallL.getD k.1 0 ≤ 255 := by decide
  by_cases hi : i < 10
  · exact h ⟨i, hi⟩
  · have e : smallL.getD i 0 = 0 := by simp only [List.getD, List.getElem?_eq_none (show smallL.length ≤ i by show 10 ≤ i; omega), Option.getD_none]
    show 0 ≤ smallL.getD i 0 ∧ smallL.getD i 0 ≤ 255
    rw [e]; omega, rfl⟩
def awEv : List Ev := [⟨1, 3, 0, 0, 0⟩, ⟨1, 3, 4, 0, 0⟩, ⟨2, 3, 0, 5, 6⟩, ⟨1, 3, 6, 0, 1⟩, ⟨2, 3, 6, 16, 8⟩, ⟨5, 3, 0, 0, 5⟩]
theorem aw_end : (itH 3 true none aw0 5).ev = awEv := by kernel_rfl
theorem aw_st : (itH 3 true none aw0 5).h.st = 0 := by kernel_rfl
theorem aw_step : ∀ j : Fin 5, 0 < (stpH 3 (itH 3 true none aw0 j.1).h (itH 3 true none aw0 j.1).xs true none).ev.length ∧ (stpH 3 (itH 3 true none aw0 j.1).h (itH 3 true none aw0 j.1).xs true none).ev.length ≤ 4 ∧ (itH 3 true none aw0 j.1).ev.length ≤ 10 := by decide +kernel

end Go.Proofs.YtnpaijbkhmnfpaaGreat

/- switchyardlaw15.awake answers true. -/
namespace Go.Proofs.YtnpaijbkhmnfpaaGreat
open Go.RowKit Go.Maps

set_option maxHeartbeats 4000000 in
set_option maxRecDepth 8000 in
theorem awake_any (w : World) : Calls Tryz.prog 20 #[] w fun e w' => e = .returned (.bool true) ∧ Below w.heap.size w w' := by
  have hS := small_any w
  go_enter Tryz.func20, Tryz.ntmps20
  go_wp2_with (go_at_call 9; refine Hid.out ?_)
  refine Lib.hid ?_
  (with_reducible refine hS.mono ?_)
  rintro e w1 ⟨g1, rfl, ho1, hb1⟩
  have hN := new_ok (some ⟨g1, 0, none⟩) 10 10 smallL w1 rfl (by decide) ho1.row
  have HB1 := Hid.in hb1
  clear hS ho1 hb1
  go_wp2_with (go_at_call 8; refine Hid.out ?_)
  refine Lib.hid ?_
  (with_reducible refine hN.mono ?_)
  rintro e w2 ⟨q, mg, rfl, hm2, hb2⟩
  have HM2 := Hid.in hm2
  have HB2 := Hid.in hb2
  have hH : Calls Tryz.prog 10 #[.int .i64 3, .int .u32 0] w2 _ := hnew_any 3 0 w2
  clear hN hm2 hb2
  go_wp2_with (go_at_call 10; refine Hid.out ?_)
  refine Lib.hid ?_
  (with_reducible refine hH.mono ?_)
  rintro e w3 ⟨h, l, b, rfl, hB3, hl3, h1, h2, h3, h4, hb3⟩
  have HK3 : Hid (HM w1 w3 (fun j => G3 h b mg j ∨ (Value.slice none 0 0).ownBlock = some j) q mg h l b 3 (itH 3 true none aw0 0).h (itH 3 true none aw0 0).xs) := (HM.new HM2.out HB2.out hB3 hl3 h1 h2 h3 h4 hb3).apart
  clear hH hB3 hl3 h1 h2 h3 h4 hb3 HM2 HB2
  go_wp2_with fail
  go_loopw [4, 5] (fun v4 vi wr => ∃ j : Nat, vi = .int .i64 j ∧ j ≤ 5 ∧ EOwn 41 wr w1.heap.size v4 (itH 3 true none aw0 j).ev ∧ HM w1 wr (fun j => G3 h b mg j ∨ v4.ownBlock = some j) q mg h l b 3 (itH 3 true none aw0 j).h (itH 3 true none aw0 j).xs) (fun _ vi _ => 5 - (intOf vi).toNat)
  case atStart => exact ⟨0, rfl, by omega, EOwn.nil _ _ _, HK3.out⟩
  case round =>
    obtain ⟨j, rfl, hj, ho, hk⟩ := hrel
    have HO := Hid.in ho
    have HK := Hid.in hk
    clear ho hk
    by_cases hlt : j < 5
    · have hst := itH_ok (id := 3) (hold := true) aw0_ok (tr := none) (fun z e => by cases e) j
      obtain ⟨a1, a2, a3⟩ := aw_step ⟨j, hlt⟩
      dsimp only at a1 a2 a3
      have hSt := HK.out.step true .nilFunc none (by rw [hst.l]; decide) hst.b (hst.h.more (by omega)) (.inl ⟨rfl, rfl⟩)
      have HEV : Hid ((itH 3 true none aw0 (j + 1)).ev = (itH 3 true none aw0 j).ev ++ (stpH 3 (itH 3 true none aw0 j).h (itH 3 true none aw0 j).xs true none).ev ∧ (itH 3 true none aw0 (j + 1)).h = (stpH 3 (itH 3 true none aw0 j).h (itH 3 true none aw0 j).xs true none).h ∧ (itH 3 true none aw0 (j + 1)).xs = (stpH 3 (itH 3 true none aw0 j).h (itH 3 true none aw0 j).xs true none).xs) := ⟨rfl, rfl, rfl⟩
      clear hst
      generalize stpH 3 (itH 3 true none aw0 j).h (itH 3 true none aw0 j).xs true none = sj at *
      generalize itH 3 true none aw0 j = s8 at *
      have HA : Hid (0 < sj.ev.length ∧ sj.ev.length ≤ 4 ∧ s8.ev.length ≤ 10) := ⟨a1, a2, a3⟩
      clear a1 a2 a3
      go_wp2_with (go_at_call 11; refine Hid.out ?_)
      refine Lib.hid ?_
      (with_reducible refine hSt.mono ?_)
      rintro e w5 ⟨vv, rfl, ho5, hk5, hkp5⟩
      obtain ⟨p5, c5, e5, -, -, hr5⟩ := ho5.row7
      subst e5
      have HR5 := Hid.in hr5
      have HK5 := Hid.in hk5
      have HO5 : Hid (EOwn 41 w5 w1.heap.size u4 s8.ev) := HK.out.row hkp5 HO.out (by decide) (by decide)
      have HSZ := Hid.in (Nat.le_trans HK.out.bel.size hkp5.size)
      clear hSt ho5 hr5 hk5 hkp5
      go_wp2_with (at_builtin; refine epushL Tryz.elemEv _ rfl _ _ rfl w1.heap.size _ s8.ev sj.ev rfl HO5.out p5 _ c5 rfl rfl HA.out.1 HR5.out (by have := HA.out; omega) (by have := HA.out; omega) (by decide) HSZ.out ?_; intro g6 c6 w6 hT6 hg6 hv6 hl6; have HT6 := Hid.in hT6; have HK6 := Hid.in (HK5.out.pushed HO5.out (Nat.le_refl _) hg6 hv6 hl6); clear hT6 hg6 hv6 hl6)
      go_roundw
      case rel => exact ⟨j + 1, by go_num, by omega, by rw [HEV.out.1]; have := HT6.out; rw [List.length_append] at this; exact this, by rw [HEV.out.2.1, HEV.out.2.2]; exact HK6.out⟩
      case measure => simp [intOf]; omega
    · obtain rfl : j = 5 := by omega
      rw [aw_end] at HO
      obtain ⟨p4, c4, e4, -, -, hr4⟩ := HO.out.row7
      subst e4
      have HR4 := Hid.in hr4
      have hsr : ∃ pS cS pH cH, Blk wr h 56 (hrA 3 0 (itH 3 true none aw0 5).h.pc (itH 3 true none aw0 5).h.R (.slice pS (itH 3 true none aw0 5).h.S.length cS) (.slice pH (itH 3 true none aw0 5).h.hv.length cH) l) := by
        obtain ⟨pS, cS, pH, cH, hB, -⟩ := HK.out.hat.blk
        rw [aw_st] at hB
        exact ⟨pS, cS, pH, cH, hB⟩
      obtain ⟨pS, cS, pH, cH, hB⟩ := hsr
      generalize (itH 3 true none aw0 5).h = H5 at *
      have HBk := Hid.in hB
      have HL := Hid.in (ERow.lit wr awEv)
      have HNw := Hid.in (new_alloc wr (.cells (c7 awEv).toArray 41))
      have HBe := Hid.in HK.out.bel
      clear hB hr4 HO HK
      have hSE := sameEvents_self p4 (some ⟨wr.heap.size, 0, none⟩) 6 c4 6 awEv _ rfl (by decide) (HR4.out.below HNw.out) HL.out
      go_wp2_with (go_at_call 24; refine Hid.out ?_)
      refine Lib.hid ?_
      refine hSE.mono ?_
      rintro e w5 ⟨rfl, m, hw5⟩
      have hb5 : Below wr.heap.size wr w5 := by rw [hw5]; exact below_draws HNw.out m
      clear hw5 hSE
      have HB5 := Hid.in (below_step HBe.out hb5)
      have hRn := running_any h l 0 w5 ((HBk.out.grow hb5).cell 1) ((HBk.out.grow hb5).cell 13)
      clear hb5
      go_wp2_with (go_at_call 13; refine Hid.out ?_)
      refine Lib.hid ?_
      (with_reducible refine hRn.mono ?_)
      rintro e w6 ⟨rfl, rfl⟩
      clear hRn
      go_wp2_with fail
      go_ret
      exact ⟨rfl, below_step HB1.out HB5.out⟩

end Go.Proofs.YtnpaijbkhmnfpaaGreat

/- What is no hart, what is no memory; a trap. -/
namespace Go.Proofs.YtnpaijbkhmnfpaaGreat
open Go.RowKit Go.Maps

theorem EOwn.one7 {T : TypeId} {w : World} {B : Nat} {v : Value} {x : Ev} (h : EOwn T w B v [x]) : ∃ g cap, v = .slice (some ⟨g, 0, none⟩) 1 cap ∧ w.cell? ⟨g, 0, none⟩ = some (.int .u8 x.k) ∧ w.cell? ⟨g, 1, none⟩ = some (.int .i64 0) ∧ w.cell? ⟨g, 2, none⟩ = some (.int .i64 x.h) ∧ w.cell? ⟨g, 3, none⟩ = some (.int .i64 x.p) ∧ w.cell? ⟨g, 4, none⟩ = some (.int .u8 x.o) ∧ w.cell? ⟨g, 5, none⟩ = some (.int .i64 0) ∧ w.cell? ⟨g, 6, none⟩ = some (.int .i64 x.n) := by
  obtain ⟨p, cap, e, -, -, h3⟩ := h.shape
  obtain ⟨g, rfl, -, -, hc⟩ := h3 (by decide : 0 < 1)
  exact ⟨g, cap, e, hc 0 (by decide : 0 < 1) 0 (by decide), hc 0 (by decide : 0 < 1) 1 (by decide), hc 0 (by decide : 0 < 1) 2 (by decide), hc 0 (by decide : 0 < 1) 3 (by decide), hc 0 (by decide : 0 < 1) 4 (by decide), hc 0 (by decide : 0 < 1) 5 (by decide), hc 0 (by decide : 0 < 1) 6 (by decide)⟩
theorem EOwn.two7 {T : TypeId} {w : World} {B : Nat} {v : Value} {x y : Ev} (h : EOwn T w B v [x, y]) : ∃ g cap, v = .slice (some ⟨g, 0, none⟩) 2 cap ∧ w.cell? ⟨g, 7, none⟩ = some (.int .u8 y.k) ∧ w.cell? ⟨g, 8, none⟩ = some (.int .i64 0) ∧ w.cell? ⟨g, 9, none⟩ = some (.int .i64 y.h) ∧ w.cell? ⟨g, 10, none⟩ = some (.int .i64 y.p) ∧ w.cell? ⟨g, 11, none⟩ = some (.int .u8 y.o) ∧ w.cell? ⟨g, 12, none⟩ = some (.int .i64 0) ∧ w.cell? ⟨g, 13, none⟩ = some (.int .i64 y.n) := by
  obtain ⟨p, cap, e, -, -, h3⟩ := h.shape
  obtain ⟨g, rfl, -, -, hc⟩ := h3 (by decide : 0 < 2)
  exact ⟨g, cap, e, hc 1 (by decide : 1 < 2) 0 (by decide), hc 1 (by decide : 1 < 2) 1 (by decide), hc 1 (by decide : 1 < 2) 2 (by decide), hc 1 (by decide : 1 < 2) 3 (by decide), hc 1 (by decide : 1 < 2) 4 (by decide), hc 1 (by decide : 1 < 2) 5 (by decide), hc 1 (by decide : 1 < 2) 6 (by decide)⟩
/-- what is no hart -/
def NoH (w : World) (p : Option Addr) : Prop := p = none ∨ ∃ h, p = some ⟨h, 0, none⟩ ∧ w.cell? ⟨h, 13, none⟩ = some (.pointer none)
theorem NoH.below {w w' : World} {p : Option Addr} (k : NoH w p) (hb : Below w.heap.size w w') : NoH w' p := k.imp _root_.id (fun ⟨h, e, hc⟩ => ⟨h, e, by rw [hb.cell (p := ⟨h, 13, none⟩) (cell_lt hc)]; exact hc⟩)
theorem NoH.call {w : World} {p : Option Addr} (k : NoH w p) : Calls Tryz.prog 41 #[.pointer p] w fun e w' => e = .returned (.bool true) ∧ w' = w := by
  rcases k with rfl | ⟨h, rfl, hc⟩
  · exact hnone_nil w
  · exact hnone_zero h w hc
set_option maxHeartbeats 400000 in
theorem hstep_none {p : Option Addr} (m v : Value) (hold : Bool) (w : World) (k : NoH w p) : Calls Tryz.prog 11 #[.pointer p, m, .bool hold, v] w fun e w' => e = .returned (.tuple #[.slice none 0 0, .int .i64 1]) ∧ w' = w := by
  have hN := k.call
  clear k
  go_enter Tryz.func11, Tryz.ntmps11
  go_wp2_with (go_at_call 41; (with_reducible refine hN.mono ?_); rintro e w1 ⟨rfl, rfl⟩)
  go_ret2
  exact ⟨rfl, rfl⟩
set_option maxHeartbeats 400000 in
theorem hsync_none {p : Option Addr} (w : World) (k : NoH w p) : Calls Tryz.prog 17 #[.pointer p] w fun e w' => e = .returned (.int .i64 0) ∧ w' = w := by
  have hN := k.call
  clear k
  go_enter Tryz.func17, Tryz.ntmps17
  go_wp2_with (go_at_call 41; (with_reducible refine hN.mono ?_); rintro e w1 ⟨rfl, rfl⟩)
  go_ret
  exact ⟨rfl, rfl⟩
set_option maxHeartbeats 400000 in
theorem hrun_none {p : Option Addr} (w : World) (k : NoH w p) : Calls Tryz.prog 13 #[.pointer p] w fun e w' => e = .returned (.bool false) ∧ w' = w := by
  have hN := k.call
  clear k
  go_enter Tryz.func13, Tryz.ntmps13
  go_wp2_with (go_at_call 41; (with_reducible refine hN.mono ?_); rintro e w1 ⟨rfl, rfl⟩)
  go_ret
  exact ⟨rfl, rfl⟩
set_option maxHeartbeats 400000 in
theorem hcopy_none {p : Option Addr} (w : World) (k : NoH w p) : Calls Tryz.prog 18 #[.pointer p] w fun e w' => e = .returned (.pointer none) ∧ w' = w := by
  have hN := k.call
  clear k
  go_enter Tryz.func18, Tryz.ntmps18
  go_wp2_with (go_at_call 41; (with_reducible refine hN.mono ?_); rintro e w1 ⟨rfl, rfl⟩)
  go_ret
  exact ⟨rfl, rfl⟩
abbrev zSt : Array Value := #[.int .u8 0, .int .u32 0, .int .u32 0, .int .u32 0, .int .u32 0, .int .u32 0, .int .u32 0, .int .u32 0, .int .u32 0, .int .u32 0, .slice none 0 0, .slice none 0 0, .slice none 0 0]
set_option maxHeartbeats 800000 in
theorem hstate_none {p : Option Addr} (w : World) (k : NoH w p) : Calls Tryz.prog 14 #[.pointer p] w fun e w' => e = .returned (.agg zSt) ∧ Below w.heap.size w w' := by
  have hN := (k.below (new_alloc w (.cells zSt 50))).call
  have hld := (Blk.new w 50 zSt).load 50 _ Tryz.underlying50 rfl Tryz.sz50
  clear k
  go_enter Tryz.func14, Tryz.ntmps14
  go_wp2_with (go_at_call 41; (with_reducible refine hN.mono ?_); rintro e w1 ⟨rfl, rfl⟩)
  exact bodyPost_ret (v := .agg zSt) (by simp [results, Tryz.results14, asAddr, hld]) rfl ⟨rfl, new_alloc w _⟩

/-- what is no memory -/
def NoM (w : World) (p : Option Addr) : Prop := p = none ∨ ∃ q, p = some ⟨q, 0, none⟩ ∧ w.cell? ⟨q, 0, none⟩ = some (.bool false)
theorem NoM.call {w : World} {p : Option Addr} (k : NoM w p) : Calls Tryz.prog 61 #[.pointer p] w fun e w' => e = .returned (.bool true) ∧ w' = w := by
  rcases k with rfl | ⟨h, rfl, hc⟩
  · exact none_nil w
  · exact none_zero h w hc
set_option maxHeartbeats 400000 in
theorem read_none {p : Option Addr} (a n : Int) (w : World) (k : NoM w p) : Calls Tryz.prog 69 #[.pointer p, .int .i64 a, .int .i64 n] w fun e w' => e = .returned (.tuple #[.slice none 0 0, .int .i64 1]) ∧ w' = w := by
  have hN := k.call
  clear k
  go_enter Tryz.func69, Tryz.ntmps69
  go_wp2_with (go_at_call 61; (with_reducible refine hN.mono ?_); rintro e w1 ⟨rfl, rfl⟩)
  go_ret2
  exact ⟨rfl, rfl⟩
set_option maxHeartbeats 400000 in
theorem missing_yes {p : Option Addr} (w : World) (k : NoM w p) : Calls Tryz.prog 42 #[.pointer p] w fun e w' => e = .returned (.bool true) ∧ w' = w := by
  have hN := read_none 0 0 w k
  clear k
  go_enter Tryz.func42, Tryz.ntmps42
  go_wp2_with (go_at_call 69; (with_reducible refine hN.mono ?_); rintro e w1 ⟨rfl, rfl⟩)
  go_ret
  exact ⟨rfl, rfl⟩
set_option maxHeartbeats 400000 in
theorem hstep_nomem {p : Option Addr} (h l : Nat) (v : Value) (hold : Bool) (w : World) (hc : w.cell? ⟨h, 13, none⟩ = some (.pointer (some ⟨l, 0, none⟩))) (k : NoM w p) : Calls Tryz.prog 11 #[.pointer (some ⟨h, 0, none⟩), .pointer p, .bool hold, v] w fun e w' => e = .returned (.tuple #[.slice none 0 0, .int .i64 1]) ∧ w' = w := by
  have hN := hnone_no h l w hc
  have hM := missing_yes w k
  clear k hc
  go_enter Tryz.func11, Tryz.ntmps11
  go_wp2_with (first
    | (go_at_call 41; (with_reducible refine hN.mono ?_); rintro e w1 ⟨rfl, rfl⟩)
    | (go_at_call 42; (with_reducible refine hM.mono ?_); rintro e w1 ⟨rfl, rfl⟩))
  go_ret2
  exact ⟨rfl, rfl⟩
set_option maxHeartbeats 400000 in
theorem trap_any (t : Int) (w : World) : Calls Tryz.prog 12 #[.int .i32 t] w fun e w' => e = .returned (.func (.func 46) #[] #[.pointer (some ⟨w.heap.size, 0, none⟩)]) ∧ w' = w.alloc (.cells #[.int .i32 t] 21) := by
  have hmf : ∀ (fn : Fn) (first cap : Array Value) (w : World), (Instr.makeFunc fn first cap).run Tryz.prog w = .ok (.func fn first cap) w := fun _ _ _ _ => rfl
  go_enter Tryz.func12, Tryz.ntmps12
  go_wp2
  go_ret
  exact ⟨rfl, rfl⟩
theorem trap_v (t : Int) (w : World) (ht : t ≤ 2147483647) : TrV (w.alloc (.cells #[.int .i32 t] 21)) (.func (.func 46) #[] #[.pointer (some ⟨w.heap.size, 0, none⟩)]) (if t < 0 then none else some t.toNat) :=
  .inr ⟨_, t, rfl, (Blk.new w 21 #[.int .i32 t]).cell 0, ht, rfl⟩

set_option maxHeartbeats 2000000 in
theorem sameHart_zero (w : World) : Calls Tryz.prog 19 #[.agg zSt, .agg zSt] w fun e w' => e = .returned (.bool true) ∧ Below w.heap.size w w' := by
  go_enter Tryz.func19, Tryz.ntmps19
  go_wp2_with (go_at_call 34; refine Hid.out ?_)
  refine Lib.hid ?_
  have hR := sameRegs_any Z8r Z8r none none 0 0 0 0 [] [] ((w.alloc (.cells zSt 50)).alloc (.cells zSt 50)) rfl rfl (newH_ok 0 (by decide)).wR (newH_ok 0 (by decide)).wR rfl rfl (by decide) (fun h => absurd h (Nat.lt_irrefl 0)) (fun h => absurd h (Nat.lt_irrefl 0))
  simp only [sameB_self, Bool.and_self, rgV_eight] at hR
  (with_reducible refine hR.mono ?_)
  rintro e w1 ⟨rfl, hb1⟩
  have HA1 := Hid.in (((Blk.new w 50 zSt).grow (new_alloc _ (.cells zSt 50))).grow hb1)
  have HB1 := Hid.in ((blk_two w 50 50 zSt zSt).grow hb1)
  have HW1 := Hid.in (below_step (below_alloc (new_alloc w (.cells zSt 50)) (.cells zSt 50)) hb1)
  have a0 : w1.cell? ⟨w.heap.size, 11, none⟩ = some (.slice none 0 0) := HA1.out.cell 11
  have b0 : w1.cell? ⟨w.heap.size + 1, 11, none⟩ = some (.slice none 0 0) := HB1.out.cell 11
  clear hR hb1
  have hS := sameBytes_any none none 0 0 0 0 [] [] w1 rfl rfl (by decide) (fun h => absurd h (Nat.lt_irrefl 0)) (fun h => absurd h (Nat.lt_irrefl 0))
  rw [sameB_self] at hS
  go_wp2_with (go_at_call 29; refine Hid.out ?_)
  refine Lib.hid ?_
  (with_reducible refine hS.mono ?_)
  rintro e w2 ⟨rfl, m, hw2⟩
  have hb2 : Below w1.heap.size w1 w2 := by rw [hw2]; exact below_draws (below_self w1) m
  have a1 : w2.cell? ⟨w.heap.size, 12, none⟩ = some (.slice none 0 0) := (HA1.out.grow hb2).cell 12
  have b1 : w2.cell? ⟨w.heap.size + 1, 12, none⟩ = some (.slice none 0 0) := (HB1.out.grow hb2).cell 12
  have HW2 := Hid.in (below_step HW1.out hb2)
  clear hS hw2 hb2 a0 b0
  have hL := sameLines_self none none 0 0 0 [] w2 rfl (by decide) (fun h => absurd h (Nat.lt_irrefl 0)) (fun h => absurd h (Nat.lt_irrefl 0)) (fun x hx => absurd hx List.not_mem_nil)
  go_wp2_with (go_at_call 52; refine Hid.out ?_)
  refine Lib.hid ?_
  (with_reducible refine hL.mono ?_)
  rintro e w3 ⟨rfl, m3, hw3⟩
  have HW3 : Hid (Below w.heap.size w w3) := by rw [hw3]; exact below_draws HW2.out m3
  clear hw3 hL
  go_wp2_with fail
  go_ret
  exact ⟨rfl, HW3.out⟩
end Go.Proofs.YtnpaijbkhmnfpaaGreat

/- Ours: the chapter's small harts: what so many steps leave, and the hart beside the list of bools. -/
namespace Go.Proofs.YtnpaijbkhmnfpaaGreat
open Go.RowKit Go.Maps

theorem byt_dec (xs : List Int) (h : xs.all (fun x => decide (0 ≤ x) && decide (x ≤ 255)) = true) : Byt xs := fun i => by
  by_cases hi : i < xs.length
  · have := List.all_eq_true.1 h xs[i] (List.getElem_mem hi)
    simpa [List.getD, List.getElem?_eq_getElem hi] using this
  · simp [List.getD, List.getElem?_eq_none (show xs.length ≤ i by omega)]
def st0 (pc : Nat) (xs : List Int) : St := ⟨newH pc, xs, []⟩
theorem st0_ok (pc : Nat) (xs : List Int) (h : pc ≤ 4294967295) (hx : xs.all (fun x => decide (0 ≤ x) && decide (x ≤ 255)) = true) : StOk 0 xs.length (st0 pc xs) := ⟨newH_ok pc h, byt_dec xs hx, rfl⟩
/-- the chapter's harts: the first two steps with that trap, then without -/
def nS (tr : Option Nat) : Nat → St
  | 0 => st0 8 smallL
  | k + 1 => stpH 3 (nS tr k).h (nS tr k).xs false (if k < 2 then tr else none)
theorem nS_ok (tr : Option Nat) (ht : ∀ z, tr = some z → z ≤ 4294967295) : ∀ k, StOk k 10 (nS tr k)
  | 0 => st0_ok 8 smallL (by decide) (by decide)
  | k + 1 => by
    have := nS_ok tr ht k
    have h2 := stpH_ok (id := 3) (hold := false) (tr := if k < 2 then tr else none) this.h this.b (fun z e => by
      split at e
      · exact ht z e
      · cases e)
    rw [this.l] at h2
    exact h2
def tS : St := stpH 3 (stpH 3 (newH 8) smallL false none).h (stpH 3 (newH 8) smallL false none).xs false (some 20)
theorem nT2 : (nS (some 9) 2).ev = [⟨3, 3, 8, 0, 9⟩] := by kernel_rfl
theorem nT2s : (nS (some 9) 2).h.st = 0 := by kernel_rfl
theorem nT4 : (nS (some 9) 4).ev = [⟨2, 3, 9, 1, 10⟩, ⟨12, 3, 9, 0, 0⟩] := by kernel_rfl
theorem nT5 : (nS (some 9) 5).ev = [] := by kernel_rfl
theorem nT5s : (nS (some 9) 5).h.st = 1 := by kernel_rfl
theorem nT5p : (nS (some 9) 5).h.pc = 10 := by kernel_rfl
theorem nT5x : (nS (some 9) 5).xs = smallL := by kernel_rfl
theorem nF2 : (nS none 2).ev = [⟨4, 3, 8, 0, 120⟩] := by kernel_rfl
theorem nF2s : (nS none 2).h.st = 2 := by kernel_rfl
theorem nF4 : (nS none 4).ev = [] := by kernel_rfl
theorem nF5 : (nS none 5).ev = [] := by kernel_rfl
theorem nF5p : (nS none 5).h.pc = 8 := by kernel_rfl
theorem nF5x : (nS none 5).xs = smallL := by kernel_rfl
theorem tS_pc : tS.h.pc = 20 := by kernel_rfl
theorem tS_xs : tS.xs = smallL := by kernel_rfl
theorem uS_ev : (stpH 0 (newH 10) smallL false none).ev = [⟨4, 0, 10, 0, 210⟩] := by kernel_rfl

/-- a hart, the memory, and the list of the two answers -/
structure NM (w1 w : World) (gB q mg h l b : Nat) (id : Int) (H : Hs) (xs : List Int) : Prop where
  hm : HM w1 w (G3 h b mg) q mg h l b id H xs
  bb : Blk w gB 4 #[.bool true, .bool false]
section
variable {w1 w w' : World} {gB q mg h l b : Nat} {id : Int} {H : Hs} {xs : List Int}
theorem NM.below (k : NM w1 w gB q mg h l b id H xs) (hb : Below w.heap.size w w') : NM w1 w' gB q mg h l b id H xs := ⟨k.hm.below hb, k.bb.grow hb⟩
theorem NM.step (k : NM w1 w gB q mg h l b id H xs) (hold : Bool) (v : Value) (tr : Option Nat) (hx6 : xs.length ≤ 65536) (hbx : Byt xs) (hok : HsOk 1000000 H) (ht : TrV w v tr) :
    Calls Tryz.prog 11 #[.pointer (some ⟨h, 0, none⟩), .pointer (some ⟨q, 0, none⟩), .bool hold, v] w fun e w' => ∃ vv, e = .returned (.tuple #[vv, .int .i64 0]) ∧ EOwn 41 w' w.heap.size vv (stpH id H xs hold tr).ev ∧ NM w1 w' gB q mg h l b id (stpH id H xs hold tr).h (stpH id H xs hold tr).xs ∧ Keeps (G3 h b mg) w w' := by
  refine (k.hm.step hold v tr hx6 hbx hok ht).mono ?_
  rintro e w' ⟨vv, rfl, ho, hk, hkp⟩
  exact ⟨vv, rfl, ho, ⟨hk, (hkp.block gB k.bb.lt (k.hm.no3 k.bb (by decide) (by decide))).trans k.bb⟩, hkp⟩
end
/-- the next of the chapter's steps -/
theorem NM.nx {w1 w : World} {gB q mg h l b k : Nat} {tr : Option Nat} (K : NM w1 w gB q mg h l b 3 (nS tr k).h (nS tr k).xs) (ht0 : ∀ z, tr = some z → z ≤ 4294967295) (hk : k ≤ 100) (v : Value) (tt : Option Nat) (hv : TrV w v tt) (e : tt = if k < 2 then tr else none) :
    Calls Tryz.prog 11 #[.pointer (some ⟨h, 0, none⟩), .pointer (some ⟨q, 0, none⟩), .bool false, v] w fun e w' => ∃ vv, e = .returned (.tuple #[vv, .int .i64 0]) ∧ EOwn 41 w' w.heap.size vv (nS tr (k + 1)).ev ∧ NM w1 w' gB q mg h l b 3 (nS tr (k + 1)).h (nS tr (k + 1)).xs ∧ Keeps (G3 h b mg) w w' := by
  have hs := nS_ok tr ht0 k
  subst e
  exact K.step false v _ (by rw [hs.l]; decide) hs.b (hs.h.more (by omega)) hv

end Go.Proofs.YtnpaijbkhmnfpaaGreat

/- Ours: helpers of HartNumbers' walk. -/
namespace Go.Proofs.YtnpaijbkhmnfpaaGreat
open Go.RowKit Go.Maps

theorem trap_c (t : Int) (tr : Option Nat) (w : World) (ht : t ≤ 2147483647) (e : (if t < 0 then none else some t.toNat) = tr) : Calls Tryz.prog 12 #[.int .i32 t] w fun e w' => ∃ v, e = .returned v ∧ TrV w' v tr ∧ Below w.heap.size w w' := by
  refine (trap_any t w).mono ?_
  rintro _ _ ⟨rfl, rfl⟩
  exact ⟨_, rfl, e ▸ trap_v t w ht, new_alloc _ _⟩
/-- the one event of a list, in memory -/
def E7 (w : World) (g : Nat) (o : Nat) (x : Ev) : Prop := w.cell? ⟨g, o, none⟩ = some (.int .u8 x.k) ∧ w.cell? ⟨g, o + 1, none⟩ = some (.int .i64 0) ∧ w.cell? ⟨g, o + 2, none⟩ = some (.int .i64 x.h) ∧ w.cell? ⟨g, o + 3, none⟩ = some (.int .i64 x.p) ∧ w.cell? ⟨g, o + 4, none⟩ = some (.int .u8 x.o) ∧ w.cell? ⟨g, o + 5, none⟩ = some (.int .i64 0) ∧ w.cell? ⟨g, o + 6, none⟩ = some (.int .i64 x.n)
theorem E7.below {w w' : World} {g o : Nat} {x : Ev} (h : E7 w g o x) (hb : Below w.heap.size w w') : E7 w' g o x := by
  obtain ⟨h0, h1, h2, h3, h4, h5, h6⟩ := h
  exact ⟨(hb.cell (cell_lt h0)).trans h0, (hb.cell (cell_lt h1)).trans h1, (hb.cell (cell_lt h2)).trans h2, (hb.cell (cell_lt h3)).trans h3, (hb.cell (cell_lt h4)).trans h4, (hb.cell (cell_lt h5)).trans h5, (hb.cell (cell_lt h6)).trans h6⟩
theorem EOwn.one8 {T : TypeId} {w : World} {B : Nat} {v : Value} {x : Ev} (h : EOwn T w B v [x]) : ∃ g cap, v = .slice (some ⟨g, 0, none⟩) 1 cap ∧ E7 w g 0 x := h.one7
theorem EOwn.two8 {T : TypeId} {w : World} {B : Nat} {v : Value} {x y : Ev} (h : EOwn T w B v [x, y]) : ∃ g cap, v = .slice (some ⟨g, 0, none⟩) 2 cap ∧ E7 w g 7 y := h.two7
theorem EOwn.nil8 {T : TypeId} {w : World} {B : Nat} {v : Value} (h : EOwn T w B v []) : ∃ p cap, v = .slice p 0 cap := by
  obtain ⟨p, cap, e, -⟩ := h.shape
  exact ⟨p, cap, e⟩
section
variable {w1 w : World} {G : Nat → Prop} {q mg h l b : Nat} {id : Int} {H : Hs} {xs : List Int}
theorem HM.run (k : HM w1 w G q mg h l b id H xs) {st : Int} (e : H.st = st) : Calls Tryz.prog 13 #[.pointer (some ⟨h, 0, none⟩)] w fun e w' => e = .returned (.bool (decide (st = 0))) ∧ w' = w := by
  obtain ⟨pS, cS, pH, cH, hB, -⟩ := k.hat.blk
  subst e
  exact running_any h l H.st w (hB.cell 1) (hB.cell 13)
theorem HM.cell13 (k : HM w1 w G q mg h l b id H xs) : w.cell? ⟨h, 13, none⟩ = some (.pointer (some ⟨l, 0, none⟩)) := by
  obtain ⟨pS, cS, pH, cH, hB, -⟩ := k.hat.blk
  exact hB.cell 13
/-- what State answers: the state and the place -/
theorem HM.state (k : HM w1 w G q mg h l b id H xs) {st pc : Int} (e1 : H.st = st) (e2 : (H.pc : Int) = pc) (hok : HsOk 1000000 H) : Calls Tryz.prog 14 #[.pointer (some ⟨h, 0, none⟩)] w fun e w' => ∃ r0 r1 r2 r3 r4 r5 r6 r7 vS vH vL, e = .returned (.agg #[.int .u8 st, .int .u32 pc, r0, r1, r2, r3, r4, r5, r6, r7, vS, vH, vL]) ∧ Below w.heap.size w w' := by
  refine (hstate_any _ h l b G id H w k.hat hok).mono ?_
  rintro e w' ⟨V, rfl, ⟨vS, vH, vL, rfl, -, -, -⟩, hb⟩
  subst e1 e2
  exact ⟨_, _, _, _, _, _, _, _, vS, vH, vL, rfl, hb⟩
end
/-- a memory behind w1, and the list of the two answers -/
structure RM (w1 w : World) (gB q mg : Nat) : Prop where
  mem : Mem w w1.heap.size q mg smallL
  bel : Below w1.heap.size w1 w
  bb : Blk w gB 4 #[.bool true, .bool false]
theorem RM.below {w1 w w' : World} {gB q mg : Nat} (k : RM w1 w gB q mg) (hb : Below w.heap.size w w') : RM w1 w' gB q mg := ⟨k.mem.below hb, below_step k.bel hb, k.bb.grow hb⟩
theorem NM.rm {w1 w : World} {gB q mg h l b : Nat} {id : Int} {H : Hs} {xs : List Int} (k : NM w1 w gB q mg h l b id H xs) (e : xs = smallL) : RM w1 w gB q mg := by
  subst e
  exact ⟨k.hm.mem, k.hm.bel, k.bb⟩
theorem RM.new {w1 w w' : World} {gB q mg h l b pc : Nat} {id : Int} (k : RM w1 w gB q mg) (hB : Blk w' h 56 (hrA id 0 pc Z8r (.slice none 0 0) (.slice none 0 0) l)) (hl : LinAt w' w.heap.size l b []) (hh : w.heap.size ≤ h) (h1 : h ≠ l) (h2 : l < h) (h3 : b < h) (hb : Below w.heap.size w w') : NM w1 w' gB q mg h l b id (newH pc) smallL :=
  ⟨HM.new k.mem k.bel hB hl hh h1 h2 h3 hb, k.bb.grow hb⟩
theorem newOk8 : HsOk 1000000 (newH 8) := (newH_ok 8 (by decide)).more (by decide)
theorem newOk10 : HsOk 1000000 (newH 10) := (newH_ok 10 (by decide)).more (by decide)
theorem tS1 : StOk 1 10 (stpH 3 (newH 8) smallL false none) := stpH_ok (newH_ok 8 (by decide)) (nS_ok none (fun z e => by cases e) 0).b (fun z e => by cases e)
theorem tS2 : StOk 2 10 tS := by
  have h := stpH_ok (id := 3) (hold := false) (tr := some 20) tS1.h tS1.b (fun z e => by injection e with e; omega)
  rw [tS1.l] at h
  exact h
theorem smallOk : Byt smallL := (nS_ok none (fun z e => by cases e) 0).b
end Go.Proofs.YtnpaijbkhmnfpaaGreat

/- Ours: SameHart of two values that read as the same hart. -/
namespace Go.Proofs.YtnpaijbkhmnfpaaGreat
open Go.RowKit Go.Maps

/-- a hart's value, whoever made it -/
def HvV (w : World) (H : Hs) (V : Value) : Prop := ∃ pS cS pH cH pL cL, V = .agg (stA H.st H.pc H.R (.slice pS H.S.length cS) (.slice pH H.hv.length cH) (.slice pL H.L.length cL)) ∧ PRow w pS H.S ∧ Row w pH H.hv ∧ LRow w pL H.L
theorem HvV.below {w w' : World} {H : Hs} {V : Value} (k : HvV w H V) (hb : Below w.heap.size w w') : HvV w' H V := by
  obtain ⟨pS, cS, pH, cH, pL, cL, rfl, h1, h2, h3⟩ := k
  exact ⟨pS, cS, pH, cH, pL, cL, rfl, h1.below hb, h2.below hb, h3.below hb⟩
theorem StV.hv {w : World} {B : Nat} {H : Hs} {V : Value} (k : StV w B H V) : HvV w H V := by
  obtain ⟨vS, vH, vL, rfl, h1, h2, h3⟩ := k.ex
  obtain ⟨pS, cS, rfl, r1, -⟩ := h1.slice
  obtain ⟨pH, cH, rfl, r2, -⟩ := h2.slice
  obtain ⟨pL, cL, rfl, -, -, r3⟩ := h3.row5
  exact ⟨pS, cS, pH, cH, pL, cL, rfl, r1, r2, r3⟩

set_option maxHeartbeats 4000000 in
theorem sameHart_self {H : Hs} {V V2 : Value} (w : World) (hok : HsOk 1000000 H) (h8 : ∀ x ∈ H.L, F8 x.f) (k1 : HvV w H V) (k2 : HvV w H V2) : Calls Tryz.prog 19 #[V, V2] w fun e w' => e = .returned (.bool true) ∧ Below w.heap.size w w' := by
  obtain ⟨st, pc, R, S, hv, L⟩ := H
  obtain ⟨hpc, lR, wR, wS, lS, bH, lH, wL, lL⟩ := hok
  dsimp only at hpc lR wR wS lS bH lH wL lL h8
  obtain ⟨pS, cS, pH, cH, pL, cL, rfl, s1, t1, u1⟩ := k1
  obtain ⟨pS2, cS2, pH2, cH2, pL2, cL2, rfl, s2, t2, u2⟩ := k2
  dsimp only at s1 t1 u1 s2 t2 u2
  obtain ⟨r0, r1, r2, r3, r4, r5, r6, r7, rfl⟩ := eight lR
  simp only [stA, List.getD_cons_zero, List.getD_cons_succ]
  have HS1 := Hid.in s1
  have HS2 := Hid.in s2
  have HT1 := Hid.in t1
  have HT2 := Hid.in t2
  have HU1 := Hid.in u1
  have HU2 := Hid.in u2
  have HL := Hid.in (And.intro lS (And.intro lH lL))
  have HW := Hid.in wR
  have H8 := Hid.in h8
  clear s1 s2 t1 t2 u1 u2 lS lH lL wR wS bH wL lR hpc h8
  generalize hA : (#[.int .u8 st, .int .u32 pc, .int .u32 r0, .int .u32 r1, .int .u32 r2, .int .u32 r3, .int .u32 r4, .int .u32 r5, .int .u32 r6, .int .u32 r7, .slice pS S.length cS, .slice pH hv.length cH, .slice pL L.length cL] : Array Value) = A
  generalize hB : (#[.int .u8 st, .int .u32 pc, .int .u32 r0, .int .u32 r1, .int .u32 r2, .int .u32 r3, .int .u32 r4, .int .u32 r5, .int .u32 r6, .int .u32 r7, .slice pS2 S.length cS2, .slice pH2 hv.length cH2, .slice pL2 L.length cL2] : Array Value) = B
  have HW0 := Hid.in (below_alloc (new_alloc w (.cells A 50)) (.cells B 50))
  have hR := sameRegs_any [r0, r1, r2, r3, r4, r5, r6, r7] [r0, r1, r2, r3, r4, r5, r6, r7] pS pS2 S.length cS S.length cS2 S S ((w.alloc (.cells A 50)).alloc (.cells B 50)) rfl rfl HW.out HW.out rfl rfl (by have := HL.out; omega) (HS1.out.below HW0.out) (HS2.out.below HW0.out)
  simp only [sameB_self, Bool.and_self, rgV_eight] at hR
  have HA0 := Hid.in ((Blk.new w 50 A).grow (new_alloc _ (.cells B 50)))
  have HB0 := Hid.in (blk_two w 50 50 A B)
  subst hA hB
  go_enter Tryz.func19, Tryz.ntmps19
  go_wp2_with (go_at_call 34; refine Hid.out ?_)
  refine Lib.hid ?_
  (with_reducible refine hR.mono ?_)
  rintro e w1 ⟨rfl, hb1⟩
  have HA1 := Hid.in (HA0.out.grow hb1)
  have HB1 := Hid.in (HB0.out.grow hb1)
  have HW1 := Hid.in (below_step HW0.out hb1)
  have a0 : w1.cell? ⟨w.heap.size, 11, none⟩ = some (.slice pH hv.length cH) := HA1.out.cell 11
  have b0 : w1.cell? ⟨w.heap.size + 1, 11, none⟩ = some (.slice pH2 hv.length cH2) := HB1.out.cell 11
  clear hR hb1 HA0 HB0 HW0
  have hS := sameBytes_any pH pH2 hv.length cH hv.length cH2 hv hv w1 rfl rfl (by have := HL.out; omega) (HT1.out.below HW1.out) (HT2.out.below HW1.out)
  rw [sameB_self] at hS
  go_wp2_with (go_at_call 29; refine Hid.out ?_)
  refine Lib.hid ?_
  (with_reducible refine hS.mono ?_)
  rintro e w2 ⟨rfl, m, hw2⟩
  have hb2 : Below w1.heap.size w1 w2 := by rw [hw2]; exact below_draws (below_self w1) m
  have a1 : w2.cell? ⟨w.heap.size, 12, none⟩ = some (.slice pL L.length cL) := (HA1.out.grow hb2).cell 12
  have b1 : w2.cell? ⟨w.heap.size + 1, 12, none⟩ = some (.slice pL2 L.length cL2) := (HB1.out.grow hb2).cell 12
  have HW2 := Hid.in (below_step HW1.out hb2)
  clear hS hw2 hb2 a0 b0 HA1 HB1 HW1
  have hL := sameLines_self pL pL2 L.length cL cL2 L w2 rfl (by have := HL.out; omega) (HU1.out.below HW2.out) (HU2.out.below HW2.out) H8.out
  go_wp2_with (go_at_call 52; refine Hid.out ?_)
  refine Lib.hid ?_
  (with_reducible refine hL.mono ?_)
  rintro e w3 ⟨rfl, m3, hw3⟩
  have HW3 : Hid (Below w.heap.size w w3) := by rw [hw3]; exact below_draws HW2.out m3
  clear hw3 hL
  go_wp2_with fail
  go_ret
  exact ⟨rfl, HW3.out⟩
end Go.Proofs.YtnpaijbkhmnfpaaGreat

/- Ours: a hart that steps, is let go, is copied, beside a memory that is written: HartStale's parts. -/
namespace Go.Proofs.YtnpaijbkhmnfpaaGreat
open Go.RowKit Go.Maps

/-- the bytes of the first fetch at 0 -/
def fsF (xs : List Int) : List Int := outF [] (granF xs 0) 0
theorem fsF_len (xs : List Int) : 0 < (fsF xs).length ∧ (fsF xs).length ≤ 4 := by
  have h := outF_len (hv := []) done_nil (granF xs 0) (r := 0) (by decide)
  have h2 := (lenB_in (fstB [] (granF xs 0) 0)).1
  unfold fsF
  rw [h]
  simp only [List.length_nil]
  omega
theorem fsF_fst (xs : List Int) : (fsF xs).getD 0 0 = xs.getD 0 0 := by
  have h2 := (lenB_in (fstB [] (granF xs 0) 0)).1
  unfold fsF outF
  have e : (([] ++ (f4L (granF xs 0)).drop 0).take (lenB (fstB [] (granF xs 0) 0))).getD 0 0 = ([] ++ (f4L (granF xs 0)).drop 0).getD 0 0 := by simp only [List.getD, List.getElem?_take_of_lt h2]
  rw [e]
  rfl
/-- a hart at 0 that has fetched the first granule -/
def atF (H : Hs) (xs : List Int) : Hs := { H with hv := fsF xs, L := [⟨0, granF xs 0⟩] }
theorem stale_step {H : Hs} {xs : List Int} {hold : Bool} (h0 : H.st = 0) (hp : H.pc = 0) (hv : H.hv = []) (hL : H.L = []) (hx : 4 ≤ xs.length) : stpH 0 H xs hold none = ⟨atF H xs, xs, [⟨1, 0, 0, 0, 0⟩]⟩ := by
  obtain ⟨st, pc, R, S, hv', L⟩ := H
  dsimp only at h0 hp hv hL
  subst h0 hp hv hL
  have ht : takR [] xs (((0 + 0) / 4 : Nat) : Int) hold = ⟨granF xs 0, false, 0, [⟨0, granF xs 0⟩]⟩ := by
    rw [takR_in (by cases hold <;> rfl) (by decide)]
    rfl
  have hs : stpR [] xs 0 [] hold = ⟨fsF xs, 0, false, 0, [⟨0, granF xs 0⟩]⟩ := by
    unfold stpR
    rw [if_neg (by rw [done_nil]; decide), if_neg (by simp only [List.length_nil]; omega)]
    simp only [List.length_nil]
    rw [ht]
    rfl
  unfold stpH
  rw [if_pos rfl, if_neg (by rw [done_nil]; decide), hs, movH_ok rfl]
  rfl
section
variable {w0 w w' : World} {G : Nat → Prop} {q mg h l b : Nat} {id : Int} {H : Hs} {xs : List Int}
theorem HM.apart3 (k : HM w0 w G q mg h l b id H xs) : q ≠ h ∧ q ≠ b ∧ mg ≠ h ∧ mg ≠ b ∧ l ≠ mg := by
  obtain ⟨pS, cS, pH, cH, hB, -⟩ := k.hat.blk
  obtain ⟨es, c, hM⟩ := k.hat.lin.isMap
  obtain ⟨cur, _, e', _⟩ := k.mem.own.parts
  refine ⟨fun e => k.gq (e ▸ k.hat.gh), fun e => k.gq (e ▸ k.hat.gb), fun e => ?_, fun e => ?_, fun e => k.hat.gl (e ▸ k.gm)⟩
  · rw [e, show w.heap[h]? = _ from hB] at e'
    injection e' with e'
    injection e' with _ e' _
    exact absurd e' (by decide)
  · rw [e, hM] at e'
    cases e'
theorem HM.sync (k : HM w0 w G q mg h l b id H xs) : Calls Tryz.prog 17 #[.pointer (some ⟨h, 0, none⟩)] w fun e w' => e = .returned (.int .i64 H.L.length) ∧ HM w0 w' G q mg h l b id { H with hv := [], L := [] } xs ∧ Keeps (G3 h b mg) w w' := by
  obtain ⟨n1, n2, n3, n4, -⟩ := k.apart3
  refine (hsync_any _ h l b G id H w k.hat).mono ?_
  rintro e w' ⟨rfl, hh, hk⟩
  refine ⟨rfl, ⟨hh, k.mem.keeps hk (fun e => e.elim n1 n2) (fun e => e.elim n3 n4), k.bel.trans (hk.below k.bel.size (fun j hj => (k.lt3 j (hj.elim .inl (fun e => .inr (.inl e)))).1)), k.gm, k.gq, fun j hj => Nat.lt_of_lt_of_le (k.lt j hj) hk.size⟩, hk.wider (fun j hj => hj.elim .inl (fun e => .inr (.inl e)))⟩
theorem HM.write (k : HM w0 w G q mg h l b id H xs) {p : Option Addr} {ys : List Int} {a c : Nat} (hr : Row w p ys) (hfit : a + ys.length ≤ xs.length) (hl : xs.length ≤ 65536) : Calls Tryz.prog 26 #[.pointer (some ⟨q, 0, none⟩), .int .i64 a, .slice p ys.length c] w fun e w' => e = .returned (.int .i64 0) ∧ HM w0 w' G q mg h l b id H (putA xs a ys) ∧ Keeps (G3 h b mg) w w' := by
  obtain ⟨n1, n2, n3, n4, n5⟩ := k.apart3
  refine (write_ok q mg _ a c p xs ys w k.mem hr hfit hl).mono ?_
  rintro e w' ⟨rfl, hm, hk⟩
  refine ⟨rfl, ⟨k.hat.keeps hk (fun j e => by have e' : j = mg := e; subst e'; exact k.gm) (fun e => n3 e.symm) (fun e => n4 e.symm), hm, k.bel.trans (hk.below k.bel.size (fun j hj => by have e' : j = mg := hj; subst e'; exact k.mem.own.base)), k.gm, k.gq, fun j hj => Nat.lt_of_lt_of_le (k.lt j hj) hk.size⟩, hk.wider (fun j hj => .inr (.inr hj))⟩
theorem HM.stateV (k : HM w0 w G q mg h l b id H xs) (hok : HsOk 1000000 H) : Calls Tryz.prog 14 #[.pointer (some ⟨h, 0, none⟩)] w fun e w' => ∃ V, e = .returned V ∧ StV w' w.heap.size H V ∧ Below w.heap.size w w' :=
  hstate_any _ h l b G id H w k.hat hok
/-- a copy lies apart from what its hart turns -/
theorem HM.copy (k : HM w0 w G q mg h l b id H xs) (hok : HsOk 1000000 H) : Calls Tryz.prog 18 #[.pointer (some ⟨h, 0, none⟩)] w fun e w' => ∃ h' l' b', e = .returned (.pointer (some ⟨h', 0, none⟩)) ∧ HAt w' (fun j => G3 h b mg j ∨ j = h' ∨ j = b') w.heap.size h' l' b' id H ∧ ¬ G3 h b mg h' ∧ ¬ G3 h b mg b' ∧ Below w.heap.size w w' := by
  refine (hcopy_any _ h l b G id H w k.hat hok).mono ?_
  rintro e w' ⟨h', l', b', vS, vH, rfl, hB, hS, hV, hl, hh, hb⟩
  have hlt := fun j hj => (k.lt3 j hj).2
  obtain ⟨es, c, hM⟩ := hl.isMap
  have far : ∀ {T : TypeId} {z n : Nat} {v : Value} {vs : List Value}, w'.ownsRow w.heap.size T z v n vs → T ≠ 56 → ∀ g, v.ownBlock = some g → ¬ (G3 h b mg g ∨ g = h' ∨ g = b') := fun {T z n v vs} hr hT g e hg => by
    rcases hr.2 with ⟨e1, _⟩ | ⟨a, cap, cur, e1, e2, e3, _⟩
    · rw [e1] at e; cases e
    · rw [e1] at e
      have e' : some a = some g := e
      injection e' with e'
      subst e'
      rcases hg with hg | hg | hg
      · have := hlt a hg; omega
      · rw [hg, show w'.heap[h']? = _ from hB] at e3
        injection e3 with e3
        injection e3 with _ e3 _
        exact hT e3.symm
      · rw [hg, hM] at e3
        cases e3
  obtain ⟨pS, cS, eS, rS, oS⟩ : ∃ p c, vS = .slice p H.S.length c ∧ PRow w' p H.S ∧ Off (fun j => G3 h b mg j ∨ j = h' ∨ j = b') p H.S.length := by
    rcases hS.shape with ⟨e1, e2⟩ | ⟨g, cap, e1, ho⟩
    · rw [e1, e2]; exact ⟨none, 0, rfl, fun h => absurd h (Nat.lt_irrefl 0), Off.zero _ _⟩
    · rw [e1]
      exact ⟨_, _, rfl, ho.row, fun _ => ⟨g, 0, rfl, far hS (by decide) g (by rw [e1]; rfl)⟩⟩
  obtain ⟨pH, cH, eH, rH, oH⟩ : ∃ p c, vH = .slice p H.hv.length c ∧ Row w' p H.hv ∧ Off (fun j => G3 h b mg j ∨ j = h' ∨ j = b') p H.hv.length := by
    rcases hV.shape with ⟨e1, e2⟩ | ⟨g, cap, e1, ho⟩
    · rw [e1, e2]; exact ⟨none, 0, rfl, fun h => absurd h (Nat.lt_irrefl 0), Off.zero _ _⟩
    · rw [e1]
      exact ⟨_, _, rfl, ho.row, fun _ => ⟨g, 0, rfl, far hV (by decide) g (by rw [e1]; rfl)⟩⟩
  subst eS eH
  have hl1 : w.heap.size ≤ l' := hl.hq
  have hl2 : w.heap.size ≤ b' := hl.hb
  refine ⟨h', l', b', rfl, ⟨⟨pS, cS, pH, cH, hB, rS, rH, oS, oH⟩, hl, .inr (.inl rfl), .inr (.inr rfl), ?_, hh⟩, fun e => by have := hlt _ e; omega, fun e => by have := hlt _ e; omega, hb⟩
  rintro (e | e | e)
  · have := hlt _ e; omega
  · have hb' : w'.heap[l']? = _ := hl.blk
    rw [e, show w'.heap[h']? = _ from hB] at hb'
    injection hb' with hb'
    injection hb' with _ hb' _
    exact absurd hb' (by decide)
  · exact hl.ne e
end
end Go.Proofs.YtnpaijbkhmnfpaaGreat

/- Ours: two harts over one memory: HartPlays' parts. -/
namespace Go.Proofs.YtnpaijbkhmnfpaaGreat
open Go.RowKit Go.Maps

section
variable {w0 w w' : World} {G : Nat → Prop} {q mg h l b h2 l2 b2 : Nat} {id id2 : Int} {H H' H2 : Hs} {xs xs' : List Int}
/-- a copy lies apart from all that may be turned -/
theorem HM.copyG (k : HM w0 w G q mg h l b id H xs) (hok : HsOk 1000000 H) : Calls Tryz.prog 18 #[.pointer (some ⟨h, 0, none⟩)] w fun e w' => ∃ h' l' b', e = .returned (.pointer (some ⟨h', 0, none⟩)) ∧ HAt w' (fun j => G j ∨ j = h' ∨ j = b') w.heap.size h' l' b' id H ∧ h' < w'.heap.size ∧ b' < w'.heap.size ∧ w.heap.size ≤ b' ∧ Below w.heap.size w w' := by
  refine (hcopy_any _ h l b G id H w k.hat hok).mono ?_
  rintro e w' ⟨h', l', b', vS, vH, rfl, hB, hS, hV, hl, hh, hb⟩
  have hlt := k.lt
  obtain ⟨es, c, hM⟩ := hl.isMap
  have far : ∀ {T : TypeId} {z n : Nat} {v : Value} {vs : List Value}, w'.ownsRow w.heap.size T z v n vs → T ≠ 56 → ∀ g, v.ownBlock = some g → ¬ (G g ∨ g = h' ∨ g = b') := fun {T z n v vs} hr hT g e hg => by
    rcases hr.2 with ⟨e1, _⟩ | ⟨a, cap, cur, e1, e2, e3, _⟩
    · rw [e1] at e; cases e
    · rw [e1] at e
      have e' : some a = some g := e
      injection e' with e'
      subst e'
      rcases hg with hg | hg | hg
      · have := hlt a hg; omega
      · rw [hg, show w'.heap[h']? = _ from hB] at e3
        injection e3 with e3
        injection e3 with _ e3 _
        exact hT e3.symm
      · rw [hg, hM] at e3
        cases e3
  obtain ⟨pS, cS, eS, rS, oS⟩ : ∃ p c, vS = .slice p H.S.length c ∧ PRow w' p H.S ∧ Off (fun j => G j ∨ j = h' ∨ j = b') p H.S.length := by
    rcases hS.shape with ⟨e1, e2⟩ | ⟨g, cap, e1, ho⟩
    · rw [e1, e2]; exact ⟨none, 0, rfl, fun h => absurd h (Nat.lt_irrefl 0), Off.zero _ _⟩
    · rw [e1]
      exact ⟨_, _, rfl, ho.row, fun _ => ⟨g, 0, rfl, far hS (by decide) g (by rw [e1]; rfl)⟩⟩
  obtain ⟨pH, cH, eH, rH, oH⟩ : ∃ p c, vH = .slice p H.hv.length c ∧ Row w' p H.hv ∧ Off (fun j => G j ∨ j = h' ∨ j = b') p H.hv.length := by
    rcases hV.shape with ⟨e1, e2⟩ | ⟨g, cap, e1, ho⟩
    · rw [e1, e2]; exact ⟨none, 0, rfl, fun h => absurd h (Nat.lt_irrefl 0), Off.zero _ _⟩
    · rw [e1]
      exact ⟨_, _, rfl, ho.row, fun _ => ⟨g, 0, rfl, far hV (by decide) g (by rw [e1]; rfl)⟩⟩
  subst eS eH
  have hl1 : w.heap.size ≤ l' := hl.hq
  have hl2 : w.heap.size ≤ b' := hl.hb
  refine ⟨h', l', b', rfl, ⟨⟨pS, cS, pH, cH, hB, rS, rH, oS, oH⟩, hl, .inr (.inl rfl), .inr (.inr rfl), ?_, hh⟩, hB.lt, (Array.getElem?_eq_some_iff.1 hM).1, hl2, hb⟩
  rintro (e | e | e)
  · have := hlt _ e; omega
  · have hb' : w'.heap[l']? = _ := hl.blk
    rw [e, show w'.heap[h']? = _ from hB] at hb'
    injection hb' with hb'
    injection hb' with _ hb' _
    exact absurd hb' (by decide)
  · exact hl.ne e
/-- what may be turned grows by new blocks -/
theorem HM.wide {h' b' : Nat} (k : HM w0 w G q mg h l b id H xs) (hb : Below w.heap.size w w') (g1 : w.heap.size ≤ h') (g2 : w.heap.size ≤ b') (g3 : h' < w'.heap.size) (g4 : b' < w'.heap.size) : HM w0 w' (fun j => G j ∨ j = h' ∨ j = b') q mg h l b id H xs := by
  have hl : l < w.heap.size := k.hat.lin.blk.lt
  have hq : q < w.heap.size := (Array.getElem?_eq_some_iff.1 k.mem.blk).1
  have t := k.hat.turn (G2 := fun j => G j ∨ j = h' ∨ j = b') (fun j hj e => by rcases e with e | e | e; exact e; all_goals omega) (.inl k.hat.gh) (.inl k.hat.gb) (by rintro (e | e | e); exact k.hat.gl e; all_goals omega)
  exact ⟨t.below hb, k.mem.below hb, below_step k.bel hb, .inl k.gm, (by rintro (e | e | e); exact k.gq e; all_goals omega), fun j e => by
    rcases e with e | e | e
    · exact Nat.lt_of_lt_of_le (k.lt j e) hb.size
    · omega
    · omega⟩
/-- two harts over one memory; G: all that may be turned -/
structure TH (w0 w : World) (G : Nat → Prop) (q mg h l b : Nat) (id : Int) (H : Hs) (h2 l2 b2 : Nat) (id2 : Int) (H2 : Hs) (xs : List Int) : Prop where
  k1 : HM w0 w G q mg h l b id H xs
  k2 : HM w0 w G q mg h2 l2 b2 id2 H2 xs
  n1 : h ≠ h2
  n2 : b ≠ b2
theorem TH.swap (k : TH w0 w G q mg h l b id H h2 l2 b2 id2 H2 xs) : TH w0 w G q mg h2 l2 b2 id2 H2 h l b id H xs := ⟨k.k2, k.k1, k.n1.symm, k.n2.symm⟩
theorem TH.below (k : TH w0 w G q mg h l b id H h2 l2 b2 id2 H2 xs) (hb : Below w.heap.size w w') : TH w0 w' G q mg h l b id H h2 l2 b2 id2 H2 xs := ⟨k.k1.below hb, k.k2.below hb, k.n1, k.n2⟩
theorem HM.cross (k : HM w0 w G q mg h l b id H xs) (k2 : HM w0 w G q mg h2 l2 b2 id2 H2 xs) : h ≠ b2 := fun e => by
  obtain ⟨pS, cS, pH, cH, hB, -⟩ := k.hat.blk
  obtain ⟨es, c, hM⟩ := k2.hat.lin.isMap
  rw [← e, show w.heap[h]? = _ from hB] at hM
  cases hM
/-- the other hart stays -/
theorem TH.other (k : TH w0 w G q mg h l b id H h2 l2 b2 id2 H2 xs) (k' : HM w0 w' G q mg h l b id H' xs') (hk : Keeps (G3 h b mg) w w') : TH w0 w' G q mg h l b id H' h2 l2 b2 id2 H2 xs' := by
  obtain ⟨-, -, n3, n4, -⟩ := k.k2.apart3
  have c1 := k.k1.cross k.k2
  have c2 := k.k2.cross k.k1
  have g : ∀ j, G3 h b mg j → G j := by
    rintro j (rfl | rfl | rfl)
    · exact k.k1.hat.gh
    · exact k.k1.hat.gb
    · exact k.k1.gm
  refine ⟨k', ⟨k.k2.hat.keeps hk g ?_ ?_, k'.mem, k'.bel, k.k1.gm, k.k1.gq, k'.lt⟩, k.n1, k.n2⟩
  · rintro (e | e | e)
    · exact k.n1 e.symm
    · exact c2 e
    · exact n3 e.symm
  · rintro (e | e | e)
    · exact c1 e.symm
    · exact k.n2 e.symm
    · exact n4 e.symm
theorem TH.step (k : TH w0 w G q mg h l b id H h2 l2 b2 id2 H2 xs) (hold : Bool) (v : Value) (tr : Option Nat) (hx6 : xs.length ≤ 65536) (hbx : Byt xs) (hok : HsOk 1000000 H) (ht : TrV w v tr) :
    Calls Tryz.prog 11 #[.pointer (some ⟨h, 0, none⟩), .pointer (some ⟨q, 0, none⟩), .bool hold, v] w fun e w' => ∃ vv, e = .returned (.tuple #[vv, .int .i64 0]) ∧ EOwn 41 w' w.heap.size vv (stpH id H xs hold tr).ev ∧ TH w0 w' G q mg h l b id (stpH id H xs hold tr).h h2 l2 b2 id2 H2 (stpH id H xs hold tr).xs ∧ Keeps (G3 h b mg) w w' := by
  refine (k.k1.step hold v tr hx6 hbx hok ht).mono ?_
  rintro e w' ⟨vv, rfl, ho, hm, hk⟩
  exact ⟨vv, rfl, ho, k.other hm hk, hk⟩
theorem TH.sync (k : TH w0 w G q mg h l b id H h2 l2 b2 id2 H2 xs) : Calls Tryz.prog 17 #[.pointer (some ⟨h, 0, none⟩)] w fun e w' => e = .returned (.int .i64 H.L.length) ∧ TH w0 w' G q mg h l b id { H with hv := [], L := [] } h2 l2 b2 id2 H2 xs ∧ Keeps (G3 h b mg) w w' := by
  refine k.k1.sync.mono ?_
  rintro e w' ⟨rfl, hm, hk⟩
  exact ⟨rfl, k.other hm hk, hk⟩
theorem TH.write (k : TH w0 w G q mg h l b id H h2 l2 b2 id2 H2 xs) {p : Option Addr} {ys : List Int} {a c : Nat} (hr : Row w p ys) (hfit : a + ys.length ≤ xs.length) (hl : xs.length ≤ 65536) : Calls Tryz.prog 26 #[.pointer (some ⟨q, 0, none⟩), .int .i64 a, .slice p ys.length c] w fun e w' => e = .returned (.int .i64 0) ∧ TH w0 w' G q mg h l b id H h2 l2 b2 id2 H2 (putA xs a ys) ∧ Keeps (G3 h b mg) w w' := by
  refine (k.k1.write hr hfit hl).mono ?_
  rintro e w' ⟨rfl, hm, hk⟩
  exact ⟨rfl, k.other hm hk, hk⟩
/-- a hart's copy takes its place -/
theorem TH.copy (k : TH w0 w G q mg h l b id H h2 l2 b2 id2 H2 xs) (hok : HsOk 1000000 H) : Calls Tryz.prog 18 #[.pointer (some ⟨h, 0, none⟩)] w fun e w' => ∃ h' l' b', e = .returned (.pointer (some ⟨h', 0, none⟩)) ∧ TH w0 w' (fun j => G j ∨ j = h' ∨ j = b') q mg h' l' b' id H h2 l2 b2 id2 H2 xs ∧ HM w0 w' (fun j => G j ∨ j = h' ∨ j = b') q mg h l b id H xs ∧ h ≠ h' ∧ b ≠ b' ∧ Below w.heap.size w w' := by
  refine (k.k1.copyG hok).mono ?_
  rintro e w' ⟨h', l', b', rfl, hh, g3, g4, g2, hb⟩
  have g1 := hh.bh
  have m1 := k.k1.wide hb g1 g2 g3 g4
  have m2 := k.k2.wide hb g1 g2 g3 g4
  have a1 := k.k1.lt _ k.k1.hat.gh
  have a2 := k.k1.lt _ k.k1.hat.gb
  have a3 := k.k2.lt _ k.k2.hat.gh
  have a4 := k.k2.lt _ k.k2.hat.gb
  have hz := k.k1.bel.size
  exact ⟨h', l', b', rfl, ⟨⟨⟨hh.blk, ⟨hh.lin.blk, hh.lin.map, hh.lin.ris, Nat.le_trans hz hh.lin.hq, Nat.le_trans hz hh.lin.hb⟩, hh.gh, hh.gb, hh.gl, Nat.le_trans hz hh.bh⟩, m1.mem, m1.bel, m1.gm, m1.gq, m1.lt⟩, m2, by omega, by omega⟩, m1, by omega, by omega, hb⟩
/-- a second hart is made -/
theorem TH.new {pc : Nat} (k : HM w0 w G q mg h l b id H xs) (hB : Blk w' h2 56 (hrA id2 0 pc Z8r (.slice none 0 0) (.slice none 0 0) l2)) (hl : LinAt w' w.heap.size l2 b2 []) (hh : w.heap.size ≤ h2) (hb : Below w.heap.size w w') : TH w0 w' (fun j => G j ∨ j = h2 ∨ j = b2) q mg h l b id H h2 l2 b2 id2 (newH pc) xs := by
  obtain ⟨es, c, hM⟩ := hl.isMap
  have m1 := k.wide hb hh hl.hb hB.lt (Array.getElem?_eq_some_iff.1 hM).1
  have a1 := k.lt _ k.hat.gh
  have a2 := k.lt _ k.hat.gb
  have hz := k.bel.size
  have hq := hl.hq
  have hb2 := hl.hb
  refine ⟨m1, ⟨⟨⟨none, 0, none, 0, hB, (fun h => absurd h (Nat.lt_irrefl 0)), (fun h => absurd h (Nat.lt_irrefl 0)), Off.zero _ _, Off.zero _ _⟩, ⟨hl.blk, hl.map, hl.ris, Nat.le_trans hz hl.hq, Nat.le_trans hz hl.hb⟩, .inr (.inl rfl), .inr (.inr rfl), ?_, Nat.le_trans hz hh⟩, m1.mem, m1.bel, m1.gm, m1.gq, m1.lt⟩, by omega, by omega⟩
  rintro (e | e | e)
  · have := k.lt _ e; omega
  · have hb' : w'.heap[l2]? = _ := hl.blk
    rw [e, show w'.heap[h2]? = _ from hB] at hb'
    injection hb' with hb'
    injection hb' with _ hb' _
    exact absurd hb' (by decide)
  · exact hl.ne e
end
end Go.Proofs.YtnpaijbkhmnfpaaGreat
