/- Texts put together: HrtM, HrtN, HrtO, HrtU. -/
import Derived.Test.YtnpaijbkhmnfpaaGreatGn
import Derived.Test.YtnpaijbkhmnfpaaGreatGj

/- A hart and a memory; so many steps. -/
namespace Go.Proofs.YtnpaijbkhmnfpaaGreat
open Go.RowKit Go.Maps

/-- what a step may turn -/
def G3 (h b mg : Nat) : Nat → Prop := fun j => j = h ∨ j = b ∨ j = mg
theorem HAt.turn {w : World} {G G2 : Nat → Prop} {B h l b : Nat} {id : Int} {H : Hs} (k : HAt w G B h l b id H) (hG : ∀ j, j < w.heap.size → G2 j → G j) (h1 : G2 h) (h2 : G2 b) (h3 : ¬ G2 l) : HAt w G2 B h l b id H := by
  obtain ⟨pS, cS, pH, cH, a1, a2, a3, a4, a5⟩ := k.blk
  refine ⟨⟨pS, cS, pH, cH, a1, a2, a3, fun h0 => ?_, fun h0 => ?_⟩, k.lin, h1, h2, h3, k.bh⟩
  · obtain ⟨g, o, rfl, hc⟩ := a2 h0
    obtain ⟨g', o', e, hg⟩ := a4 h0
    injection e with e; injection e with e1 e2; subst e1 e2
    exact ⟨g, o, rfl, fun e => hg (hG g (cell_lt (hc 0 h0)) e)⟩
  · obtain ⟨g, o, rfl, hc⟩ := a3 h0
    obtain ⟨g', o', e, hg⟩ := a5 h0
    injection e with e; injection e with e1 e2; subst e1 e2
    exact ⟨g, o, rfl, fun e => hg (hG g (cell_lt (hc 0 h0)) e)⟩
/-- a hart and a memory, behind w0 -/
structure HM (w0 w : World) (G : Nat → Prop) (q mg h l b : Nat) (id : Int) (H : Hs) (xs : List Int) : Prop where
  hat : HAt w G w0.heap.size h l b id H
  mem : Mem w w0.heap.size q mg xs
  bel : Below w0.heap.size w0 w
  gm : G mg
  gq : ¬ G q
  lt : ∀ j, G j → j < w.heap.size
section
variable {w0 w w' : World} {G : Nat → Prop} {q mg h l b : Nat} {id : Int} {H H' : Hs} {xs xs' : List Int}
theorem HM.below (k : HM w0 w G q mg h l b id H xs) (hb : Below w.heap.size w w') : HM w0 w' G q mg h l b id H xs := ⟨k.hat.below hb, k.mem.below hb, below_step k.bel hb, k.gm, k.gq, fun j hj => Nat.lt_of_lt_of_le (k.lt j hj) hb.size⟩
theorem HM.lt3 (k : HM w0 w G q mg h l b id H xs) : ∀ j, G3 h b mg j → w0.heap.size ≤ j ∧ j < w.heap.size := fun j hj => by
  obtain ⟨pS, cS, pH, cH, hB, -⟩ := k.hat.blk
  rcases hj with rfl | rfl | rfl
  · exact ⟨k.hat.bh, hB.lt⟩
  · obtain ⟨es, c, e⟩ := k.hat.lin.isMap
    exact ⟨k.hat.lin.hb, (Array.getElem?_eq_some_iff.1 e).1⟩
  · exact ⟨k.mem.own.base, k.mem.own.lt⟩
/-- what a step may turn is no list of another kind -/
theorem HM.no3 (k : HM w0 w G q mg h l b id H xs) {T : TypeId} {g : Nat} {cur : Array Value} (e3 : w.heap[g]? = some (.cells cur T (0, 0))) (h1 : T ≠ 56) (h2 : T ≠ 5) : ¬ G3 h b mg g := fun e => by
  obtain ⟨pS, cS, pH, cH, hB, -⟩ := k.hat.blk
  rcases e with rfl | rfl | rfl
  · rw [show w.heap[g]? = _ from hB] at e3
    injection e3 with e3
    injection e3 with _ e3 _
    exact h1 e3.symm
  · obtain ⟨es, c, e⟩ := k.hat.lin.isMap
    rw [e] at e3
    cases e3
  · obtain ⟨cur', _, e', _⟩ := k.mem.own.parts
    rw [e'] at e3
    injection e3 with e3
    injection e3 with _ e3 _
    exact h2 e3.symm
theorem HM.row (k : HM w0 w G q mg h l b id H xs) (hk : Keeps (G3 h b mg) w w') {T : TypeId} {z B n : Nat} {v : Value} {vs : List Value} (h0 : w.ownsRow B T z v n vs) (h1 : T ≠ 56) (h2 : T ≠ 5) : w'.ownsRow B T z v n vs := by
  refine ⟨h0.1, h0.2.imp _root_.id ?_⟩
  rintro ⟨g, cap, cur, e1, e2, e3, e4⟩
  exact ⟨g, cap, cur, e1, e2, (hk.block g (Array.getElem?_eq_some_iff.1 e3).1 (k.no3 e3 h1 h2)).trans e3, e4⟩
/-- a step -/
theorem HM.step (k : HM w0 w G q mg h l b id H xs) (hold : Bool) (v : Value) (tr : Option Nat) (hx6 : xs.length ≤ 65536) (hbx : Byt xs) (hok : HsOk 1000000 H) (ht : TrV w v tr) :
    Calls Tryz.prog 11 #[.pointer (some ⟨h, 0, none⟩), .pointer (some ⟨q, 0, none⟩), .bool hold, v] w fun e w' => ∃ vv, e = .returned (.tuple #[vv, .int .i64 0]) ∧ EOwn 41 w' w.heap.size vv (stpH id H xs hold tr).ev ∧ HM w0 w' G q mg h l b id (stpH id H xs hold tr).h (stpH id H xs hold tr).xs ∧ Keeps (G3 h b mg) w w' := by
  refine (hstep_any w0.heap.size w0.heap.size q mg h l b G id H xs hold v tr w k.hat k.mem k.lt k.gm k.gq hx6 hbx hok ht).mono ?_
  rintro e w' ⟨vv, rfl, ho, hh, hm, hk⟩
  exact ⟨vv, rfl, ho, ⟨hh, hm, k.bel.trans (hk.below k.bel.size (fun j hj => (k.lt3 j hj).1)), k.gm, k.gq, fun j hj => Nat.lt_of_lt_of_le (k.lt j hj) hk.size⟩, hk⟩
/-- a memory and a hart that was made behind it -/
theorem HM.new {w1 : World} {pc : Nat} (hm : Mem w1 w0.heap.size q mg xs) (hb1 : Below w0.heap.size w0 w1) (hB : Blk w h 56 (hrA id 0 pc Z8r (.slice none 0 0) (.slice none 0 0) l)) (hl : LinAt w w1.heap.size l b []) (hh : w1.heap.size ≤ h) (h1 : h ≠ l) (h2 : l < h) (h3 : b < h) (hb : Below w1.heap.size w1 w) : HM w0 w (G3 h b mg) q mg h l b id (newH pc) xs := by
  have hq := hm.lt
  have hg := hm.own.lt
  have hq' := hl.hq
  have hb' := hl.hb
  have hne := hl.ne
  have hs := hb1.size
  have hhl := hB.lt
  have hs2 := hb.size
  refine ⟨⟨⟨none, 0, none, 0, hB, fun h => absurd h (Nat.lt_irrefl 0), fun h => absurd h (Nat.lt_irrefl 0), Off.zero _ _, Off.zero _ _⟩, hl.lower hs, .inl rfl, .inr (.inl rfl), ?_, by omega⟩, hm.below hb, below_step hb1 hb, .inr (.inr rfl), ?_, ?_⟩
  · rintro (e | e | e)
    · exact h1 e.symm
    · exact hne e
    · omega
  · rintro (e | e | e)
    · omega
    · omega
    · exact hm.ne e
  · rintro j (e | e | e) <;> omega
/-- a list of events that lies apart is appended to -/
theorem HM.pushed {v : Value} {L : List Ev} {B g : Nat} (k : HM w0 w (fun j => G3 h b mg j ∨ v.ownBlock = some j) q mg h l b id H xs) (ho : EOwn 41 w B v L) (hB : w0.heap.size ≤ B) (hg : w.grownBy w' v.ownBlock) (hv : v.ownBlock = some g ∨ g = w.heap.size) (hlt : g < w'.heap.size) :
    HM w0 w' (fun j => G3 h b mg j ∨ some g = some j) q mg h l b id H xs := by
  have hk : Keeps (fun j => v.ownBlock = some j) w w' := (Keeps.refl _ w).grown hg (fun k e => .inl e)
  have hno : ∀ j, v.ownBlock = some j → ¬ G3 h b mg j ∧ w0.heap.size ≤ j ∧ j ≠ q ∧ j ≠ l := fun j hj => by
    have hge := ho.ownGe hj
    refine ⟨?_, by omega, fun e => k.gq (.inr (e ▸ hj)), fun e => k.hat.gl (.inr (e ▸ hj))⟩
    rcases ho.2 with ⟨e1, e2⟩ | ⟨g', cap, cur, e1, e2, e3, e4⟩
    · rw [e1] at hj; cases hj
    · rw [e1] at hj
      have e' : some g' = some j := hj
      injection e' with e'
      subst e'
      exact k.no3 e3 (by decide) (by decide)
  have hll : l < w.heap.size := (Array.getElem?_eq_some_iff.1 k.hat.lin.blk).1
  have hql := k.mem.lt
  have k1 : HAt w (fun j => (G3 h b mg j ∨ v.ownBlock = some j) ∨ j = g) w0.heap.size h l b id H := k.hat.turn (fun j hj e => by
    rcases e with e | e
    · exact e
    · rcases hv with hv | hv
      · exact .inr (e ▸ hv)
      · omega) (.inl k.hat.gh) (.inl k.hat.gb) (fun e => by
    rcases e with e | e
    · exact k.hat.gl e
    · rcases hv with hv | hv
      · exact (hno g hv).2.2.2 e.symm
      · omega)
  have k2 := k1.keeps hk (fun j e => .inl (.inr e)) (fun e => (hno h e).1 (.inl rfl)) (fun e => (hno b e).1 (.inr (.inl rfl)))
  refine ⟨k2.turn (fun j _ e => ?_) (.inl (.inl rfl)) (.inl (.inr (.inl rfl))) (fun e => k2.gl ?_), k.mem.keeps hk (fun e => k.gq (.inr e)) (fun e => (hno mg e).1 (.inr (.inr rfl))), k.bel.trans (hk.below k.bel.size (fun j hj => (hno j hj).2.1)), .inl (.inr (.inr rfl)), fun e => ?_, fun j e => ?_⟩
  · rcases e with e | e
    · exact .inl (.inl e)
    · injection e with e; exact .inr e.symm
  · rcases e with e | e
    · exact .inl (.inl e)
    · injection e with e; exact .inr e.symm
  · rcases e with e | e
    · exact k.gq (.inl e)
    · injection e with e
      rcases hv with hv | hv
      · exact k.gq (.inr (e ▸ hv))
      · omega
  · rcases e with e | e
    · exact Nat.lt_of_lt_of_le (k.lt3 j e).2 hg.size
    · injection e with e; omega
/-- .. at its start -/
theorem HM.apart (k : HM w0 w (G3 h b mg) q mg h l b id H xs) : HM w0 w (fun j => G3 h b mg j ∨ (Value.slice none 0 0).ownBlock = some j) q mg h l b id H xs :=
  ⟨k.hat.turn (fun j _ e => e.elim _root_.id (fun e => by cases e)) (.inl (.inl rfl)) (.inl (.inr (.inl rfl))) (fun e => e.elim k.hat.gl (fun e => by cases e)), k.mem, k.bel, .inl (.inr (.inr rfl)), fun e => e.elim k.gq (fun e => by cases e), fun j e => e.elim (k.lt j) (fun e => by cases e)⟩
end
/-- so many steps, the events behind one another -/
def itH (id : Int) (hold : Bool) (tr : Option Nat) (s : St) : Nat → St
  | 0 => s
  | k + 1 => ⟨(stpH id (itH id hold tr s k).h (itH id hold tr s k).xs hold tr).h, (stpH id (itH id hold tr s k).h (itH id hold tr s k).xs hold tr).xs, (itH id hold tr s k).ev ++ (stpH id (itH id hold tr s k).h (itH id hold tr s k).xs hold tr).ev⟩
theorem itH_ok {id : Int} {hold : Bool} {tr : Option Nat} {s : St} {m n : Nat} (h : StOk m n s) (ht : ∀ z, tr = some z → z ≤ 4294967295) : ∀ k, StOk (m + k) n (itH id hold tr s k)
  | 0 => h
  | k + 1 => by
    have := itH_ok (id := id) (hold := hold) h ht k
    have h2 := stpH_ok (id := id) (hold := hold) (tr := tr) this.h this.b ht
    rw [this.l] at h2
    exact ⟨h2.h, h2.b, h2.l⟩
theorem ERow.lit (w : World) (M : List Ev) : ERow (w.alloc (.cells (c7 M).toArray 41)) (some ⟨w.heap.size, 0, none⟩) M := fun _ => ⟨w.heap.size, 0, rfl, fun i hi j hj => by
  rw [Nat.zero_add, (Blk.new w 41 (c7 M).toArray).cell, List.getElem?_toArray, c7_at M i hi j hj]⟩

/-- the chapter's memory -/
def smallL : List Int := [184, 1, 5, 0, 0, 0, 230, 1, 204, 0]
set_option maxHeartbeats 400000 in
theorem small_any (w : World) : Calls Tryz.prog 9 #[] w fun e w' => ∃ g, e = .returned (.slice (some ⟨g, 0, none⟩) 10 10) ∧ Own w' w.heap.size g 10 smallL ∧ Below w.heap.size w w' := by
  go_enter Tryz.func9, Tryz.ntmps9
  go_wp2_with (refine wp_lit rfl 10 _ rfl smallL rfl (by decide) (by decide) rfl ?_; intro w1 g1 HO1 HB1)
  go_ret
  exact ⟨g1, rfl, HO1.out, HB1.out⟩

def aw0 : St := ⟨newH 0, smallL, []⟩
theorem aw0_ok : StOk 0 10 aw0 := ⟨newH_ok 0 (by decide), by
  intro i
  have h : ∀ k : Fin 10, 0 ≤ smallL.getD k.1 0 ∧ smallL.getD k.1 0 ≤ 255 := by decide
  by_cases hi : i < 10
  · exact h ⟨i, hi⟩
  · have e : smallL.getD i 0 = 0 := by simp only [List.getD, List.getElem?_eq_none (show smallL.length ≤ i by show 10 ≤ i; omega), Option.getD_none]
    show 0 ≤ smallL.getD i 0 ∧ smallL.getD i 0 ≤ 255
    rw [e]; omega, rfl⟩
def awEv : List Ev := [⟨1, 3, 0, 0, 0⟩, ⟨1, 3, 4, 0, 0⟩, ⟨2, 3, 0, 5, 6⟩, ⟨1, 3, 6, 0, 1⟩, ⟨2, 3, 6, 16, 8⟩, ⟨5, 3, 0, 0, 5⟩]
theorem aw_end : (itH 3 true none aw0 5).ev = awEv := by kernel_rfl
theorem aw_st : (itH 3 true none aw0 5).h.st = 0 := by kernel_rfl
theorem aw_step : ∀ j : Fin 5, 0 < (stpH 3 (itH 3 true none aw0 j.1).h (itH 3 true none aw0 j.1).xs true none).ev.length ∧ (stpH 3 (itH 3 true none aw0 j.1).h (itH 3 true none aw0 j.1).xs true none).ev.length ≤ 4 ∧ (itH 3 true none aw0 j.1).ev.length ≤ 10 := by decide +kernel

end Go.Proofs.YtnpaijbkhmnfpaaGreat

/- switchyardlaw15.awake answers true. -/
namespace Go.Proofs.YtnpaijbkhmnfpaaGreat
open Go.RowKit Go.Maps

set_option maxHeartbeats 4000000 in
set_option maxRecDepth 8000 in
theorem awake_any (w : World) : Calls Tryz.prog 20 #[] w fun e w' => e = .returned (.bool true) ∧ Below w.heap.size w w' := by
  have hS := small_any w
  go_enter Tryz.func20, Tryz.ntmps20
  go_wp2_with (go_at_call 9; refine Hid.out ?_)
  refine Lib.hid ?_
  (with_reducible refine hS.mono ?_)
  rintro e w1 ⟨g1, rfl, ho1, hb1⟩
  have hN := new_ok (some ⟨g1, 0, none⟩) 10 10 smallL w1 rfl (by decide) ho1.row
  have HB1 := Hid.in hb1
  clear hS ho1 hb1
  go_wp2_with (go_at_call 8; refine Hid.out ?_)
  refine Lib.hid ?_
  (with_reducible refine hN.mono ?_)
  rintro e w2 ⟨q, mg, rfl, hm2, hb2⟩
  have HM2 := Hid.in hm2
  have HB2 := Hid.in hb2
  have hH : Calls Tryz.prog 10 #[.int .i64 3, .int .u32 0] w2 _ := hnew_any 3 0 w2
  clear hN hm2 hb2
  go_wp2_with (go_at_call 10; refine Hid.out ?_)
  refine Lib.hid ?_
  (with_reducible refine hH.mono ?_)
  rintro e w3 ⟨h, l, b, rfl, hB3, hl3, h1, h2, h3, h4, hb3⟩
  have HK3 : Hid (HM w1 w3 (fun j => G3 h b mg j ∨ (Value.slice none 0 0).ownBlock = some j) q mg h l b 3 (itH 3 true none aw0 0).h (itH 3 true none aw0 0).xs) := (HM.new HM2.out HB2.out hB3 hl3 h1 h2 h3 h4 hb3).apart
  clear hH hB3 hl3 h1 h2 h3 h4 hb3 HM2 HB2
  go_wp2_with fail
  go_loopw [4, 5] (fun v4 vi wr => ∃ j : Nat, vi = .int .i64 j ∧ j ≤ 5 ∧ EOwn 41 wr w1.heap.size v4 (itH 3 true none aw0 j).ev ∧ HM w1 wr (fun j => G3 h b mg j ∨ v4.ownBlock = some j) q mg h l b 3 (itH 3 true none aw0 j).h (itH 3 true none aw0 j).xs) (fun _ vi _ => 5 - (intOf vi).toNat)
  case atStart => exact ⟨0, rfl, by omega, EOwn.nil _ _ _, HK3.out⟩
  case round =>
    obtain ⟨j, rfl, hj, ho, hk⟩ := hrel
    have HO := Hid.in ho
    have HK := Hid.in hk
    clear ho hk
    by_cases hlt : j < 5
    · have hst := itH_ok (id := 3) (hold := true) aw0_ok (tr := none) (fun z e => by cases e) j
      obtain ⟨a1, a2, a3⟩ := aw_step ⟨j, hlt⟩
      dsimp only at a1 a2 a3
      have hSt := HK.out.step true .nilFunc none (by rw [hst.l]; decide) hst.b (hst.h.more (by omega)) (.inl ⟨rfl, rfl⟩)
      have HEV : Hid ((itH 3 true none aw0 (j + 1)).ev = (itH 3 true none aw0 j).ev ++ (stpH 3 (itH 3 true none aw0 j).h (itH 3 true none aw0 j).xs true none).ev ∧ (itH 3 true none aw0 (j + 1)).h = (stpH 3 (itH 3 true none aw0 j).h (itH 3 true none aw0 j).xs true none).h ∧ (itH 3 true none aw0 (j + 1)).xs = (stpH 3 (itH 3 true none aw0 j).h (itH 3 true none aw0 j).xs true none).xs) := ⟨rfl, rfl, rfl⟩
      clear hst
      generalize stpH 3 (itH 3 true none aw0 j).h (itH 3 true none aw0 j).xs true none = sj at *
      generalize itH 3 true none aw0 j = s8 at *
      have HA : Hid (0 < sj.ev.length ∧ sj.ev.length ≤ 4 ∧ s8.ev.length ≤ 10) := ⟨a1, a2, a3⟩
      clear a1 a2 a3
      go_wp2_with (go_at_call 11; refine Hid.out ?_)
      refine Lib.hid ?_
      (with_reducible refine hSt.mono ?_)
      rintro e w5 ⟨vv, rfl, ho5, hk5, hkp5⟩
      obtain ⟨p5, c5, e5, -, -, hr5⟩ := ho5.row7
      subst e5
      have HR5 := Hid.in hr5
      have HK5 := Hid.in hk5
      have HO5 : Hid (EOwn 41 w5 w1.heap.size u4 s8.ev) := HK.out.row hkp5 HO.out (by decide) (by decide)
      have HSZ := Hid.in (Nat.le_trans HK.out.bel.size hkp5.size)
      clear hSt ho5 hr5 hk5 hkp5
      go_wp2_with (at_builtin; refine epushL Tryz.elemEv _ rfl _ _ rfl w1.heap.size _ s8.ev sj.ev rfl HO5.out p5 _ c5 rfl rfl HA.out.1 HR5.out (by have := HA.out; omega) (by have := HA.out; omega) (by decide) HSZ.out ?_; intro g6 c6 w6 hT6 hg6 hv6 hl6; have HT6 := Hid.in hT6; have HK6 := Hid.in (HK5.out.pushed HO5.out (Nat.le_refl _) hg6 hv6 hl6); clear hT6 hg6 hv6 hl6)
      go_roundw
      case rel => exact ⟨j + 1, by go_num, by omega, by rw [HEV.out.1]; have := HT6.out; rw [List.length_append] at this; exact this, by rw [HEV.out.2.1, HEV.out.2.2]; exact HK6.out⟩
      case measure => simp [intOf]; omega
    · obtain rfl : j = 5 := by omega
      rw [aw_end] at HO
      obtain ⟨p4, c4, e4, -, -, hr4⟩ := HO.out.row7
      subst e4
      have HR4 := Hid.in hr4
      have hsr : ∃ pS cS pH cH, Blk wr h 56 (hrA 3 0 (itH 3 true none aw0 5).h.pc (itH 3 true none aw0 5).h.R (.slice pS (itH 3 true none aw0 5).h.S.length cS) (.slice pH (itH 3 true none aw0 5).h.hv.length cH) l) := by
        obtain ⟨pS, cS, pH, cH, hB, -⟩ := HK.out.hat.blk
        rw [aw_st] at hB
        exact ⟨pS, cS, pH, cH, hB⟩
      obtain ⟨pS, cS, pH, cH, hB⟩ := hsr
      generalize (itH 3 true none aw0 5).h = H5 at *
      have HBk := Hid.in hB
      have HL := Hid.in (ERow.lit wr awEv)
      have HNw := Hid.in (new_alloc wr (.cells (c7 awEv).toArray 41))
      have HBe := Hid.in HK.out.bel
      clear hB hr4 HO HK
      have hSE := sameEvents_self p4 (some ⟨wr.heap.size, 0, none⟩) 6 c4 6 awEv _ rfl (by decide) (HR4.out.below HNw.out) HL.out
      go_wp2_with (go_at_call 24; refine Hid.out ?_)
      refine Lib.hid ?_
      refine hSE.mono ?_
      rintro e w5 ⟨rfl, m, hw5⟩
      have hb5 : Below wr.heap.size wr w5 := by rw [hw5]; exact below_draws HNw.out m
      clear hw5 hSE
      have HB5 := Hid.in (below_step HBe.out hb5)
      have hRn := running_any h l 0 w5 ((HBk.out.grow hb5).cell 1) ((HBk.out.grow hb5).cell 13)
      clear hb5
      go_wp2_with (go_at_call 13; refine Hid.out ?_)
      refine Lib.hid ?_
      (with_reducible refine hRn.mono ?_)
      rintro e w6 ⟨rfl, rfl⟩
      clear hRn
      go_wp2_with fail
      go_ret
      exact ⟨rfl, below_step HB1.out HB5.out⟩

end Go.Proofs.YtnpaijbkhmnfpaaGreat

/- loads answers true; a field of what State answers. -/
namespace Go.Proofs.YtnpaijbkhmnfpaaGreat
open Go.RowKit Go.Maps

theorem byt_dec (xs : List Int) (h : xs.all (fun x => decide (0 ≤ x) && decide (x ≤ 255)) = true) : Byt xs := fun i => by
  by_cases hi : i < xs.length
  · have := List.all_eq_true.1 h xs[i] (List.getElem_mem hi)
    simpa [List.getD, List.getElem?_eq_getElem hi] using this
  · simp [List.getD, List.getElem?_eq_none (show xs.length ≤ i by omega)]
def st0 (pc : Nat) (xs : List Int) : St := ⟨newH pc, xs, []⟩
theorem st0_ok (pc : Nat) (xs : List Int) (h : pc ≤ 4294967295) (hx : xs.all (fun x => decide (0 ≤ x) && decide (x ≤ 255)) = true) : StOk 0 xs.length (st0 pc xs) := ⟨newH_ok pc h, byt_dec xs hx, rfl⟩
/-- a step, so many steps behind the start -/
theorem HM.it {w0 w : World} {G : Nat → Prop} {q mg h l b n : Nat} {id : Int} {s : St} {hold : Bool} {j : Nat} (k : HM w0 w G q mg h l b id (itH id hold none s j).h (itH id hold none s j).xs) (hs : StOk 0 n s) (hn : n ≤ 65536) (hj : j ≤ 1000) :
    Calls Tryz.prog 11 #[.pointer (some ⟨h, 0, none⟩), .pointer (some ⟨q, 0, none⟩), .bool hold, .nilFunc] w fun e w' => ∃ vv, e = .returned (.tuple #[vv, .int .i64 0]) ∧ EOwn 41 w' w.heap.size vv (stpH id (itH id hold none s j).h (itH id hold none s j).xs hold none).ev ∧ HM w0 w' G q mg h l b id (itH id hold none s (j + 1)).h (itH id hold none s (j + 1)).xs ∧ Keeps (G3 h b mg) w w' := by
  have hst := itH_ok (id := id) (hold := hold) hs (tr := none) (fun z e => by cases e) j
  exact k.step hold .nilFunc none (by rw [hst.l]; exact hn) hst.b (hst.h.more (by omega)) (.inl ⟨rfl, rfl⟩)

theorem fld50_0 (a b r0 r1 r2 r3 r4 r5 r6 r7 vS vH vL : Value) (W : World) : (Instr.field 50 (.agg #[a, b, r0, r1, r2, r3, r4, r5, r6, r7, vS, vH, vL]) 0).run Tryz.prog W = .ok (a) W := by kernel_rfl
theorem fld50_1 (a b r0 r1 r2 r3 r4 r5 r6 r7 vS vH vL : Value) (W : World) : (Instr.field 50 (.agg #[a, b, r0, r1, r2, r3, r4, r5, r6, r7, vS, vH, vL]) 1).run Tryz.prog W = .ok (b) W := by kernel_rfl
theorem fld50_2 (a b r0 r1 r2 r3 r4 r5 r6 r7 vS vH vL : Value) (W : World) : (Instr.field 50 (.agg #[a, b, r0, r1, r2, r3, r4, r5, r6, r7, vS, vH, vL]) 2).run Tryz.prog W = .ok (.agg #[r0, r1, r2, r3, r4, r5, r6, r7, vS]) W := by kernel_rfl
theorem fld50_3 (a b r0 r1 r2 r3 r4 r5 r6 r7 vS vH vL : Value) (W : World) : (Instr.field 50 (.agg #[a, b, r0, r1, r2, r3, r4, r5, r6, r7, vS, vH, vL]) 3).run Tryz.prog W = .ok (vH) W := by kernel_rfl
theorem fld50_4 (a b r0 r1 r2 r3 r4 r5 r6 r7 vS vH vL : Value) (W : World) : (Instr.field 50 (.agg #[a, b, r0, r1, r2, r3, r4, r5, r6, r7, vS, vH, vL]) 4).run Tryz.prog W = .ok (vL) W := by kernel_rfl
theorem fld47_0 (r0 r1 r2 r3 r4 r5 r6 r7 vS : Value) (W : World) : (Instr.field 47 (.agg #[r0, r1, r2, r3, r4, r5, r6, r7, vS]) 0).run Tryz.prog W = .ok (.agg #[r0, r1, r2, r3, r4, r5, r6, r7]) W := by kernel_rfl
theorem idx44_1 (r0 r1 r2 r3 r4 r5 r6 r7 : Value) (W : World) : (Instr.index 44 (.agg #[r0, r1, r2, r3, r4, r5, r6, r7]) (.int .i64 1)).run Tryz.prog W = .ok r1 W := by kernel_rfl

def loadsL : List Int := [139, 1, 9, 0, 0, 0, 0, 0, 17, 34, 51, 68, 85]
theorem loads_end : (itH 0 true none (st0 0 loadsL) 3).h.R = [0, 1430532898, 0, 0, 0, 0, 0, 0] := by kernel_rfl

set_option maxHeartbeats 4000000 in
set_option maxRecDepth 8000 in
theorem loads_any (w : World) : Calls Tryz.prog 16 #[] w fun e w' => e = .returned (.bool true) ∧ Below w.heap.size w w' := by
  go_enter Tryz.func16, Tryz.ntmps16
  go_wp2_with (first
    | (refine wp_lit rfl 13 _ rfl loadsL rfl (by decide) (by decide) rfl ?_; intro w1 g1 HO1 HB1)
    | (go_at_call 8; refine Hid.out ?_))
  refine Lib.hid ?_
  (with_reducible refine (new_ok (some ⟨g1, 0, none⟩) 13 13 loadsL w1 rfl (by decide) HO1.out.row).mono ?_)
  rintro e w2 ⟨q, mg, rfl, hm2, hb2⟩
  have HM2 := Hid.in hm2
  have HB2 := Hid.in hb2
  have hH : Calls Tryz.prog 10 #[.int .i64 0, .int .u32 0] w2 _ := hnew_any 0 0 w2
  clear hm2 hb2 HO1
  go_wp2_with (go_at_call 10; refine Hid.out ?_)
  refine Lib.hid ?_
  (with_reducible refine hH.mono ?_)
  rintro e w3 ⟨h, l, b, rfl, hB3, hl3, h1, h2, h3, h4, hb3⟩
  have HK3 : Hid (HM w1 w3 (G3 h b mg) q mg h l b 0 (itH 0 true none (st0 0 loadsL) 0).h (itH 0 true none (st0 0 loadsL) 0).xs) := HM.new HM2.out HB2.out hB3 hl3 h1 h2 h3 h4 hb3
  clear hH hB3 hl3 h1 h2 h3 h4 hb3 HM2 HB2
  go_wp2_with fail
  go_loopw [4] (fun vi wr => ∃ j : Nat, vi = .int .i64 j ∧ j ≤ 3 ∧ HM w1 wr (G3 h b mg) q mg h l b 0 (itH 0 true none (st0 0 loadsL) j).h (itH 0 true none (st0 0 loadsL) j).xs) (fun vi _ => 3 - (intOf vi).toNat)
  case atStart => exact ⟨0, rfl, by omega, HK3.out⟩
  case round =>
    obtain ⟨j, rfl, hj, hk⟩ := hrel
    have HK := Hid.in hk
    clear hk
    by_cases hlt : j < 3
    · have hSt := HK.out.it (st0_ok 0 loadsL (by decide) (by decide)) (by decide) (by omega)
      go_wp2_with (go_at_call 11; refine Hid.out ?_)
      refine Lib.hid ?_
      (with_reducible refine hSt.mono ?_)
      rintro e w5 ⟨vv, rfl, -, hk5, -⟩
      have HK5 := Hid.in hk5
      clear hSt hk5
      go_wp2_with fail
      go_roundw
      case rel => exact ⟨j + 1, by go_num, by omega, HK5.out⟩
      case measure => simp [intOf]; omega
    · obtain rfl : j = 3 := by omega
      have hst := itH_ok (id := 0) (hold := true) (st0_ok 0 loadsL (by decide) (by decide)) (tr := none) (fun z e => by cases e) 3
      have hS := hstate_any _ h l b _ 0 _ wr HK.out.hat (hst.h.more (by decide))
      have HE := Hid.in loads_end
      generalize (itH 0 true none (st0 0 loadsL) 3).h = H5 at *
      have HBe := Hid.in HK.out.bel
      clear hst HK
      go_wp2_with (go_at_call 14; refine Hid.out ?_)
      refine Lib.hid ?_
      (with_reducible refine hS.mono ?_)
      rintro e w5 ⟨V, rfl, ⟨vS, vH, vL, rfl, -, -, -⟩, hb5⟩
      rw [HE.out]
      simp only [stA, List.getD_cons_zero, List.getD_cons_succ]
      have HB5 := Hid.in (below_step HBe.out hb5)
      clear hS hb5
      have q1 := fld50_2
      have q2 := fld47_0
      have q3 := idx44_1
      go_wp2_with fail
      go_ret
      exact ⟨rfl, below_step HB1.out HB5.out⟩

end Go.Proofs.YtnpaijbkhmnfpaaGreat

/- rounds answers true. -/
namespace Go.Proofs.YtnpaijbkhmnfpaaGreat
open Go.RowKit Go.Maps

theorem EOwn.one7 {T : TypeId} {w : World} {B : Nat} {v : Value} {x : Ev} (h : EOwn T w B v [x]) : ∃ g cap, v = .slice (some ⟨g, 0, none⟩) 1 cap ∧ w.cell? ⟨g, 0, none⟩ = some (.int .u8 x.k) ∧ w.cell? ⟨g, 1, none⟩ = some (.int .i64 0) ∧ w.cell? ⟨g, 2, none⟩ = some (.int .i64 x.h) ∧ w.cell? ⟨g, 3, none⟩ = some (.int .i64 x.p) ∧ w.cell? ⟨g, 4, none⟩ = some (.int .u8 x.o) ∧ w.cell? ⟨g, 5, none⟩ = some (.int .i64 0) ∧ w.cell? ⟨g, 6, none⟩ = some (.int .i64 x.n) := by
  obtain ⟨p, cap, e, -, -, h3⟩ := h.shape
  obtain ⟨g, rfl, -, -, hc⟩ := h3 (by decide : 0 < 1)
  exact ⟨g, cap, e, hc 0 (by decide : 0 < 1) 0 (by decide), hc 0 (by decide : 0 < 1) 1 (by decide), hc 0 (by decide : 0 < 1) 2 (by decide), hc 0 (by decide : 0 < 1) 3 (by decide), hc 0 (by decide : 0 < 1) 4 (by decide), hc 0 (by decide : 0 < 1) 5 (by decide), hc 0 (by decide : 0 < 1) 6 (by decide)⟩
theorem EOwn.two7 {T : TypeId} {w : World} {B : Nat} {v : Value} {x y : Ev} (h : EOwn T w B v [x, y]) : ∃ g cap, v = .slice (some ⟨g, 0, none⟩) 2 cap ∧ w.cell? ⟨g, 7, none⟩ = some (.int .u8 y.k) ∧ w.cell? ⟨g, 8, none⟩ = some (.int .i64 0) ∧ w.cell? ⟨g, 9, none⟩ = some (.int .i64 y.h) ∧ w.cell? ⟨g, 10, none⟩ = some (.int .i64 y.p) ∧ w.cell? ⟨g, 11, none⟩ = some (.int .u8 y.o) ∧ w.cell? ⟨g, 12, none⟩ = some (.int .i64 0) ∧ w.cell? ⟨g, 13, none⟩ = some (.int .i64 y.n) := by
  obtain ⟨p, cap, e, -, -, h3⟩ := h.shape
  obtain ⟨g, rfl, -, -, hc⟩ := h3 (by decide : 0 < 2)
  exact ⟨g, cap, e, hc 1 (by decide : 1 < 2) 0 (by decide), hc 1 (by decide : 1 < 2) 1 (by decide), hc 1 (by decide : 1 < 2) 2 (by decide), hc 1 (by decide : 1 < 2) 3 (by decide), hc 1 (by decide : 1 < 2) 4 (by decide), hc 1 (by decide : 1 < 2) 5 (by decide), hc 1 (by decide : 1 < 2) 6 (by decide)⟩

def rdA : List Int := [233, 251, 255, 255, 255]
def rdB : List Int := [232, 251, 255, 255, 255]
theorem rdA_ev : (stpH 0 (itH 0 true none (st0 0 rdA) 4).h (itH 0 true none (st0 0 rdA) 4).xs true none).ev = [⟨1, 0, 4, 0, 1⟩] := by kernel_rfl
theorem rdB_st : (itH 0 true none (st0 0 rdB) 300).h.st = 2 := by kernel_rfl
theorem rdB_pc : (itH 0 true none (st0 0 rdB) 300).h.pc = 0 := by kernel_rfl
theorem rdB_S : (itH 0 true none (st0 0 rdB) 300).h.S.length = 64 := by kernel_rfl

set_option maxHeartbeats 4000000 in
set_option maxRecDepth 8000 in
theorem rounds_any (w : World) : Calls Tryz.prog 15 #[] w fun e w' => e = .returned (.bool true) ∧ Below w.heap.size w w' := by
  go_enter Tryz.func15, Tryz.ntmps15
  go_wp2_with (first
    | (refine wp_lit rfl 5 _ rfl rdA rfl (by decide) (by decide) rfl ?_; intro w1 g1 HO1 HB1)
    | (go_at_call 8; refine Hid.out ?_))
  refine Lib.hid ?_
  (with_reducible refine (new_ok (some ⟨g1, 0, none⟩) 5 5 rdA w1 rfl (by decide) HO1.out.row).mono ?_)
  rintro e w2 ⟨q, mg, rfl, hm2, hb2⟩
  have HM2 := Hid.in hm2
  have HB2 := Hid.in hb2
  have hH : Calls Tryz.prog 10 #[.int .i64 0, .int .u32 0] w2 _ := hnew_any 0 0 w2
  clear hm2 hb2 HO1
  go_wp2_with (go_at_call 10; refine Hid.out ?_)
  refine Lib.hid ?_
  (with_reducible refine hH.mono ?_)
  rintro e w3 ⟨h, l, b, rfl, hB3, hl3, h1, h2, h3, h4, hb3⟩
  have HK3 : Hid (HM w1 w3 (G3 h b mg) q mg h l b 0 (itH 0 true none (st0 0 rdA) 0).h (itH 0 true none (st0 0 rdA) 0).xs) := HM.new HM2.out HB2.out hB3 hl3 h1 h2 h3 h4 hb3
  clear hH hB3 hl3 h1 h2 h3 h4 hb3 HM2 HB2
  go_wp2_with fail
  go_loopw [4] (fun vi wr => ∃ j : Nat, vi = .int .i64 j ∧ j ≤ 4 ∧ HM w1 wr (G3 h b mg) q mg h l b 0 (itH 0 true none (st0 0 rdA) j).h (itH 0 true none (st0 0 rdA) j).xs) (fun vi _ => 4 - (intOf vi).toNat)
  case atStart => exact ⟨0, rfl, by omega, HK3.out⟩
  case round =>
    obtain ⟨j, rfl, hj, hk⟩ := hrel
    have HK := Hid.in hk
    clear hk
    by_cases hlt : j < 4
    · have hSt := HK.out.it (st0_ok 0 rdA (by decide) (by decide)) (by decide) (by omega)
      go_wp2_with (go_at_call 11; refine Hid.out ?_)
      refine Lib.hid ?_
      (with_reducible refine hSt.mono ?_)
      rintro e w5 ⟨vv, rfl, -, hk5, -⟩
      have HK5 := Hid.in hk5
      clear hSt hk5
      go_wp2_with fail
      go_roundw
      case rel => exact ⟨j + 1, by go_num, by omega, HK5.out⟩
      case measure => simp [intOf]; omega
    · obtain rfl : j = 4 := by omega
      have hSt := HK.out.it (st0_ok 0 rdA (by decide) (by decide)) (by decide) (by omega)
      rw [rdA_ev] at hSt
      clear HK HK3
      go_wp2_with (go_at_call 11; refine Hid.out ?_)
      refine Lib.hid ?_
      (with_reducible refine hSt.mono ?_)
      rintro e w5 ⟨vv, rfl, ho5, hk5, -⟩
      obtain ⟨g5, c5, rfl, k0, k1, k2, k3, k4, k5, k6⟩ := ho5.one7
      dsimp only at k0 k2 k3 k4 k6
      have HBa := Hid.in (below_step HB1.out hk5.bel)
      clear hSt ho5 hk5 HB1
      go_wp2_with (first
        | (refine wp_lit rfl 5 _ rfl rdB rfl (by decide) (by decide) rfl ?_; intro w6 g6 HO6 HB6)
        | (go_at_call 8; refine Hid.out ?_))
      refine Lib.hid ?_
      (with_reducible refine (new_ok (some ⟨g6, 0, none⟩) 5 5 rdB w6 rfl (by decide) HO6.out.row).mono ?_)
      rintro e w7 ⟨q', mg', rfl, hm7, hb7⟩
      have HM7 := Hid.in hm7
      have HB7 := Hid.in hb7
      have HBb := Hid.in (below_step HBa.out HB6.out)
      have hH : Calls Tryz.prog 10 #[.int .i64 0, .int .u32 0] w7 _ := hnew_any 0 0 w7
      clear hm7 hb7 HO6 HB6 HBa k0 k1 k2 k3 k4 k5 k6
      go_wp2_with (go_at_call 10; refine Hid.out ?_)
      refine Lib.hid ?_
      (with_reducible refine hH.mono ?_)
      rintro e w8 ⟨h', l', b', rfl, hB3, hl3, h1, h2, h3, h4, hb3⟩
      have HK8 : Hid (HM w6 w8 (G3 h' b' mg') q' mg' h' l' b' 0 (itH 0 true none (st0 0 rdB) 0).h (itH 0 true none (st0 0 rdB) 0).xs) := HM.new HM7.out HB7.out hB3 hl3 h1 h2 h3 h4 hb3
      clear hH hB3 hl3 h1 h2 h3 h4 hb3 HM7 HB7
      go_wp2_with fail
      go_loopw [7] (fun vi wr => ∃ j : Nat, vi = .int .i64 j ∧ j ≤ 300 ∧ HM w6 wr (G3 h' b' mg') q' mg' h' l' b' 0 (itH 0 true none (st0 0 rdB) j).h (itH 0 true none (st0 0 rdB) j).xs) (fun vi _ => 300 - (intOf vi).toNat)
      case atStart => exact ⟨0, rfl, by omega, HK8.out⟩
      case round =>
        obtain ⟨j, rfl, hj, hk⟩ := hrel
        have HK := Hid.in hk
        clear hk
        by_cases hlt : j < 300
        · have hSt := HK.out.it (st0_ok 0 rdB (by decide) (by decide)) (by decide) (by omega)
          go_wp2_with (go_at_call 11; refine Hid.out ?_)
          refine Lib.hid ?_
          (with_reducible refine hSt.mono ?_)
          rintro e w5 ⟨vv, rfl, -, hk5, -⟩
          have HK5 := Hid.in hk5
          clear hSt hk5
          go_wp2_with fail
          go_roundw
          case rel => exact ⟨j + 1, by go_num, by omega, HK5.out⟩
          case measure => simp [intOf]; omega
        · obtain rfl : j = 300 := by omega
          have hst := itH_ok (id := 0) (hold := true) (st0_ok 0 rdB (by decide) (by decide)) (tr := none) (fun z e => by cases e) 300
          have hS := hstate_any _ h' l' b' _ 0 _ wr HK.out.hat (hst.h.more (by decide))
          have HE := Hid.in (And.intro rdB_st (And.intro rdB_pc rdB_S))
          generalize (itH 0 true none (st0 0 rdB) 300).h = H5 at *
          have HBe := Hid.in HK.out.bel
          clear hst HK
          go_wp2_with (go_at_call 14; refine Hid.out ?_)
          refine Lib.hid ?_
          (with_reducible refine hS.mono ?_)
          rintro e w9 ⟨V, rfl, ⟨vS, vH, vL, rfl, hvS, hvH, hvL⟩, hb9⟩
          obtain ⟨pS, cS, rfl, -, -⟩ := hvS.slice
          obtain ⟨pH, cH, rfl, -, -⟩ := hvH.slice
          obtain ⟨pL, cL, rfl, -⟩ := hvL.shape
          rw [HE.out.1, HE.out.2.1, HE.out.2.2]
          simp only [stA]
          have HB9 := Hid.in (below_step HBb.out (below_step HBe.out hb9))
          clear hS hb9 hvS hvH hvL
          go_wp2_with fail
          go_ret
          exact ⟨rfl, below_alloc HB9.out _⟩

end Go.Proofs.YtnpaijbkhmnfpaaGreat
