/- Texts put together: HrtL, HrtC, HrtD, HrtE, HrtP, HrtQ, HrtR, HrtF. -/
import Derived.Test.YtnpaijbkhmnfpaaGreatGi
import Derived.Test.YtnpaijbkhmnfpaaGreatGc
import Derived.Test.YtnpaijbkhmnfpaaGreatGd
import Derived.Test.YtnpaijbkhmnfpaaGreatGj
import Derived.Deep.DeepCutAuto
import Derived.Test.YtnpaijbkhmnfpaaGreatGh
import Derived.Deep.RegionHeld3

/- What a hart does in a step, as lists: P15.2. -/
namespace Go.Proofs.YtnpaijbkhmnfpaaGreat
open Go.RowKit Go.Maps

/-- all of a hart -/
structure Hs where
  st : Int
  pc : Nat
  R : List Int
  S : List Int
  hv : List Int
  L : List Ln

/-- what a load or store is handed -/
def dataL (xs : List Int) (o : Nat) (n : Int) : List Int := if o = 14 ∨ o = 15 then (xs.drop n.toNat).take 4 else []
/-- what an instruction's effect tells -/
def evX (id : Int) (pc : Nat) (o : Nat) (E : Eff) : List Ev :=
  [⟨2, id, pc, o, E.nx⟩] ++ (if E.ou = true then [⟨5, id, 0, 0, E.va⟩] else []) ++ (if E.st = true then [⟨6, id, E.at_, 0, E.va⟩] else []) ++ (if E.ht = true then [⟨12, id, pc, 0, 0⟩] else [])
/-- what a step leaves: the hart, memory's bytes, the events -/
structure St where
  h : Hs
  xs : List Int
  ev : List Ev
def fltH (id : Int) (h : Hs) (xs : List Int) (e : Int) : St := ⟨{ h with st := 2 }, xs, [⟨4, id, h.pc, 0, e⟩]⟩
def movH (id : Int) (h : Hs) (xs : List Int) (s : Fs) : St :=
  if s.e = 0 then ⟨{ h with hv := s.out, L := s.L }, xs, [⟨1, id, ((h.pc + h.hv.length : Nat) : Int), 0, if s.is = true then 1 else 0⟩]⟩ else fltH id h xs s.e
def folH (id : Int) (h : Hs) (xs : List Int) : Option Nat → St
  | none => fltH id h xs 120
  | some z => ⟨{ h with pc := z }, xs, [⟨3, id, h.pc, 0, z⟩]⟩
def exeH (id : Int) (h : Hs) (xs : List Int) (o : Nat) (r : List Int × List Int × Eff) : St :=
  if r.2.2.fl = 0 then ⟨⟨if r.2.2.ht = true then 1 else h.st, r.2.2.nx.toNat, r.1, r.2.1, h.hv, h.L⟩, if r.2.2.st = true then putA xs r.2.2.at_.toNat (le4 r.2.2.va) else xs, evX id h.pc o r.2.2⟩ else fltH id h xs r.2.2.fl
/-- what is done with an instruction -/
def insH (id : Int) (h : Hs) (xs : List Int) (tr : Option Nat) (d : Dec) : St :=
  if d.e = 0 then (if d.o = 4 then folH id h xs tr else exeH id h xs d.o.toNat (doL d.o.toNat d.a.toNat d.b.toNat d.n h.pc h.R h.S (dataL xs d.o.toNat d.n))) else fltH id h xs 120
def nilH (h : Hs) : Hs := { h with hv := [] }
/-- a step -/
def stpH (id : Int) (h : Hs) (xs : List Int) (hold : Bool) (tr : Option Nat) : St :=
  if h.st = 0 then (if doneB h.hv = true then insH id (nilH h) xs tr (dec h.hv) else movH id h xs (stpR h.L xs h.pc h.hv hold)) else ⟨h, xs, []⟩

/-- a hart that may be: at most k granules -/
structure HsOk (k : Nat) (h : Hs) : Prop where
  pc : h.pc ≤ 4294967295
  lR : h.R.length = 8
  wR : Wds h.R
  wS : Wds h.S
  lS : h.S.length ≤ 64
  bH : Byt h.hv
  lH : h.hv.length ≤ 6
  wL : LnW h.L
  lL : h.L.length ≤ k
theorem HsOk.more {k k' : Nat} {h : Hs} (hk : HsOk k h) (h1 : k ≤ k') : HsOk k' h := ⟨hk.pc, hk.lR, hk.wR, hk.wS, hk.lS, hk.bH, hk.lH, hk.wL, Nat.le_trans hk.lL h1⟩
theorem HsOk.nil {k : Nat} {h : Hs} (hk : HsOk k h) : HsOk k (nilH h) := ⟨hk.pc, hk.lR, hk.wR, hk.wS, hk.lS, byt_nil, Nat.zero_le _, hk.wL, hk.lL⟩

end Go.Proofs.YtnpaijbkhmnfpaaGreat

/- What an instruction tells: done. -/
namespace Go.Proofs.YtnpaijbkhmnfpaaGreat
open Go.RowKit Go.Maps

/-- done's variables -/
structure DnS (w : World) (gx : Nat) (h : Nat) (id : Int) (pc : Nat) (E : Eff) (L : List Ev) (v : Value) (wx : World) : Prop where
  bel : Below w.heap.size w wx
  bx : Blk wx gx 134 (effA E)
  c0 : wx.cell? ⟨h, 0, none⟩ = some (.int .i64 id)
  c2 : wx.cell? ⟨h, 2, none⟩ = some (.int .u32 pc)
  ow : EOwn 41 wx w.heap.size v L
  len : L.length ≤ 8
theorem DnS.below {w wx wy : World} {gx h pc : Nat} {id : Int} {E : Eff} {L : List Ev} {v : Value} (k : DnS w gx h id pc E L v wx) (hb : Below wx.heap.size wx wy) : DnS w gx h id pc E L v wy :=
  ⟨below_step k.bel hb, k.bx.grow hb, by rw [hb.cell (p := ⟨h, 0, none⟩) (cell_lt k.c0)]; exact k.c0, by rw [hb.cell (p := ⟨h, 2, none⟩) (cell_lt k.c2)]; exact k.c2, k.ow.below hb, k.len⟩

theorem ifF (l x : List Ev) : (l ++ if false = true then x else []) = l := by simp
theorem cell_other {w : World} {g h i j : Nat} {v : Value} (hne : g ≠ h) : (w.setCell ⟨g, i, none⟩ v).cell? ⟨h, j, none⟩ = w.cell? ⟨h, j, none⟩ :=
  World.cell?_setCell_other _ _ _ _ (by intro e; injection e with e; exact hne e)
theorem EOwn.ownNe {w : World} {B g : Nat} {v : Value} {L : List Ev} {T T' : TypeId} {E : Array Value} (h : EOwn T w B v L) (hb : Blk w g T' E) (hT : T ≠ T') : some g ≠ v.ownBlock := by
  rcases h.2 with ⟨e1, e2⟩ | ⟨g', cap, cur, e1, e2, e3, e4⟩
  · rw [e1]; intro e; cases e
  · rw [e1]
    intro e
    have e' : some g = some g' := e
    injection e' with e'
    rw [← e', show w.heap[g]? = _ from hb] at e3
    injection e3 with e3
    injection e3 with _ e3 _
    exact hT e3.symm
theorem EOwn.ownGe {w : World} {B : Nat} {v : Value} {L : List Ev} {T : TypeId} (h : EOwn T w B v L) {k : Nat} (hk : v.ownBlock = some k) : B ≤ k := by
  rcases h.2 with ⟨e1, e2⟩ | ⟨g', cap, cur, e1, e2, e3, e4⟩
  · rw [e1] at hk; cases hk
  · rw [e1] at hk
    have e' : some g' = some k := hk
    injection e' with e'
    omega
theorem DnS.pushed {w wx w' : World} {gx h pc : Nat} {id : Int} {E : Eff} {L : List Ev} {v v' : Value} {q : Ev} {ob : Obj} (k : DnS w gx h id pc E L v wx) (hh : h < w.heap.size) (ho : EOwn 41 w' w.heap.size v' (L ++ [q])) (hg : (wx.alloc ob).grownBy w' v.ownBlock) (hb : Below w.heap.size w w') (hl : L.length ≤ 7) :
    DnS w gx h id pc E (L ++ [q]) v' w' := by
  have k1 := k.below (new_alloc wx ob)
  have hc : ∀ j u, (wx.alloc ob).cell? ⟨h, j, none⟩ = some u → w'.cell? ⟨h, j, none⟩ = some u := fun j u hu => by
    have := hg.block h (cell_lt hu) (fun e => by have := k1.ow.ownGe e.symm; omega)
    unfold World.cell? at hu ⊢
    dsimp only at hu ⊢
    rw [this]; exact hu
  exact ⟨hb, k1.bx.kept hg (k1.ow.ownNe k1.bx (by decide)), hc _ _ k1.c0, hc _ _ k1.c2, ho, by rw [List.length_append]; simp; omega⟩

set_option maxHeartbeats 4000000 in
set_option maxRecDepth 8000 in
theorem hdone_any (h pc o : Nat) (id : Int) (E : Eff) (w : World) (h0 : w.cell? ⟨h, 0, none⟩ = some (.int .i64 id)) (h2 : w.cell? ⟨h, 2, none⟩ = some (.int .u32 pc)) (hpc : pc ≤ 4294967295) (hnx : 0 ≤ E.nx ∧ E.nx ≤ 4294967295) (hat : 0 ≤ E.at_ ∧ E.at_ ≤ 4294967295) (hva : 0 ≤ E.va ∧ E.va ≤ 4294967295) :
    Calls Tryz.prog 83 #[.pointer (some ⟨h, 0, none⟩), .int .u8 o, .agg (effA E)] w fun e w' => ∃ v, e = .returned v ∧ EOwn 41 w' w.heap.size v (evX id pc o E) ∧ Below w.heap.size w w' := by
  obtain ⟨nx, ht, fl, ou, st, at_, va⟩ := E
  have HB1 := Hid.in (Blk.new w 134 (effA ⟨nx, ht, fl, ou, st, at_, va⟩))
  have HN1 := Hid.in (new_alloc w (.cells (effA ⟨nx, ht, fl, ou, st, at_, va⟩) 134))
  have HH0 : Hid (h < w.heap.size) := cell_lt h0
  have hz := size_one w (.cells (effA ⟨nx, ht, fl, ou, st, at_, va⟩) 134)
  dsimp only at hnx hat hva
  simp only [effA] at HB1 HN1 hz ⊢
  go_enter Tryz.func83, Tryz.ntmps83
  go_upto_region 1 with fail
  generalize w.alloc (.cells #[.int .u32 nx, .bool ht, .int .i64 fl, .bool ou, .bool st, .int .u32 at_, .int .u32 va] 134) = w1 at *
  have c0 : w1.cell? ⟨h, 0, none⟩ = some (.int .i64 id) := by rw [HN1.out.cell (p := ⟨h, 0, none⟩) (cell_lt h0)]; exact h0
  have c2 : w1.cell? ⟨h, 2, none⟩ = some (.int .u32 pc) := by rw [HN1.out.cell (p := ⟨h, 2, none⟩) (cell_lt h2)]; exact h2
  have x0 : w1.cell? ⟨w.heap.size, 0, none⟩ = some (.int .u32 nx) := HB1.out.cell 0
  have HE := fun W (hc : W.cell? ⟨h, 0, none⟩ = some (.int .i64 id)) => event_any h id 2 pc nx W hc (by omega) hnx
  have HG := Hid.in (Nat.lt_of_lt_of_eq (Nat.lt_succ_self w.heap.size) hz.symm)
  clear hz
  go_cut [7] (fun v7 wx => ∃ g, v7 = .pointer (some ⟨g, 0, none⟩) ∧ Blk wx g 41 (evA ⟨2, id, pc, 0, nx⟩) ∧ Below w1.heap.size w1 wx ∧ w1.heap.size ≤ g)
  case first =>
    have k0 : w1.drew.cell? ⟨h, 0, none⟩ = some (.int .i64 id) := c0
    have ka : (w1.alloc (.cells zEv 41)).drew.cell? ⟨h, 0, none⟩ = some (.int .i64 id) := by
      show (w1.alloc (.cells zEv 41)).cell? _ = _
      rw [(new_alloc w1 _).cell (p := ⟨h, 0, none⟩) (cell_lt c0)]; exact c0
    have HEa := HE _ k0
    have HEb := HE _ ka
    have HZ := Hid.in (Blk.new w1 41 zEv)
    have HNz := Hid.in (new_alloc w1 (.cells zEv 41))
    have hne1 : ¬ h = w1.heap.size := fun e => by have := cell_lt c2; omega
    have hne2 : ¬ w.heap.size = w1.heap.size := fun e => by have := cell_lt x0; omega
    have hne3 : ¬ w1.heap.size = h := fun e => hne1 e.symm
    have hne4 : ¬ w1.heap.size = w.heap.size := fun e => hne2 e.symm
    clear HE k0 ka
    simp only [evA] at HEa HEb
    go_region_held3 (fun W => W.cell? ⟨h, 2, none⟩ = some (.int .u32 pc) ∧ W.cell? ⟨w.heap.size, 0, none⟩ = some (.int .u32 nx)) (first | (with_reducible exact hk1) | go_keep)
      (first
        | (go_at_call 80; (with_reducible refine HEa.mono ?_); rintro e w2 ⟨rfl, hb2⟩; have HBa := Hid.in (below_step (below_draws (below_self w1) 1) hb2); have hk1 : w2.cell? ⟨h, 2, none⟩ = some (.int .u32 pc) ∧ w2.cell? ⟨w.heap.size, 0, none⟩ = some (.int .u32 nx) := ⟨(HBa.out.cell (p := ⟨h, 2, none⟩) (cell_lt c2)).trans c2, (HBa.out.cell (p := ⟨w.heap.size, 0, none⟩) (cell_lt x0)).trans x0⟩; clear hb2)
        | (go_at_call 80; (with_reducible refine HEb.mono ?_); rintro e w2 ⟨rfl, hb2⟩; have HBb := Hid.in (below_step (below_draws HNz.out 1) hb2); have HZb : Hid (Blk w2 w1.heap.size 41 zEv) := HZ.out.grow (below_step (below_draws (below_self _) 1) hb2); have hk1 : w2.cell? ⟨h, 2, none⟩ = some (.int .u32 pc) ∧ w2.cell? ⟨w.heap.size, 0, none⟩ = some (.int .u32 nx) := ⟨(HBb.out.cell (p := ⟨h, 2, none⟩) (cell_lt c2)).trans c2, (HBb.out.cell (p := ⟨w.heap.size, 0, none⟩) (cell_lt x0)).trans x0⟩; have y0 : w2.cell? ⟨w1.heap.size, 0, none⟩ = some (.int .u8 0) := HZb.out.cell 0; have y1 : w2.cell? ⟨w1.heap.size, 1, none⟩ = some (.int .i64 0) := HZb.out.cell 1; have y2 : w2.cell? ⟨w1.heap.size, 2, none⟩ = some (.int .i64 0) := HZb.out.cell 2; have y3 : w2.cell? ⟨w1.heap.size, 3, none⟩ = some (.int .i64 0) := HZb.out.cell 3; have y4 : w2.cell? ⟨w1.heap.size, 4, none⟩ = some (.int .u8 0) := HZb.out.cell 4; have y5 : w2.cell? ⟨w1.heap.size, 5, none⟩ = some (.int .i64 0) := HZb.out.cell 5; have y6 : w2.cell? ⟨w1.heap.size, 6, none⟩ = some (.int .i64 0) := HZb.out.cell 6; have yf : ∀ i, w2.frozen? ⟨w1.heap.size, i, none⟩ = false := fun i => HZb.out.free i; clear hb2))
    · go_wp2_with fail
      go_meet
      case rel => exact ⟨_, rfl, Blk.new w2 41 _, below_alloc HBa.out _, HBa.out.size⟩
    · go_wp2_with fail
      go_meet
      case rel => exact ⟨_, rfl, HZb.out.setAll (evA ⟨2, id, pc, 0, nx⟩) rfl, HBb.out.grown (grown_setCells w1.heap.size (evA ⟨2, id, pc, 0, nx⟩).toList 0 w2) HBb.out.size (fun k hk => by cases hk; exact Nat.le_refl _), Nat.le_refl _⟩
  case rest =>
    obtain ⟨g, rfl, hbg, hbc, hg1⟩ := hcut
    have HX2 := Hid.in (HB1.out.grow hbc)
    have HC0 : Hid (wc.cell? ⟨h, 0, none⟩ = some (.int .i64 id)) := (hbc.cell (p := ⟨h, 0, none⟩) (cell_lt c0)).trans c0
    have HC2 : Hid (wc.cell? ⟨h, 2, none⟩ = some (.int .u32 pc)) := (hbc.cell (p := ⟨h, 2, none⟩) (cell_lt c2)).trans c2
    have HL : Hid (h < w1.heap.size) := cell_lt c0
    have HBg := Hid.in hbg
    have HBw := Hid.in (below_step HN1.out hbc)
    have HLg := Hid.in hg1
    have f4 : wc.frozen? ⟨g, 4, none⟩ = false := hbg.free 4
    have y4 : wc.cell? ⟨g, 4, none⟩ = some (.int .u8 0) := hbg.cell 4
    have HBg2 : Hid (Blk (wc.setCell ⟨g, 4, none⟩ (.int .u8 o)) g 41 (evA ⟨2, id, pc, o, nx⟩)) := hbg.set 4 (.int .u8 o)
    have HGg := Hid.in (grown_setCell wc g 4 (.int .u8 o))
    clear HE HN1 HB1 c0 c2 x0 hbg hbc hg1 h0 h2
    go_upto_region 3 with fail
    have HX3 := Hid.in (HX2.out.kept HGg.out (by intro e; injection e with e; have := HG.out; have := HLg.out; omega))
    have hd0 : (wc.setCell ⟨g, 4, none⟩ (.int .u8 o)).cell? ⟨h, 0, none⟩ = some (.int .i64 id) := by rw [cell_other (by have := HL.out; have := HLg.out; omega)]; exact HC0.out
    have hd2 : (wc.setCell ⟨g, 4, none⟩ (.int .u8 o)).cell? ⟨h, 2, none⟩ = some (.int .u32 pc) := by rw [cell_other (by have := HL.out; have := HLg.out; omega)]; exact HC2.out
    have HB3 := Hid.in (HBw.out.grown HGg.out HBw.out.size (fun k hk => by cases hk; have := HG.out; have := HLg.out; omega))
    clear HX2 HC0 HC2 HBg HGg f4 y4 HBw
    generalize wc.setCell ⟨g, 4, none⟩ (.int .u8 o) = w3 at *
    have y0 : w3.cell? ⟨g, 0, none⟩ = some (.int .u8 2) := HBg2.out.cell 0
    have y1 : w3.cell? ⟨g, 1, none⟩ = some (.int .i64 0) := HBg2.out.cell 1
    have y2 : w3.cell? ⟨g, 2, none⟩ = some (.int .i64 id) := HBg2.out.cell 2
    have y3 : w3.cell? ⟨g, 3, none⟩ = some (.int .i64 pc) := HBg2.out.cell 3
    have y4 : w3.cell? ⟨g, 4, none⟩ = some (.int .u8 o) := HBg2.out.cell 4
    have y5 : w3.cell? ⟨g, 5, none⟩ = some (.int .i64 0) := HBg2.out.cell 5
    have y6 : w3.cell? ⟨g, 6, none⟩ = some (.int .i64 nx) := HBg2.out.cell 6
    have HS : Hid (DnS w w.heap.size h id pc ⟨nx, ht, fl, ou, st, at_, va⟩ [⟨2, id, pc, o, nx⟩] (.slice (some ⟨w3.heap.size, 0, none⟩) 1 1) (w3.alloc (.cells (evA ⟨2, id, pc, o, nx⟩) 41))) :=
      ⟨below_alloc HB3.out _, HX3.out.grow (new_alloc _ _), by rw [(new_alloc w3 _).cell (p := ⟨h, 0, none⟩) (cell_lt hd0)]; exact hd0, by rw [(new_alloc w3 _).cell (p := ⟨h, 2, none⟩) (cell_lt hd2)]; exact hd2, (EOwn.one w3 _).lower HB3.out.size, by simp⟩
    clear HX3 hd0 hd2 HB3 HBg2
    simp only [evA] at HS
    have HH : Hid (h < w.heap.size) := HH0.out
    go_upto_region 4 with fail
    generalize w3.heap.size = g3 at *
    generalize w3.alloc (.cells #[.int .u8 2, .int .i64 0, .int .i64 id, .int .i64 pc, .int .u8 o, .int .i64 0, .int .i64 nx] 41) = w4 at *
    clear y0 y1 y2 y3 y4 y5 y6
    have HLN : Hid (([⟨2, id, pc, o, nx⟩] : List Ev).length ≤ 1048576) := by show _ ≤ _; have := HS.out.len; omega
    have HLM : Hid (([⟨2, id, pc, o, nx⟩] : List Ev).length ≤ 7) := by show _ ≤ _; simp
    have q3 : w4.cell? ⟨w.heap.size, 3, none⟩ = some (.bool ou) := HS.out.bx.cell 3
    have q5 : w4.cell? ⟨w.heap.size, 5, none⟩ = some (.int .u32 at_) := HS.out.bx.cell 5
    have q6 : w4.cell? ⟨w.heap.size, 6, none⟩ = some (.int .u32 va) := HS.out.bx.cell 6
    have qp : w4.cell? ⟨h, 2, none⟩ = some (.int .u32 pc) := HS.out.c2
    have hE := event_any h id 5 0 va w4 HS.out.c0 (by omega) (by omega)
    go_upto_if 22 with fail
    go_cut [8] (fun v8 wx => DnS w w.heap.size h id pc ⟨nx, ht, fl, ou, st, at_, va⟩ ([⟨2, id, pc, o, nx⟩] ++ if ou = true then [⟨5, id, 0, 0, va⟩] else []) v8 wx)
    case first =>
      cases ou
      · go_wp2_with fail
        go_meet
        case rel => first | exact HS.out | (rw [ifF]; exact HS.out)
      · go_wp2_with (go_at_call 80; refine Hid.out ?_)
        refine Lib.hid ?_
        (with_reducible refine hE.mono ?_)
        rintro e w5 ⟨rfl, hb5⟩
        have HS5 := Hid.in (HS.out.below hb5)
        have hsz := HS5.out.bel.size
        have hnews := news7 w5 ⟨5, id, 0, 0, va⟩ 41
        clear hE hb5
        simp only [evA] at hnews ⊢
        go_wp2_with (at_builtin; refine epush Tryz.elemEv _ rfl _ _ rfl w.heap.size _ ([⟨2, id, pc, o, nx⟩]) rfl (HS5.out.ow.alloc _) ⟨w5.heap.size, 0, none⟩ 1 ⟨5, id, 0, 0, va⟩ rfl hnews HLN.out (by decide) (by rw [size_one]; omega) ?_; intro v6 w6 hT6 hg6 hb6; have HS6 := Hid.in (HS5.out.pushed HH.out hT6 hg6 (hb6 w (below_alloc HS5.out.bel _)) HLM.out); clear hT6 hg6 hb6)
        go_meet
        case rel => exact HS6.out
    case rest =>
      have HS := Hid.in hcut
      clear hcut HLN HLM hE q3 q5 q6 qp
      have HLN : Hid ((([⟨2, id, pc, o, nx⟩] ++ if ou = true then [⟨5, id, 0, 0, va⟩] else []) : List Ev).length ≤ 1048576) := by show _ ≤ _; have := HS.out.len; omega
      have HLM : Hid ((([⟨2, id, pc, o, nx⟩] ++ if ou = true then [⟨5, id, 0, 0, va⟩] else []) : List Ev).length ≤ 7) := by show _ ≤ _; split <;> simp
      have q4 : wc.cell? ⟨w.heap.size, 4, none⟩ = some (.bool st) := HS.out.bx.cell 4
      have q5 : wc.cell? ⟨w.heap.size, 5, none⟩ = some (.int .u32 at_) := HS.out.bx.cell 5
      have q6 : wc.cell? ⟨w.heap.size, 6, none⟩ = some (.int .u32 va) := HS.out.bx.cell 6
      have qp : wc.cell? ⟨h, 2, none⟩ = some (.int .u32 pc) := HS.out.c2
      have hE := event_any h id 6 at_ va wc HS.out.c0 (by omega) (by omega)
      go_upto_if 31 with fail
      go_cut [8] (fun v8 wx => DnS w w.heap.size h id pc ⟨nx, ht, fl, ou, st, at_, va⟩ (([⟨2, id, pc, o, nx⟩] ++ if ou = true then [⟨5, id, 0, 0, va⟩] else []) ++ if st = true then [⟨6, id, at_, 0, va⟩] else []) v8 wx)
      case first =>
        cases st
        · go_wp2_with fail
          go_meet
          case rel => first | exact HS.out | (rw [ifF]; exact HS.out)
        · go_wp2_with (go_at_call 80; refine Hid.out ?_)
          refine Lib.hid ?_
          (with_reducible refine hE.mono ?_)
          rintro e w5 ⟨rfl, hb5⟩
          have HS5 := Hid.in (HS.out.below hb5)
          have hsz := HS5.out.bel.size
          have hnews := news7 w5 ⟨6, id, at_, 0, va⟩ 41
          clear hE hb5
          simp only [evA] at hnews ⊢
          go_wp2_with (at_builtin; refine epush Tryz.elemEv _ rfl _ _ rfl w.heap.size _ (([⟨2, id, pc, o, nx⟩] ++ if ou = true then [⟨5, id, 0, 0, va⟩] else [])) rfl (HS5.out.ow.alloc _) ⟨w5.heap.size, 0, none⟩ 1 ⟨6, id, at_, 0, va⟩ rfl hnews HLN.out (by decide) (by rw [size_one]; omega) ?_; intro v6 w6 hT6 hg6 hb6; have HS6 := Hid.in (HS5.out.pushed HH.out hT6 hg6 (hb6 w (below_alloc HS5.out.bel _)) HLM.out); clear hT6 hg6 hb6)
          go_meet
          case rel => exact HS6.out
      case rest =>
        have HS := Hid.in hcut
        clear hcut HLN HLM hE q4 q5 q6 qp
        have HLN : Hid (((([⟨2, id, pc, o, nx⟩] ++ if ou = true then [⟨5, id, 0, 0, va⟩] else []) ++ if st = true then [⟨6, id, at_, 0, va⟩] else []) : List Ev).length ≤ 1048576) := by show _ ≤ _; have := HS.out.len; omega
        have HLM : Hid (((([⟨2, id, pc, o, nx⟩] ++ if ou = true then [⟨5, id, 0, 0, va⟩] else []) ++ if st = true then [⟨6, id, at_, 0, va⟩] else []) : List Ev).length ≤ 7) := by show _ ≤ _; split <;> split <;> simp
        have q1 : wc.cell? ⟨w.heap.size, 1, none⟩ = some (.bool ht) := HS.out.bx.cell 1
        have q5 : wc.cell? ⟨w.heap.size, 5, none⟩ = some (.int .u32 at_) := HS.out.bx.cell 5
        have q6 : wc.cell? ⟨w.heap.size, 6, none⟩ = some (.int .u32 va) := HS.out.bx.cell 6
        have qp : wc.cell? ⟨h, 2, none⟩ = some (.int .u32 pc) := HS.out.c2
        have hE := event_any h id 12 pc 0 wc HS.out.c0 (by omega) (by omega)
        go_upto_if 42 with fail
        go_cut [8] (fun v8 wx => DnS w w.heap.size h id pc ⟨nx, ht, fl, ou, st, at_, va⟩ ((([⟨2, id, pc, o, nx⟩] ++ if ou = true then [⟨5, id, 0, 0, va⟩] else []) ++ if st = true then [⟨6, id, at_, 0, va⟩] else []) ++ if ht = true then [⟨12, id, pc, 0, 0⟩] else []) v8 wx)
        case first =>
          cases ht
          · go_wp2_with fail
            go_meet
            case rel => first | exact HS.out | (rw [ifF]; exact HS.out)
          · go_wp2_with (go_at_call 80; refine Hid.out ?_)
            refine Lib.hid ?_
            (with_reducible refine hE.mono ?_)
            rintro e w5 ⟨rfl, hb5⟩
            have HS5 := Hid.in (HS.out.below hb5)
            have hsz := HS5.out.bel.size
            have hnews := news7 w5 ⟨12, id, pc, 0, 0⟩ 41
            clear hE hb5
            simp only [evA] at hnews ⊢
            go_wp2_with (at_builtin; refine epush Tryz.elemEv _ rfl _ _ rfl w.heap.size _ ((([⟨2, id, pc, o, nx⟩] ++ if ou = true then [⟨5, id, 0, 0, va⟩] else []) ++ if st = true then [⟨6, id, at_, 0, va⟩] else [])) rfl (HS5.out.ow.alloc _) ⟨w5.heap.size, 0, none⟩ 1 ⟨12, id, pc, 0, 0⟩ rfl hnews HLN.out (by decide) (by rw [size_one]; omega) ?_; intro v6 w6 hT6 hg6 hb6; have HS6 := Hid.in (HS5.out.pushed HH.out hT6 hg6 (hb6 w (below_alloc HS5.out.bel _)) HLM.out); clear hT6 hg6 hb6)
            go_meet
            case rel => exact HS6.out
        case rest =>
          have HS := Hid.in hcut
          clear hcut HLN HLM hE q1 q5 q6 qp
          go_wp2_with fail
          go_ret
          exact ⟨_, rfl, HS.out.ow, HS.out.bel⟩

end Go.Proofs.YtnpaijbkhmnfpaaGreat

/- What a load or store is handed; what a store writes. -/
namespace Go.Proofs.YtnpaijbkhmnfpaaGreat
open Go.RowKit Go.Maps

set_option maxHeartbeats 800000 in
theorem hdata_no (q : Nat) (o a b n : Int) (w : World) (h1 : o ≠ 14) (h2 : o ≠ 15) :
    Calls Tryz.prog 82 #[.pointer (some ⟨q, 0, none⟩), ins o a b n] w fun e w' => e = .returned (.slice none 0 0) ∧ Below w.heap.size w w' := by
  have g1 : (o != 14) = true := by simpa using h1
  have g2 : (o != 15) = true := by simpa using h2
  go_enter Tryz.func82, Tryz.ntmps82
  go_wp2
  go_ret
  exact ⟨rfl, new_alloc w _⟩

set_option maxHeartbeats 1600000 in
theorem hdata_yes (q g B n : Nat) (o a b : Int) (xs : List Int) (w : World) (hm : Mem w B q g xs) (hl : xs.length ≤ 65536) (ho : o = 14 ∨ o = 15) (hn : n ≤ 2147483647) :
    Calls Tryz.prog 82 #[.pointer (some ⟨q, 0, none⟩), ins o a b n] w fun e w' => ∃ v, e = .returned v ∧ OwnV w' w.heap.size v ((xs.drop n).take 4) ∧ Below w.heap.size w w' := by
  have HN := Hid.in (new_alloc w (.cells #[.int .u8 o, .int .u8 a, .int .u8 b, .int .i32 n] 117))
  have hm1 := hm.below HN.out
  clear hm
  have e1 : (n : Int) % 18446744073709551616 = n := by omega
  have g12 : (o != 14) = true ∧ (o != 15) = false ∨ (o != 14) = false := by
    rcases ho with rfl | rfl
    · exact .inr rfl
    · exact .inl ⟨rfl, rfl⟩
  clear ho
  have HLn := len_any q g B xs _ hm1
  have hr4 : ∃ r : Nat, r = min 4 (xs.length - n) := ⟨_, rfl⟩
  obtain ⟨r, hr⟩ := hr4
  have hmx : max 0 ((xs.length : Int) - n) = ((xs.length - n : Nat) : Int) := by omega
  by_cases hin : n ≤ xs.length
  · have hR : Calls Tryz.prog 69 #[.pointer (some ⟨q, 0, none⟩), .int .i64 n, .int .i64 r] (w.alloc (.cells #[.int .u8 o, .int .u8 a, .int .u8 b, .int .i32 n] 117)) _ := read_ok q g B n r xs _ hm1 (by omega) hl
    have HE : Hid ((xs.drop n).take r = (xs.drop n).take 4) := by
      show _ = _
      by_cases h4 : 4 ≤ xs.length - n
      · rw [hr, Nat.min_eq_left h4]
      · rw [List.take_of_length_le (i := 4) (by rw [List.length_drop]; omega), List.take_of_length_le (by rw [List.length_drop]; omega)]
    have hmn : min 4 (max 0 ((xs.length : Int) - n)) = (r : Int) := by omega
    have HL4 : Hid (((xs.drop n).take 4).length = r) := by show _ = _; rw [List.length_take, List.length_drop]; omega
    clear hm1 hr hmx
    rcases g12 with ⟨g1, g2⟩ | g1
    all_goals
      go_enter Tryz.func82, Tryz.ntmps82
      go_upto_region 4 with fail
      generalize w.alloc (.cells #[.int .u8 o, .int .u8 a, .int .u8 b, .int .i32 n] 117) = w1 at *
      go_wp2_with (first
        | (go_at_call 110; (with_reducible refine HLn.mono ?_); rintro e w2 ⟨rfl, rfl⟩)
        | (go_at_call 69; refine Hid.out ?_))
      refine Lib.hid ?_
      (with_reducible refine hR.mono ?_)
      rintro e w3 ⟨k, rfl, ho3, hb3⟩
      have HO3 := Hid.in (ho3.lower HN.out.size)
      have HB3 := Hid.in (below_step HN.out hb3)
      clear ho3 hb3 hR HLn
      go_wp2_with fail
      go_ret
      refine ⟨_, rfl, ?_, HB3.out⟩
      have := HO3.out
      rw [HE.out] at this
      have := this.val
      rwa [HL4.out] at this
  · have hR : Calls Tryz.prog 69 #[.pointer (some ⟨q, 0, none⟩), .int .i64 n, .int .i64 0] (w.alloc (.cells #[.int .u8 o, .int .u8 a, .int .u8 b, .int .i32 n] 117)) _ := read_out q g B n 0 xs _ hm1 (by omega) (by omega) (by omega)
    have HE : Hid ((xs.drop n).take 4 = []) := by show _ = _; rw [List.drop_eq_nil_of_le (by omega)]; rfl
    have hmn : min 4 (max 0 ((xs.length : Int) - n)) = 0 := by omega
    clear hm1 hr hmx
    rcases g12 with ⟨g1, g2⟩ | g1
    all_goals
      go_enter Tryz.func82, Tryz.ntmps82
      go_upto_region 4 with fail
      generalize w.alloc (.cells #[.int .u8 o, .int .u8 a, .int .u8 b, .int .i32 n] 117) = w1 at *
      go_wp2_with (first
        | (go_at_call 110; (with_reducible refine HLn.mono ?_); rintro e w2 ⟨rfl, rfl⟩)
        | (go_at_call 69; refine Hid.out ?_))
      refine Lib.hid ?_
      (with_reducible refine hR.mono ?_)
      rintro e w3 ⟨rfl, rfl⟩
      clear hR HLn
      go_wp2_with fail
      go_ret
      refine ⟨_, rfl, ?_, HN.out⟩
      rw [HE.out]
      exact OwnV.nil _ _

theorem putL_four (v : Int) (hv : 0 ≤ v ∧ v ≤ 4294967295) : putL [0, 0, 0, 0] 0 v = le4 v := by
  have e : v % 4294967296 = v := by omega
  simp [putL, le4, e]
theorem le4_len (v : Int) : (le4 v).length = 4 := rfl
theorem le4_byt (v : Int) : Byt (le4 v) := fun i => by
  rcases (by omega : i = 0 ∨ i = 1 ∨ i = 2 ∨ i = 3 ∨ 4 ≤ i) with rfl | rfl | rfl | rfl | h
  · show 0 ≤ v % 4294967296 % 256 ∧ v % 4294967296 % 256 ≤ 255; omega
  · show 0 ≤ v % 4294967296 / 256 % 256 ∧ v % 4294967296 / 256 % 256 ≤ 255; omega
  · show 0 ≤ v % 4294967296 / 65536 % 256 ∧ v % 4294967296 / 65536 % 256 ≤ 255; omega
  · show 0 ≤ v % 4294967296 / 16777216 ∧ v % 4294967296 / 16777216 ≤ 255; omega
  · have e : (le4 v).getD i 0 = 0 := by simp only [List.getD, List.getElem?_eq_none (show (le4 v).length ≤ i from h), Option.getD_none]
    rw [e]; omega
set_option maxHeartbeats 1600000 in
theorem hput_any (q g B a : Nat) (v : Int) (xs : List Int) (w : World) (hm : Mem w B q g xs) (hl : xs.length ≤ 65536) (ha : a + 4 ≤ xs.length) (hv : 0 ≤ v ∧ v ≤ 4294967295) :
    Calls Tryz.prog 84 #[.pointer (some ⟨q, 0, none⟩), .int .u32 a, .int .u32 v] w fun e w' => e = .returned (.tuple #[]) ∧ Mem w' B q g (putA xs a (le4 v)) ∧ Keeps (fun j => j = g) w w' := by
  obtain ⟨i0, hi, hz0, hz1, hz2⟩ := info_parts Tryz.info5
  have HM := Hid.in hm
  clear hm
  have e1 : (a : Int) % 18446744073709551616 = a := by omega
  go_enter Tryz.func84, Tryz.ntmps84
  go_wp2_with (first
    | (at_make; refine wpList_make_full _ rfl _ _ 26 rfl _ 5 i0 (.int .u8 0) 1 Tryz.underlying26 hi hz0 hz1 _ _ _ _ 4 rfl rfl rfl rfl (by rw [hz2]; omega) (by unfold maxLen; omega) (Nat.le_refl _) ?_; intro w1 hown hgrow; have HB1 := Hid.in ((Below.refl w.heap.size w).grown hgrow (Nat.le_refl _) (by simp)); have HO1 : Hid (Own w1 w.heap.size w.heap.size 4 [0, 0, 0, 0]) := Own.of_made hown; clear hown hgrow)
    | (go_at_call 115; refine Hid.out ?_))
  refine Lib.hid ?_
  have hP := put32_ex (some ⟨w.heap.size, 0, none⟩) 4 4 0 v [0, 0, 0, 0] w1 rfl (by decide) HO1.out.row hv (by decide) (by decide)
  rw [show (0 : Int).toNat = 0 from rfl, putL_four v hv] at hP
  (with_reducible refine hP.mono ?_)
  rintro e w2 ⟨k, rfl, ho2, hb2⟩
  have HB2 := Hid.in (below_step HB1.out hb2)
  have hW := write_ok q g B a 4 (some ⟨k, 0, none⟩) xs (le4 v) w2 (HM.out.below HB2.out) ho2.row (by rw [le4_len]; exact ha) hl
  rw [le4_len] at hW
  clear hP ho2 hb2 HO1 HB1
  go_wp2_with (go_at_call 26; refine Hid.out ?_)
  refine Lib.hid ?_
  (with_reducible refine hW.mono ?_)
  rintro e w3 ⟨rfl, hm3, hk3⟩
  have HM3 := Hid.in hm3
  have HK3 := Hid.in ((Keeps.ofBelow HB2.out).trans' hk3)
  clear hW hm3 hk3
  go_wp2_with fail
  first | go_end0 | skip
  exact ⟨rfl, HM3.out, HK3.out⟩

end Go.Proofs.YtnpaijbkhmnfpaaGreat

/- How a hart lies in memory; a step that fetches. -/
namespace Go.Proofs.YtnpaijbkhmnfpaaGreat
open Go.RowKit Go.Maps

/-- what stands not in G's blocks -/
def Off (G : Nat → Prop) (p : Option Addr) (n : Nat) : Prop := 0 < n → ∃ g o, p = some ⟨g, o, none⟩ ∧ ¬ G g
theorem Row.off {G : Nat → Prop} {w w' : World} {p : Option Addr} {xs : List Int} (h : Row w p xs) (ho : Off G p xs.length) (hk : Keeps G w w') : Row w' p xs := fun h0 => by
  obtain ⟨g, o, rfl, hc⟩ := h h0
  obtain ⟨g', o', e, hg⟩ := ho h0
  injection e with e; injection e with e1 e2; subst e1 e2
  refine ⟨g, o, rfl, fun i hi => ?_⟩
  have h1 := hc i hi
  have h2 := hk.block g (cell_lt h1) hg
  unfold World.cell? at h1 ⊢
  dsimp only at h1 ⊢
  rw [h2]; exact h1
theorem PRow.off {G : Nat → Prop} {w w' : World} {p : Option Addr} {xs : List Int} (h : PRow w p xs) (ho : Off G p xs.length) (hk : Keeps G w w') : PRow w' p xs := fun h0 => by
  obtain ⟨g, o, rfl, hc⟩ := h h0
  obtain ⟨g', o', e, hg⟩ := ho h0
  injection e with e; injection e with e1 e2; subst e1 e2
  refine ⟨g, o, rfl, fun i hi => ?_⟩
  have h1 := hc i hi
  have h2 := hk.block g (cell_lt h1) hg
  unfold World.cell? at h1 ⊢
  dsimp only at h1 ⊢
  rw [h2]; exact h1
theorem Off.own {G : Nat → Prop} {B g o n : Nat} (hG : ∀ j, G j → j < B) (hB : B ≤ g) : Off G (some ⟨g, o, none⟩) n := fun _ => ⟨g, o, rfl, fun e => by have := hG g e; omega⟩
theorem Off.zero (G : Nat → Prop) (p : Option Addr) : Off G p 0 := fun h => absurd h (Nat.lt_irrefl 0)

/-- a hart in block h, its lines in l, their map in b -/
structure HAt (w : World) (G : Nat → Prop) (B h l b : Nat) (id : Int) (H : Hs) : Prop where
  blk : ∃ pS cS pH cH, Blk w h 56 (hrA id H.st H.pc H.R (.slice pS H.S.length cS) (.slice pH H.hv.length cH) l) ∧ PRow w pS H.S ∧ Row w pH H.hv ∧ Off G pS H.S.length ∧ Off G pH H.hv.length
  lin : LinAt w B l b H.L
  gh : G h
  gb : G b
  gl : ¬ G l
  bh : B ≤ h
theorem HAt.ne {w : World} {G : Nat → Prop} {B h l b : Nat} {id : Int} {H : Hs} (k : HAt w G B h l b id H) : h ≠ b := fun e => by
  obtain ⟨pS, cS, pH, cH, hb, -⟩ := k.blk
  obtain ⟨es, c, hm⟩ := k.lin.isMap
  rw [← e, show w.heap[h]? = _ from hb] at hm
  cases hm
theorem HAt.below {w w' : World} {G : Nat → Prop} {B h l b : Nat} {id : Int} {H : Hs} (k : HAt w G B h l b id H) (hb : Below w.heap.size w w') : HAt w' G B h l b id H := by
  obtain ⟨pS, cS, pH, cH, h1, h2, h3, h4, h5⟩ := k.blk
  exact ⟨⟨pS, cS, pH, cH, h1.grow hb, h2.below hb, h3.below hb, h4, h5⟩, k.lin.below hb, k.gh, k.gb, k.gl, k.bh⟩
theorem HAt.keeps {w w' : World} {G G' : Nat → Prop} {B h l b : Nat} {id : Int} {H : Hs} (k : HAt w G B h l b id H) (hk : Keeps G' w w') (hG : ∀ j, G' j → G j) (h1 : ¬ G' h) (h2 : ¬ G' b) : HAt w' G B h l b id H := by
  obtain ⟨pS, cS, pH, cH, a1, a2, a3, a4, a5⟩ := k.blk
  have hk' := hk.wider hG
  exact ⟨⟨pS, cS, pH, cH, (hk.block h a1.lt h1).trans a1, a2.off a4 hk', a3.off a5 hk', a4, a5⟩, k.lin.keeps hk (fun e => k.gl (hG _ e)) h2, k.gh, k.gb, k.gl, k.bh⟩
theorem Mem.keepsG {G : Nat → Prop} {w w' : World} {B q g : Nat} {xs : List Int} (h : Mem w B q g xs) (hk : Keeps G w w') (h1 : ¬ G q) (h2 : ¬ G g) : Mem w' B q g xs := h.keeps hk h1 h2

theorem OwnV.off {G : Nat → Prop} {w : World} {B : Nat} {v : Value} {xs : List Int} (h : OwnV w B v xs) (hG : ∀ j, G j → j < B) : ∃ p c, v = .slice p xs.length c ∧ Row w p xs ∧ Off G p xs.length := by
  rcases h.shape with ⟨rfl, rfl⟩ | ⟨g, cap, rfl, ho⟩
  · exact ⟨none, 0, rfl, fun h => absurd h (Nat.lt_irrefl 0), Off.zero _ _⟩
  · exact ⟨_, _, rfl, ho.row, Off.own hG ho.base⟩
theorem POwnV.off {G : Nat → Prop} {w : World} {B : Nat} {v : Value} {xs : List Int} (h : POwnV w B v xs) (hG : ∀ j, G j → j < B) : ∃ p c, v = .slice p xs.length c ∧ PRow w p xs ∧ Off G p xs.length := by
  rcases h.shape with ⟨rfl, rfl⟩ | ⟨g, cap, rfl, ho⟩
  · exact ⟨none, 0, rfl, fun h => absurd h (Nat.lt_irrefl 0), Off.zero _ _⟩
  · exact ⟨_, _, rfl, ho.row, Off.own hG ho.base⟩
theorem movH_ok {id : Int} {h : Hs} {xs : List Int} {s : Fs} (h0 : s.e = 0) : movH id h xs s = ⟨{ h with hv := s.out, L := s.L }, xs, [⟨1, id, ((h.pc + h.hv.length : Nat) : Int), 0, if s.is = true then 1 else 0⟩]⟩ := if_pos h0
theorem movH_bad {id : Int} {h : Hs} {xs : List Int} {s : Fs} (h0 : ¬ s.e = 0) : movH id h xs s = fltH id h xs s.e := if_neg h0
theorem keeps_set {G : Nat → Prop} (w : World) (h i : Nat) (v : Value) (hg : G h) : Keeps G w (w.setCell ⟨h, i, none⟩ v) := (Keeps.refl G w).setCell h i v (.inl hg)

set_option maxHeartbeats 4000000 in
set_option maxRecDepth 8000 in
theorem more_any (B B' q mg h l b : Nat) (G : Nat → Prop) (id : Int) (H : Hs) (xs : List Int) (hold : Bool) (w : World) (hh : HAt w G B h l b id H) (hm : Mem w B' q mg xs) (hG : ∀ j, G j → j < w.heap.size) (gm : G mg) (gq : ¬ G q) (hlen : H.L.length ≤ 1000000) (hx6 : xs.length ≤ 65536) (hpc : H.pc ≤ 4294967295) (hn6 : H.hv.length ≤ 6) (hd : doneB H.hv = false) :
    Calls Tryz.prog 44 #[.pointer (some ⟨h, 0, none⟩), .pointer (some ⟨q, 0, none⟩), .bool hold] w fun e w' => ∃ v, e = .returned v ∧ EOwn 41 w' w.heap.size v (movH id H xs (stpR H.L xs H.pc H.hv hold)).ev ∧ HAt w' G B h l b id (movH id H xs (stpR H.L xs H.pc H.hv hold)).h ∧ Mem w' B' q mg xs ∧ Keeps (fun j => j = h ∨ j = b) w w' := by
  obtain ⟨st, pc, R, S, hv, L⟩ := H
  dsimp only at hlen hpc hn6 hd ⊢
  obtain ⟨pS, cS, pH, cH, hB, hPS, hRH, oS, oH⟩ := hh.blk
  dsimp only at hB hPS hRH oS oH
  have hlin := hh.lin
  dsimp only at hlin
  have HS := fun W (h1 : LinAt W B l b L) (h2 : Mem W B' q mg xs) (h3 : Row W pH hv) => step_any B B' q mg l b pc cH pH L xs hv hold W h1 h2 (by omega) hx6 hpc (by omega) h3
  have HOK : Hid ((stpR L xs pc hv hold).e = 0 → ((pc : Int) + hv.length) % 4294967296 = ((pc + hv.length : Nat) : Int)) := fun h0 => by
    unfold stpR at h0
    rw [if_neg (by rw [hd]; decide)] at h0
    by_cases hx : xs.length ≤ pc + hv.length
    · rw [if_pos hx] at h0; cases h0
    · omega
  have HEB : Hid (0 ≤ (stpR L xs pc hv hold).e ∧ (stpR L xs pc hv hold).e ≤ 4294967295) := by
    show _ ∧ _
    unfold stpR
    split
    · dsimp only; omega
    · split <;> dsimp only <;> omega
  have HLQ : Hid ((stpR L xs pc hv hold).e ≠ 0 → (stpR L xs pc hv hold).L = L) := fun h0 => by
    unfold stpR at h0 ⊢
    split
    · rfl
    · split
      · rfl
      · rename_i h1 h2; rw [if_neg h1, if_neg h2] at h0; exact absurd rfl h0
  have HH := Hid.in hh
  have HM := Hid.in hm
  have HBK := Hid.in hB
  have HPS := Hid.in hPS
  have HRH := Hid.in hRH
  have HOS := Hid.in oS
  have HOH := Hid.in oH
  have HLN := Hid.in hlin
  have c2 : w.cell? ⟨h, 2, none⟩ = some (.int .u32 pc) := hB.cell 2
  have c12 : w.cell? ⟨h, 12, none⟩ = some (.slice pH hv.length cH) := hB.cell 12
  have c13 : w.cell? ⟨h, 13, none⟩ = some (.pointer (some ⟨l, 0, none⟩)) := hB.cell 13
  have HHB : Hid (h ≠ b) := hh.ne
  have HHM : Hid (mg < w.heap.size) := hG _ gm
  have HMQ : Hid (∀ j, j = b → j ≠ q ∧ j ≠ mg) := fun j e => by
    subst e
    obtain ⟨es, cc, e1⟩ := hlin.isMap
    refine ⟨fun e => gq (e ▸ hh.gb), fun e => ?_⟩
    obtain ⟨cur, _, e2, _⟩ := hm.own.parts
    rw [← e, e1] at e2
    cases e2
  have HNQ : Hid (¬ G q) := gq
  have HNM : Hid (h ≠ mg) := fun e => by
    obtain ⟨cur, _, e2, _⟩ := hm.own.parts
    rw [← e, show w.heap[h]? = _ from hB] at e2
    simp at e2
  have HGB := Hid.in hh.gb
  have HGH := Hid.in hh.gh
  have HGL := Hid.in hh.gl
  have HBH := Hid.in hh.bh
  have HGG := Hid.in hG
  clear hh hm hB hPS hRH oS oH hlin hd hG gm gq
  generalize stpR L xs pc hv hold = s at *
  obtain ⟨so, sg, sis, se, sL⟩ := s
  dsimp only at HS HOK HEB HLQ ⊢
  go_enter Tryz.func44, Tryz.ntmps44
  go_upto_region 1 with fail
  go_quiet (fail)
  go_upto_region 2 with fail
  obtain ⟨pl, hpl⟩ : ∃ pl, ((pc : Int) + hv.length) % 4294967296 = pl := ⟨_, rfl⟩
  rw [hpl] at HOK ⊢
  have HPL : Hid (0 ≤ pl ∧ pl ≤ 4294967295) := by show _ ∧ _; omega
  clear hpl
  have HBD : Hid (Below w.heap.size w (w.drewN nq).drew) := (below_draws (below_self w) nq).drew
  have hS := HS (w.drewN nq).drew (HLN.out.below HBD.out) (HM.out.below HBD.out) (HRH.out.below HBD.out)
  have d2 : (w.drewN nq).cell? ⟨h, 2, none⟩ = some (.int .u32 pc) := c2
  have d12 : (w.drewN nq).cell? ⟨h, 12, none⟩ = some (.slice pH hv.length cH) := c12
  have d13 : (w.drewN nq).cell? ⟨h, 13, none⟩ = some (.pointer (some ⟨l, 0, none⟩)) := c13
  have HKK : Hid (∀ W, Keeps (fun j => j = b) (w.drewN nq).drew W → Keeps (fun j => j = b) w W) := fun W hk => ⟨hk.os, hk.tape, hk.output, hk.size, hk.block⟩
  have HSZ : Hid ((w.drewN nq).drew.heap.size = w.heap.size) := rfl
  clear HS c2 c12 c13 HBD
  generalize hw1 : w.drewN nq = w1 at *
  clear hw1
  rw [HSZ.out] at hS
  go_region_held3 (fun W => W.cell? ⟨h, 2, none⟩ = some (.int .u32 pc) ∧ W.cell? ⟨h, 12, none⟩ = some (.slice pH hv.length cH) ∧ W.cell? ⟨h, 13, none⟩ = some (.pointer (some ⟨l, 0, none⟩))) (first | (with_reducible exact hk1) | go_keep)
    (first
      | (go_at_call 78; (with_reducible refine hS.mono ?_); rintro e w2 ⟨v2, rfl, ho2, hl2, hk2⟩; have HK2 := Hid.in (HKK.out _ hk2); have HO2 := Hid.in ho2; have HL2 := Hid.in hl2; have HB2 : Hid (Blk w2 h 56 (hrA id st pc R (.slice pS S.length cS) (.slice pH hv.length cH) l)) := (HK2.out.block h HBK.out.lt HHB.out).trans HBK.out; have hk1 : w2.cell? ⟨h, 2, none⟩ = some (.int .u32 pc) ∧ w2.cell? ⟨h, 12, none⟩ = some (.slice pH hv.length cH) ∧ w2.cell? ⟨h, 13, none⟩ = some (.pointer (some ⟨l, 0, none⟩)) := ⟨HB2.out.cell 2, HB2.out.cell 12, HB2.out.cell 13⟩; clear ho2 hl2 hk2))
  clear hk1 hS d2 d12 d13
  have HM2 : Hid (Mem w2 B' q mg xs) := HM.out.keeps HK2.out (fun e => (HMQ.out q e).1 rfl) (fun e => (HMQ.out mg e).2 rfl)
  have HPS2 := Hid.in (HPS.out.off HOS.out (HK2.out.wider (fun j (e : j = b) => e ▸ HGB.out)))
  have HRH2 := Hid.in (HRH.out.off HOH.out (HK2.out.wider (fun j (e : j = b) => e ▸ HGB.out)))
  have HSZ2 := Hid.in HK2.out.size
  by_cases h0 : se = 0
  · have HW := HOK.out h0
    subst h0
    obtain ⟨p2, c2, e2, hr2, of2⟩ := HO2.out.off HGG.out
    subst e2
    have HR2 := Hid.in hr2
    have HF2 := Hid.in of2
    have HPW := Hid.in HW
    clear hr2 of2 HW HO2 HOK
    have f12 : w2.cell? ⟨h, 12, none⟩ = some (.slice pH hv.length cH) := HB2.out.cell 12
    have zf : w2.frozen? ⟨h, 12, none⟩ = false := HB2.out.free 12
    go_upto_region 6 with fail
    have HB3 : Hid (Blk (w2.setCell ⟨h, 12, none⟩ (.slice p2 so.length c2)) h 56 (hrA id st pc R (.slice pS S.length cS) (.slice p2 so.length c2) l)) := HB2.out.set 12 (.slice p2 so.length c2)
    have hk := keeps_set (G := fun j => j = h) w2 h 12 (.slice p2 so.length c2) rfl
    have hkG : Keeps G w2 _ := hk.wider (fun j (e : j = h) => e ▸ HGH.out)
    have HR3 := Hid.in (HR2.out.off HF2.out hkG)
    have HPS3 := Hid.in (HPS2.out.off HOS.out hkG)
    have HL3 := Hid.in (HL2.out.keeps hk (fun e => HGL.out (e ▸ HGH.out)) (fun e => HHB.out e.symm))
    have HM3 := Hid.in (HM2.out.keeps hk (fun e => HNQ.out (e ▸ HGH.out)) (fun e => HNM.out e.symm))
    have HK3 : Hid (Keeps (fun j => j = h ∨ j = b) w (w2.setCell ⟨h, 12, none⟩ (.slice p2 so.length c2))) := (HK2.out.wider (fun j e => .inr e)).trans' (hk.wider (fun j e => .inl e))
    clear hk hkG HB2 HM2 HPS2 HRH2 HR2 HL2 f12 zf
    generalize w2.setCell ⟨h, 12, none⟩ (.slice p2 so.length c2) = w3 at *
    have HE := fun n (hn : 0 ≤ n ∧ n ≤ 4294967295) => event_any h id 1 pl n w3 (HB3.out.cell 0) HPL.out hn
    cases sis
    all_goals
      go_wp2_with (go_at_call 80; refine Hid.out ?_)
      refine Lib.hid ?_
      (with_reducible refine (HE _ (by decide)).mono ?_)
      rintro e w4 ⟨rfl, hb4⟩
      simp only [evA]
      go_wp2_with fail
      go_ret
      rw [movH_ok rfl]
      refine ⟨_, rfl, ?_, ⟨⟨pS, cS, p2, c2, HB3.out.grow (below_alloc hb4 _), HPS3.out.below (below_alloc hb4 _), HR3.out.below (below_alloc hb4 _), HOS.out, HF2.out⟩, HL3.out.below (below_alloc hb4 _), HGH.out, HGB.out, HGL.out, HBH.out⟩, HM3.out.below (below_alloc hb4 _), HK3.out.thenB (below_alloc hb4 _)⟩
      rw [← HPW.out]
      exact (EOwn.one w4 _).lower (Nat.le_trans HK3.out.size hb4.size)
  · have g0 : (se != 0) = true := by simpa using h0
    have hF := hfault_any h l id st pc se R (.slice pS S.length cS) (.slice pH hv.length cH) w2 HB2.out (by omega) HEB.out
    go_wp2_with (go_at_call 79; refine Hid.out ?_)
    refine Lib.hid ?_
    (with_reducible refine hF.mono ?_)
    rintro e w3 ⟨g3, rfl, ho3, hb3, hk3⟩
    have HO3 := Hid.in ho3
    have HB3 := Hid.in hb3
    have HK3 := Hid.in hk3
    clear ho3 hb3 hk3 hF
    go_wp2_with fail
    go_ret
    rw [movH_bad h0]
    refine ⟨_, rfl, HO3.out.lower HSZ2.out, ⟨⟨pS, cS, pH, cH, HB3.out, HPS2.out.off HOS.out (HK3.out.wider (fun j (e : j = h) => e ▸ HGH.out)), HRH2.out.off HOH.out (HK3.out.wider (fun j (e : j = h) => e ▸ HGH.out)), HOS.out, HOH.out⟩, ?_, HGH.out, HGB.out, HGL.out, HBH.out⟩, HM2.out.keeps HK3.out (fun e => HNQ.out (e ▸ HGH.out)) (fun e => HNM.out e.symm), (HK2.out.wider (fun j e => .inr e)).trans' (HK3.out.wider (fun j e => .inl e))⟩
    have := HLQ.out h0
    subst this
    exact HL2.out.keeps HK3.out (fun e => HGL.out (e ▸ HGH.out)) (fun e => HHB.out e.symm)
end Go.Proofs.YtnpaijbkhmnfpaaGreat

/- Bounds of what a step leaves. -/
namespace Go.Proofs.YtnpaijbkhmnfpaaGreat
open Go.RowKit Go.Maps

abbrev U32 (z : Int) : Prop := 0 ≤ z ∧ z ≤ 4294967295
theorem fltL_u32 (o a b : Nat) (n : Int) (s d : Nat) : U32 (fltL o a b n s d) := by
  unfold fltL U32
  (repeat' split) <;> decide
theorem behL_u32 (o : Nat) (pc : Int) : U32 (behL o pc) := by unfold behL U32; omega
theorem wayL_u32 (o : Nat) (n pc : Int) : U32 (wayL o n pc) := by unfold wayL U32; omega
theorem wds_u32 {R : List Int} (h : Wds R) (i : Nat) : U32 (R.getD i 0) := wds_getD h i
theorem doE_u32 (o a : Nat) (n pc : Int) (R S : List Int) (wR : Wds R) (wS : Wds S) : U32 (doE o a n pc R S).nx ∧ U32 (doE o a n pc R S).at_ ∧ U32 (doE o a n pc R S).va ∧ (doE o a n pc R S).fl = 0 ∧ ((doE o a n pc R S).st = true → o = 15 ∧ (doE o a n pc R S).at_ = n % 4294967296) := by
  have h1 := behL_u32 o pc
  have h2 := wayL_u32 o n pc
  have h3 := wds_u32 wR a
  have h4 := wds_u32 wS (S.length - 1)
  have h5 : U32 (n % 4294967296) := by unfold U32; omega
  have h0 : U32 0 := by decide
  unfold doE
  (repeat' split) <;> refine ⟨?_, ?_, ?_, rfl, ?_⟩ <;> first | exact h1 | exact h2 | exact h3 | exact h4 | exact h5 | exact h0 | (intro h; cases h; done) | (intro _; exact ⟨by assumption, rfl⟩)
theorem doS_wds (o : Nat) (pc : Int) (S : List Int) (wS : Wds S) : Wds (doS o pc S) := by
  unfold doS
  split
  · intro x hx
    rw [List.mem_append] at hx
    rcases hx with hx | hx
    · exact wS x hx
    · simp at hx; subst hx; exact behL_u32 o pc
  · split
    · exact fun x hx => wS x (List.dropLast_subset S hx)
    · exact wS
theorem doL_facts (o a b : Nat) (n pc : Int) (R S D : List Int) (hpc : U32 pc) (lR : R.length = 8) (wR : Wds R) (wS : Wds S) (lS : S.length ≤ 64) (bD : Byt D) :
    (doL o a b n pc R S D).1.length = 8 ∧ Wds (doL o a b n pc R S D).1 ∧ Wds (doL o a b n pc R S D).2.1 ∧ (doL o a b n pc R S D).2.1.length ≤ 64 ∧ U32 (doL o a b n pc R S D).2.2.nx ∧ U32 (doL o a b n pc R S D).2.2.at_ ∧ U32 (doL o a b n pc R S D).2.2.va ∧ U32 (doL o a b n pc R S D).2.2.fl ∧
      ((doL o a b n pc R S D).2.2.fl = 0 → (doL o a b n pc R S D).2.2.st = true → o = 15 ∧ (doL o a b n pc R S D).2.2.at_ = n % 4294967296 ∧ 4 ≤ D.length) := by
  obtain ⟨k1, k2⟩ := doL_regs o a b n pc R S D lR wR bD
  refine ⟨k1, k2, ?_⟩
  unfold doL
  by_cases hf : fltL o a b n S.length D.length = 0
  · rw [if_pos hf]
    obtain ⟨e1, e2, e3, e4, e5⟩ := doE_u32 o a n pc R S wR wS
    refine ⟨doS_wds o pc S wS, ?_, e1, e2, e3, by rw [e4]; decide, fun _ hs => ?_⟩
    · unfold doS
      split
      · rename_i h12
        subst h12
        have : ¬ 64 ≤ S.length := fun h => by
          unfold fltL at hf
          split at hf
          · cases hf
          · simp at hf
        rw [List.length_append]; simp; omega
      · split
        · dsimp only; rw [List.length_dropLast]; omega
        · exact lS
    · obtain ⟨h15, hat⟩ := e5 hs
      refine ⟨h15, hat, ?_⟩
      subst h15
      unfold fltL at hf
      split at hf
      · cases hf
      · simp at hf
        omega
  · rw [if_neg hf]
    exact ⟨wS, lS, hpc, (by decide : U32 0), (by decide : U32 0), fltL_u32 _ _ _ _ _ _, fun h => absurd h hf⟩
theorem dataL_byt {xs : List Int} (h : Byt xs) (o : Nat) (n : Int) : Byt (dataL xs o n) := by
  unfold dataL
  split
  · intro i
    by_cases hi : i < 4
    · have e : ((xs.drop n.toNat).take 4).getD i 0 = xs.getD (n.toNat + i) 0 := by simp only [List.getD, List.getElem?_take_of_lt hi, List.getElem?_drop]
      rw [e]; exact h _
    · have e : ((xs.drop n.toNat).take 4).getD i 0 = 0 := by simp only [List.getD, List.getElem?_eq_none (show ((xs.drop n.toNat).take 4).length ≤ i by rw [List.length_take]; omega), Option.getD_none]
      rw [e]; omega
  · exact byt_nil
/-- what is decoded well -/
theorem dec_bounds {xs : List Int} (hb : Byt xs) (he : (dec xs).e = 0) : (1 ≤ (dec xs).o ∧ (dec xs).o ≤ 16) ∧ (0 ≤ (dec xs).a ∧ (dec xs).a ≤ 255) ∧ (0 ≤ (dec xs).b ∧ (dec xs).b ≤ 255) ∧ (-2147483648 ≤ (dec xs).n ∧ (dec xs).n ≤ 2147483647) ∧ ((dec xs).o = 14 ∨ (dec xs).o = 15 → 0 ≤ (dec xs).n) := by
  obtain ⟨o, h1, h2, h3, h4, h5, h6, h7⟩ := dec_ok hb he
  obtain ⟨⟨r1, r2⟩, -, -, r5⟩ := rightB_parts h4
  refine ⟨by omega, h6, h7, ?_, fun h => ?_⟩
  · unfold dec at he ⊢
    by_cases h0 : xs.length = 0
    · rw [if_pos h0] at he; simp at he
    · rw [if_neg h0] at he ⊢
      by_cases h1 : opN (xs.getD 0 0) = 0
      · rw [if_pos h1] at he; simp at he
      · rw [if_neg h1] at he ⊢
        generalize opN (xs.getD 0 0) = o at he h1 ⊢
        unfold decO at he ⊢
        split
        · decide
        · split
          · unfold fN fldN
            dsimp only
            split
            · omega
            · unfold wrap32; omega
          · decide
  · have : o = 14 ∨ o = 15 := by omega
    rcases this with rfl | rfl
    · have : 0 ≤ (dec xs).n ∧ (dec xs).n < 65536 := by simpa [numB, kd] using r5
      exact this.1
    · have : 0 ≤ (dec xs).n ∧ (dec xs).n < 65536 := by simpa [numB, kd] using r5
      exact this.1

end Go.Proofs.YtnpaijbkhmnfpaaGreat

/- What is made in a region that draws: two variables, in whatever order. -/
namespace Go.Proofs.YtnpaijbkhmnfpaaGreat
open Go.RowKit Go.Maps

section
variable {w3 w5 : World} {gA gB B : Nat} {F FE zA zB : Array Value} {v : Value} {S9 : List Int}
theorem POwnV.ne {w : World} {B g : Nat} {v : Value} {xs : List Int} {E : Array Value} {T : TypeId} (h : POwnV w B v xs) (hb : Blk w g T E) (hT : T ≠ 31) : v.ownBlock ≠ some g := by
  rcases h.shape with ⟨rfl, _⟩ | ⟨g', cap, rfl, ho⟩
  · intro e; cases e
  · intro e
    have e' : some g' = some g := e
    injection e' with e'
    obtain ⟨cur, _, h2, _⟩ := ho.parts
    rw [e', show w.heap[g]? = _ from hb] at h2
    injection h2 with h2
    injection h2 with _ h2 _
    exact hT h2
theorem size_setCells (g : Nat) : ∀ (vs : List Value) (o : Nat) (w : World), (w.setCells g o vs).heap.size = w.heap.size
  | [], _, _ => rfl
  | v :: r, o, w => (size_setCells g r (o + 1) _).trans (by simp [World.setCell])
theorem fin_both (hA : Blk w5 gA 47 zA) (hB : Blk w5 gB 134 zB) (hne : gA ≠ gB) (ho : POwnV w5 B v S9) (hw : Below w3.heap.size w3 w5) (ha : w3.heap.size ≤ gA) (hb : w3.heap.size ≤ gB) (hF : F.size = zA.size) (hE : FE.size = zB.size) :
    Blk ((w5.setCells gA 0 F.toList).setCells gB 0 FE.toList) gA 47 F ∧ Blk ((w5.setCells gA 0 F.toList).setCells gB 0 FE.toList) gB 134 FE ∧ POwnV ((w5.setCells gA 0 F.toList).setCells gB 0 FE.toList) B v S9 ∧ Below w3.heap.size w3 ((w5.setCells gA 0 F.toList).setCells gB 0 FE.toList) ∧ w3.heap.size ≤ gA ∧ w3.heap.size ≤ gB := by
  have g1 := grown_setCells gA F.toList 0 w5
  have b1 := hA.setAll F hF
  have b2 := hB.kept g1 (by intro e; injection e with e; exact hne e.symm)
  have o1 := ho.kept g1 (ho.ne hA (by decide))
  have l1 := hw.grown g1 hw.size (fun k hk => by cases hk; exact ha)
  have g2 := grown_setCells gB FE.toList 0 (w5.setCells gA 0 F.toList)
  exact ⟨b1.kept g2 (by intro e; injection e with e; exact hne e), b2.setAll FE hE, o1.kept g2 (o1.ne b2 (by decide)), l1.grown g2 l1.size (fun k hk => by cases hk; exact hb), ha, hb⟩
theorem blk_new (w : World) (T : TypeId) (c : Array Value) {g : Nat} (hg : w.heap.size = g) : Blk (w.alloc (.cells c T)) g T c := by subst hg; exact Blk.new w T c
theorem blk_two (w : World) (T1 T2 : TypeId) (c1 c2 : Array Value) : Blk ((w.alloc (.cells c1 T1)).alloc (.cells c2 T2)) (w.heap.size + 1) T2 c2 := blk_new _ _ _ (size_one _ _)
theorem fin_A (hA : Blk w5 gA 47 zA) (ho : POwnV w5 B v S9) (hw : Below w3.heap.size w3 w5) (ha : w3.heap.size ≤ gA) (hF : F.size = zA.size) (hE : FE.size = zB.size) :
    Blk (((w5.alloc (.cells zB 134)).setCells gA 0 F.toList).setCells w5.heap.size 0 FE.toList) gA 47 F ∧ Blk (((w5.alloc (.cells zB 134)).setCells gA 0 F.toList).setCells w5.heap.size 0 FE.toList) w5.heap.size 134 FE ∧ POwnV (((w5.alloc (.cells zB 134)).setCells gA 0 F.toList).setCells w5.heap.size 0 FE.toList) B v S9 ∧ Below w3.heap.size w3 (((w5.alloc (.cells zB 134)).setCells gA 0 F.toList).setCells w5.heap.size 0 FE.toList) ∧ w3.heap.size ≤ gA ∧ w3.heap.size ≤ w5.heap.size :=
  fin_both (hA.grow (new_alloc _ _)) (Blk.new w5 134 zB) (Nat.ne_of_lt hA.lt) (ho.alloc _) (below_alloc hw _) ha hw.size hF hE
theorem fin_B (hB : Blk w5 gB 134 zB) (ho : POwnV w5 B v S9) (hw : Below w3.heap.size w3 w5) (hb : w3.heap.size ≤ gB) (hE : FE.size = zB.size) :
    Blk ((w5.alloc (.cells F 47)).setCells gB 0 FE.toList) w5.heap.size 47 F ∧ Blk ((w5.alloc (.cells F 47)).setCells gB 0 FE.toList) gB 134 FE ∧ POwnV ((w5.alloc (.cells F 47)).setCells gB 0 FE.toList) B v S9 ∧ Below w3.heap.size w3 ((w5.alloc (.cells F 47)).setCells gB 0 FE.toList) ∧ w3.heap.size ≤ w5.heap.size ∧ w3.heap.size ≤ gB := by
  have b0 := hB.grow (new_alloc w5 (.cells F 47))
  have o0 := ho.alloc (.cells F 47)
  have g1 := grown_setCells gB FE.toList 0 (w5.alloc (.cells F 47))
  have l0 := below_alloc hw (.cells F 47)
  exact ⟨(Blk.new w5 47 F).kept g1 (by intro e; injection e with e; have := hB.lt; omega), b0.setAll FE hE, o0.kept g1 (o0.ne b0 (by decide)), l0.grown g1 l0.size (fun k hk => by cases hk; exact hb), hw.size, hb⟩
theorem fin_0 (ho : POwnV w5 B v S9) (hw : Below w3.heap.size w3 w5) :
    Blk ((w5.alloc (.cells F 47)).alloc (.cells FE 134)) w5.heap.size 47 F ∧ Blk ((w5.alloc (.cells F 47)).alloc (.cells FE 134)) (w5.heap.size + 1) 134 FE ∧ POwnV ((w5.alloc (.cells F 47)).alloc (.cells FE 134)) B v S9 ∧ Below w3.heap.size w3 ((w5.alloc (.cells F 47)).alloc (.cells FE 134)) ∧ w3.heap.size ≤ w5.heap.size ∧ w3.heap.size ≤ w5.heap.size + 1 :=
  ⟨(Blk.new _ _ _).grow (new_alloc _ _), blk_new _ _ _ (size_one _ _), (ho.alloc _).alloc _, below_alloc (below_alloc hw _) _, hw.size, Nat.le_succ_of_le hw.size⟩
theorem fin_1 (ho : POwnV w5 B v S9) (hw : Below w3.heap.size w3 w5) :
    Blk ((w5.alloc (.cells FE 134)).alloc (.cells F 47)) (w5.heap.size + 1) 47 F ∧ Blk ((w5.alloc (.cells FE 134)).alloc (.cells F 47)) w5.heap.size 134 FE ∧ POwnV ((w5.alloc (.cells FE 134)).alloc (.cells F 47)) B v S9 ∧ Below w3.heap.size w3 ((w5.alloc (.cells FE 134)).alloc (.cells F 47)) ∧ w3.heap.size ≤ w5.heap.size + 1 ∧ w3.heap.size ≤ w5.heap.size :=
  ⟨blk_new _ _ _ (size_one _ _), (Blk.new _ _ _).grow (new_alloc _ _), (ho.alloc _).alloc _, below_alloc (below_alloc hw _) _, Nat.le_succ_of_le hw.size, hw.size⟩
end
end Go.Proofs.YtnpaijbkhmnfpaaGreat

/- How do stands behind what was done. -/
namespace Go.Proofs.YtnpaijbkhmnfpaaGreat
open Go.RowKit Go.Maps

/-- how do stands behind what was done: events, the new registers and the effect are made -/
structure DoU (w : World) (G : Nat → Prop) (B B' q mg h l b gr gx : Nat) (id st : Int) (pc : Nat) (R : List Int) (vS : Value) (L : List Ln) (xs : List Int) (F E : Array Value) (pR : Option Addr) (S9 : List Int) (v : Value) (ev : List Ev) (wx : World) : Prop where
  bh : Blk wx h 56 (hrA id st pc R vS (.slice none 0 0) l)
  br : Blk wx gr 47 F
  bx : Blk wx gx 134 E
  lin : LinAt wx B l b L
  mem : Mem wx B' q mg xs
  ow : EOwn 41 wx w.heap.size v ev
  rn : PRow wx pR S9
  of : Off G pR S9.length
  kp : Keeps (fun j => j = h ∨ j = mg) w wx
  gh : G h
  gb : G b
  gl : ¬ G l
  gq : ¬ G q
  gm : G mg
  le : B ≤ h
  nb : h ≠ b
  nm : h ≠ mg
  nbm : b ≠ mg
  lt : ∀ j, G j → j < w.heap.size
  ger : w.heap.size ≤ gr
  gex : w.heap.size ≤ gx
section
variable {w wx wy : World} {G : Nat → Prop} {B B' q mg h l b gr gx : Nat} {id st : Int} {pc : Nat} {R : List Int} {vS : Value} {L : List Ln} {xs : List Int} {F E : Array Value} {pR : Option Addr} {S9 : List Int} {v : Value} {ev : List Ev}
theorem EOwn.keeps {T : TypeId} {B : Nat} {v : Value} {L : List Ev} {G' : Nat → Prop} (h0 : EOwn T wx B v L) (hk : Keeps G' wx wy) (hG : ∀ j, G' j → j < B) : EOwn T wy B v L := by
  refine ⟨h0.1, h0.2.imp id ?_⟩
  rintro ⟨g, cap, cur, e1, e2, e3, e4⟩
  exact ⟨g, cap, cur, e1, e2, (hk.block g (Array.getElem?_eq_some_iff.1 e3).1 (fun e => by have := hG g e; omega)).trans e3, e4⟩
theorem Blk.keeps {g : Nat} {T : TypeId} {c : Array Value} {G' : Nat → Prop} (hb : Blk wx g T c) (hk : Keeps G' wx wy) (hG : ¬ G' g) : Blk wy g T c := (hk.block g hb.lt hG).trans hb
theorem DoU.put (k : DoU w G B B' q mg h l b gr gx id st pc R vS L xs F E pR S9 v ev wx) {ys : List Int} (hm : Mem wy B' q mg ys) (hk : Keeps (fun j => j = mg) wx wy) : DoU w G B B' q mg h l b gr gx id st pc R vS L ys F E pR S9 v ev wy :=
  have hmg := k.lt _ k.gm
  ⟨k.bh.keeps hk k.nm, k.br.keeps hk (fun e => by have := k.ger; omega), k.bx.keeps hk (fun e => by have := k.gex; omega), k.lin.keeps hk (fun e => k.gl (e ▸ k.gm)) k.nbm, hm, k.ow.keeps hk (fun j e => by omega),
    k.rn.off k.of (hk.wider (fun j (e : j = mg) => e ▸ k.gm)), k.of, k.kp.trans' (hk.wider (fun j e => .inr e)), k.gh, k.gb, k.gl, k.gq, k.gm, k.le, k.nb, k.nm, k.nbm, k.lt, k.ger, k.gex⟩
theorem DoU.stat (k : DoU w G B B' q mg h l b gr gx id st pc R vS L xs F E pR S9 v ev wx) {st' : Int} (hb : Blk wy h 56 (hrA id st' pc R vS (.slice none 0 0) l)) (hk : Keeps (fun j => j = h) wx wy) : DoU w G B B' q mg h l b gr gx id st' pc R vS L xs F E pR S9 v ev wy :=
  have hh := k.lt _ k.gh
  ⟨hb, k.br.keeps hk (fun e => by have := k.ger; omega), k.bx.keeps hk (fun e => by have := k.gex; omega), k.lin.keeps hk (fun e => k.gl (e ▸ k.gh)) (fun e => k.nb e.symm), k.mem.keeps hk (fun e => k.gq (e ▸ k.gh)) (fun e => k.nm e.symm), k.ow.keeps hk (fun j e => by omega),
    k.rn.off k.of (hk.wider (fun j (e : j = h) => e ▸ k.gh)), k.of, k.kp.trans' (hk.wider (fun j e => .inl e)), k.gh, k.gb, k.gl, k.gq, k.gm, k.le, k.nb, k.nm, k.nbm, k.lt, k.ger, k.gex⟩
theorem DoU.last (k : DoU w G B B' q mg h l b gr gx id st pc R vS L xs F E pR S9 v ev wx) {pc' cR : Nat} {R9 : List Int} (hb : Blk wy h 56 (hrA id st pc' R9 (.slice pR S9.length cR) (.slice none 0 0) l)) (hk : Keeps (fun j => j = h) wx wy) :
    EOwn 41 wy w.heap.size v ev ∧ HAt wy G B h l b id ⟨st, pc', R9, S9, [], L⟩ ∧ Mem wy B' q mg xs ∧ Keeps (fun j => j = h ∨ j = mg) w wy :=
  have hh := k.lt _ k.gh
  ⟨k.ow.keeps hk (fun j e => by omega), ⟨⟨pR, cR, none, 0, hb, k.rn.off k.of (hk.wider (fun j (e : j = h) => e ▸ k.gh)), fun h => absurd h (Nat.lt_irrefl 0), k.of, Off.zero _ _⟩, k.lin.keeps hk (fun e => k.gl (e ▸ k.gh)) (fun e => k.nb e.symm), k.gh, k.gb, k.gl, k.le⟩,
    k.mem.keeps hk (fun e => k.gq (e ▸ k.gh)) (fun e => k.nm e.symm), k.kp.trans' (hk.wider (fun j e => .inl e))⟩
theorem DoU.below (k : DoU w G B B' q mg h l b gr gx id st pc R vS L xs F E pR S9 v ev wx) (hb : Below wx.heap.size wx wy) : DoU w G B B' q mg h l b gr gx id st pc R vS L xs F E pR S9 v ev wy :=
  ⟨k.bh.grow hb, k.br.grow hb, k.bx.grow hb, k.lin.below hb, k.mem.below hb, k.ow.below hb, k.rn.below hb, k.of, k.kp.thenB hb, k.gh, k.gb, k.gl, k.gq, k.gm, k.le, k.nb, k.nm, k.nbm, k.lt, k.ger, k.gex⟩
end
theorem Blk.drew1 {w : World} {g : Nat} {T : TypeId} {c : Array Value} (h : Blk w g T c) : Blk w.drew g T c := h
theorem hrA_all (id st pc pc' : Int) (r0 r1 r2 r3 r4 r5 r6 r7 s0 s1 s2 s3 s4 s5 s6 s7 : Int) (vS vR vH : Value) (l : Nat) :
    (((((((((((hrA id st pc [r0, r1, r2, r3, r4, r5, r6, r7] vS vH l).setIfInBounds 3 (.int .u32 s0)).setIfInBounds 4 (.int .u32 s1)).setIfInBounds 5 (.int .u32 s2)).setIfInBounds 6 (.int .u32 s3)).setIfInBounds 7 (.int .u32 s4)).setIfInBounds 8 (.int .u32 s5)).setIfInBounds 9 (.int .u32 s6)).setIfInBounds 10 (.int .u32 s7)).setIfInBounds 11 vR).setIfInBounds 2 (.int .u32 pc')) = hrA id st pc' [s0, s1, s2, s3, s4, s5, s6, s7] vR vH l := by kernel_rfl

end Go.Proofs.YtnpaijbkhmnfpaaGreat

/- do: bytes that are no instruction; a breakpoint. -/
namespace Go.Proofs.YtnpaijbkhmnfpaaGreat
open Go.RowKit Go.Maps

theorem TrV.hart {w w' : World} {v : Value} {tr : Option Nat} {h l : Nat} {id st pc : Int} {R : List Int} {vS vH : Value} (k : TrV w v tr) (hB : Blk w h 56 (hrA id st pc R vS vH l)) (hk : Keeps (fun j => j = h) w w') : TrV w' v tr := by
  rcases k with k | ⟨c, t, h1, h2, h3⟩
  · exact .inl k
  · refine .inr ⟨c, t, h1, ?_, h3⟩
    have hne : c ≠ h := fun e => by
      subst e
      have : w.cell? ⟨c, 0, none⟩ = some (.int .i64 id) := hB.cell 0
      rw [h2] at this
      simp at this
    have := hk.block c (cell_lt h2) hne
    unfold World.cell? at h2 ⊢
    dsimp only at h2 ⊢
    rw [this]; exact h2

/-- how do stands behind its first two statements -/
structure DoS (w : World) (G : Nat → Prop) (B B' q mg h l b gi : Nat) (id st : Int) (pc : Nat) (R S : List Int) (L : List Ln) (xs : List Int) (pS : Option Addr) (cS : Nat) (o a b' n : Int) (w3 : World) : Prop where
  bh : Blk w3 h 56 (hrA id st pc R (.slice pS S.length cS) (.slice none 0 0) l)
  bi : Blk w3 gi 117 #[.int .u8 o, .int .u8 a, .int .u8 b', .int .i32 n]
  rs : PRow w3 pS S
  of : Off G pS S.length
  lin : LinAt w3 B l b L
  mem : Mem w3 B' q mg xs
  kp : Keeps (fun j => j = h) w w3
  gh : G h
  gb : G b
  gl : ¬ G l
  gq : ¬ G q
  gm : G mg
  le : B ≤ h
  nb : h ≠ b
  nm : h ≠ mg
  nbm : b ≠ mg
  lt : ∀ j, G j → j < w.heap.size
  ge : w.heap.size ≤ gi

theorem DoS.hat {w w3 w4 : World} {G : Nat → Prop} {B B' q mg h l b gi : Nat} {id st st' : Int} {pc pc' cS : Nat} {R S : List Int} {L : List Ln} {xs : List Int} {pS : Option Addr} {o a b' n : Int} (k : DoS w G B B' q mg h l b gi id st pc R S L xs pS cS o a b' n w3)
    (hb : Blk w4 h 56 (hrA id st' pc' R (.slice pS S.length cS) (.slice none 0 0) l)) (hk : Keeps (fun j => j = h) w3 w4) :
    HAt w4 G B h l b id ⟨st', pc', R, S, [], L⟩ ∧ Mem w4 B' q mg xs ∧ Keeps (fun j => j = h ∨ j = mg) w w4 :=
  ⟨⟨⟨pS, cS, none, 0, hb, k.rs.off k.of (hk.wider (fun _ (e : _ = h) => e ▸ k.gh)), fun h => absurd h (Nat.lt_irrefl 0), k.of, Off.zero _ _⟩, k.lin.keeps hk (fun e => k.gl (e ▸ k.gh)) (fun e => k.nb e.symm), k.gh, k.gb, k.gl, k.le⟩,
    k.mem.keeps hk (fun e => k.gq (e ▸ k.gh)) (fun e => k.nm e.symm), (k.kp.trans' hk).wider (fun _ e => .inl e)⟩

set_option maxHeartbeats 4000000 in
set_option maxRecDepth 8000 in
theorem hdo_bad (B B' q mg h l b : Nat) (G : Nat → Prop) (id : Int) (H : Hs) (xs : List Int) (v : Value) (tr : Option Nat) (w : World) (hh : HAt w G B h l b id H) (hm : Mem w B' q mg xs) (hG : ∀ j, G j → j < w.heap.size) (gm : G mg) (gq : ¬ G q) (_hx6 : xs.length ≤ 65536) (_hbx : Byt xs) (hok : HsOk 1000000 H) (ht : TrV w v tr) (hcase : ¬ (dec H.hv).e = 0) :
    Calls Tryz.prog 45 #[.pointer (some ⟨h, 0, none⟩), .pointer (some ⟨q, 0, none⟩), v] w fun e w' => ∃ vv, e = .returned vv ∧ EOwn 41 w' w.heap.size vv (insH id (nilH H) xs tr (dec H.hv)).ev ∧ HAt w' G B h l b id (insH id (nilH H) xs tr (dec H.hv)).h ∧ Mem w' B' q mg (insH id (nilH H) xs tr (dec H.hv)).xs ∧ Keeps (fun j => j = h ∨ j = mg) w w' := by
  obtain ⟨st, pc, R, S, hv, L⟩ := H
  dsimp only [nilH] at hok ⊢
  obtain ⟨hpc, lR, wR, wS, lS, bH, lH, wL, lL⟩ := hok
  dsimp only at hpc lR wR wS lS bH lH wL lL
  obtain ⟨pS, cS, pH, cH, hB, hPS, hRH, oS, oH⟩ := hh.blk
  dsimp only at hB hPS hRH oS oH
  have hlin := hh.lin
  dsimp only at hlin
  have hD := decode_any pH hv.length cH hv w rfl (by omega) hRH bH
  have HDB : Hid _ := dec_bounds bH
  have HT := Hid.in ht
  have HNM : Hid (h ≠ mg) := fun e => by
    obtain ⟨cur, _, e2, _⟩ := hm.own.parts
    rw [← e, show w.heap[h]? = _ from hB] at e2
    simp at e2
  have HNBM : Hid (b ≠ mg) := fun e => by
    obtain ⟨es, cc, e1⟩ := hlin.isMap
    obtain ⟨cur, _, e2, _⟩ := hm.own.parts
    rw [← e, e1] at e2
    cases e2
  have HHB : Hid (h ≠ b) := hh.ne
  have HCS := Hid.in hcase
  dsimp only at HCS
  clear hcase
  generalize dec hv = d at *
  obtain ⟨o, a, b', n, le, e⟩ := d
  dsimp only [decV, decT] at hD HDB HCS ⊢
  have c12 : w.cell? ⟨h, 12, none⟩ = some (.slice pH hv.length cH) := hB.cell 12
  have HBK := Hid.in hB
  have HPS := Hid.in hPS
  have HLN := Hid.in hlin
  have HM := Hid.in hm
  have HG4 : Hid (G h ∧ G b ∧ ¬ G l ∧ B ≤ h) := ⟨hh.gh, hh.gb, hh.gl, hh.bh⟩
  have HGG : Hid ((∀ j, G j → j < w.heap.size) ∧ G mg ∧ ¬ G q) := ⟨hG, gm, gq⟩
  have HOS := Hid.in oS
  have HWR : Hid (R.length = 8 ∧ Wds R ∧ Wds S ∧ S.length ≤ 64) := ⟨lR, wR, wS, lS⟩
  clear hh hm hB hPS hRH oS oH hlin hG gm gq ht lR wR wS lS bH lH wL lL
  go_enter Tryz.func45, Tryz.ntmps45
  go_wp2_with (go_at_call 70; refine Hid.out ?_)
  refine Lib.hid ?_
  (with_reducible refine hD.mono ?_)
  rintro E w1 ⟨rfl, hb1⟩
  clear hD c12
  have HB1 := Hid.in (below_alloc hb1 (.cells #[.int .u8 o, .int .u8 a, .int .u8 b', .int .i32 n] 117))
  have HI1 := Hid.in (Blk.new w1 117 #[.int .u8 o, .int .u8 a, .int .u8 b', .int .i32 n])
  have HSZ := Hid.in hb1.size
  clear hb1
  go_upto_region 2 with fail
  generalize w1.heap.size = gi at *
  generalize w1.alloc (.cells #[.int .u8 o, .int .u8 a, .int .u8 b', .int .i32 n] 117) = w2 at *
  have f12 : w2.cell? ⟨h, 12, none⟩ = some (.slice pH hv.length cH) := (HBK.out.grow HB1.out).cell 12
  have zf : w2.frozen? ⟨h, 12, none⟩ = false := (HBK.out.grow HB1.out).free 12
  have HS : Hid (DoS w G B B' q mg h l b gi id st pc R S L xs pS cS o a b' n (w2.setCell ⟨h, 12, none⟩ (.slice none 0 0))) := by
    have hk := keeps_set (G := fun j => j = h) w2 h 12 (.slice none 0 0) rfl
    have hkG : Keeps G w2 _ := hk.wider (fun _ (e : _ = h) => e ▸ HG4.out.1)
    have hlt : h < w.heap.size := HBK.out.lt
    exact ⟨(HBK.out.grow HB1.out).set 12 (.slice none 0 0), HI1.out.other (by have := HSZ.out; omega) _ _, (HPS.out.below HB1.out).off HOS.out hkG, HOS.out, (HLN.out.below HB1.out).keeps hk (fun e => HG4.out.2.2.1 (e ▸ HG4.out.1)) (fun e => HHB.out e.symm),
      (HM.out.below HB1.out).keeps hk (fun e => HGG.out.2.2 (e ▸ HG4.out.1)) (fun e => HNM.out e.symm), (Keeps.ofBelow HB1.out).trans' hk, HG4.out.1, HG4.out.2.1, HG4.out.2.2.1, HGG.out.2.2, HGG.out.2.1, HG4.out.2.2.2, HHB.out, HNM.out, HNBM.out, HGG.out.1, HSZ.out⟩
  have HT3 : Hid (TrV (w2.setCell ⟨h, 12, none⟩ (.slice none 0 0)) v tr) := (HT.out.below HB1.out).hart (HBK.out.grow HB1.out) (keeps_set (G := fun j => j = h) w2 h 12 (.slice none 0 0) rfl)
  go_upto_region 3 with fail
  generalize w2.setCell ⟨h, 12, none⟩ (.slice none 0 0) = w3 at *
  clear HB1 HI1 HSZ f12 zf HBK HPS HLN HM HG4 HGG HOS HHB HNM HNBM HT
  have he : ¬ e = 0 := HCS.out
  have g0 : (e != 0) = true := by simpa using he
  have hF := hfault_any h l id st pc 120 R (.slice pS S.length cS) (.slice none 0 0) w3 HS.out.bh (by omega) (by omega)
  go_wp2_with (go_at_call 79; refine Hid.out ?_)
  refine Lib.hid ?_
  (with_reducible refine hF.mono ?_)
  rintro E w4 ⟨g4, rfl, ho4, hb4, hk4⟩
  have HO4 := Hid.in ho4
  have HB4 := Hid.in hb4
  have HK4 := Hid.in hk4
  clear ho4 hb4 hk4 hF
  go_wp2_with fail
  go_ret
  obtain ⟨m1, m2, m3⟩ := HS.out.hat HB4.out HK4.out
  rw [show insH id ⟨st, pc, R, S, [], L⟩ xs tr ⟨o, a, b', n, le, e⟩ = fltH id ⟨st, pc, R, S, [], L⟩ xs 120 from if_neg he]
  exact ⟨_, rfl, HO4.out.lower HS.out.kp.size, m1, m2, m3⟩

set_option maxHeartbeats 4000000 in
set_option maxRecDepth 8000 in
theorem hdo_brk (B B' q mg h l b : Nat) (G : Nat → Prop) (id : Int) (H : Hs) (xs : List Int) (v : Value) (tr : Option Nat) (w : World) (hh : HAt w G B h l b id H) (hm : Mem w B' q mg xs) (hG : ∀ j, G j → j < w.heap.size) (gm : G mg) (gq : ¬ G q) (_hx6 : xs.length ≤ 65536) (_hbx : Byt xs) (hok : HsOk 1000000 H) (ht : TrV w v tr) (hcase : (dec H.hv).e = 0 ∧ (dec H.hv).o = 4) :
    Calls Tryz.prog 45 #[.pointer (some ⟨h, 0, none⟩), .pointer (some ⟨q, 0, none⟩), v] w fun e w' => ∃ vv, e = .returned vv ∧ EOwn 41 w' w.heap.size vv (insH id (nilH H) xs tr (dec H.hv)).ev ∧ HAt w' G B h l b id (insH id (nilH H) xs tr (dec H.hv)).h ∧ Mem w' B' q mg (insH id (nilH H) xs tr (dec H.hv)).xs ∧ Keeps (fun j => j = h ∨ j = mg) w w' := by
  obtain ⟨st, pc, R, S, hv, L⟩ := H
  dsimp only [nilH] at hok ⊢
  obtain ⟨hpc, lR, wR, wS, lS, bH, lH, wL, lL⟩ := hok
  dsimp only at hpc lR wR wS lS bH lH wL lL
  obtain ⟨pS, cS, pH, cH, hB, hPS, hRH, oS, oH⟩ := hh.blk
  dsimp only at hB hPS hRH oS oH
  have hlin := hh.lin
  dsimp only at hlin
  have hD := decode_any pH hv.length cH hv w rfl (by omega) hRH bH
  have HDB : Hid _ := dec_bounds bH
  have HT := Hid.in ht
  have HNM : Hid (h ≠ mg) := fun e => by
    obtain ⟨cur, _, e2, _⟩ := hm.own.parts
    rw [← e, show w.heap[h]? = _ from hB] at e2
    simp at e2
  have HNBM : Hid (b ≠ mg) := fun e => by
    obtain ⟨es, cc, e1⟩ := hlin.isMap
    obtain ⟨cur, _, e2, _⟩ := hm.own.parts
    rw [← e, e1] at e2
    cases e2
  have HHB : Hid (h ≠ b) := hh.ne
  have HCS := Hid.in hcase
  dsimp only at HCS
  clear hcase
  generalize dec hv = d at *
  obtain ⟨o, a, b', n, le, e⟩ := d
  dsimp only [decV, decT] at hD HDB HCS ⊢
  have c12 : w.cell? ⟨h, 12, none⟩ = some (.slice pH hv.length cH) := hB.cell 12
  have HBK := Hid.in hB
  have HPS := Hid.in hPS
  have HLN := Hid.in hlin
  have HM := Hid.in hm
  have HG4 : Hid (G h ∧ G b ∧ ¬ G l ∧ B ≤ h) := ⟨hh.gh, hh.gb, hh.gl, hh.bh⟩
  have HGG : Hid ((∀ j, G j → j < w.heap.size) ∧ G mg ∧ ¬ G q) := ⟨hG, gm, gq⟩
  have HOS := Hid.in oS
  have HWR : Hid (R.length = 8 ∧ Wds R ∧ Wds S ∧ S.length ≤ 64) := ⟨lR, wR, wS, lS⟩
  clear hh hm hB hPS hRH oS oH hlin hG gm gq ht lR wR wS lS bH lH wL lL
  go_enter Tryz.func45, Tryz.ntmps45
  go_wp2_with (go_at_call 70; refine Hid.out ?_)
  refine Lib.hid ?_
  (with_reducible refine hD.mono ?_)
  rintro E w1 ⟨rfl, hb1⟩
  clear hD c12
  have HB1 := Hid.in (below_alloc hb1 (.cells #[.int .u8 o, .int .u8 a, .int .u8 b', .int .i32 n] 117))
  have HI1 := Hid.in (Blk.new w1 117 #[.int .u8 o, .int .u8 a, .int .u8 b', .int .i32 n])
  have HSZ := Hid.in hb1.size
  clear hb1
  go_upto_region 2 with fail
  generalize w1.heap.size = gi at *
  generalize w1.alloc (.cells #[.int .u8 o, .int .u8 a, .int .u8 b', .int .i32 n] 117) = w2 at *
  have f12 : w2.cell? ⟨h, 12, none⟩ = some (.slice pH hv.length cH) := (HBK.out.grow HB1.out).cell 12
  have zf : w2.frozen? ⟨h, 12, none⟩ = false := (HBK.out.grow HB1.out).free 12
  have HS : Hid (DoS w G B B' q mg h l b gi id st pc R S L xs pS cS o a b' n (w2.setCell ⟨h, 12, none⟩ (.slice none 0 0))) := by
    have hk := keeps_set (G := fun j => j = h) w2 h 12 (.slice none 0 0) rfl
    have hkG : Keeps G w2 _ := hk.wider (fun _ (e : _ = h) => e ▸ HG4.out.1)
    have hlt : h < w.heap.size := HBK.out.lt
    exact ⟨(HBK.out.grow HB1.out).set 12 (.slice none 0 0), HI1.out.other (by have := HSZ.out; omega) _ _, (HPS.out.below HB1.out).off HOS.out hkG, HOS.out, (HLN.out.below HB1.out).keeps hk (fun e => HG4.out.2.2.1 (e ▸ HG4.out.1)) (fun e => HHB.out e.symm),
      (HM.out.below HB1.out).keeps hk (fun e => HGG.out.2.2 (e ▸ HG4.out.1)) (fun e => HNM.out e.symm), (Keeps.ofBelow HB1.out).trans' hk, HG4.out.1, HG4.out.2.1, HG4.out.2.2.1, HGG.out.2.2, HGG.out.2.1, HG4.out.2.2.2, HHB.out, HNM.out, HNBM.out, HGG.out.1, HSZ.out⟩
  have HT3 : Hid (TrV (w2.setCell ⟨h, 12, none⟩ (.slice none 0 0)) v tr) := (HT.out.below HB1.out).hart (HBK.out.grow HB1.out) (keeps_set (G := fun j => j = h) w2 h 12 (.slice none 0 0) rfl)
  go_upto_region 3 with fail
  generalize w2.setCell ⟨h, 12, none⟩ (.slice none 0 0) = w3 at *
  clear HB1 HI1 HSZ f12 zf HBK HPS HLN HM HG4 HGG HOS HHB HNM HNBM HT
  obtain ⟨he, ho⟩ := HCS.out
  have g0 : (e != 0) = false := by simpa using he
  have g1 : (o == 4) = true := by simpa using ho
  have i0 : w3.cell? ⟨gi, 0, none⟩ = some (.int .u8 o) := HS.out.bi.cell 0
  have HF : Hid (insH id ⟨st, pc, R, S, [], L⟩ xs tr ⟨o, a, b', n, le, e⟩ = folH id ⟨st, pc, R, S, [], L⟩ xs tr) := (if_pos he).trans (if_pos ho)
  have HSP : Hid ((∀ h0 : tr = none, TrV w3 v none) ∧ ∀ z, tr = some z → TrV w3 v (some z)) := ⟨fun h0 => h0 ▸ HT3.out, fun z h0 => h0 ▸ HT3.out⟩
  rcases Option.eq_none_or_eq_some tr with htr | ⟨z, htr⟩
  · have hF := follow_none h l id st pc R (.slice pS S.length cS) (.slice none 0 0) v w3 HS.out.bh (by omega) (HSP.out.1 htr)
    have HTR := Hid.in htr
    clear htr
    go_wp2_with (go_at_call 81; refine Hid.out ?_)
    refine Lib.hid ?_
    (with_reducible refine hF.mono ?_)
    rintro E w4 ⟨g4, rfl, ho4, hb4, hk4⟩
    have HO4 := Hid.in ho4
    have HB4 := Hid.in hb4
    have HK4 := Hid.in hk4
    clear ho4 hb4 hk4 hF
    go_wp2_with fail
    go_ret
    obtain ⟨m1, m2, m3⟩ := HS.out.hat HB4.out HK4.out
    rw [HF.out, HTR.out]
    exact ⟨_, rfl, HO4.out.lower HS.out.kp.size, m1, m2, m3⟩
  · have hF := follow_some h l z id st pc R (.slice pS S.length cS) (.slice none 0 0) v w3 HS.out.bh (by omega) (HSP.out.2 z htr)
    have HTR := Hid.in htr
    clear htr
    go_wp2_with (go_at_call 81; refine Hid.out ?_)
    refine Lib.hid ?_
    (with_reducible refine hF.mono ?_)
    rintro E w4 ⟨g4, rfl, ho4, hb4, hk4⟩
    have HO4 := Hid.in ho4
    have HB4 := Hid.in hb4
    have HK4 := Hid.in hk4
    clear ho4 hb4 hk4 hF
    go_wp2_with fail
    go_ret
    obtain ⟨m1, m2, m3⟩ := HS.out.hat HB4.out HK4.out
    rw [HF.out, HTR.out]
    exact ⟨_, rfl, HO4.out.lower HS.out.kp.size, m1, m2, m3⟩

end Go.Proofs.YtnpaijbkhmnfpaaGreat
