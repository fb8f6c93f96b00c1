/- Texts put together: HrtL, HrtC, HrtD. -/
import Derived.Test.YtnpaijbkhmnfpaaGreatGi
import Derived.Test.YtnpaijbkhmnfpaaGreatGc
import Derived.Test.YtnpaijbkhmnfpaaGreatGd
import Derived.Test.YtnpaijbkhmnfpaaGreatGj
import Derived.Deep.DeepCutAuto

/- What a hart does in a step, as lists: P15.2. -/
namespace Go.Proofs.YtnpaijbkhmnfpaaGreat
open Go.RowKit Go.Maps

/-- all of a hart -/
structure Hs where
  st : Int
  pc : Nat
  R : List Int
  S : List Int
  hv : List Int
  L : List Ln

/-- what a load or store is handed -/
def dataL (xs : List Int) (o : Nat) (n : Int) : List Int := if o = 14 ∨ o = 15 then (xs.drop n.toNat).take 4 else []
/-- what an instruction's effect tells -/
def evX (id : Int) (pc : Nat) (o : Nat) (E : Eff) : List Ev :=
  [⟨2, id, pc, o, E.nx⟩] ++ (if E.ou = true then [⟨5, id, 0, 0, E.va⟩] else []) ++ (if E.st = true then [⟨6, id, E.at_, 0, E.va⟩] else []) ++ (if E.ht = true then [⟨12, id, pc, 0, 0⟩] else [])
/-- what a step leaves: the hart, memory's bytes, the events -/
structure St where
  h : Hs
  xs : List Int
  ev : List Ev
def fltH (id : Int) (h : Hs) (xs : List Int) (e : Int) : St := ⟨{ h with st := 2 }, xs, [⟨4, id, h.pc, 0, e⟩]⟩
def movH (id : Int) (h : Hs) (xs : List Int) (s : Fs) : St :=
  if s.e = 0 then ⟨{ h with hv := s.out, L := s.L }, xs, [⟨1, id, ((h.pc + h.hv.length : Nat) : Int), 0, if s.is = true then 1 else 0⟩]⟩ else fltH id h xs s.e
def folH (id : Int) (h : Hs) (xs : List Int) : Option Nat → St
  | none => fltH id h xs 120
  | some z => ⟨{ h with pc := z }, xs, [⟨3, id, h.pc, 0, z⟩]⟩
def exeH (id : Int) (h : Hs) (xs : List Int) (o : Nat) (r : List Int × List Int × Eff) : St :=
  if r.2.2.fl = 0 then ⟨⟨if r.2.2.ht = true then 1 else h.st, r.2.2.nx.toNat, r.1, r.2.1, h.hv, h.L⟩, if r.2.2.st = true then putA xs r.2.2.at_.toNat (le4 r.2.2.va) else xs, evX id h.pc o r.2.2⟩ else fltH id h xs r.2.2.fl
/-- what is done with an instruction -/
def insH (id : Int) (h : Hs) (xs : List Int) (tr : Option Nat) (d : Dec) : St :=
  if d.e = 0 then (if d.o = 4 then folH id h xs tr else exeH id h xs d.o.toNat (doL d.o.toNat d.a.toNat d.b.toNat d.n h.pc h.R h.S (dataL xs d.o.toNat d.n))) else fltH id h xs 120
def nilH (h : Hs) : Hs := { h with hv := [] }
/-- a step -/
def stpH (id : Int) (h : Hs) (xs : List Int) (hold : Bool) (tr : Option Nat) : St :=
  if h.st = 0 then (if doneB h.hv = true then insH id (nilH h) xs tr (dec h.hv) else movH id h xs (stpR h.L xs h.pc h.hv hold)) else ⟨h, xs, []⟩

/-- a hart that may be: at most k granules -/
structure HsOk (k : Nat) (h : Hs) : Prop where
  pc : h.pc ≤ 4294967295
  lR : h.R.length = 8
  wR : Wds h.R
  wS : Wds h.S
  lS : h.S.length ≤ 64
  bH : Byt h.hv
  lH : h.hv.length ≤ 6
  wL : LnW h.L
  lL : h.L.length ≤ k
theorem HsOk.more {k k' : Nat} {h : Hs} (hk : HsOk k h) (h1 : k ≤ k') : HsOk k' h := ⟨hk.pc, hk.lR, hk.wR, hk.wS, hk.lS, hk.bH, hk.lH, hk.wL, Nat.le_trans hk.lL h1⟩
theorem HsOk.nil {k : Nat} {h : Hs} (hk : HsOk k h) : HsOk k (nilH h) := ⟨hk.pc, hk.lR, hk.wR, hk.wS, hk.lS, byt_nil, Nat.zero_le _, hk.wL, hk.lL⟩

end Go.Proofs.YtnpaijbkhmnfpaaGreat

/- What an instruction tells: done. -/
namespace Go.Proofs.YtnpaijbkhmnfpaaGreat
open Go.RowKit Go.Maps

/-- done's variables -/
structure DnS (w : World) (gx : Nat) (h : Nat) (id : Int) (pc : Nat) (E : Eff) (L : List Ev) (v : Value) (wx : World) : Prop where
  bel : Below w.heap.size w wx
  bx : Blk wx gx 134 (effA E)
  c0 : wx.cell? ⟨h, 0, none⟩ = some (.int .i64 id)
  c2 : wx.cell? ⟨h, 2, none⟩ = some (.int .u32 pc)
  ow : EOwn 41 wx w.heap.size v L
  len : L.length ≤ 8
theorem DnS.below {w wx wy : World} {gx h pc : Nat} {id : Int} {E : Eff} {L : List Ev} {v : Value} (k : DnS w gx h id pc E L v wx) (hb : Below wx.heap.size wx wy) : DnS w gx h id pc E L v wy :=
  ⟨below_step k.bel hb, k.bx.grow hb, by rw [hb.cell (p := ⟨h, 0, none⟩) (cell_lt k.c0)]; exact k.c0, by rw [hb.cell (p := ⟨h, 2, none⟩) (cell_lt k.c2)]; exact k.c2, k.ow.below hb, k.len⟩

theorem ifF (l x : List Ev) : (l ++ if false = true then x else []) = l := by simp
theorem cell_other {w : World} {g h i j : Nat} {v : Value} (hne : g ≠ h) : (w.setCell ⟨g, i, none⟩ v).cell? ⟨h, j, none⟩ = w.cell? ⟨h, j, none⟩ :=
  World.cell?_setCell_other _ _ _ _ (by intro e; injection e with e; exact hne e)
theorem EOwn.ownNe {w : World} {B g : Nat} {v : Value} {L : List Ev} {T T' : TypeId} {E : Array Value} (h : EOwn T w B v L) (hb : Blk w g T' E) (hT : T ≠ T') : some g ≠ v.ownBlock := by
  rcases h.2 with ⟨e1, e2⟩ | ⟨g', cap, cur, e1, e2, e3, e4⟩
  · rw [e1]; intro e; cases e
  · rw [e1]
    intro e
    have e' : some g = some g' := e
    injection e' with e'
    rw [← e', show w.heap[g]? = _ from hb] at e3
    injection e3 with e3
    injection e3 with _ e3 _
    exact hT e3.symm
theorem EOwn.ownGe {w : World} {B : Nat} {v : Value} {L : List Ev} {T : TypeId} (h : EOwn T w B v L) {k : Nat} (hk : v.ownBlock = some k) : B ≤ k := by
  rcases h.2 with ⟨e1, e2⟩ | ⟨g', cap, cur, e1, e2, e3, e4⟩
  · rw [e1] at hk; cases hk
  · rw [e1] at hk
    have e' : some g' = some k := hk
    injection e' with e'
    omega
theorem DnS.pushed {w wx w' : World} {gx h pc : Nat} {id : Int} {E : Eff} {L : List Ev} {v v' : Value} {q : Ev} {ob : Obj} (k : DnS w gx h id pc E L v wx) (hh : h < w.heap.size) (ho : EOwn 41 w' w.heap.size v' (L ++ [q])) (hg : (wx.alloc ob).grownBy w' v.ownBlock) (hb : Below w.heap.size w w') (hl : L.length ≤ 7) :
    DnS w gx h id pc E (L ++ [q]) v' w' := by
  have k1 := k.below (new_alloc wx ob)
  have hc : ∀ j u, (wx.alloc ob).cell? ⟨h, j, none⟩ = some u → w'.cell? ⟨h, j, none⟩ = some u := fun j u hu => by
    have := hg.block h (cell_lt hu) (fun e => by have := k1.ow.ownGe e.symm; omega)
    unfold World.cell? at hu ⊢
    dsimp only at hu ⊢
    rw [this]; exact hu
  exact ⟨hb, k1.bx.kept hg (k1.ow.ownNe k1.bx (by decide)), hc _ _ k1.c0, hc _ _ k1.c2, ho, by rw [List.length_append]; simp; omega⟩

set_option maxHeartbeats 4000000 in
set_option maxRecDepth 8000 in
theorem hdone_any (h pc o : Nat) (id : Int) (E : Eff) (w : World) (h0 : w.cell? ⟨h, 0, none⟩ = some (.int .i64 id)) (h2 : w.cell? ⟨h, 2, none⟩ = some (.int .u32 pc)) (hpc : pc ≤ 4294967295) (hnx : 0 ≤ E.nx ∧ E.nx ≤ 4294967295) (hat : 0 ≤ E.at_ ∧ E.at_ ≤ 4294967295) (hva : 0 ≤ E.va ∧ E.va ≤ 4294967295) :
    Calls Tryz.prog 83 #[.pointer (some ⟨h, 0, none⟩), .int .u8 o, .agg (effA E)] w fun e w' => ∃ v, e = .returned v ∧ EOwn 41 w' w.heap.size v (evX id pc o E) ∧ Below w.heap.size w w' := by
  obtain ⟨nx, ht, fl, ou, st, at_, va⟩ := E
  have HB1 := Hid.in (Blk.new w 134 (effA ⟨nx, ht, fl, ou, st, at_, va⟩))
  have HN1 := Hid.in (new_alloc w (.cells (effA ⟨nx, ht, fl, ou, st, at_, va⟩) 134))
  have HH0 : Hid (h < w.heap.size) := cell_lt h0
  have hz := size_one w (.cells (effA ⟨nx, ht, fl, ou, st, at_, va⟩) 134)
  dsimp only at hnx hat hva
  simp only [effA] at HB1 HN1 hz ⊢
  go_enter Tryz.func83, Tryz.ntmps83
  go_upto_region 1 with fail
  generalize w.alloc (.cells #[.int .u32 nx, .bool ht, .int .i64 fl, .bool ou, .bool st, .int .u32 at_, .int .u32 va] 134) = w1 at *
  have c0 : w1.cell? ⟨h, 0, none⟩ = some (.int .i64 id) := by rw [HN1.out.cell (p := ⟨h, 0, none⟩) (cell_lt h0)]; exact h0
  have c2 : w1.cell? ⟨h, 2, none⟩ = some (.int .u32 pc) := by rw [HN1.out.cell (p := ⟨h, 2, none⟩) (cell_lt h2)]; exact h2
  have x0 : w1.cell? ⟨w.heap.size, 0, none⟩ = some (.int .u32 nx) := HB1.out.cell 0
  have HE := fun W (hc : W.cell? ⟨h, 0, none⟩ = some (.int .i64 id)) => event_any h id 2 pc nx W hc (by omega) hnx
  have HG := Hid.in (Nat.lt_of_lt_of_eq (Nat.lt_succ_self w.heap.size) hz.symm)
  clear hz
  go_cut [7] (fun v7 wx => ∃ g, v7 = .pointer (some ⟨g, 0, none⟩) ∧ Blk wx g 41 (evA ⟨2, id, pc, 0, nx⟩) ∧ Below w1.heap.size w1 wx ∧ w1.heap.size ≤ g)
  case first =>
    have k0 : w1.drew.cell? ⟨h, 0, none⟩ = some (.int .i64 id) := c0
    have ka : (w1.alloc (.cells zEv 41)).drew.cell? ⟨h, 0, none⟩ = some (.int .i64 id) := by
      show (w1.alloc (.cells zEv 41)).cell? _ = _
      rw [(new_alloc w1 _).cell (p := ⟨h, 0, none⟩) (cell_lt c0)]; exact c0
    have HEa := HE _ k0
    have HEb := HE _ ka
    have HZ := Hid.in (Blk.new w1 41 zEv)
    have HNz := Hid.in (new_alloc w1 (.cells zEv 41))
    have hne1 : ¬ h = w1.heap.size := fun e => by have := cell_lt c2; omega
    have hne2 : ¬ w.heap.size = w1.heap.size := fun e => by have := cell_lt x0; omega
    have hne3 : ¬ w1.heap.size = h := fun e => hne1 e.symm
    have hne4 : ¬ w1.heap.size = w.heap.size := fun e => hne2 e.symm
    clear HE k0 ka
    simp only [evA] at HEa HEb
    go_region_held3 (fun W => W.cell? ⟨h, 2, none⟩ = some (.int .u32 pc) ∧ W.cell? ⟨w.heap.size, 0, none⟩ = some (.int .u32 nx)) (first | (with_reducible exact hk1) | go_keep)
      (first
        | (go_at_call 80; (with_reducible refine HEa.mono ?_); rintro e w2 ⟨rfl, hb2⟩; have HBa := Hid.in (below_step (below_draws (below_self w1) 1) hb2); have hk1 : w2.cell? ⟨h, 2, none⟩ = some (.int .u32 pc) ∧ w2.cell? ⟨w.heap.size, 0, none⟩ = some (.int .u32 nx) := ⟨(HBa.out.cell (p := ⟨h, 2, none⟩) (cell_lt c2)).trans c2, (HBa.out.cell (p := ⟨w.heap.size, 0, none⟩) (cell_lt x0)).trans x0⟩; clear hb2)
        | (go_at_call 80; (with_reducible refine HEb.mono ?_); rintro e w2 ⟨rfl, hb2⟩; have HBb := Hid.in (below_step (below_draws HNz.out 1) hb2); have HZb : Hid (Blk w2 w1.heap.size 41 zEv) := HZ.out.grow (below_step (below_draws (below_self _) 1) hb2); have hk1 : w2.cell? ⟨h, 2, none⟩ = some (.int .u32 pc) ∧ w2.cell? ⟨w.heap.size, 0, none⟩ = some (.int .u32 nx) := ⟨(HBb.out.cell (p := ⟨h, 2, none⟩) (cell_lt c2)).trans c2, (HBb.out.cell (p := ⟨w.heap.size, 0, none⟩) (cell_lt x0)).trans x0⟩; have y0 : w2.cell? ⟨w1.heap.size, 0, none⟩ = some (.int .u8 0) := HZb.out.cell 0; have y1 : w2.cell? ⟨w1.heap.size, 1, none⟩ = some (.int .i64 0) := HZb.out.cell 1; have y2 : w2.cell? ⟨w1.heap.size, 2, none⟩ = some (.int .i64 0) := HZb.out.cell 2; have y3 : w2.cell? ⟨w1.heap.size, 3, none⟩ = some (.int .i64 0) := HZb.out.cell 3; have y4 : w2.cell? ⟨w1.heap.size, 4, none⟩ = some (.int .u8 0) := HZb.out.cell 4; have y5 : w2.cell? ⟨w1.heap.size, 5, none⟩ = some (.int .i64 0) := HZb.out.cell 5; have y6 : w2.cell? ⟨w1.heap.size, 6, none⟩ = some (.int .i64 0) := HZb.out.cell 6; have yf : ∀ i, w2.frozen? ⟨w1.heap.size, i, none⟩ = false := fun i => HZb.out.free i; clear hb2))
    · go_wp2_with fail
      go_meet
      case rel => exact ⟨_, rfl, Blk.new w2 41 _, below_alloc HBa.out _, HBa.out.size⟩
    · go_wp2_with fail
      go_meet
      case rel => exact ⟨_, rfl, HZb.out.setAll (evA ⟨2, id, pc, 0, nx⟩) rfl, HBb.out.grown (grown_setCells w1.heap.size (evA ⟨2, id, pc, 0, nx⟩).toList 0 w2) HBb.out.size (fun k hk => by cases hk; exact Nat.le_refl _), Nat.le_refl _⟩
  case rest =>
    obtain ⟨g, rfl, hbg, hbc, hg1⟩ := hcut
    have HX2 := Hid.in (HB1.out.grow hbc)
    have HC0 : Hid (wc.cell? ⟨h, 0, none⟩ = some (.int .i64 id)) := (hbc.cell (p := ⟨h, 0, none⟩) (cell_lt c0)).trans c0
    have HC2 : Hid (wc.cell? ⟨h, 2, none⟩ = some (.int .u32 pc)) := (hbc.cell (p := ⟨h, 2, none⟩) (cell_lt c2)).trans c2
    have HL : Hid (h < w1.heap.size) := cell_lt c0
    have HBg := Hid.in hbg
    have HBw := Hid.in (below_step HN1.out hbc)
    have HLg := Hid.in hg1
    have f4 : wc.frozen? ⟨g, 4, none⟩ = false := hbg.free 4
    have y4 : wc.cell? ⟨g, 4, none⟩ = some (.int .u8 0) := hbg.cell 4
    have HBg2 : Hid (Blk (wc.setCell ⟨g, 4, none⟩ (.int .u8 o)) g 41 (evA ⟨2, id, pc, o, nx⟩)) := hbg.set 4 (.int .u8 o)
    have HGg := Hid.in (grown_setCell wc g 4 (.int .u8 o))
    clear HE HN1 HB1 c0 c2 x0 hbg hbc hg1 h0 h2
    go_upto_region 3 with fail
    have HX3 := Hid.in (HX2.out.kept HGg.out (by intro e; injection e with e; have := HG.out; have := HLg.out; omega))
    have hd0 : (wc.setCell ⟨g, 4, none⟩ (.int .u8 o)).cell? ⟨h, 0, none⟩ = some (.int .i64 id) := by rw [cell_other (by have := HL.out; have := HLg.out; omega)]; exact HC0.out
    have hd2 : (wc.setCell ⟨g, 4, none⟩ (.int .u8 o)).cell? ⟨h, 2, none⟩ = some (.int .u32 pc) := by rw [cell_other (by have := HL.out; have := HLg.out; omega)]; exact HC2.out
    have HB3 := Hid.in (HBw.out.grown HGg.out HBw.out.size (fun k hk => by cases hk; have := HG.out; have := HLg.out; omega))
    clear HX2 HC0 HC2 HBg HGg f4 y4 HBw
    generalize wc.setCell ⟨g, 4, none⟩ (.int .u8 o) = w3 at *
    have y0 : w3.cell? ⟨g, 0, none⟩ = some (.int .u8 2) := HBg2.out.cell 0
    have y1 : w3.cell? ⟨g, 1, none⟩ = some (.int .i64 0) := HBg2.out.cell 1
    have y2 : w3.cell? ⟨g, 2, none⟩ = some (.int .i64 id) := HBg2.out.cell 2
    have y3 : w3.cell? ⟨g, 3, none⟩ = some (.int .i64 pc) := HBg2.out.cell 3
    have y4 : w3.cell? ⟨g, 4, none⟩ = some (.int .u8 o) := HBg2.out.cell 4
    have y5 : w3.cell? ⟨g, 5, none⟩ = some (.int .i64 0) := HBg2.out.cell 5
    have y6 : w3.cell? ⟨g, 6, none⟩ = some (.int .i64 nx) := HBg2.out.cell 6
    have HS : Hid (DnS w w.heap.size h id pc ⟨nx, ht, fl, ou, st, at_, va⟩ [⟨2, id, pc, o, nx⟩] (.slice (some ⟨w3.heap.size, 0, none⟩) 1 1) (w3.alloc (.cells (evA ⟨2, id, pc, o, nx⟩) 41))) :=
      ⟨below_alloc HB3.out _, HX3.out.grow (new_alloc _ _), by rw [(new_alloc w3 _).cell (p := ⟨h, 0, none⟩) (cell_lt hd0)]; exact hd0, by rw [(new_alloc w3 _).cell (p := ⟨h, 2, none⟩) (cell_lt hd2)]; exact hd2, (EOwn.one w3 _).lower HB3.out.size, by simp⟩
    clear HX3 hd0 hd2 HB3 HBg2
    simp only [evA] at HS
    have HH : Hid (h < w.heap.size) := HH0.out
    go_upto_region 4 with fail
    generalize w3.heap.size = g3 at *
    generalize w3.alloc (.cells #[.int .u8 2, .int .i64 0, .int .i64 id, .int .i64 pc, .int .u8 o, .int .i64 0, .int .i64 nx] 41) = w4 at *
    clear y0 y1 y2 y3 y4 y5 y6
    have HLN : Hid (([⟨2, id, pc, o, nx⟩] : List Ev).length ≤ 1048576) := by show _ ≤ _; have := HS.out.len; omega
    have HLM : Hid (([⟨2, id, pc, o, nx⟩] : List Ev).length ≤ 7) := by show _ ≤ _; simp
    have q3 : w4.cell? ⟨w.heap.size, 3, none⟩ = some (.bool ou) := HS.out.bx.cell 3
    have q5 : w4.cell? ⟨w.heap.size, 5, none⟩ = some (.int .u32 at_) := HS.out.bx.cell 5
    have q6 : w4.cell? ⟨w.heap.size, 6, none⟩ = some (.int .u32 va) := HS.out.bx.cell 6
    have qp : w4.cell? ⟨h, 2, none⟩ = some (.int .u32 pc) := HS.out.c2
    have hE := event_any h id 5 0 va w4 HS.out.c0 (by omega) (by omega)
    go_upto_if 22 with fail
    go_cut [8] (fun v8 wx => DnS w w.heap.size h id pc ⟨nx, ht, fl, ou, st, at_, va⟩ ([⟨2, id, pc, o, nx⟩] ++ if ou = true then [⟨5, id, 0, 0, va⟩] else []) v8 wx)
    case first =>
      cases ou
      · go_wp2_with fail
        go_meet
        case rel => first | exact HS.out | (rw [ifF]; exact HS.out)
      · go_wp2_with (go_at_call 80; refine Hid.out ?_)
        refine Lib.hid ?_
        (with_reducible refine hE.mono ?_)
        rintro e w5 ⟨rfl, hb5⟩
        have HS5 := Hid.in (HS.out.below hb5)
        have hsz := HS5.out.bel.size
        have hnews := news7 w5 ⟨5, id, 0, 0, va⟩ 41
        clear hE hb5
        simp only [evA] at hnews ⊢
        go_wp2_with (at_builtin; refine epush Tryz.elemEv _ rfl _ _ rfl w.heap.size _ ([⟨2, id, pc, o, nx⟩]) rfl (HS5.out.ow.alloc _) ⟨w5.heap.size, 0, none⟩ 1 ⟨5, id, 0, 0, va⟩ rfl hnews HLN.out (by decide) (by rw [size_one]; omega) ?_; intro v6 w6 hT6 hg6 hb6; have HS6 := Hid.in (HS5.out.pushed HH.out hT6 hg6 (hb6 w (below_alloc HS5.out.bel _)) HLM.out); clear hT6 hg6 hb6)
        go_meet
        case rel => exact HS6.out
    case rest =>
      have HS := Hid.in hcut
      clear hcut HLN HLM hE q3 q5 q6 qp
      have HLN : Hid ((([⟨2, id, pc, o, nx⟩] ++ if ou = true then [⟨5, id, 0, 0, va⟩] else []) : List Ev).length ≤ 1048576) := by show _ ≤ _; have := HS.out.len; omega
      have HLM : Hid ((([⟨2, id, pc, o, nx⟩] ++ if ou = true then [⟨5, id, 0, 0, va⟩] else []) : List Ev).length ≤ 7) := by show _ ≤ _; split <;> simp
      have q4 : wc.cell? ⟨w.heap.size, 4, none⟩ = some (.bool st) := HS.out.bx.cell 4
      have q5 : wc.cell? ⟨w.heap.size, 5, none⟩ = some (.int .u32 at_) := HS.out.bx.cell 5
      have q6 : wc.cell? ⟨w.heap.size, 6, none⟩ = some (.int .u32 va) := HS.out.bx.cell 6
      have qp : wc.cell? ⟨h, 2, none⟩ = some (.int .u32 pc) := HS.out.c2
      have hE := event_any h id 6 at_ va wc HS.out.c0 (by omega) (by omega)
      go_upto_if 31 with fail
      go_cut [8] (fun v8 wx => DnS w w.heap.size h id pc ⟨nx, ht, fl, ou, st, at_, va⟩ (([⟨2, id, pc, o, nx⟩] ++ if ou = true then [⟨5, id, 0, 0, va⟩] else []) ++ if st = true then [⟨6, id, at_, 0, va⟩] else []) v8 wx)
      case first =>
        cases st
        · go_wp2_with fail
          go_meet
          case rel => first | exact HS.out | (rw [ifF]; exact HS.out)
        · go_wp2_with (go_at_call 80; refine Hid.out ?_)
          refine Lib.hid ?_
          (with_reducible refine hE.mono ?_)
          rintro e w5 ⟨rfl, hb5⟩
          have HS5 := Hid.in (HS.out.below hb5)
          have hsz := HS5.out.bel.size
          have hnews := news7 w5 ⟨6, id, at_, 0, va⟩ 41
          clear hE hb5
          simp only [evA] at hnews ⊢
          go_wp2_with (at_builtin; refine epush Tryz.elemEv _ rfl _ _ rfl w.heap.size _ (([⟨2, id, pc, o, nx⟩] ++ if ou = true then [⟨5, id, 0, 0, va⟩] else [])) rfl (HS5.out.ow.alloc _) ⟨w5.heap.size, 0, none⟩ 1 ⟨6, id, at_, 0, va⟩ rfl hnews HLN.out (by decide) (by rw [size_one]; omega) ?_; intro v6 w6 hT6 hg6 hb6; have HS6 := Hid.in (HS5.out.pushed HH.out hT6 hg6 (hb6 w (below_alloc HS5.out.bel _)) HLM.out); clear hT6 hg6 hb6)
          go_meet
          case rel => exact HS6.out
      case rest =>
        have HS := Hid.in hcut
        clear hcut HLN HLM hE q4 q5 q6 qp
        have HLN : Hid (((([⟨2, id, pc, o, nx⟩] ++ if ou = true then [⟨5, id, 0, 0, va⟩] else []) ++ if st = true then [⟨6, id, at_, 0, va⟩] else []) : List Ev).length ≤ 1048576) := by show _ ≤ _; have := HS.out.len; omega
        have HLM : Hid (((([⟨2, id, pc, o, nx⟩] ++ if ou = true then [⟨5, id, 0, 0, va⟩] else []) ++ if st = true then [⟨6, id, at_, 0, va⟩] else []) : List Ev).length ≤ 7) := by show _ ≤ _; split <;> split <;> simp
        have q1 : wc.cell? ⟨w.heap.size, 1, none⟩ = some (.bool ht) := HS.out.bx.cell 1
        have q5 : wc.cell? ⟨w.heap.size, 5, none⟩ = some (.int .u32 at_) := HS.out.bx.cell 5
        have q6 : wc.cell? ⟨w.heap.size, 6, none⟩ = some (.int .u32 va) := HS.out.bx.cell 6
        have qp : wc.cell? ⟨h, 2, none⟩ = some (.int .u32 pc) := HS.out.c2
        have hE := event_any h id 12 pc 0 wc HS.out.c0 (by omega) (by omega)
        go_upto_if 42 with fail
        go_cut [8] (fun v8 wx => DnS w w.heap.size h id pc ⟨nx, ht, fl, ou, st, at_, va⟩ ((([⟨2, id, pc, o, nx⟩] ++ if ou = true then [⟨5, id, 0, 0, va⟩] else []) ++ if st = true then [⟨6, id, at_, 0, va⟩] else []) ++ if ht = true then [⟨12, id, pc, 0, 0⟩] else []) v8 wx)
        case first =>
          cases ht
          · go_wp2_with fail
            go_meet
            case rel => first | exact HS.out | (rw [ifF]; exact HS.out)
          · go_wp2_with (go_at_call 80; refine Hid.out ?_)
            refine Lib.hid ?_
            (with_reducible refine hE.mono ?_)
            rintro e w5 ⟨rfl, hb5⟩
            have HS5 := Hid.in (HS.out.below hb5)
            have hsz := HS5.out.bel.size
            have hnews := news7 w5 ⟨12, id, pc, 0, 0⟩ 41
            clear hE hb5
            simp only [evA] at hnews ⊢
            go_wp2_with (at_builtin; refine epush Tryz.elemEv _ rfl _ _ rfl w.heap.size _ ((([⟨2, id, pc, o, nx⟩] ++ if ou = true then [⟨5, id, 0, 0, va⟩] else []) ++ if st = true then [⟨6, id, at_, 0, va⟩] else [])) rfl (HS5.out.ow.alloc _) ⟨w5.heap.size, 0, none⟩ 1 ⟨12, id, pc, 0, 0⟩ rfl hnews HLN.out (by decide) (by rw [size_one]; omega) ?_; intro v6 w6 hT6 hg6 hb6; have HS6 := Hid.in (HS5.out.pushed HH.out hT6 hg6 (hb6 w (below_alloc HS5.out.bel _)) HLM.out); clear hT6 hg6 hb6)
            go_meet
            case rel => exact HS6.out
        case rest =>
          have HS := Hid.in hcut
          clear hcut HLN HLM hE q1 q5 q6 qp
          go_wp2_with fail
          go_ret
          exact ⟨_, rfl, HS.out.ow, HS.out.bel⟩

end Go.Proofs.YtnpaijbkhmnfpaaGreat

/- What a load or store is handed; what a store writes. -/
namespace Go.Proofs.YtnpaijbkhmnfpaaGreat
open Go.RowKit Go.Maps

set_option maxHeartbeats 800000 in
theorem hdata_no (q : Nat) (o a b n : Int) (w : World) (h1 : o ≠ 14) (h2 : o ≠ 15) :
    Calls Tryz.prog 82 #[.pointer (some ⟨q, 0, none⟩), ins o a b n] w fun e w' => e = .returned (.slice none 0 0) ∧ Below w.heap.size w w' := by
  have g1 : (o != 14) = true := by simpa using h1
  have g2 : (o != 15) = true := by simpa using h2
  go_enter Tryz.func82, Tryz.ntmps82
  go_wp2
  go_ret
  exact ⟨rfl, new_alloc w _⟩

set_option maxHeartbeats 1600000 in
theorem hdata_yes (q g B n : Nat) (o a b : Int) (xs : List Int) (w : World) (hm : Mem w B q g xs) (hl : xs.length ≤ 65536) (ho : o = 14 ∨ o = 15) (hn : n ≤ 2147483647) :
    Calls Tryz.prog 82 #[.pointer (some ⟨q, 0, none⟩), ins o a b n] w fun e w' => ∃ v, e = .returned v ∧ OwnV w' w.heap.size v ((xs.drop n).take 4) ∧ Below w.heap.size w w' := by
  have HN := Hid.in (new_alloc w (.cells #[.int .u8 o, .int .u8 a, .int .u8 b, .int .i32 n] 117))
  have hm1 := hm.below HN.out
  clear hm
  have e1 : (n : Int) % 18446744073709551616 = n := by omega
  have g12 : (o != 14) = true ∧ (o != 15) = false ∨ (o != 14) = false := by
    rcases ho with rfl | rfl
    · exact .inr rfl
    · exact .inl ⟨rfl, rfl⟩
  clear ho
  have HLn := len_any q g B xs _ hm1
  have hr4 : ∃ r : Nat, r = min 4 (xs.length - n) := ⟨_, rfl⟩
  obtain ⟨r, hr⟩ := hr4
  have hmx : max 0 ((xs.length : Int) - n) = ((xs.length - n : Nat) : Int) := by omega
  by_cases hin : n ≤ xs.length
  · have hR : Calls Tryz.prog 69 #[.pointer (some ⟨q, 0, none⟩), .int .i64 n, .int .i64 r] (w.alloc (.cells #[.int .u8 o, .int .u8 a, .int .u8 b, .int .i32 n] 117)) _ := read_ok q g B n r xs _ hm1 (by omega) hl
    have HE : Hid ((xs.drop n).take r = (xs.drop n).take 4) := by
      show _ = _
      by_cases h4 : 4 ≤ xs.length - n
      · rw [hr, Nat.min_eq_left h4]
      · rw [List.take_of_length_le (i := 4) (by rw [List.length_drop]; omega), List.take_of_length_le (by rw [List.length_drop]; omega)]
    have hmn : min 4 (max 0 ((xs.length : Int) - n)) = (r : Int) := by omega
    have HL4 : Hid (((xs.drop n).take 4).length = r) := by show _ = _; rw [List.length_take, List.length_drop]; omega
    clear hm1 hr hmx
    rcases g12 with ⟨g1, g2⟩ | g1
    all_goals
      go_enter Tryz.func82, Tryz.ntmps82
      go_upto_region 4 with fail
      generalize w.alloc (.cells #[.int .u8 o, .int .u8 a, .int .u8 b, .int .i32 n] 117) = w1 at *
      go_wp2_with (first
        | (go_at_call 110; (with_reducible refine HLn.mono ?_); rintro e w2 ⟨rfl, rfl⟩)
        | (go_at_call 69; refine Hid.out ?_))
      refine Lib.hid ?_
      (with_reducible refine hR.mono ?_)
      rintro e w3 ⟨k, rfl, ho3, hb3⟩
      have HO3 := Hid.in (ho3.lower HN.out.size)
      have HB3 := Hid.in (below_step HN.out hb3)
      clear ho3 hb3 hR HLn
      go_wp2_with fail
      go_ret
      refine ⟨_, rfl, ?_, HB3.out⟩
      have := HO3.out
      rw [HE.out] at this
      have := this.val
      rwa [HL4.out] at this
  · have hR : Calls Tryz.prog 69 #[.pointer (some ⟨q, 0, none⟩), .int .i64 n, .int .i64 0] (w.alloc (.cells #[.int .u8 o, .int .u8 a, .int .u8 b, .int .i32 n] 117)) _ := read_out q g B n 0 xs _ hm1 (by omega) (by omega) (by omega)
    have HE : Hid ((xs.drop n).take 4 = []) := by show _ = _; rw [List.drop_eq_nil_of_le (by omega)]; rfl
    have hmn : min 4 (max 0 ((xs.length : Int) - n)) = 0 := by omega
    clear hm1 hr hmx
    rcases g12 with ⟨g1, g2⟩ | g1
    all_goals
      go_enter Tryz.func82, Tryz.ntmps82
      go_upto_region 4 with fail
      generalize w.alloc (.cells #[.int .u8 o, .int .u8 a, .int .u8 b, .int .i32 n] 117) = w1 at *
      go_wp2_with (first
        | (go_at_call 110; (with_reducible refine HLn.mono ?_); rintro e w2 ⟨rfl, rfl⟩)
        | (go_at_call 69; refine Hid.out ?_))
      refine Lib.hid ?_
      (with_reducible refine hR.mono ?_)
      rintro e w3 ⟨rfl, rfl⟩
      clear hR HLn
      go_wp2_with fail
      go_ret
      refine ⟨_, rfl, ?_, HN.out⟩
      rw [HE.out]
      exact OwnV.nil _ _

theorem putL_four (v : Int) (hv : 0 ≤ v ∧ v ≤ 4294967295) : putL [0, 0, 0, 0] 0 v = le4 v := by
  have e : v % 4294967296 = v := by omega
  simp [putL, le4, e]
theorem le4_len (v : Int) : (le4 v).length = 4 := rfl
theorem le4_byt (v : Int) : Byt (le4 v) := fun i => by
  rcases (by omega : i = 0 ∨ i = 1 ∨ i = 2 ∨ i = 3 ∨ 4 ≤ i) with rfl | rfl | rfl | rfl | h
  · show 0 ≤ v % 4294967296 % 256 ∧ v % 4294967296 % 256 ≤ 255; omega
  · show 0 ≤ v % 4294967296 / 256 % 256 ∧ v % 4294967296 / 256 % 256 ≤ 255; omega
  · show 0 ≤ v % 4294967296 / 65536 % 256 ∧ v % 4294967296 / 65536 % 256 ≤ 255; omega
  · show 0 ≤ v % 4294967296 / 16777216 ∧ v % 4294967296 / 16777216 ≤ 255; omega
  · have e : (le4 v).getD i 0 = 0 := by simp only [List.getD, List.getElem?_eq_none (show (le4 v).length ≤ i from h), Option.getD_none]
    rw [e]; omega
set_option maxHeartbeats 1600000 in
theorem hput_any (q g B a : Nat) (v : Int) (xs : List Int) (w : World) (hm : Mem w B q g xs) (hl : xs.length ≤ 65536) (ha : a + 4 ≤ xs.length) (hv : 0 ≤ v ∧ v ≤ 4294967295) :
    Calls Tryz.prog 84 #[.pointer (some ⟨q, 0, none⟩), .int .u32 a, .int .u32 v] w fun e w' => e = .returned (.tuple #[]) ∧ Mem w' B q g (putA xs a (le4 v)) ∧ Keeps (fun j => j = g) w w' := by
  obtain ⟨i0, hi, hz0, hz1, hz2⟩ := info_parts Tryz.info5
  have HM := Hid.in hm
  clear hm
  have e1 : (a : Int) % 18446744073709551616 = a := by omega
  go_enter Tryz.func84, Tryz.ntmps84
  go_wp2_with (first
    | (at_make; refine wpList_make_full _ rfl _ _ 26 rfl _ 5 i0 (.int .u8 0) 1 Tryz.underlying26 hi hz0 hz1 _ _ _ _ 4 rfl rfl rfl rfl (by rw [hz2]; omega) (by unfold maxLen; omega) (Nat.le_refl _) ?_; intro w1 hown hgrow; have HB1 := Hid.in ((Below.refl w.heap.size w).grown hgrow (Nat.le_refl _) (by simp)); have HO1 : Hid (Own w1 w.heap.size w.heap.size 4 [0, 0, 0, 0]) := Own.of_made hown; clear hown hgrow)
    | (go_at_call 115; refine Hid.out ?_))
  refine Lib.hid ?_
  have hP := put32_ex (some ⟨w.heap.size, 0, none⟩) 4 4 0 v [0, 0, 0, 0] w1 rfl (by decide) HO1.out.row hv (by decide) (by decide)
  rw [show (0 : Int).toNat = 0 from rfl, putL_four v hv] at hP
  (with_reducible refine hP.mono ?_)
  rintro e w2 ⟨k, rfl, ho2, hb2⟩
  have HB2 := Hid.in (below_step HB1.out hb2)
  have hW := write_ok q g B a 4 (some ⟨k, 0, none⟩) xs (le4 v) w2 (HM.out.below HB2.out) ho2.row (by rw [le4_len]; exact ha) hl
  rw [le4_len] at hW
  clear hP ho2 hb2 HO1 HB1
  go_wp2_with (go_at_call 26; refine Hid.out ?_)
  refine Lib.hid ?_
  (with_reducible refine hW.mono ?_)
  rintro e w3 ⟨rfl, hm3, hk3⟩
  have HM3 := Hid.in hm3
  have HK3 := Hid.in ((Keeps.ofBelow HB2.out).trans' hk3)
  clear hW hm3 hk3
  go_wp2_with fail
  first | go_end0 | skip
  exact ⟨rfl, HM3.out, HK3.out⟩

end Go.Proofs.YtnpaijbkhmnfpaaGreat
