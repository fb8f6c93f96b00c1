/- Texts put together: Prt3. -/
import Derived.Test.YtkianldkbfjehaaGreatDoorKl

/- What source.lineOf answers, for every item. -/
namespace Go.Proofs.YtkianldkbfjehaaGreatDoor
open Go.RowKit

/-- what stands in memory in lineOf's loop -/
structure PSt (W : World) (b1 lb b4 : Nat) (x : Src) (q : Option Addr) (m e : Nat) (pp : Option Addr) (pn pcap : Nat) (ps : List Nat) (l : List UInt8) : Prop where
  itm : Blk W b1 57 (cellsOf x (.slice q m e))
  box : Boxed W lb 9 (.string (bytesOf l))
  c9 : W.cell? ⟨b4, 9, none⟩ = some (.slice pp pn pcap)
  pls : GRow W pp (plc ps)
  row : Row W q x.d
  env : Env W
  n1 : b1 ≠ lb
  n4 : b4 ≠ lb
  np : ∀ a, pp = some a → a.block ≠ lb
  nq : 0 < x.d.length → ∀ a, q = some a → a.block ≠ lb
  n5 : 3 < lb
theorem PSt.grow {W W' : World} {b1 lb b4 : Nat} {x : Src} {q : Option Addr} {m e : Nat} {pp : Option Addr} {pn pcap : Nat} {ps : List Nat} {l : List UInt8} (h : PSt W b1 lb b4 x q m e pp pn pcap ps l) (hb : Below W.heap.size W W') : PSt W' b1 lb b4 x q m e pp pn pcap ps l :=
  { h with itm := h.itm.grow hb, box := boxed_below h.box hb, c9 := (hb.cell (p := ⟨b4, 9, none⟩) (cell_lt h.c9)).trans h.c9, pls := h.pls.below hb, row := h.row.below hb, env := h.env.below hb }
theorem PSt.put {W : World} {b1 lb b4 : Nat} {x : Src} {q : Option Addr} {m e : Nat} {pp : Option Addr} {pn pcap : Nat} {ps : List Nat} {l : List UInt8} (h : PSt W b1 lb b4 x q m e pp pn pcap ps l) (l' : List UInt8) : PSt (W.setCell ⟨lb, 0, none⟩ (.string (bytesOf l'))) b1 lb b4 x q m e pp pn pcap ps l' :=
  { h with
    itm := h.itm.other h.n1 _ _
    box := h.box.set _
    c9 := (World.cell?_setCell_other _ _ _ _ fun e => h.n4 (congrArg Addr.block e).symm).trans h.c9
    pls := fun h0 => by
      obtain ⟨b, o, hp, hc⟩ := h.pls h0
      exact ⟨b, o, hp, fun i hi => (World.cell?_setCell_other _ _ _ _ fun e => h.np _ hp (congrArg Addr.block e).symm).trans (hc i hi)⟩
    row := fun h0 => by
      obtain ⟨b, o, hp, hc⟩ := h.row h0
      exact ⟨b, o, hp, fun i hi => (World.cell?_setCell_other _ _ _ _ fun e => h.nq h0 _ hp (congrArg Addr.block e).symm).trans (hc i hi)⟩
    env := h.env.keep (below_grown (grown_setCell W lb 0 _) (Nat.le_refl _) (Nat.le_of_lt h.box.lt)) h.n5 }

theorem PSt.start {w w1 w2 : World} {x fx : Src} {q : Option Addr} {m e : Nat} {pp : Option Addr} {pn pcap fn : Nat} {ps : List Nat} {l : List UInt8} (he : Env w) (hr : Row w q x.d)
    (hb1 : Below (w.alloc (.cells (cellsOf x (.slice q m e)) 57)).heap.size (w.alloc (.cells (cellsOf x (.slice q m e)) 57)) w1)
    (hb2 : Below (w1.alloc (.cells #[.string (bytesOf l)] 9)).heap.size (w1.alloc (.cells #[.string (bytesOf l)] 9)) w2)
    (hv : GOwnV 133 w2 (w1.alloc (.cells #[.string (bytesOf l)] 9)).heap.size (.slice pp pn pcap) (plc ps)) (hpr : GRow w2 pp (plc ps)) :
    PSt (w2.alloc (.cells (formCells fx nilV (.slice pp pn pcap) fn) 130)) w.heap.size w1.heap.size w2.heap.size x q m e pp pn pcap ps l ∧ Below w.heap.size w (w2.alloc (.cells (formCells fx nilV (.slice pp pn pcap) fn) 130)) := by
  have s0 := hb1.size
  have s1 := hb2.size
  have s5 := he.lt
  simp only [size_one] at s0 s1
  have B1 := below_step (new_alloc w (.cells (cellsOf x (.slice q m e)) 57)) hb1
  have B2 := below_step (below_alloc B1 (.cells #[.string (bytesOf l)] 9)) hb2
  have B3 := below_alloc B2 (.cells (formCells fx nilV (.slice pp pn pcap) fn) 130)
  refine ⟨⟨(((Blk.new w 57 _).grow hb1).grow (new_alloc w1 _)).grow hb2 |>.grow (new_alloc w2 _), boxed_below (boxed_below (Boxed.new w1 9 _) hb2) (new_alloc w2 _), ?_, hpr.below (new_alloc w2 _), hr.below B3, he.below B3, by omega, by omega, ?_, ?_, by omega⟩, B3⟩
  · exact (Blk.new w2 130 (formCells fx nilV (.slice pp pn pcap) fn)).cell 9
  · intro a ha
    rcases hv.shape with ⟨h, _⟩ | ⟨g', cap, h, ho⟩
    · injection h with h1; rw [ha] at h1; cases h1
    · injection h with h1
      rw [ha] at h1; injection h1 with h1
      have := ho.base
      rw [size_one] at this
      rw [h1]; show g' ≠ _; omega
  · intro h0 a ha
    obtain ⟨b, o, hp, hc⟩ := hr h0
    rw [ha] at hp
    injection hp with hp
    have := cell_lt (hc 0 h0)
    rw [hp]; show b ≠ _; omega

set_option maxRecDepth 20000 in
set_option maxHeartbeats 1000000 in
theorem lineOf_any (x : Src) (hx : Fit x) (q : Option Addr) (m e : Nat) (w : World) (he : Env w) (hm : x.d.length = m) (hr : Row w q x.d) :
    Calls Tryz.prog 76 #[.agg (cellsOf x (.slice q m e))] w fun e' w' => e' = .returned (.string (bytesOf (lineT x))) ∧ Below w.heap.size w w' := by
  have hH := fun W => head_any x hx q m e W
  have hP := fun W => formOf_pl (bytesOf (headT x)) (by rw [bytesOf_size]; have := headT_len x hx; omega) W
  rw [bytesOf_list] at hP
  obtain ⟨hpn, hpo⟩ := plT_ok x
  obtain ⟨ps, hps⟩ : ∃ ps, ps = plT (headT x) := ⟨_, rfl⟩
  rw [← hps] at hP hpn hpo
  have hpl := plc_len ps
  obtain ⟨t, ht⟩ : ∃ t, t = bytesOf (headT x) := ⟨_, rfl⟩
  rw [← ht] at hH hP
  have HT := Hid.in ht
  have HPS := Hid.in hps
  have hE1 := fun o => Hid.in (he.below (new_alloc w o))
  clear ht hps
  go_enter Tryz.func76, Tryz.ntmps76
  go_wp2_with (first
    | (refine step_load_blk (Blk.new w 57 (cellsOf x (.slice q m e))) rfl 57 _ rfl rfl (cellsOf x (.slice q m e)) (List.prefix_refl _) _ Tryz.underlying57 rfl Tryz.sz57 ?_)
    | (go_at_call 95; refine (hH _).mono ?_; rintro e' w1 ⟨rfl, hb1⟩; have HB1 := Hid.in hb1; clear hb1)
    | (go_at_call 93; refine (hP _).mono ?_; rintro e' w2 ⟨fx, v, fn, ok, rfl, hv, hb2⟩; obtain ⟨pp, pcap, rfl, hpr, -, -⟩ := hv.slice; rw [plc_len] at hv; have HV := Hid.in hv; have HPR := Hid.in hpr; have HB2 := Hid.in hb2; clear hv hb2 hpr)
    | (refine step_store_new rfl 130 _ _ rfl rfl rfl (formCells fx nilV (.slice pp ps.length pcap) fn) rfl Tryz.sz130 rfl (form_one _ _ _ _ _ _ _ _) ?_; have HS : Hid (PSt (w2.alloc (.cells (formCells fx nilV (.slice pp ps.length pcap) fn) 130)) w.heap.size w1.heap.size w2.heap.size x q m e pp ps.length pcap ps (headT x) ∧ Below w.heap.size w (w2.alloc (.cells (formCells fx nilV (.slice pp ps.length pcap) fn) 130))) := PSt.start he hr HB1.out (HT.out ▸ HB2.out) (HT.out ▸ HV.out) HPR.out; refine Hid.out ?_))
  refine Lib.hid ?_
  have HLB : Hid (w.heap.size ≤ w1.heap.size) := by
    have := HB1.out.size
    rw [size_one] at this
    exact Nat.le_of_succ_le this
  clear HB1 HV HPR HB2 hH hP hE1 hr he
  generalize w2.alloc (.cells (formCells fx nilV (.slice pp ps.length pcap) fn) 130) = W0 at *
  generalize w1.heap.size = lb at *
  generalize w2.heap.size = b4 at *
  generalize hb1 : w.heap.size = b1 at *
  have HBB := Hid.in hb1
  clear hb1
  have c9 := HS.out.1.c9
  have c0 : W0.cell? ⟨b1, 0, none⟩ = some (.int .u8 x.k) := HS.out.1.itm.cell 0
  have c8 : W0.cell? ⟨b1, 8, none⟩ = some (.slice q m e) := HS.out.1.itm.cell 8
  by_cases hk4 : x.k = 4
  · obtain ⟨F, hF⟩ : ∃ F : Nat, F = min ps.length m := ⟨_, rfl⟩
    have HFI : Hid (min (ps.length : Int) (m : Int) = (F : Int)) := by
      have : min (ps.length : Int) (m : Int) = (F : Int) := by omega
      exact this
    have HFL : Hid (lineT x = midT x F) := by
      have : lineT x = midT x (filledT x) := rfl
      rw [this]; unfold filledT; rw [if_pos hk4, ← HPS.out, hm, hF]; exact rfl
    go_wp2_with fail
    rw [HFI.out]
    have hFm : F ≤ m := by omega
    have hFp : F ≤ ps.length := by omega
    have HK4 := Hid.in hk4
    clear hk4 hF
    go_loopw [29] (fun i wr => ∃ k : Nat, k ≤ F ∧ i = .int .i64 k ∧ PSt wr b1 lb b4 x q m e pp ps.length pcap ps (midT x k) ∧ Below b1 w wr) (fun i _ => F - (intOf i).toNat)
    case atStart => exact ⟨0, Nat.zero_le _, rfl, by rw [show midT x 0 = headT x by simp [midT]]; exact HS.out.1, HS.out.2⟩
    case round =>
      obtain ⟨k, hk, rfl, hS, hb⟩ := hrel
      have HSK := Hid.in hS
      have HBK := Hid.in hb
      clear hb c0 c8 c9
      by_cases hlt : k < F
      · have hp : k < ps.length := by omega
        obtain ⟨pb, po, hpp, hpc2⟩ := hS.pls (by rw [plc_len]; omega)
        have c3 := (hpc2 k (by rw [plc_len]; omega)).trans (plc_at ps k hp)
        have c9 := hS.c9
        have i0 : wr.cell? ⟨b1, 0, none⟩ = some (.int .u8 x.k) := hS.itm.cell 0
        have i1 : wr.cell? ⟨b1, 1, none⟩ = some (.string x.name) := hS.itm.cell 1
        have i2 : wr.cell? ⟨b1, 2, none⟩ = some (.string x.tg) := hS.itm.cell 2
        have i3 : wr.cell? ⟨b1, 3, none⟩ = some (.int .u8 x.o) := hS.itm.cell 3
        have i4 : wr.cell? ⟨b1, 4, none⟩ = some (.int .u8 x.a) := hS.itm.cell 4
        have i5 : wr.cell? ⟨b1, 5, none⟩ = some (.int .u8 x.b) := hS.itm.cell 5
        have i6 : wr.cell? ⟨b1, 6, none⟩ = some (.int .i32 x.m) := hS.itm.cell 6
        have i7 : wr.cell? ⟨b1, 7, none⟩ = some (.int .i64 x.n) := hS.itm.cell 7
        have i8 : wr.cell? ⟨b1, 8, none⟩ = some (.slice q m e) := hS.itm.cell 8
        have hfld := fun y => field_any ps[k] (hpo _ (List.getElem_mem hp)).1 x hx q m e k (wr.drewN y) (hS.env.drewN y) hm (hS.row.drewN y) (fun h5 => by have := (hpo _ (List.getElem_mem hp)).2 h5; omega) (by have := hx.dz; omega)
        simp only [cellsOf] at hfld
        have HM : Hid (midT x (k + 1) = midT x k ++ 32 :: fieldT ps[k] x k) := by
          have := midT_succ x k
          rw [← HPS.out, show ps.getD k 0 = ps[k] by simp [hp]] at this
          exact this
        have hl1 := midT_len x hx k
        have hl2 := fieldT_len ps[k] x hx k
        have hk64 : k ≤ 64 := by omega
        generalize ps[k] = pk at *
        generalize fieldT pk x k = ft at *
        clear hpc2 hS
        subst hpp
        go_wp2_with fail
        go_region_law (first
          | (go_simp; go_at_call 97; refine (hfld 1).mono ?_; rintro e' w5 ⟨rfl, hb5⟩; have HS5 := Hid.in ((HSK.out.grow (below_draws (below_self wr) 1)).grow hb5); have HB5 := Hid.in (HBK.out.trans ((below_draws (below_self wr) 1).trans (hb5.mono (Nat.le_refl _)) |>.mono (by have := HBK.out.size; have := HBB.out; omega))); clear hb5)
          | (go_simp; go_at_call 96; refine (put_any lb _ _ w5 HS5.out.box (by omega) (by omega)).mono ?_; rintro e' w6 ⟨⟨v, rfl⟩, rfl⟩))
        all_goals
          go_wp2_with fail
          go_roundw
          case rel => exact ⟨k + 1, by omega, by go_num, by rw [HM.out]; exact HS5.out.put _, HB5.out.trans (below_grown (grown_setCell w5 lb 0 _) (by have := HLB.out; omega) (by have := HBK.out.size; have := HB5.out.size; have := HBB.out; omega))⟩
          case measure => simp [intOf]; omega
      · have hkF : k = F := by omega
        have hcb := hS.box.cell
        have HLT : Hid (bytesOf (lineT x) = bytesOf (midT x k)) := by rw [HFL.out, hkF]; exact rfl
        generalize bytesOf (midT x k) = z at *
        clear hS
        go_wp2_with fail
        go_ret
        exact ⟨by rw [HLT.out]; rfl, by rw [HBB.out]; exact HBK.out⟩
  · obtain ⟨F, hF⟩ : ∃ F : Nat, F = ps.length := ⟨_, rfl⟩
    have HFL : Hid (lineT x = midT x F) := by
      have : lineT x = midT x (filledT x) := rfl
      rw [this]; unfold filledT; rw [if_neg hk4, ← HPS.out, hF]; exact rfl
    go_wp2_with fail
    rw [show (ps.length : Int) = (F : Int) by omega]
    generalize (x.k == 4) = kk
    have hFp : F ≤ ps.length := by omega
    have HK4 := Hid.in hk4
    clear hk4 hF
    go_loopw [29] (fun i wr => ∃ k : Nat, k ≤ F ∧ i = .int .i64 k ∧ PSt wr b1 lb b4 x q m e pp ps.length pcap ps (midT x k) ∧ Below b1 w wr) (fun i _ => F - (intOf i).toNat)
    case atStart => exact ⟨0, Nat.zero_le _, rfl, by rw [show midT x 0 = headT x by simp [midT]]; exact HS.out.1, HS.out.2⟩
    case round =>
      obtain ⟨k, hk, rfl, hS, hb⟩ := hrel
      have HSK := Hid.in hS
      have HBK := Hid.in hb
      clear hb c0 c8 c9
      by_cases hlt : k < F
      · have hp : k < ps.length := by omega
        obtain ⟨pb, po, hpp, hpc2⟩ := hS.pls (by rw [plc_len]; omega)
        have c3 := (hpc2 k (by rw [plc_len]; omega)).trans (plc_at ps k hp)
        have c9 := hS.c9
        have i0 : wr.cell? ⟨b1, 0, none⟩ = some (.int .u8 x.k) := hS.itm.cell 0
        have i1 : wr.cell? ⟨b1, 1, none⟩ = some (.string x.name) := hS.itm.cell 1
        have i2 : wr.cell? ⟨b1, 2, none⟩ = some (.string x.tg) := hS.itm.cell 2
        have i3 : wr.cell? ⟨b1, 3, none⟩ = some (.int .u8 x.o) := hS.itm.cell 3
        have i4 : wr.cell? ⟨b1, 4, none⟩ = some (.int .u8 x.a) := hS.itm.cell 4
        have i5 : wr.cell? ⟨b1, 5, none⟩ = some (.int .u8 x.b) := hS.itm.cell 5
        have i6 : wr.cell? ⟨b1, 6, none⟩ = some (.int .i32 x.m) := hS.itm.cell 6
        have i7 : wr.cell? ⟨b1, 7, none⟩ = some (.int .i64 x.n) := hS.itm.cell 7
        have i8 : wr.cell? ⟨b1, 8, none⟩ = some (.slice q m e) := hS.itm.cell 8
        have hfld := fun y => field_any ps[k] (hpo _ (List.getElem_mem hp)).1 x hx q m e k (wr.drewN y) (hS.env.drewN y) hm (hS.row.drewN y) (fun h5 => by have := (hpo _ (List.getElem_mem hp)).2 h5; exact absurd this HK4.out) (by have := hx.dz; omega)
        simp only [cellsOf] at hfld
        have HM : Hid (midT x (k + 1) = midT x k ++ 32 :: fieldT ps[k] x k) := by
          have := midT_succ x k
          rw [← HPS.out, show ps.getD k 0 = ps[k] by simp [hp]] at this
          exact this
        have hl1 := midT_len x hx k
        have hl2 := fieldT_len ps[k] x hx k
        have hk64 : k ≤ 64 := by omega
        generalize ps[k] = pk at *
        generalize fieldT pk x k = ft at *
        clear hpc2 hS
        subst hpp
        go_wp2_with fail
        go_region_law (first
          | (go_simp; go_at_call 97; refine (hfld 1).mono ?_; rintro e' w5 ⟨rfl, hb5⟩; have HS5 := Hid.in ((HSK.out.grow (below_draws (below_self wr) 1)).grow hb5); have HB5 := Hid.in (HBK.out.trans ((below_draws (below_self wr) 1).trans (hb5.mono (Nat.le_refl _)) |>.mono (by have := HBK.out.size; have := HBB.out; omega))); clear hb5)
          | (go_simp; go_at_call 96; refine (put_any lb _ _ w5 HS5.out.box (by omega) (by omega)).mono ?_; rintro e' w6 ⟨⟨v, rfl⟩, rfl⟩))
        all_goals
          go_wp2_with fail
          go_roundw
          case rel => exact ⟨k + 1, by omega, by go_num, by rw [HM.out]; exact HS5.out.put _, HB5.out.trans (below_grown (grown_setCell w5 lb 0 _) (by have := HLB.out; omega) (by have := HBK.out.size; have := HB5.out.size; have := HBB.out; omega))⟩
          case measure => simp [intOf]; omega
      · have hkF : k = F := by omega
        have hcb := hS.box.cell
        have HLT : Hid (bytesOf (lineT x) = bytesOf (midT x k)) := by rw [HFL.out, hkF]; exact rfl
        generalize bytesOf (midT x k) = z at *
        clear hS
        go_wp2_with fail
        go_ret
        exact ⟨by rw [HLT.out]; rfl, by rw [HBB.out]; exact HBK.out⟩

end Go.Proofs.YtkianldkbfjehaaGreatDoor
