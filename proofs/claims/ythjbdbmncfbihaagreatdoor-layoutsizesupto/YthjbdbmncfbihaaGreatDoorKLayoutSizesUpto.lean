/-
  Proved here: the law LayoutSizes (switchyardlaw05) answers true wherever its arguments hold together at most 1048576 values and letters, and each argument reads afterwards as it read before; the card: what the row lists of the library's variables is tied to the program's text. 
-/
import Derived.Test.YthjbdbmncfbihaaGreatDoorKzh
import Derived.Test.YthjbdbmncfbihaaGreatDoorKzf
import Derived.Test.YthjbdbmncfbihaaGreatDoorKzi
import Derived.Test.YthjbdbmncfbihaaGreatDoorKzd
import Derived.Test.YthjbdbmncfbihaaGreatDoorKze
import Derived.Test.YthjbdbmncfbihaaGreatDoorKzj
import Derived.Test.YthjbdbmncfbihaaGreatDoorCards
import Derived.Test.YthjbdbmncfbihaaGreatDoorTie
import Derived.SevenTiedAt

/- switchyardlaw05.LayoutSizes answers true. -/
namespace Go.Proofs.YthjbdbmncfbihaaGreatDoor
open Go.RowKit

/-- an item and its copy in memory -/
structure TwoIt (w W : World) (gx gi : Nat) (x : Src) (q q1 : Option Addr) (e c1 : Nat) : Prop where
  bx : Blk W gx 28 (cellsOf x (.slice q x.d.length e))
  bi : Blk W gi 28 (cellsOf x (.slice q1 x.d.length c1))
  rq : Row W q x.d
  ri : Row W q1 x.d
  env : Env W
  bel : Below w.heap.size w W
theorem TwoIt.grow {w W W' : World} {gx gi : Nat} {x : Src} {q q1 : Option Addr} {e c1 : Nat} (h : TwoIt w W gx gi x q q1 e c1) (hb : Below W.heap.size W W') : TwoIt w W' gx gi x q q1 e c1 :=
  ⟨h.bx.grow hb, h.bi.grow hb, h.rq.below hb, h.ri.below hb, h.env.below hb, below_step h.bel hb⟩
theorem TwoIt.drewN {w W : World} {gx gi : Nat} {x : Src} {q q1 : Option Addr} {e c1 : Nat} (h : TwoIt w W gx gi x q q1 e c1) (y : Nat) : TwoIt w (W.drewN y) gx gi x q q1 e c1 := h.grow (below_draws (below_self W) y)

set_option maxRecDepth 20000 in
set_option maxHeartbeats 2000000 in
theorem sizes_any (x : Src) (hx : Fit x) (q : Option Addr) (m e : Nat) (at_ : Int) (w : World) (he : Env w) (hm : x.d.length = m) (hr : Row w q x.d) :
    Calls Tryz.prog 3 #[.agg (cellsOf x (.slice q m e)), .int .i64 at_] w fun E w' => E = .returned (.bool true) ∧ Below w.heap.size w w' := by
  subst hm
  have hC := fun W hR => copyItem_any x q _ e W rfl (Nat.le_trans hx.dz (by decide)) hR
  have hR1 := fun o => Hid.in (hr.below (new_alloc w o))
  have hE1 := fun o => Hid.in (he.below (new_alloc w o))
  go_enter Tryz.func3, Tryz.ntmps3
  go_upto_region 2 with (first
    | (refine step_load_blk (Blk.new w 28 (cellsOf x (.slice q x.d.length e))) rfl 28 _ rfl rfl (cellsOf x (.slice q x.d.length e)) (List.prefix_refl _) _ Tryz.underlying28 rfl Tryz.sz28 ?_)
    | (go_at_call 7; refine (hC _ (hR1 _).out).mono ?_; rintro E w1 ⟨d1, rfl, hd1, hb1⟩; obtain ⟨q1, c1, rfl, hr1⟩ := hd1.rowC; have HB1 := Hid.in hb1; have HR1 := Hid.in hr1; clear hd1 hb1 hr1)
    | (refine step_store_new rfl 28 (.tmp 5) (.tmp 7) rfl rfl rfl (cellsOf x (.slice q1 x.d.length c1)) rfl Tryz.sz28 rfl (cells_one _ _ _ _) ?_; refine Hid.out ?_))
  refine Lib.hid ?_
  have HT : Hid (TwoIt w (w1.alloc (.cells (cellsOf x (.slice q1 x.d.length c1)) 28)) w.heap.size w1.heap.size x q q1 e c1) :=
    ⟨((Blk.new w 28 _).grow HB1.out).grow (new_alloc w1 _), Blk.new w1 28 _, ((hR1 _).out.below HB1.out).below (new_alloc w1 _), HR1.out.below (new_alloc w1 _), ((hE1 _).out.below HB1.out).below (new_alloc w1 _), below_alloc (below_step (new_alloc w _) HB1.out) _⟩
  generalize w1.alloc (.cells (cellsOf x (.slice q1 x.d.length c1)) 28) = W2 at *
  generalize w1.heap.size = gi at *
  have hS := fun (W : World) (h : TwoIt w W w.heap.size gi x q q1 e c1) => laySize_any x hx q1 _ c1 at_ W h.env rfl h.ri
  have hF := fun (W : World) (h : TwoIt w W w.heap.size gi x q q1 e c1) => refSize_any x hx q _ e at_ W rfl h.rq
  have hI := fun (W : World) (h : TwoIt w W w.heap.size gi x q q1 e c1) => sameItem_yes x q1 q _ c1 _ e W rfl rfl (Nat.le_trans hx.dz (by decide)) h.ri h.rq
  have hA := fun (W : World) (h : TwoIt w W w.heap.size gi x q q1 e c1) => awake_any W h.env
  obtain ⟨x0, x1, x2, x3, x4, x5, x6, x7, x8⟩ := item9 HT.out.bx
  obtain ⟨y0, y1, y2, y3, y4, y5, y6, y7, y8⟩ := item9 HT.out.bi
  generalize hgx : w.heap.size = gx at *
  have HGX := Hid.in hgx
  clear hC hR1 hE1 HB1 HR1 hr he hx hgx
  generalize sizeP x at_ = z at *
  simp only [cellsOf] at hS hF hI
  go_wp2_with fail
  go_region_law (first
    | (go_simp; go_at_call 8; refine (hS _ (HT.out.drewN 1)).mono ?_; rintro E w5 ⟨rfl, hb5⟩; have HT5 := Hid.in ((HT.out.drewN 1).grow hb5); clear hb5; obtain ⟨x0, x1, x2, x3, x4, x5, x6, x7, x8⟩ := item9 HT5.out.bx; obtain ⟨y0, y1, y2, y3, y4, y5, y6, y7, y8⟩ := item9 HT5.out.bi)
    | (go_simp; go_at_call 9; refine (hF _ HT5.out).mono ?_; rintro E w6 ⟨rfl, hb6⟩; have HT6 := Hid.in (HT5.out.grow hb6); clear hb6; obtain ⟨x0, x1, x2, x3, x4, x5, x6, x7, x8⟩ := item9 HT6.out.bx; obtain ⟨y0, y1, y2, y3, y4, y5, y6, y7, y8⟩ := item9 HT6.out.bi)
    | (go_simp; go_at_call 10; refine (hI _ HT6.out).mono ?_; rintro E w7 ⟨rfl, hb7⟩; have HT7 := Hid.in (HT6.out.grow hb7); clear hb7)
    | (go_simp; go_at_call 11; refine (hA _ HT7.out).mono ?_; rintro E w8 ⟨rfl, hb8⟩; have HT8 := Hid.in (HT7.out.grow hb8); clear hb8))
  all_goals
    go_wp2_with fail
    go_ret
    exact ⟨rfl, HT8.out.bel⟩

end Go.Proofs.YthjbdbmncfbihaaGreatDoor

/-
  Proved here: the law LayoutSizes (switchyardlaw05) answers true wherever its arguments hold together at most 1048576 values and letters, and each argument reads afterwards as it read before; the card: what the row lists of the library's variables is tied to the program's text. 
-/
namespace Go.Proofs.YthjbdbmncfbihaaGreatDoor
open Go.ChangeShapes Go.WideShapes Go.ChangeAt Go.RowKit
open Go.ChangeMaps (open_string shut_string)

theorem layoutSizesUpto_reads (os : Os) {H : Type} (enc : TypeId × Value → H) : ∃ places, DataW.whole enc Tryz.prog ((laidWorld os).forCall (fun _ _ => 0) ⟨#[], #[.agg item0, .int .i64 0], []⟩).memory Tryz.f3.params.toList (Rows.OpenSpec.upto Rows.layoutSizesSpec).vars false (#[.agg item0, .int .i64 0] : Array Value).toList 8 = some ([.agg [.lit (.int .u8 0), .lit (.string []), .lit (.string []), .agg [.lit (.int .u8 0), .lit (.int .u8 0), .lit (.int .u8 0), .lit (.int .i32 0)], .lit (.int .i64 0), .nil], .lit (.int .i64 0)], [], places) :=
  ⟨[], by kernel_rfl⟩

set_option maxRecDepth 100000 in
theorem layoutSizesUpto_lifted (os : Os) (started : os.Started) (H : Type) (enc : TypeId × Value → H) (F : Stop.Interp) :
    ReturnsInHanded {} Tryz.checked os 3 .any ((Rows.OpenSpec.upto Rows.layoutSizesSpec).preRow enc Tryz.prog Tryz.f3 Rows.layoutSizesUptoRow.domain false Rows.layoutSizesUptoRow.laid) (((Rows.OpenSpec.upto Rows.layoutSizesSpec).at F).post enc Tryz.prog Tryz.f3 false true false false) := by
  obtain ⟨places, hx⟩ := layoutSizesUpto_reads os enc
  refine returnsInHanded_of_row (C := Tryz.checked) (s := (Rows.OpenSpec.upto Rows.layoutSizesSpec)) Tryz.own started (by kernel_rfl) Tryz.func3
    (witness_row_atRef (enc := enc) (C := Tryz.checked) false (laidWorld os) #[.agg item0, .int .i64 0] rfl (by kernel_rfl) (by kernel_rfl) (by kernel_rfl)
      (OpenSpec.preRow_of_cond 8 hx (by kernel_rfl) (fun k hk => by cases hk; kernel_rfl) (by kernel_rfl) (laid_met os _))) ?_
  intro W base args ds gs before hval0 hW _ hcond hsz0 hL _ _
  have hV := env_of hL
  have hk := hcond _ rfl
  have hW' := hW
  obtain ⟨p, q, hA0, hVv, rfl, hfz, hnd⟩ := hW
  have hA : DataW.TrodAll enc Tryz.prog W 0 (fun _ => true) true Tryz.f3.params.toList args.toList ds p := hA0
  have hval : ∀ (j : Nat) t v, Tryz.f3.params[j]? = some t → args[j]? = some v → Value.okWide Tryz.prog W .any base t v := hval0
  rw [Tryz.params3] at hA hval
  obtain ⟨v0, vs0, d0, ds0, p0, q0, hargs, rfl, rfl, h0, r0⟩ := trodAll_cons hA
  obtain ⟨v1, vs1, d1, ds1, p1, q1, rfl, rfl, rfl, h1, r1⟩ := trodAll_cons r0
  obtain ⟨rfl, rfl, rfl⟩ := trodAll_nil r1
  obtain rfl : args = #[v0, v1] := by cases args; simp_all
  obtain ⟨rfl, rfl⟩ := trodVars_none hVv
  have k0 := h0
  have lt0 : ∀ x ∈ p0, x.block < W.heap.size := by obtain ⟨m, hm⟩ := k0; exact DataW.trod_lt m _ _ _ hm
  obtain ⟨y0, q0_, e0, rfl, hr0, hf0⟩ := open_item_val (hval 0 28 v0 rfl rfl) h0 (bulk_one (d := d0) hk (by simp))
  obtain ⟨a1, rfl, rfl, rfl, w1⟩ := open_int Tryz.underlying3 (hval 1 3 v1 rfl rfl) h1
  refine (sizes_any y0 hf0 q0_ _ e0 a1 W hV rfl hr0).mono fun e W' ⟨he, bel⟩ => ?_
  subst he
  exact ⟨_, rfl, _, _, _, [], _, [], hW', trodAll_mk1 (shut_bool Tryz.underlying4 _), (trodAll_cons_mk (Below.trod Tryz.laidOut (by kernel_rfl) (of_decide_eq_true (by kernel_rfl)) k0 bel lt0) (trodAll_cons_mk (shut_int Tryz.underlying3 w1) trodAll_mk0)), rfl, bel.frame _, fun h => by cases h⟩

theorem layoutSizesUpto_said : Rows.LayoutSizesUptoSaid :=
  OpenClaim.holds_of_cond 3 Tryz.f3 rfl rfl rfl rfl rfl rfl rfl ⟨rfl, rfl, rfl, rfl, rfl⟩ rfl rfl rfl rfl rfl (by kernel_rfl) Tryz.func3 (by kernel_rfl)
    (of_decide_eq_true (by kernel_rfl)) (by unfold Func.isWrapper; first | (rw [if_pos (by decide +kernel)]; kernel_rfl) | (rw [if_neg (by decide +kernel)]; exact ⟨rfl, rfl⟩))
    (fun os started H enc _ F => by rw [OpenClaim.pre_eq_preRow]; exact layoutSizesUpto_lifted os started H enc F)

theorem layoutSizesUpto_plain (f : FuncId) (fn : Func) (hf : Tryz.pinned.checked.prog.funcNamed "switchyard/switchyardlaw05.LayoutSizes" = some f) (hfn : Tryz.pinned.checked.prog.funcs[f]? = some fn) :
    true = Tryz.pinned.checked.prog.looks [] ∧ ∀ (j : Nat) t, fn.params[j]? = some t → Tryz.pinned.checked.prog.wantsStandIn t = false := by
  obtain rfl : f = 3 := Option.some.inj ((show Tryz.prog.funcNamed "switchyard/switchyardlaw05.LayoutSizes" = some 3 by kernel_rfl).symm.trans hf) |>.symm
  obtain rfl : fn = Tryz.f3 := (Option.some.inj (Tryz.func3.symm.trans hfn)).symm
  refine ⟨by kernel_rfl, fun j t ht => ?_⟩
  rw [Tryz.params3] at ht
  rcases j with _ | _ | j
  · obtain rfl : t = 28 := by simpa using ht.symm
    exact (show Tryz.prog.wantsStandIn 28 = false by kernel_rfl)
  · obtain rfl : t = 3 := by simpa using ht.symm
    exact (show Tryz.prog.wantsStandIn 3 = false by kernel_rfl)
  · simp at ht

theorem layoutSizesUpto_holds : Rows.LayoutSizesUptoCardSaid :=
  Claim7.holds_tied_plain_at .later [] _ _ _ _ layoutSizesUpto_said (fun _ h => by cases h) (by kernel_rfl) (fun _ h => by cases h) layoutSizesUpto_row_tie rfl ⟨rfl, rfl⟩ (by kernel_rfl) rfl layoutSizesUpto_plain (by kernel_rfl)
#print axioms layoutSizesUpto_holds

end Go.Proofs.YthjbdbmncfbihaaGreatDoor
