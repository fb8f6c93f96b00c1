/-
  Proved here: the law ObjectRight (switchyardlaw06) answers true wherever its arguments hold together at most 1048576 values and letters, and each argument reads afterwards as it read before; the card: what the row lists of the library's variables is tied to the program's text. 
-/
import Derived.Test.YtkianldkbfjehaaGreatDoorKzzl
import Derived.Test.YtkianldkbfjehaaGreatDoorKzj
import Derived.Test.YtkianldkbfjehaaGreatDoorCards
import Derived.Test.YtkianldkbfjehaaGreatDoorTie
import Derived.Test.YtkianldkbfjehaaGreatDoorKzzm
import Derived.SevenTiedAt

/-
  Proved here: the law ObjectRight (switchyardlaw06) answers true wherever its arguments hold together at most 1048576 values and letters, and each argument reads afterwards as it read before; the card: what the row lists of the library's variables is tied to the program's text. 
-/
namespace Go.Proofs.YtkianldkbfjehaaGreatDoor
open Go.ChangeShapes Go.WideShapes Go.ChangeAt Go.RowKit
open Go.ChangeMaps (open_string shut_string)

theorem objectRightUpto_reads (os : Os) {H : Type} (enc : TypeId × Value → H) : ∃ places, DataW.whole enc Tryz.prog ((laidWorld os).forCall (fun _ _ => 0) ⟨#[], #[.agg noObj, .agg noObj], []⟩).memory Tryz.f4.params.toList (Rows.OpenSpec.upto Rows.objectRightSpec).vars false (#[.agg noObj, .agg noObj] : Array Value).toList 8 = some ([.agg [.nil, .nil, .nil, .nil], .agg [.nil, .nil, .nil, .nil]], [], places) :=
  ⟨[], by kernel_rfl⟩

set_option maxRecDepth 100000 in
theorem objectRightUpto_lifted (os : Os) (started : os.Started) (H : Type) (enc : TypeId × Value → H) (F : Stop.Interp) :
    ReturnsInHanded {} Tryz.checked os 4 .any ((Rows.OpenSpec.upto Rows.objectRightSpec).preRow enc Tryz.prog Tryz.f4 Rows.objectRightUptoRow.domain false Rows.objectRightUptoRow.laid) (((Rows.OpenSpec.upto Rows.objectRightSpec).at F).post enc Tryz.prog Tryz.f4 false true false false) := by
  obtain ⟨places, hx⟩ := objectRightUpto_reads os enc
  refine returnsInHanded_of_row (C := Tryz.checked) (s := (Rows.OpenSpec.upto Rows.objectRightSpec)) Tryz.own started (by kernel_rfl) Tryz.func4
    (witness_row_atRef (enc := enc) (C := Tryz.checked) false (laidWorld os) #[.agg noObj, .agg noObj] rfl (by kernel_rfl) (by kernel_rfl) (by kernel_rfl)
      (OpenSpec.preRow_of_cond 8 hx (by kernel_rfl) (fun k hk => by cases hk; kernel_rfl) (by kernel_rfl) (laid_met os _))) ?_
  intro W base args ds gs before hval0 hW _ hcond hsz0 hL _ _
  have hV := env_of hL
  have hk := hcond _ rfl
  have hW' := hW
  obtain ⟨p, q, hA0, hVv, rfl, hfz, hnd⟩ := hW
  have hA : DataW.TrodAll enc Tryz.prog W 0 (fun _ => true) true Tryz.f4.params.toList args.toList ds p := hA0
  have hval : ∀ (j : Nat) t v, Tryz.f4.params[j]? = some t → args[j]? = some v → Value.okWide Tryz.prog W .any base t v := hval0
  rw [Tryz.params4] at hA hval
  obtain ⟨v0, vs0, d0, ds0, p0, q0, hargs, rfl, rfl, h0, r0⟩ := trodAll_cons hA
  obtain ⟨v1, vs1, d1, ds1, p1, q1, rfl, rfl, rfl, h1, r1⟩ := trodAll_cons r0
  obtain ⟨rfl, rfl, rfl⟩ := trodAll_nil r1
  obtain rfl : args = #[v0, v1] := by cases args; simp_all
  obtain ⟨rfl, rfl⟩ := trodVars_none hVv
  have k0 := h0
  have lt0 : ∀ x ∈ p0, x.block < W.heap.size := by obtain ⟨m, hm⟩ := k0; exact DataW.trod_lt m _ _ _ hm
  obtain ⟨ob0, pb0, ps0, pf0, pm0, nb0, cb0, ns0, cs0, nf0, cf0, nm0, cm0, rfl, hi0, bb0, bs0, bf0, bm0⟩ := open_obj_val (hval 0 29 v0 rfl rfl) h0 (bulk_one (d := d0) hk (by simp))
  have k1 := h1
  have lt1 : ∀ x ∈ p1, x.block < W.heap.size := by obtain ⟨m, hm⟩ := k1; exact DataW.trod_lt m _ _ _ hm
  obtain ⟨ob1, pb1, ps1, pf1, pm1, nb1, cb1, ns1, cs1, nf1, cf1, nm1, cm1, rfl, hi1, bb1, bs1, bf1, bm1⟩ := open_obj_val (hval 1 29 v1 rfl rfl) h1 (bulk_one (d := d1) hk (by simp))
  refine (rights_walk ob0 ob1 pb0 ps0 pf0 pm0 nb0 cb0 ns0 cs0 nf0 cf0 nm0 cm0 pb1 ps1 pf1 pm1 nb1 cb1 ns1 cs1 nf1 cf1 nm1 cm1 W hV hi0 hi1 bb0 bs0 bf0 bm0 bb1 bs1 bf1 bm1).mono fun e W' ⟨he, bel⟩ => ?_
  subst he
  exact ⟨_, rfl, _, _, _, [], _, [], hW', trodAll_mk1 (shut_bool Tryz.underlying4 _), (trodAll_cons_mk (Below.trod Tryz.laidOut (by kernel_rfl) (of_decide_eq_true (by kernel_rfl)) k0 bel lt0) (trodAll_cons_mk (Below.trod Tryz.laidOut (by kernel_rfl) (of_decide_eq_true (by kernel_rfl)) k1 bel lt1) trodAll_mk0)), rfl, bel.frame _, fun h => by cases h⟩

theorem objectRightUpto_said : Rows.ObjectRightUptoSaid :=
  OpenClaim.holds_of_cond 4 Tryz.f4 rfl rfl rfl rfl rfl rfl rfl ⟨rfl, rfl, rfl, rfl, rfl⟩ rfl rfl rfl rfl rfl (by kernel_rfl) Tryz.func4 (by kernel_rfl)
    (of_decide_eq_true (by kernel_rfl)) (by unfold Func.isWrapper; first | (rw [if_pos (by decide +kernel)]; kernel_rfl) | (rw [if_neg (by decide +kernel)]; exact ⟨rfl, rfl⟩))
    (fun os started H enc _ F => by rw [OpenClaim.pre_eq_preRow]; exact objectRightUpto_lifted os started H enc F)

theorem objectRightUpto_plain (f : FuncId) (fn : Func) (hf : Tryz.pinned.checked.prog.funcNamed "switchyard/switchyardlaw06.ObjectRight" = some f) (hfn : Tryz.pinned.checked.prog.funcs[f]? = some fn) :
    true = Tryz.pinned.checked.prog.looks [] ∧ ∀ (j : Nat) t, fn.params[j]? = some t → Tryz.pinned.checked.prog.wantsStandIn t = false := by
  obtain rfl : f = 4 := Option.some.inj ((show Tryz.prog.funcNamed "switchyard/switchyardlaw06.ObjectRight" = some 4 by kernel_rfl).symm.trans hf) |>.symm
  obtain rfl : fn = Tryz.f4 := (Option.some.inj (Tryz.func4.symm.trans hfn)).symm
  refine ⟨by kernel_rfl, fun j t ht => ?_⟩
  rw [Tryz.params4] at ht
  rcases j with _ | _ | j
  · obtain rfl : t = 29 := by simpa using ht.symm
    exact (show Tryz.prog.wantsStandIn 29 = false by kernel_rfl)
  · obtain rfl : t = 29 := by simpa using ht.symm
    exact (show Tryz.prog.wantsStandIn 29 = false by kernel_rfl)
  · simp at ht

theorem objectRightUpto_holds : Rows.ObjectRightUptoCardSaid :=
  Claim7.holds_tied_plain_at .later [] _ _ _ _ objectRightUpto_said (fun _ h => by cases h) (by kernel_rfl) (fun _ h => by cases h) objectRightUpto_row_tie rfl ⟨rfl, rfl⟩ (by kernel_rfl) rfl objectRightUpto_plain (by kernel_rfl)
#print axioms objectRightUpto_holds

end Go.Proofs.YtkianldkbfjehaaGreatDoor
