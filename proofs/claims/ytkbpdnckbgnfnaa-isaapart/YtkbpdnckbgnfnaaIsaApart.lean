/-
  Proved here: the law IsaApart (switchyardlaw02) answers true for every input, and each argument reads afterwards as it read before. No condition of ours: the row's own reach alone (each slice and text takes at most 2^47 - 4096 bytes).
-/
import Derived.Test.YtkbpdnckbgnfnaaOpenIns
import Derived.Test.YtkbpdnckbgnfnaaApartAll
namespace Go.Proofs.Ytkbpdnckbgnfnaa
open Go.ChangeShapes Go.WideShapes Go.ChangeAt Go.RowKit
open Go.ChangeMaps (open_string shut_string)

set_option maxRecDepth 100000 in
theorem isaApart_lifted (os : Os) (started : os.Started) (H : Type) (enc : TypeId × Value → H) :
    ReturnsInHanded {} Try.checked os 7 .any (Rows.isaApartSpec.pre6 enc Try.prog Try.f7 Rows.isaApartRow.domain false) (Rows.isaApartSpec.post enc Try.prog Try.f7 false true false false) := by
  refine returnsInHanded_of_change_sized (C := Try.checked) Try.own started (by kernel_rfl) Try.func7
    (ChangeSpec.witness6 (enc := enc) (C := Try.checked) false ⟨#[], #[.agg #[.int .u8 0, .int .u8 0, .int .u8 0, .int .i32 0], .agg #[.int .u8 0, .int .u8 0, .int .u8 0, .int .i32 0]], []⟩ 8 (by kernel_rfl) (by kernel_rfl) (by kernel_rfl) (by kernel_rfl)) ?_
  intro W base args ds gs before hval0 hW hcnd hsz0 _
  have hW' := hW
  obtain ⟨p, q, hA0, hV, rfl, hfz, hnd⟩ := hW
  have hA : DataW.TrodAll enc Try.prog W 0 (fun _ => true) true Try.f7.params.toList args.toList ds p := hA0
  have hval : ∀ (j : Nat) t v, Try.f7.params[j]? = some t → args[j]? = some v → Value.okWide Try.prog W .any base t v := hval0
  rw [Try.params7] at hA hval
  obtain ⟨v0, vs0, d0, ds0, p0, q0, hargs, rfl, rfl, h0, r0⟩ := trodAll_cons hA
  obtain ⟨v1, vs1, d1, ds1, p1, q1, rfl, rfl, rfl, h1, r1⟩ := trodAll_cons r0
  obtain ⟨rfl, rfl, rfl⟩ := trodAll_nil r1
  obtain rfl : args = #[v0, v1] := by cases args; simp_all
  obtain ⟨rfl, rfl⟩ := trodVars_none hV
  obtain ⟨o0, a0, b0, n0, rfl, rfl, rfl, wo0, wa0, wb0, wn0⟩ := open_ins (hval 0 26 v0 rfl rfl) h0
  obtain ⟨o1, a1, b1, n1, rfl, rfl, rfl, wo1, wa1, wb1, wn1⟩ := open_ins (hval 1 26 v1 rfl rfl) h1
  refine (lawApart_any o0 o1 a0 b0 n0 a1 b1 n1 W (wf_u8 wo0) (wf_u8 wa0) (wf_u8 wb0) (wf_i32 wn0) (wf_u8 wo1) (wf_u8 wa1) (wf_u8 wb1) (wf_i32 wn1)).mono fun e W' ⟨he, bel⟩ => ?_
  subst he
  exact ⟨_, rfl, _, _, _, [], _, [], hW', trodAll_mk1 (shut_bool Try.underlying4 _), (trodAll_cons_mk (shut_ins wo0 wa0 wb0 wn0) (trodAll_cons_mk (shut_ins wo1 wa1 wb1 wn1) trodAll_mk0)), rfl, bel.frame _, fun h => by cases h⟩

theorem isaApart_holds : Rows.IsaApartSaid :=
  OpenClaim.holds_of_wide 7 Try.f7 rfl rfl rfl rfl rfl rfl rfl ⟨rfl, rfl, rfl, rfl, rfl⟩ rfl rfl rfl rfl rfl (by kernel_rfl) Try.func7 (by kernel_rfl)
    (of_decide_eq_true (by kernel_rfl)) (by unfold Func.isWrapper; first | (rw [if_pos (by decide +kernel)]; kernel_rfl) | (rw [if_neg (by decide +kernel)]; exact ⟨rfl, rfl⟩))
    (fun os started H enc _ => isaApart_lifted os started H enc)
#print axioms isaApart_holds

end Go.Proofs.Ytkbpdnckbgnfnaa
