/-
  Proved here: the law SourcePrints (switchyardlaw04) answers true wherever its arguments hold together at most 1048576 values and letters, and each argument reads afterwards as it read before; the card: what the row lists of the library's variables is tied to the program's text. 
-/
import Derived.Test.YtgfmmbbebodapaaGreatDoorKzc
import Derived.Test.YtgfmmbbebodapaaGreatDoorKzd
import Derived.Test.YtgfmmbbebodapaaGreatDoorKt
import Derived.Test.YtgfmmbbebodapaaGreatDoorKs
import Derived.Test.YtgfmmbbebodapaaGreatDoorKze
import Derived.Test.YtgfmmbbebodapaaGreatDoorKu
import Derived.Test.YtgfmmbbebodapaaGreatDoorCards
import Derived.Test.YtgfmmbbebodapaaGreatDoorTie
import Derived.SevenTiedAt

/- switchyardlaw04.SourcePrints answers true. -/
namespace Go.Proofs.YtgfmmbbebodapaaGreatDoor
open Go.RowKit

set_option maxRecDepth 20000 in
set_option maxHeartbeats 1000000 in
theorem sourcePrints_any (p : Option Addr) (n c : Nat) (xs : List Src) (w : World) (he : Env w) (hn : xs.length = n) (hnc : n ≤ c) (hc : c ≤ 1048576) (hx : Items w p xs) :
    Calls Tryz.prog 5 #[.slice p n c] w fun E w' => E = .returned (.bool true) ∧ Below w.heap.size w w' := by
  have hCp := copyItems_any p n c xs w hn (by omega) hx
  have hC1 := fun (p1 : Option Addr) (c1 : Nat) W h1 h2 h3 (h4 : Items W p1 xs) => check_any p1 n c1 xs W h1 hn h2 h3 h4
  have hC2 := fun W h => refCheck_any p n c xs W hn (by omega) h
  have hP1 := fun (p1 : Option Addr) (c1 : Nat) W h1 h2 h3 (h4 : Items W p1 xs) => print_any p1 n c1 xs W h1 hn h2 h3 h4
  have hP2 := fun W h => refPrint_any p n c xs W hn (by omega) h
  have hS := fun (p1 : Option Addr) (c1 : Nat) W (h1 : Items W p1 xs) h2 => sameItems_yes p1 p n c1 c xs W hn (by omega) (fun x hx' => Nat.le_trans (hx.fit x hx').dz (by decide)) h1 h2
  have hA := fun W h => awake_any W h
  have HX := Hid.in hx
  have HF : Hid (∀ x ∈ xs, Fit x) := hx.fit
  have HN := Hid.in hn
  clear hx hn
  generalize checkL xs = ck at *
  obtain ⟨ce, ci⟩ := ck
  generalize printL xs = pr at *
  obtain ⟨pt, pe⟩ := pr
  simp only at hC1 hC2 hP1 hP2
  go_enter Tryz.func5, Tryz.ntmps5
  go_wp2_with (first
    | (go_at_call 15; refine hCp.mono ?_; rintro E w1 ⟨v1, L1, rfl, hm1, hI1, hb1⟩; obtain ⟨p1, c1, hv1, hc11, hc12, -⟩ := hI1.shape; have hL1 : L1.length = n := (by have := congrArg List.length hm1; rw [List.length_map, HN.out] at this; exact this); rw [hL1] at hv1 hc11; subst hv1; have hi1 := hI1.items (fun q hq => HF.out q.1 (by rw [← hm1]; exact List.mem_map_of_mem hq)) rfl; rw [hm1] at hi1; have HI1 := Hid.in hi1; have HE1 := Hid.in (he.below hb1); have HX1 := Hid.in (HX.out.below hb1); have HB1 := Hid.in hb1; unfold maxLen at hc12; clear hm1 hI1 hb1 hi1 hL1)
    | (go_at_call 16; refine (hC1 p1 c1 _ HE1.out hc11 (by omega) HI1.out).mono ?_; rintro E w2 ⟨rfl, hb2⟩; have HI2 := Hid.in (HI1.out.below hb2); have HE2 := Hid.in (HE1.out.below hb2); have HX2 := Hid.in (HX1.out.below hb2); have HB2 := Hid.in (below_step HB1.out hb2); clear hb2)
    | (go_at_call 17; refine (hC2 _ HX2.out).mono ?_; rintro E w3 ⟨rfl, hb3⟩; have HI3 := Hid.in (HI2.out.below hb3); have HE3 := Hid.in (HE2.out.below hb3); have HX3 := Hid.in (HX2.out.below hb3); have HB3 := Hid.in (below_step HB2.out hb3); clear hb3)
    | (go_at_call 18; refine (hP1 p1 c1 _ HE3.out hc11 (by omega) HI3.out).mono ?_; rintro E w4 ⟨rfl, hb4⟩; have HI4 := Hid.in (HI3.out.below hb4); have HE4 := Hid.in (HE3.out.below hb4); have HX4 := Hid.in (HX3.out.below hb4); have HB4 := Hid.in (below_step HB3.out hb4); clear hb4)
    | (go_at_call 19; refine (hP2 _ HX4.out).mono ?_; rintro E w5 ⟨rfl, hb5⟩; have HI5 := Hid.in (HI4.out.below hb5); have HE5 := Hid.in (HE4.out.below hb5); have HX5 := Hid.in (HX4.out.below hb5); have HB5 := Hid.in (below_step HB4.out hb5); clear hb5)
    | (go_at_call 14; refine (hS p1 c1 _ HI5.out HX5.out).mono ?_; rintro E w6 ⟨rfl, hb6⟩; have HE6 := Hid.in (HE5.out.below hb6); have HB6 := Hid.in (below_step HB5.out hb6); clear hb6)
    | (go_at_call 11; refine (hA _ HE6.out).mono ?_; rintro E w7 ⟨rfl, hb7⟩))
  go_ret
  exact ⟨rfl, below_step HB6.out hb7⟩

end Go.Proofs.YtgfmmbbebodapaaGreatDoor

/-
  Proved here: the law SourcePrints (switchyardlaw04) answers true wherever its arguments hold together at most 1048576 values and letters, and each argument reads afterwards as it read before; the card: what the row lists of the library's variables is tied to the program's text. 
-/
namespace Go.Proofs.YtgfmmbbebodapaaGreatDoor
open Go.ChangeShapes Go.WideShapes Go.ChangeAt Go.RowKit
open Go.ChangeMaps (open_string shut_string)

theorem sourcePrintsUpto_reads (os : Os) {H : Type} (enc : TypeId × Value → H) : ∃ places, DataW.whole enc Tryz.prog ((laidWorld os).forCall (fun _ _ => 0) ⟨#[], #[.slice none 0 0], []⟩).memory Tryz.f5.params.toList (Rows.OpenSpec.upto Rows.sourcePrintsSpec).vars false (#[.slice none 0 0] : Array Value).toList 8 = some ([.nil], [], places) :=
  ⟨[], by kernel_rfl⟩

set_option maxRecDepth 100000 in
theorem sourcePrintsUpto_lifted (os : Os) (started : os.Started) (H : Type) (enc : TypeId × Value → H) (F : Stop.Interp) :
    ReturnsInHanded {} Tryz.checked os 5 .any ((Rows.OpenSpec.upto Rows.sourcePrintsSpec).preRow enc Tryz.prog Tryz.f5 Rows.sourcePrintsUptoRow.domain false Rows.sourcePrintsUptoRow.laid) (((Rows.OpenSpec.upto Rows.sourcePrintsSpec).at F).post enc Tryz.prog Tryz.f5 false true false false) := by
  obtain ⟨places, hx⟩ := sourcePrintsUpto_reads os enc
  refine returnsInHanded_of_row (C := Tryz.checked) (s := (Rows.OpenSpec.upto Rows.sourcePrintsSpec)) Tryz.own started (by kernel_rfl) Tryz.func5
    (witness_row_atRef (enc := enc) (C := Tryz.checked) false (laidWorld os) #[.slice none 0 0] rfl (by kernel_rfl) (by kernel_rfl) (by kernel_rfl)
      (OpenSpec.preRow_of_cond 8 hx (by kernel_rfl) (fun k hk => by cases hk; kernel_rfl) (by kernel_rfl) (laid_met os _))) ?_
  intro W base args ds gs before hval0 hW _ hcond hsz0 hL _ _
  have hV := env_of hL
  have hk := hcond _ rfl
  have hW' := hW
  obtain ⟨p, q, hA0, hVv, rfl, hfz, hnd⟩ := hW
  have hA : DataW.TrodAll enc Tryz.prog W 0 (fun _ => true) true Tryz.f5.params.toList args.toList ds p := hA0
  have hval : ∀ (j : Nat) t v, Tryz.f5.params[j]? = some t → args[j]? = some v → Value.okWide Tryz.prog W .any base t v := hval0
  rw [Tryz.params5] at hA hval
  obtain ⟨v0, vs0, d0, ds0, p0, q0, hargs, rfl, rfl, h0, r0⟩ := trodAll_cons hA
  obtain ⟨rfl, rfl, rfl⟩ := trodAll_nil r0
  obtain rfl : args = #[v0] := by cases args; simp_all
  obtain ⟨rfl, rfl⟩ := trodVars_none hVv
  obtain ⟨a0, n0, c0, rfl⟩ := okWide_slice Tryz.underlying35 (hval 0 35 v0 rfl rfl)
  have k0 := h0
  have lt0 : ∀ x ∈ p0, x.block < W.heap.size := by obtain ⟨m, hm⟩ := k0; exact DataW.trod_lt m _ _ _ hm
  obtain ⟨x0, hx0, hl0, hc0, hr0⟩ := opened_items h0 (bulk_one (d := d0) hk (by simp))
  refine (sourcePrints_any a0 n0 c0 x0 W hV hx0 hl0 hc0 hr0).mono fun e W' ⟨he, bel⟩ => ?_
  subst he
  exact ⟨_, rfl, _, _, _, [], _, [], hW', trodAll_mk1 (shut_bool Tryz.underlying4 _), (trodAll_cons_mk (Below.trod Tryz.laidOut (by kernel_rfl) (of_decide_eq_true (by kernel_rfl)) k0 bel lt0) trodAll_mk0), rfl, bel.frame _, fun h => by cases h⟩

theorem sourcePrintsUpto_said : Rows.SourcePrintsUptoSaid :=
  OpenClaim.holds_of_cond 5 Tryz.f5 rfl rfl rfl rfl rfl rfl rfl ⟨rfl, rfl, rfl, rfl, rfl⟩ rfl rfl rfl rfl rfl (by kernel_rfl) Tryz.func5 (by kernel_rfl)
    (of_decide_eq_true (by kernel_rfl)) (by unfold Func.isWrapper; first | (rw [if_pos (by decide +kernel)]; kernel_rfl) | (rw [if_neg (by decide +kernel)]; exact ⟨rfl, rfl⟩))
    (fun os started H enc _ F => by rw [OpenClaim.pre_eq_preRow]; exact sourcePrintsUpto_lifted os started H enc F)

theorem sourcePrintsUpto_plain (f : FuncId) (fn : Func) (hf : Tryz.pinned.checked.prog.funcNamed "switchyard/switchyardlaw04.SourcePrints" = some f) (hfn : Tryz.pinned.checked.prog.funcs[f]? = some fn) :
    true = Tryz.pinned.checked.prog.looks [] ∧ ∀ (j : Nat) t, fn.params[j]? = some t → Tryz.pinned.checked.prog.wantsStandIn t = false := by
  obtain rfl : f = 5 := Option.some.inj ((show Tryz.prog.funcNamed "switchyard/switchyardlaw04.SourcePrints" = some 5 by kernel_rfl).symm.trans hf) |>.symm
  obtain rfl : fn = Tryz.f5 := (Option.some.inj (Tryz.func5.symm.trans hfn)).symm
  refine ⟨by kernel_rfl, fun j t ht => ?_⟩
  rw [Tryz.params5] at ht
  rcases j with _ | j
  · obtain rfl : t = 35 := by simpa using ht.symm
    exact (show Tryz.prog.wantsStandIn 35 = false by kernel_rfl)
  · simp at ht

theorem sourcePrintsUpto_holds : Rows.SourcePrintsUptoCardSaid :=
  Claim7.holds_tied_plain_at .later [] _ _ _ _ sourcePrintsUpto_said (fun _ h => by cases h) (by kernel_rfl) (fun _ h => by cases h) sourcePrintsUpto_row_tie rfl ⟨rfl, rfl⟩ (by kernel_rfl) rfl sourcePrintsUpto_plain (by kernel_rfl)
#print axioms sourcePrintsUpto_holds

end Go.Proofs.YtgfmmbbebodapaaGreatDoor
