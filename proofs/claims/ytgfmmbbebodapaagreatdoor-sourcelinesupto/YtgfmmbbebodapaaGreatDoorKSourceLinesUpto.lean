/-
  Proved here: the law SourceLines (switchyardlaw04) answers true wherever its arguments hold together at most 1048576 values and letters, and each argument reads afterwards as it read before; the card: what the row lists of the library's variables is tied to the program's text. 
-/
import Derived.Test.YtgfmmbbebodapaaGreatDoorRows
import Derived.Test.YtgfmmbbebodapaaGreatDoorKa
import Derived.WalkKit
import Derived.ProofKit
import Derived.OpenShut
import Derived.ShutString
import Derived.ChangeOld
import Derived.Below
import Derived.SizedLaws
import Derived.Test.YtgfmmbbebodapaaGreatDoorKy
import Derived.Test.YtgfmmbbebodapaaGreatDoorKs
import Derived.Test.YtgfmmbbebodapaaGreatDoorKu
import Derived.Test.YtgfmmbbebodapaaGreatDoorCards
import Derived.Test.YtgfmmbbebodapaaGreatDoorTie
import Derived.SevenTiedAt

/- How the arguments of a law are opened: a slice of bytes, a text, numbers; and that they lie within the form's own reach. -/
namespace Go.Proofs.YtgfmmbbebodapaaGreatDoor
open Go.ChangeShapes Go.WideShapes Go.ChangeAt Go.RowKit

theorem Tryz.own : ownKnob Tryz.prog.godebug = none := by kernel_rfl
theorem Tryz.laidOut : laidOutB Tryz.prog = true := by kernel_rfl
theorem Tryz.cells5 : Tryz.prog.cellsOf 5 = 1 := by kernel_rfl
theorem Tryz.bytes5 : Tryz.prog.bytesOf 5 = 1 := by kernel_rfl

theorem wf_u8 {x : Int} (h : (Lit.int .u8 x).wf = true) : 0 ≤ x ∧ x ≤ 255 := by
  have h1 : IntKind.u8.min = 0 := rfl
  have h2 : IntKind.u8.max = 255 := rfl
  simp only [Lit.wf, Bool.and_eq_true, decide_eq_true_eq] at h
  omega
theorem wf_u32 {x : Int} (h : (Lit.int .u32 x).wf = true) : 0 ≤ x ∧ x ≤ 4294967295 := by
  have h1 : IntKind.u32.min = 0 := rfl
  have h2 : IntKind.u32.max = 4294967295 := rfl
  simp only [Lit.wf, Bool.and_eq_true, decide_eq_true_eq] at h
  omega
theorem wf_i32 {x : Int} (h : (Lit.int .i32 x).wf = true) : -2147483648 ≤ x ∧ x ≤ 2147483647 := by
  have h1 : IntKind.i32.min = -2147483648 := rfl
  have h2 : IntKind.i32.max = 2147483647 := rfl
  simp only [Lit.wf, Bool.and_eq_true, decide_eq_true_eq] at h
  omega
theorem wf_i64 {x : Int} (h : (Lit.int .i64 x).wf = true) : -9223372036854775808 ≤ x ∧ x ≤ 9223372036854775807 := by
  have h1 : IntKind.i64.min = -9223372036854775808 := rfl
  have h2 : IntKind.i64.max = 9223372036854775807 := rfl
  simp only [Lit.wf, Bool.and_eq_true, decide_eq_true_eq] at h
  omega

theorem getD_of_mem {P : Int → Prop} (h0 : P 0) {zs : List Int} (h : ∀ n ∈ zs, P n) (i : Nat) : P (zs.getD i 0) := by
  by_cases hi : i < zs.length
  · have := h zs[i] (List.getElem_mem hi)
    simpa [List.getD, hi] using this
  · simpa [List.getD, List.getElem?_eq_none (show zs.length ≤ i by omega)] using h0

/-- a slice of bytes that came in: its bytes, where they lie, and its datum -/
theorem opened {H : Type} {enc : TypeId × Value → H} {W : World} {a : Option Addr} {n c : Nat} {d : DataW H} {p : List MemPlace}
    (h : DataW.Trod enc Tryz.prog W 0 (fun _ => true) true 26 (.slice a n c) d p) :
    ∃ xs : List Int, xs.length = n ∧ n ≤ c ∧ Row W a xs ∧ Byt xs ∧ ((d = .nil ∧ c = 0) ∨ ∃ es sp, d = .slice es sp ∧ es.length + sp.length = c) := by
  obtain ⟨fuel, hf⟩ := h
  rcases open_ints Tryz.underlying26 Tryz.underlying5 Tryz.cells5 hf with ⟨hcs, hx⟩ | ⟨ad, l, cc, zs, hcs, _, hl, hm, hz, hx, hcell, hwz⟩
  · simp [Value.cells] at hcs
    obtain ⟨rfl, rfl, rfl⟩ := hcs
    simp only [Prod.mk.injEq] at hx
    exact ⟨[], rfl, Nat.le_refl _, fun h => absurd h (Nat.lt_irrefl 0), fun i => by simp, .inl ⟨hx.1, rfl⟩⟩
  · simp [Value.cells] at hcs
    obtain ⟨rfl, rfl, rfl⟩ := hcs
    simp only [Prod.mk.injEq] at hx
    simp only [if_true] at hz
    have hlen : (zs.take n).length = n := by rw [List.length_take]; omega
    refine ⟨zs.take n, hlen, hl, fun h0 => ?_, fun i => getD_of_mem (P := fun x => 0 ≤ x ∧ x ≤ 255) (by decide) (fun x hx' => wf_u8 (hwz x (List.mem_of_mem_take hx'))) i, .inr ⟨_, _, hx.1, ?_⟩⟩
    · obtain ⟨b, o, s⟩ := ad
      obtain rfl : s = none := by simpa [Addr.add] using World.cell?_spot (hcell 0 (by omega))
      exact ⟨b, o, rfl, fun i hi => by rw [← Go.WideShapes.add_plain, hcell i (by omega)]; simp [List.getD, show i < n by omega]⟩
    · simp [lits]; omega

theorem reach_slice {H : Type} {ts : List TypeId} {ds : List (DataW H)} (hsz : (DataW.weightsEach Tryz.prog ts ds).all (· ≤ reachBytes) = true) {j : Nat} {d : DataW H} {c : Nat} (ht : ts[j]? = some 26) (hd : ds[j]? = some d)
    (h : (d = .nil ∧ c = 0) ∨ ∃ es sp, d = .slice es sp ∧ es.length + sp.length = c) : c ≤ 140737488351232 := by
  rcases h with ⟨_, rfl⟩ | ⟨es, sp, rfl, hl⟩
  · omega
  · have := sized_slice hsz (j := j) (t := 26) (e := 5) ht hd Tryz.underlying26
    rw [Tryz.bytes5] at this
    simp only [reachBytes] at this
    omega

theorem reach_string {H : Type} {ts : List TypeId} {ds : List (DataW H)} (hsz : (DataW.weightsEach Tryz.prog ts ds).all (· ≤ reachBytes) = true) {j : Nat} {s : ByteArray} (ht : ts[j]? = some 9) (hd : ds[j]? = some (.lit (.string s.data.toList))) : s.size ≤ 140737488351232 := by
  have := sized_string hsz (j := j) (t := 9) ht hd
  simp only [reachBytes] at this
  simpa using this

end Go.Proofs.YtgfmmbbebodapaaGreatDoor

/- What the bound of the narrower statements gives: the lengths of slices and texts. -/
namespace Go.Proofs.YtgfmmbbebodapaaGreatDoor
open Go.ChangeShapes Go.WideShapes Go.ChangeAt Go.RowKit

theorem bulk_pos {H : Type} (d : DataW H) : 1 ≤ Rows.uptoBulk d := by
  cases d with
  | lit l => cases l <;> simp [Rows.uptoBulk]
  | _ => simp [Rows.uptoBulk]
theorem bulk_len {H : Type} : ∀ l : List (DataW H), l.length ≤ Rows.uptoBulkAll l
  | [] => Nat.zero_le _
  | d :: r => by
    have h1 := bulk_pos d
    have h2 := bulk_len r
    simp only [Rows.uptoBulkAll, List.length_cons]
    omega
theorem bulk_mem {H : Type} {d : DataW H} : ∀ {l : List (DataW H)}, d ∈ l → Rows.uptoBulk d ≤ Rows.uptoBulkAll l
  | x :: r, h => by
    simp only [Rows.uptoBulkAll]
    rcases List.mem_cons.1 h with e | e
    · subst e; omega
    · have := bulk_mem e; omega
theorem bulk_all {H : Type} {l : List (DataW H)} (hk : Rows.uptoSmall H l = true) : Rows.uptoBulkAll l ≤ 1048576 := of_decide_eq_true hk

theorem bulk_slice {H : Type} {l : List (DataW H)} {d : DataW H} {c : Nat} (hk : Rows.uptoSmall H l = true) (hm : d ∈ l) (h : (d = .nil ∧ c = 0) ∨ ∃ es sp, d = .slice es sp ∧ es.length + sp.length = c) : c ≤ 1048576 := by
  rcases h with ⟨_, rfl⟩ | ⟨es, sp, rfl, hl⟩
  · omega
  · have h1 := bulk_mem hm
    have h2 := bulk_all hk
    have h3 := bulk_len es
    have h4 := bulk_len sp
    simp only [Rows.uptoBulk] at h1
    omega
theorem bulk_string {H : Type} {l : List (DataW H)} {s : ByteArray} (hk : Rows.uptoSmall H l = true) (hm : DataW.lit (.string s.data.toList) ∈ l) : s.size ≤ 1048576 := by
  have h1 := bulk_mem hm
  have h2 := bulk_all hk
  simp only [Rows.uptoBulk] at h1
  have e : s.data.toList.length = s.size := by rw [Array.length_toList]; rfl
  omega

end Go.Proofs.YtgfmmbbebodapaaGreatDoor

/- switchyardlaw04.SourceLines answers true. -/
namespace Go.Proofs.YtgfmmbbebodapaaGreatDoor
open Go.RowKit

set_option maxRecDepth 20000 in
set_option maxHeartbeats 1000000 in
theorem sourceLines_any (s : ByteArray) (w : World) (he : Env w) (hs : (s.size + 1) * 16 ≤ 140737488355328) :
    Calls Tryz.prog 3 #[.string s] w fun E w' => E = .returned (.bool true) ∧ Below w.heap.size w w' := by
  have hL := line_any s w he.vars hs
  have hR := fun W => refLine_any s W hs
  have hA := fun W h => awake_any W h
  have hfit := lineL_fit s.data.toList (by have := Lib.size_eq s; omega)
  generalize lineL s.data.toList = r at *
  obtain ⟨x, ok, e, c⟩ := r
  have hdz : x.d.length ≤ 9223372036854775807 := Nat.le_trans hfit.dz (by decide)
  clear hfit
  go_enter Tryz.func3, Tryz.ntmps3
  go_wp2_with (first
    | (go_at_call 8; refine hL.mono ?_; rintro E w1 ⟨d1, rfl, hd1, hb1⟩; obtain ⟨q1, c1, rfl, hr1⟩ := hd1.rowB; have HE1 := Hid.in (he.below hb1); have HB1 := Hid.in hb1; have HR1 := Hid.in hr1; clear hd1 hb1 hr1; unfold LineV; dsimp only)
    | (refine step_store_new rfl 28 (.tmp 3) (.tmp 14) rfl rfl rfl (cellsOf x (.slice q1 x.d.length c1)) rfl Tryz.sz28 rfl (cells_one _ _ _ _) ?_; refine Hid.out ?_))
  refine Lib.hid ?_
  have HX2 := Hid.in (Blk.new w1 28 (cellsOf x (.slice q1 x.d.length c1)))
  have HE2 := Hid.in (HE1.out.below (new_alloc w1 (.cells (cellsOf x (.slice q1 x.d.length c1)) 28)))
  have HB2 := Hid.in (below_alloc HB1.out (.cells (cellsOf x (.slice q1 x.d.length c1)) 28))
  have HR2 := Hid.in (HR1.out.below (new_alloc w1 (.cells (cellsOf x (.slice q1 x.d.length c1)) 28)))
  clear HE1 HB1 HR1 hL
  generalize w1.alloc (.cells (cellsOf x (.slice q1 x.d.length c1)) 28) = w2 at *
  generalize w1.heap.size = g1 at *
  go_wp2_with (first
    | (go_at_call 9; refine (hR _).mono ?_; rintro E w3 ⟨d3, rfl, hd3, hb3⟩; obtain ⟨q3, c3, rfl, hr3⟩ := hd3.rowB; have HE3 := Hid.in (HE2.out.below hb3); have HB3 := Hid.in (below_step HB2.out hb3); have HX3 := Hid.in (HX2.out.grow hb3); have HR3 := Hid.in (HR2.out.below hb3); have HQ3 := Hid.in hr3; clear hd3 hb3 hr3; unfold LineV; dsimp only)
    | (refine step_store_new rfl 28 (.tmp 7) (.tmp 21) rfl rfl rfl (cellsOf x (.slice q3 x.d.length c3)) rfl Tryz.sz28 rfl (cells_one _ _ _ _) ?_; refine Hid.out ?_))
  refine Lib.hid ?_
  have N4 := Hid.in (new_alloc w3 (.cells (cellsOf x (.slice q3 x.d.length c3)) 28))
  have HY4 := Hid.in (Blk.new w3 28 (cellsOf x (.slice q3 x.d.length c3)))
  have HE4 := Hid.in (HE3.out.below N4.out)
  have HB4 := Hid.in (below_step HB3.out N4.out)
  have HX4 := Hid.in (HX3.out.grow N4.out)
  have hS := fun W k1 k2 => sameItem_yes x q1 q3 x.d.length c1 x.d.length c3 W rfl rfl hdz k1 k2
  have hS4 := hS _ (HR3.out.below N4.out) (HQ3.out.below N4.out)
  clear HE2 HB2 HX2 HR2 HE3 HB3 HX3 HR3 HQ3 N4 hR hS
  generalize w3.alloc (.cells (cellsOf x (.slice q3 x.d.length c3)) 28) = w4 at *
  generalize w3.heap.size = g3 at *
  go_wp2_with (first
    | (refine step_load_blk HX4.out rfl 28 (.tmp 3) rfl rfl _ (List.prefix_refl _) _ Tryz.underlying28 rfl Tryz.sz28 ?_)
    | (refine step_load_blk HY4.out rfl 28 (.tmp 7) rfl rfl _ (List.prefix_refl _) _ Tryz.underlying28 rfl Tryz.sz28 ?_)
    | (go_at_call 10; refine hS4.mono ?_; rintro E w5 ⟨rfl, hb5⟩; have HE5 := Hid.in (HE4.out.below hb5); have HB5 := Hid.in (below_step HB4.out hb5); clear hb5)
    | (go_at_call 11; refine (hA _ HE5.out).mono ?_; rintro E w6 ⟨rfl, hb6⟩))
  go_ret
  exact ⟨rfl, below_step HB5.out hb6⟩

end Go.Proofs.YtgfmmbbebodapaaGreatDoor

/-
  Proved here: the law SourceLines (switchyardlaw04) answers true wherever its arguments hold together at most 1048576 values and letters, and each argument reads afterwards as it read before; the card: what the row lists of the library's variables is tied to the program's text. 
-/
namespace Go.Proofs.YtgfmmbbebodapaaGreatDoor
open Go.ChangeShapes Go.WideShapes Go.ChangeAt Go.RowKit
open Go.ChangeMaps (open_string shut_string)

theorem sourceLinesUpto_reads (os : Os) {H : Type} (enc : TypeId × Value → H) : ∃ places, DataW.whole enc Tryz.prog ((laidWorld os).forCall (fun _ _ => 0) ⟨#[], #[.string ByteArray.empty], []⟩).memory Tryz.f3.params.toList (Rows.OpenSpec.upto Rows.sourceLinesSpec).vars false (#[.string ByteArray.empty] : Array Value).toList 8 = some ([.lit (.string [])], [], places) :=
  ⟨[], by kernel_rfl⟩

set_option maxRecDepth 100000 in
theorem sourceLinesUpto_lifted (os : Os) (started : os.Started) (H : Type) (enc : TypeId × Value → H) (F : Stop.Interp) :
    ReturnsInHanded {} Tryz.checked os 3 .any ((Rows.OpenSpec.upto Rows.sourceLinesSpec).preRow enc Tryz.prog Tryz.f3 Rows.sourceLinesUptoRow.domain false Rows.sourceLinesUptoRow.laid) (((Rows.OpenSpec.upto Rows.sourceLinesSpec).at F).post enc Tryz.prog Tryz.f3 false true false false) := by
  obtain ⟨places, hx⟩ := sourceLinesUpto_reads os enc
  refine returnsInHanded_of_row (C := Tryz.checked) (s := (Rows.OpenSpec.upto Rows.sourceLinesSpec)) Tryz.own started (by kernel_rfl) Tryz.func3
    (witness_row_atRef (enc := enc) (C := Tryz.checked) false (laidWorld os) #[.string ByteArray.empty] rfl (by kernel_rfl) (by kernel_rfl) (by kernel_rfl)
      (OpenSpec.preRow_of_cond 8 hx (by kernel_rfl) (fun k hk => by cases hk; kernel_rfl) (by kernel_rfl) (laid_met os _))) ?_
  intro W base args ds gs before hval0 hW _ hcond hsz0 hL _ _
  have hV := env_of hL
  have hk := hcond _ rfl
  have hW' := hW
  obtain ⟨p, q, hA0, hVv, rfl, hfz, hnd⟩ := hW
  have hA : DataW.TrodAll enc Tryz.prog W 0 (fun _ => true) true Tryz.f3.params.toList args.toList ds p := hA0
  have hval : ∀ (j : Nat) t v, Tryz.f3.params[j]? = some t → args[j]? = some v → Value.okWide Tryz.prog W .any base t v := hval0
  rw [Tryz.params3] at hA hval
  obtain ⟨v0, vs0, d0, ds0, p0, q0, hargs, rfl, rfl, h0, r0⟩ := trodAll_cons hA
  obtain ⟨rfl, rfl, rfl⟩ := trodAll_nil r0
  obtain rfl : args = #[v0] := by cases args; simp_all
  obtain ⟨rfl, rfl⟩ := trodVars_none hVv
  obtain ⟨s0, rfl, rfl, rfl, hs0⟩ := open_string Tryz.underlying9 (hval 0 9 v0 rfl rfl) h0
  have hc0 := bulk_string (s := s0) hk (by simp)
  refine (sourceLines_any s0 W hV (by omega)).mono fun e W' ⟨he, bel⟩ => ?_
  subst he
  exact ⟨_, rfl, _, _, _, [], _, [], hW', trodAll_mk1 (shut_bool Tryz.underlying4 _), (trodAll_cons_mk (shut_string Tryz.underlying9 hs0) trodAll_mk0), rfl, bel.frame _, fun h => by cases h⟩

theorem sourceLinesUpto_said : Rows.SourceLinesUptoSaid :=
  OpenClaim.holds_of_cond 3 Tryz.f3 rfl rfl rfl rfl rfl rfl rfl ⟨rfl, rfl, rfl, rfl, rfl⟩ rfl rfl rfl rfl rfl (by kernel_rfl) Tryz.func3 (by kernel_rfl)
    (of_decide_eq_true (by kernel_rfl)) (by unfold Func.isWrapper; first | (rw [if_pos (by decide +kernel)]; kernel_rfl) | (rw [if_neg (by decide +kernel)]; exact ⟨rfl, rfl⟩))
    (fun os started H enc _ F => by rw [OpenClaim.pre_eq_preRow]; exact sourceLinesUpto_lifted os started H enc F)

theorem sourceLinesUpto_plain (f : FuncId) (fn : Func) (hf : Tryz.pinned.checked.prog.funcNamed "switchyard/switchyardlaw04.SourceLines" = some f) (hfn : Tryz.pinned.checked.prog.funcs[f]? = some fn) :
    true = Tryz.pinned.checked.prog.looks [] ∧ ∀ (j : Nat) t, fn.params[j]? = some t → Tryz.pinned.checked.prog.wantsStandIn t = false := by
  obtain rfl : f = 3 := Option.some.inj ((show Tryz.prog.funcNamed "switchyard/switchyardlaw04.SourceLines" = some 3 by kernel_rfl).symm.trans hf) |>.symm
  obtain rfl : fn = Tryz.f3 := (Option.some.inj (Tryz.func3.symm.trans hfn)).symm
  refine ⟨by kernel_rfl, fun j t ht => ?_⟩
  rw [Tryz.params3] at ht
  rcases j with _ | j
  · obtain rfl : t = 9 := by simpa using ht.symm
    exact (show Tryz.prog.wantsStandIn 9 = false by kernel_rfl)
  · simp at ht

theorem sourceLinesUpto_holds : Rows.SourceLinesUptoCardSaid :=
  Claim7.holds_tied_plain_at .later [] _ _ _ _ sourceLinesUpto_said (fun _ h => by cases h) (by kernel_rfl) (fun _ h => by cases h) sourceLinesUpto_row_tie rfl ⟨rfl, rfl⟩ (by kernel_rfl) rfl sourceLinesUpto_plain (by kernel_rfl)
#print axioms sourceLinesUpto_holds

end Go.Proofs.YtgfmmbbebodapaaGreatDoor
