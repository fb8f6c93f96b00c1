/-
  Proved here: the law ObjectRight (switchyardlaw06) answers true for every input, and each argument reads afterwards as it read before; the card: what the row lists of the library's variables is tied to the program's text. No condition of ours: the row's own reach alone.
-/
import Derived.Test.YtkianldkbfjehaaGreatDoorKzzl
import Derived.Test.YtkianldkbfjehaaGreatDoorKze
import Derived.Test.YtkianldkbfjehaaGreatDoorKzj
import Derived.Test.YtkianldkbfjehaaGreatDoorCards
import Derived.Test.YtkianldkbfjehaaGreatDoorTie
import Derived.Test.YtkianldkbfjehaaGreatDoorKzzs
import Derived.SevenTiedAt

/- How an object that came in by value is opened, of every size that an argument may have. -/
namespace Go.Proofs.YtkianldkbfjehaaGreatDoor
open Go.ChangeShapes Go.WideShapes Go.ChangeAt Go.RowKit

theorem Tryz.bytes36 : Tryz.prog.bytesOf 36 = 32 := by kernel_rfl
theorem Tryz.bytes39 : Tryz.prog.bytesOf 39 = 32 := by kernel_rfl
theorem Tryz.bytes41 : Tryz.prog.bytesOf 41 = 40 := by kernel_rfl

/-- how many elements a slice may have -/
theorem slice_reach {H : Type} {enc : TypeId × Value → H} {W : World} {fuel : Nat} {q : Option Addr} {n c : Nat} {x : DataW H × List MemPlace} {ST ET : TypeId} (hu : Tryz.prog.underlying ST = some (.slice ET)) (h : DataW.trod enc Tryz.prog W 0 (fun _ => true) true fuel ST [.slice q n c] = some x)
    {ts : List TypeId} {ds : List (DataW H)} (hsz : (DataW.weightsEach Tryz.prog ts ds).all (· ≤ reachBytes) = true) {j : Nat} (ht : ts[j]? = some ST) (hd : ds[j]? = some x.1) : n * Tryz.prog.bytesOf ET ≤ reachBytes := by
  rcases DataW.trod_slice hu h with ⟨hcs, hx⟩ | ⟨ad, l, cc, elems, rest, f, hfu, hcs, hx, _, hl, hm, hlen, hel, hsp, _⟩
  · simp only [List.cons.injEq, and_true, Value.slice.injEq] at hcs
    rw [hcs.2.1, Nat.zero_mul]; exact Nat.zero_le _
  · simp only [List.cons.injEq, and_true, Value.slice.injEq] at hcs
    have hx1 := congrArg Prod.fst hx
    simp only at hx1
    rw [hx1] at hd
    have := sized_slice hsz ht hd hu
    rw [List.length_map, hlen] at this
    rw [hcs.2.1]
    exact Nat.le_trans (Nat.mul_le_mul_right _ (Nat.le_add_right _ _)) this

theorem open_objV {H : Type} {enc : TypeId × Value → H} {W : World} {fuel : Nat} {cs : List Value} {x : DataW H × List MemPlace} (h : DataW.trod enc Tryz.prog W 0 (fun _ => true) true fuel 29 cs = some x)
    {ts : List TypeId} {ds : List (DataW H)} (hsz : (DataW.weightsEach Tryz.prog ts ds).all (· ≤ reachBytes) = true) {j : Nat} (ht : ts[j]? = some 29) (hd : ds[j]? = some x.1) :
    ∃ (o : Ob) (pb ps pf pm : Option Addr) (nb cb ns cs' nf cf nm cm : Nat), cs = (obA pb ps pf pm nb cb ns cs' nf cf nm cm).toList ∧ ObIn W o pb ps pf pm nb cb ns cs' nf cf nm cm ∧ nb ≤ 140737488351232 ∧ ns ≤ 4398046510976 ∧ nf ≤ 4398046510976 ∧ nm ≤ 3518437208780 := by
  obtain ⟨xs, n, rfl, hx, hlen, hxl, hf⟩ := DataW.trod_struct Tryz.underlying29 h
  rw [Tryz.cells29] at hlen
  obtain ⟨a, b, c, d, rfl⟩ := list_four hlen
  have f0 := hf 0
  have f1 := hf 1
  have f2 := hf 2
  have f3 := hf 3
  simp [Tryz.cells24, Tryz.cells25, Tryz.cells26, Tryz.cells27] at f0 f1 f2 f3
  obtain ⟨x0, x1, x2, x3, rfl⟩ := list_four (show xs.length = 4 from hxl)
  simp only [List.getElem?_cons_zero, List.getElem?_cons_succ] at f0 f1 f2 f3
  have hin : (DataW.weightsEach Tryz.prog [24, 25, 26, 27] [x0.1, x1.1, x2.1, x3.1]).all (· ≤ reachBytes) = true := by
    rw [List.all_eq_true]
    intro m hm
    have hd' : x.1 = .agg [x0.1, x1.1, x2.1, x3.1] := by rw [hx]; rfl
    rw [hd'] at hd
    refine List.all_eq_true.1 hsz m (DataW.weights_mem_each ht hd m ?_)
    simp only [DataW.weights, Tryz.underlying29]
    exact hm
  obtain ⟨qb, eb, bs, rfl, hb1, hb2, hb3, hb4, hb5⟩ := open_data2 f0
  obtain ⟨qs, es, S, rfl, hs1, hs2, hs3⟩ := opened3 syV SyF Tryz.underlying25 Tryz.cells36 open_sym f1
  obtain ⟨qf, ef, F, rfl, hf1, hf2, hf3⟩ := opened3 fxV FxF Tryz.underlying26 Tryz.cells39 open_fix f2
  obtain ⟨qm, em, M, rfl, hm1, hm2, hm3⟩ := opened3 mkV MkF Tryz.underlying27 Tryz.cells41 open_mark f3
  have k1 := slice_reach Tryz.underlying24 f0 hin (j := 0) rfl rfl
  have k2 := slice_reach Tryz.underlying25 f1 hin (j := 1) rfl rfl
  have k3 := slice_reach Tryz.underlying26 f2 hin (j := 2) rfl rfl
  have k4 := slice_reach Tryz.underlying27 f3 hin (j := 3) rfl rfl
  rw [Tryz.bytes5] at k1
  rw [Tryz.bytes36] at k2
  rw [Tryz.bytes39] at k3
  rw [Tryz.bytes41] at k4
  simp only [reachBytes] at k1 k2 k3 k4
  refine ⟨⟨bs, S, F, M⟩, qb, qs, qf, qm, _, eb, _, es, _, ef, _, em, rfl, ⟨rfl, rfl, rfl, rfl, hb4, hb5, ?_, ?_, ?_, hb1, hs2, hf2, hm2, ⟨hb2, hs3, hf3, hm3⟩⟩, by omega, by omega, by omega, by omega⟩
  · unfold maxLen; omega
  · unfold maxLen; omega
  · unfold maxLen; omega

set_option maxRecDepth 20000 in
theorem open_obj_valV {H : Type} {enc : TypeId × Value → H} {W : World} {base : Nat} {v : Value} {d : DataW H} {p : List MemPlace} (hv : Value.okWide Tryz.prog W .any base 29 v)
    (h : DataW.Trod enc Tryz.prog W 0 (fun _ => true) true 29 v d p) {ts : List TypeId} {ds : List (DataW H)} (hsz : (DataW.weightsEach Tryz.prog ts ds).all (· ≤ reachBytes) = true) {j : Nat} (ht : ts[j]? = some 29) (hd : ds[j]? = some d) :
    ∃ (o : Ob) (pb ps pf pm : Option Addr) (nb cb ns cs' nf cf nm cm : Nat), v = .agg (obA pb ps pf pm nb cb ns cs' nf cf nm cm) ∧ ObIn W o pb ps pf pm nb cb ns cs' nf cf nm cm ∧ nb ≤ 140737488351232 ∧ ns ≤ 4398046510976 ∧ nf ≤ 4398046510976 ∧ nm ≤ 3518437208780 := by
  obtain ⟨fuel, hf⟩ := h
  simp only [Value.okWide, Tryz.underlying29] at hv
  obtain ⟨cs, rfl, _, _⟩ := hv
  obtain ⟨o, pb, ps, pf, pm, nb, cb, ns, cs', nf, cf, nm, cm, hc, hr⟩ := open_objV hf hsz ht hd
  refine ⟨o, pb, ps, pf, pm, nb, cb, ns, cs', nf, cf, nm, cm, ?_, hr⟩
  have h2 : cs.toList = (obA pb ps pf pm nb cb ns cs' nf cf nm cm).toList := hc
  rw [Array.toList_inj.1 h2]

end Go.Proofs.YtkianldkbfjehaaGreatDoor

/-
  Proved here: the law ObjectRight (switchyardlaw06) answers true for every input, and each argument reads afterwards as it read before; the card: what the row lists of the library's variables is tied to the program's text. No condition of ours: the row's own reach alone.
-/
namespace Go.Proofs.YtkianldkbfjehaaGreatDoor
open Go.ChangeShapes Go.WideShapes Go.ChangeAt Go.RowKit
open Go.ChangeMaps (open_string shut_string)

theorem objectRight_reads (os : Os) {H : Type} (enc : TypeId × Value → H) : ∃ places, DataW.whole enc Tryz.prog ((laidWorld os).forCall (fun _ _ => 0) ⟨#[], #[.agg noObj, .agg noObj], []⟩).memory Tryz.f4.params.toList (OpenSpec.ofChange Rows.objectRightSpec).vars false (#[.agg noObj, .agg noObj] : Array Value).toList 8 = some ([.agg [.nil, .nil, .nil, .nil], .agg [.nil, .nil, .nil, .nil]], [], places) :=
  ⟨[], by kernel_rfl⟩

set_option maxRecDepth 100000 in
theorem objectRight_lifted (os : Os) (started : os.Started) (H : Type) (enc : TypeId × Value → H) (F : Stop.Interp) :
    ReturnsInHanded {} Tryz.checked os 4 .any ((OpenSpec.ofChange Rows.objectRightSpec).preRow enc Tryz.prog Tryz.f4 Rows.objectRightRow.domain false Rows.objectRightRow.laid) (((OpenSpec.ofChange Rows.objectRightSpec).at F).post enc Tryz.prog Tryz.f4 false true false false) := by
  obtain ⟨places, hx⟩ := objectRight_reads os enc
  refine returnsInHanded_of_row (C := Tryz.checked) (s := (OpenSpec.ofChange Rows.objectRightSpec)) Tryz.own started (by kernel_rfl) Tryz.func4
    (witness_row_atRef (enc := enc) (C := Tryz.checked) false (laidWorld os) #[.agg noObj, .agg noObj] rfl (by kernel_rfl) (by kernel_rfl) (by kernel_rfl)
      (OpenSpec.preRow_of_cond 8 hx (by kernel_rfl) (fun k hk => by cases hk) (by kernel_rfl) (laid_met os _))) ?_
  intro W base args ds gs before hval0 hW _ hcond hsz0 hL _ _
  have hV := env_of hL
  have hW' := hW
  obtain ⟨p, q, hA0, hVv, rfl, hfz, hnd⟩ := hW
  have hA : DataW.TrodAll enc Tryz.prog W 0 (fun _ => true) true Tryz.f4.params.toList args.toList ds p := hA0
  have hval : ∀ (j : Nat) t v, Tryz.f4.params[j]? = some t → args[j]? = some v → Value.okWide Tryz.prog W .any base t v := hval0
  have hsz : (DataW.weightsEach Tryz.prog (Tryz.f4.params.toList ++ Rows.objectRightSpec.plain.varTypes Tryz.prog) (ds ++ gs)).all (· ≤ reachBytes) = true := hsz0
  rw [Tryz.params4] at hA hval hsz
  obtain ⟨v0, vs0, d0, ds0, p0, q0, hargs, rfl, rfl, h0, r0⟩ := trodAll_cons hA
  obtain ⟨v1, vs1, d1, ds1, p1, q1, rfl, rfl, rfl, h1, r1⟩ := trodAll_cons r0
  obtain ⟨rfl, rfl, rfl⟩ := trodAll_nil r1
  obtain rfl : args = #[v0, v1] := by cases args; simp_all
  obtain ⟨rfl, rfl⟩ := trodVars_none hVv
  have k0 := h0
  have lt0 : ∀ x ∈ p0, x.block < W.heap.size := by obtain ⟨m, hm⟩ := k0; exact DataW.trod_lt m _ _ _ hm
  obtain ⟨ob0, pb0, ps0, pf0, pm0, nb0, cb0, ns0, cs0, nf0, cf0, nm0, cm0, rfl, hi0, bb0, bs0, bf0, bm0⟩ := open_obj_valV (hval 0 29 v0 rfl rfl) h0 hsz (j := 0) rfl rfl
  have k1 := h1
  have lt1 : ∀ x ∈ p1, x.block < W.heap.size := by obtain ⟨m, hm⟩ := k1; exact DataW.trod_lt m _ _ _ hm
  obtain ⟨ob1, pb1, ps1, pf1, pm1, nb1, cb1, ns1, cs1, nf1, cf1, nm1, cm1, rfl, hi1, bb1, bs1, bf1, bm1⟩ := open_obj_valV (hval 1 29 v1 rfl rfl) h1 hsz (j := 1) rfl rfl
  refine (rightsV_walk ob0 ob1 pb0 ps0 pf0 pm0 nb0 cb0 ns0 cs0 nf0 cf0 nm0 cm0 pb1 ps1 pf1 pm1 nb1 cb1 ns1 cs1 nf1 cf1 nm1 cm1 W hV hi0 hi1 bb0 bs0 bf0 bm0 bb1 bs1 bf1 bm1).mono fun e W' ⟨he, bel⟩ => ?_
  subst he
  exact ⟨_, rfl, _, _, _, [], _, [], hW', trodAll_mk1 (shut_bool Tryz.underlying4 _), (trodAll_cons_mk (Below.trod Tryz.laidOut (by kernel_rfl) (of_decide_eq_true (by kernel_rfl)) k0 bel lt0) (trodAll_cons_mk (Below.trod Tryz.laidOut (by kernel_rfl) (of_decide_eq_true (by kernel_rfl)) k1 bel lt1) trodAll_mk0)), rfl, bel.frame _, fun h => by cases h⟩

theorem objectRight_said : Rows.ObjectRightSaid :=
  OpenClaim.holds_of_cond 4 Tryz.f4 rfl rfl rfl rfl rfl rfl rfl ⟨rfl, rfl, rfl, rfl, rfl⟩ rfl rfl rfl rfl rfl (by kernel_rfl) Tryz.func4 (by kernel_rfl)
    (of_decide_eq_true (by kernel_rfl)) (by unfold Func.isWrapper; first | (rw [if_pos (by decide +kernel)]; kernel_rfl) | (rw [if_neg (by decide +kernel)]; exact ⟨rfl, rfl⟩))
    (fun os started H enc _ F => by rw [OpenClaim.pre_eq_preRow]; exact objectRight_lifted os started H enc F)

theorem objectRight_plain (f : FuncId) (fn : Func) (hf : Tryz.pinned.checked.prog.funcNamed "switchyard/switchyardlaw06.ObjectRight" = some f) (hfn : Tryz.pinned.checked.prog.funcs[f]? = some fn) :
    true = Tryz.pinned.checked.prog.looks [] ∧ ∀ (j : Nat) t, fn.params[j]? = some t → Tryz.pinned.checked.prog.wantsStandIn t = false := by
  obtain rfl : f = 4 := Option.some.inj ((show Tryz.prog.funcNamed "switchyard/switchyardlaw06.ObjectRight" = some 4 by kernel_rfl).symm.trans hf) |>.symm
  obtain rfl : fn = Tryz.f4 := (Option.some.inj (Tryz.func4.symm.trans hfn)).symm
  refine ⟨by kernel_rfl, fun j t ht => ?_⟩
  rw [Tryz.params4] at ht
  rcases j with _ | _ | j
  · obtain rfl : t = 29 := by simpa using ht.symm
    exact (show Tryz.prog.wantsStandIn 29 = false by kernel_rfl)
  · obtain rfl : t = 29 := by simpa using ht.symm
    exact (show Tryz.prog.wantsStandIn 29 = false by kernel_rfl)
  · simp at ht

theorem objectRight_holds : Rows.ObjectRightCardSaid :=
  Claim7.holds_tied_plain_at .later [] _ _ _ _ objectRight_said (fun _ h => by cases h) (by kernel_rfl) (fun _ h => by cases h) objectRight_row_tie rfl ⟨rfl, rfl⟩ (by kernel_rfl) rfl objectRight_plain (by kernel_rfl)
#print axioms objectRight_holds

end Go.Proofs.YtkianldkbfjehaaGreatDoor
