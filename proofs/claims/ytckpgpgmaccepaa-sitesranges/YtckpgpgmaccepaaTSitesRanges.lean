/-
  Proved here: the law SitesRanges (switchyardlaw08) answers true for every input, and each argument reads afterwards as it read before. No condition of ours: the row's own reach alone (each slice and text takes at most 2^47 - 4096 bytes).
-/
import Derived.Test.YtckpgpgmaccepaaOpenU
import Derived.Test.YtckpgpgmaccepaaTm
import Derived.Test.YtckpgpgmaccepaaTq
import Derived.BigQuiet
import Derived.Lib.Hide

/- How a table of sites, and a key with a place, are opened that came in. -/
namespace Go.Proofs.Ytckpgpgmaccepaa
open Go.ChangeShapes Go.WideShapes Go.ChangeAt Go.RowKit

theorem Try.cells28 : Try.prog.cellsOf 28 = 3 := by kernel_rfl
theorem Try.bytes28 : Try.prog.bytesOf 28 = 24 := by kernel_rfl
def SiF (s : Si) : Prop := i64P s.key ∧ i64P s.at_ ∧ i64P s.to_

theorem open_site {H : Type} {enc : TypeId × Value → H} {W : World} (fuel : Nat) (cs : List Value) (x : DataW H × List MemPlace) (h : DataW.trod enc Try.prog W 0 (fun _ => true) true fuel 28 cs = some x) : ∃ y, cs = l3 (siV y) ∧ SiF y := by
  obtain ⟨xs, n, rfl, hx, hlen, hxl, hf⟩ := DataW.trod_struct Try.underlying28 h
  rw [Try.cells28] at hlen
  obtain ⟨a, b, c, rfl⟩ := list_three hlen
  have f0 := hf 0
  have f1 := hf 1
  have f2 := hf 2
  simp [Try.cells3] at f0 f1 f2
  obtain ⟨x0, x1, x2, rfl⟩ := list_three (show xs.length = 3 from hxl)
  simp only [List.getElem?_cons_zero, List.getElem?_cons_succ] at f0 f1 f2
  obtain ⟨k, e0, y0, w0⟩ := DataW.trod_int Try.underlying3 f0
  obtain ⟨m, e1, y1, w1⟩ := DataW.trod_int Try.underlying3 f1
  obtain ⟨g, e2, y2, w2⟩ := DataW.trod_int Try.underlying3 f2
  simp only [List.cons.injEq, and_true] at e0 e1 e2
  subst e0 e1 e2
  exact ⟨⟨k, m, g⟩, rfl, wf_i64 w0, wf_i64 w1, wf_i64 w2⟩

set_option maxRecDepth 20000 in
theorem open_sites_val {H : Type} {enc : TypeId × Value → H} {W : World} {base : Nat} {v : Value} {d : DataW H} {p : List MemPlace} (hv : Value.okWide Try.prog W .any base 22 v)
    (h : DataW.Trod enc Try.prog W 0 (fun _ => true) true 22 v d p) {ts : List TypeId} {ds : List (DataW H)} (hsz : (DataW.weightsEach Try.prog ts ds).all (· ≤ reachBytes) = true) {j : Nat} (ht : ts[j]? = some 22) (hd : ds[j]? = some d) :
    ∃ (q : Option Addr) (e : Nat) (L : List Si), v = .slice q L.length e ∧ L.length ≤ e ∧ e ≤ maxLen ∧ L.length * 24 ≤ reachBytes ∧ Row3 W q (L.map siV) ∧ ∀ y ∈ L, SiF y := by
  obtain ⟨fuel, hf⟩ := h
  have hcs : v.cells.toList = [v] := by
    obtain ⟨_, _, _, rfl⟩ := Go.WideShapes.okWide_slice Try.underlying22 hv
    rfl
  rw [hcs] at hf
  have h2 := opened3 siV SiF Try.underlying22 Try.cells28 open_site hf (weights_of hsz ht hd)
  rw [Try.bytes28] at h2
  exact h2

theorem list_two {X : Type} {l : List X} (h : l.length = 2) : ∃ a b, l = [a, b] := by
  match l, h with
  | [a, b], _ => exact ⟨a, b, rfl⟩
end Go.Proofs.Ytckpgpgmaccepaa

/- SitesRanges: the ranges of a right table's keys, one behind the other, are the whole table. -/
namespace Go.Proofs.Ytckpgpgmaccepaa
open Go.RowKit Go.Maps Go.WideMaps

set_option maxRecDepth 20000 in
set_option maxHeartbeats 2000000 in
theorem ranges_walk (p : Option Addr) (n c : Nat) (T : List Si) (keys : Int) (w : World) (hn : T.length = n) (hn6 : n ≤ 5864062014634) (hr : Row3 w p (T.map siV)) :
    Calls Try.prog 3 #[.slice p n c, .int .i64 keys] w fun E w' => E = .returned (.bool true) ∧ Below w.heap.size w w' := by
  have HN := Hid.in hn
  have HR : Hid (∀ W, Below w.heap.size w W → Row3 W p (T.map siV)) := fun W hW => hr.below hW
  have hri := sright_any p n c T keys w hn (by omega) hr
  clear hn hr
  cases hrt : rightS T keys with
  | false =>
    rw [hrt] at hri
    go_enter Try.func3, Try.ntmps3
    go_wp2_with (go_at_call 4; refine Hid.out ?_)
    refine Lib.hid ?_
    refine hri.mono ?_
    rintro E w1 ⟨rfl, hb1⟩
    have HB1 := Hid.in hb1
    clear hb1 hri hrt
    go_wp2_with (go_at_call 5; refine Hid.out ?_)
    refine Lib.hid ?_
    refine (awake_any w1).mono ?_
    rintro E w2 ⟨rfl, hb2⟩
    have HB2 := Hid.in (below_step HB1.out hb2)
    clear hb2 HB1
    go_wp2_with fail
    go_ret
    exact ⟨rfl, HB2.out⟩
  | true =>
    rw [hrt] at hri
    obtain ⟨-, -, hk0, hk64, hT, -⟩ := right_byKey hrt
    have HF := Hid.in (cut_first hrt)
    have HL : Hid (cutK T keys = n) := (cut_last hrt).trans HN.out
    have HK : Hid (∀ {k : Int} {i : Nat} (hi : i < T.length), cutK T k ≤ i → i < cutK T (k + 1) → T[i].key = k) := fun hi h1 h2 => cut_key hrt hi h1 h2
    have HA : Hid (∀ {k : Int} {i : Nat} (hi : i + 1 < T.length), cutK T k ≤ i → i + 1 < cutK T (k + 1) → T[i].at_ < T[i + 1].at_) := fun hi h1 h2 => cut_at hrt hi h1 h2
    have HCL : Hid (∀ k : Int, cutK T k ≤ n) := fun k => by have h := cutK_le T k; rw [HN.out] at h; exact h
    have HCM : Hid (∀ k : Int, cutK T k ≤ cutK T (k + 1)) := fun k => cutK_mono T (by omega)
    obtain ⟨K, rfl⟩ : ∃ K : Nat, keys = K := ⟨keys.toNat, by omega⟩
    have hn256 : n ≤ 256 := by rw [← HN.out]; exact hT
    clear hrt hT
    go_enter Try.func3, Try.ntmps3
    go_wp2_with (go_at_call 4; refine Hid.out ?_)
    refine Lib.hid ?_
    refine hri.mono ?_
    rintro E w1 ⟨rfl, hb1⟩
    have HB1 := Hid.in hb1
    clear hb1 hri
    go_wp2_with fail
    go_loopw [5, 6] (fun va vk wr => ∃ k : Nat, vk = .int .i64 k ∧ k ≤ K ∧ va = .int .i64 (cutK T k : Nat) ∧ Below w.heap.size w wr) (fun _ vk _ => K - (intOf vk).toNat)
    case atStart => exact ⟨0, rfl, Nat.zero_le _, by rw [show ((0 : Nat) : Int) = 0 from rfl, HF.out]; rfl, HB1.out⟩
    case round =>
      obtain ⟨k, rfl, hk, rfl, hb⟩ := hrel
      have HB := Hid.in hb
      clear hb
      by_cases hlt : k < K
      · have hof := of_any p n c k T _ HN.out (by omega) (HR.out _ HB.out)
        have hc1 := HCL.out (k + 1)
        have hc2 := HCM.out k
        have HKk : Hid (∀ {i : Nat} (hi : i < T.length), cutK T k ≤ i → i < cutK T (k + 1) → T[i].key = k) := HK.out
        have HAk : Hid (∀ {i : Nat} (hi : i + 1 < T.length), cutK T k ≤ i → i + 1 < cutK T (k + 1) → T[i].at_ < T[i + 1].at_) := HA.out
        have HCS : Hid (cutK T ((k + 1 : Nat) : Int) = cutK T (k + 1)) := by rw [Int.natCast_add]; rfl
        generalize cutK T k = ca at *
        generalize cutK T (k + 1) = cb at *
        have g1 : (ca != ca) = false := by simp
        have g2 : decide (cb < ca) = false := decide_eq_false (by omega)
        have g3 : decide (n < cb) = false := decide_eq_false (by omega)
        go_wp2_with (go_at_call 6; refine Hid.out ?_)
        refine Lib.hid ?_
        refine hof.mono ?_
        rintro E w2 ⟨rfl, hb2⟩
        have HB2 := Hid.in (below_step HB.out hb2)
        clear hb2 hof HB
        go_wp2_with fail
        go_loopw [9] (fun vi ws => ∃ i m : Nat, vi = .int .i64 i ∧ ca ≤ i ∧ i ≤ cb ∧ ws = w2.drewN m) (fun vi _ => cb - (intOf vi).toNat)
        case atStart => exact ⟨ca, 0, rfl, Nat.le_refl _, hc2, rfl⟩
        case round =>
          obtain ⟨i, m, rfl, hi1, hi2, rfl⟩ := hrel
          by_cases hli : i < cb
          · have hiT : i < T.length := by rw [HN.out]; omega
            obtain ⟨b, o, rfl, hcc⟩ := (HR.out _ HB2.out).at3 (by omega)
            obtain ⟨u0, u1, -⟩ := hcc i hiT
            rw [HKk.out hiT hi1 hli] at u0
            have g4 : (k != k) = false := by simp
            by_cases hfi : ca < i
            · have hv : i - 1 < T.length := by omega
              obtain ⟨-, v1, -⟩ := hcc (i - 1) hv
              have hlt2 := HAk.out (i := i - 1) (by omega) (by omega) (by omega)
              have e1 : i - 1 + 1 = i := by omega
              simp only [e1] at hlt2
              have hwr : IntKind.i64.wrap ((i : Int) - 1) = ((i - 1 : Nat) : Int) := by rw [IntKind.wrap_i64]; omega
              generalize T[i].at_ = ai at *
              generalize T[i - 1].at_ = aj at *
              have g5 : decide (ca < i) = true := decide_eq_true hfi
              have g6 : decide (ai ≤ aj) = false := decide_eq_false (by omega)
              obtain ⟨i', hi'⟩ : ∃ i', i - 1 = i' := ⟨_, rfl⟩
              rw [hi'] at v1 hwr
              clear hcc
              go_wp2_with fail
              go_quiet (fail)
              go_wp2_with fail
              go_roundw
              case rel => exact ⟨i + 1, _, by go_num, by omega, by omega, rfl⟩
              case measure => simp [intOf]; omega
            · have g5 : decide (ca < i) = false := decide_eq_false hfi
              clear hcc
              go_wp2_with fail
              go_quiet (fail)
              go_wp2_with fail
              go_roundw
              case rel => exact ⟨i + 1, _, by go_num, by omega, by omega, rfl⟩
              case measure => simp [intOf]; omega
          · have HB3 := Hid.in (below_draws HB2.out m)
            generalize w2.drewN m = w3 at *
            go_wp2_with fail
            go_roundw
            case rel => exact ⟨k + 1, by go_num, by omega, by rw [HCS.out], HB3.out⟩
            case measure => simp [intOf]; omega
      · have hkK : k = K := by omega
        subst hkK
        have hl := HL.out
        rw [hl]
        clear hl
        go_wp2_with (go_at_call 5; refine Hid.out ?_)
        refine Lib.hid ?_
        refine (awake_any _).mono ?_
        rintro E w4 ⟨rfl, hb4⟩
        have HB4 := Hid.in (below_step HB.out hb4)
        clear hb4 HB
        go_wp2_with fail
        go_ret
        exact ⟨rfl, HB4.out⟩

end Go.Proofs.Ytckpgpgmaccepaa

namespace Go.Proofs.Ytckpgpgmaccepaa
open Go.ChangeShapes Go.WideShapes Go.ChangeAt Go.RowKit
open Go.ChangeMaps (open_string shut_string)

set_option maxRecDepth 100000 in
theorem sitesRanges_lifted (os : Os) (started : os.Started) (H : Type) (enc : TypeId × Value → H) :
    ReturnsInHanded {} Try.checked os 3 .any (Rows.sitesRangesSpec.pre6 enc Try.prog Try.f3 Rows.sitesRangesRow.domain false) (Rows.sitesRangesSpec.post enc Try.prog Try.f3 false true false false) := by
  refine returnsInHanded_of_change_sized (C := Try.checked) Try.own started (by kernel_rfl) Try.func3
    (ChangeSpec.witness6 (enc := enc) (C := Try.checked) false ⟨#[], #[.slice none 0 0, .int .i64 0], []⟩ 8 (by kernel_rfl) (by kernel_rfl) (by kernel_rfl) (by kernel_rfl)) ?_
  intro W base args ds gs before hval0 hW hcnd hsz0 _
  have hW' := hW
  obtain ⟨p, q, hA0, hV, rfl, hfz, hnd⟩ := hW
  have hA : DataW.TrodAll enc Try.prog W 0 (fun _ => true) true Try.f3.params.toList args.toList ds p := hA0
  have hval : ∀ (j : Nat) t v, Try.f3.params[j]? = some t → args[j]? = some v → Value.okWide Try.prog W .any base t v := hval0
  have hsz : (DataW.weightsEach Try.prog (Try.f3.params.toList ++ Rows.sitesRangesSpec.plain.varTypes Try.prog) (ds ++ gs)).all (· ≤ reachBytes) = true := hsz0
  rw [Try.params3] at hA hval hsz
  obtain ⟨v0, vs0, d0, ds0, p0, q0_, hargs, rfl, rfl, h0, r0⟩ := trodAll_cons hA
  obtain ⟨v1, vs1, d1, ds1, p1, q1_, rfl, rfl, rfl, h1, r1⟩ := trodAll_cons r0
  obtain ⟨rfl, rfl, rfl⟩ := trodAll_nil r1
  obtain rfl : args = #[v0, v1] := by cases args; simp_all
  obtain ⟨rfl, rfl⟩ := trodVars_none hV
  have k0 := h0
  have lt0 : ∀ x ∈ p0, x.block < W.heap.size := by obtain ⟨m, hm⟩ := k0; exact DataW.trod_lt m _ _ _ hm
  obtain ⟨qq0, ee0, L0, rfl, hl0, hm0, hb0, hu0, hw0⟩ := open_sites_val (hval 0 22 v0 rfl rfl) h0 hsz (j := 0) rfl rfl
  obtain ⟨a1, rfl, rfl, rfl, w1⟩ := open_int Try.underlying3 (hval 1 3 v1 rfl rfl) h1
  refine (ranges_walk qq0 L0.length ee0 L0 a1 W rfl (by simp only [reachBytes] at hb0; omega) hu0).mono fun e W' ⟨he, bel⟩ => ?_
  subst he
  exact ⟨_, rfl, _, _, _, [], _, [], hW', trodAll_mk1 (shut_bool Try.underlying4 _), (trodAll_cons_mk (Below.trod Try.laidOut (by kernel_rfl) (of_decide_eq_true (by kernel_rfl)) k0 bel lt0) (trodAll_cons_mk (shut_int Try.underlying3 w1) trodAll_mk0)), rfl, bel.frame _, fun h => by cases h⟩

theorem sitesRanges_holds : Rows.SitesRangesSaid :=
  OpenClaim.holds_of_wide 3 Try.f3 rfl rfl rfl rfl rfl rfl rfl ⟨rfl, rfl, rfl, rfl, rfl⟩ rfl rfl rfl rfl rfl (by kernel_rfl) Try.func3 (by kernel_rfl)
    (of_decide_eq_true (by kernel_rfl)) (by unfold Func.isWrapper; first | (rw [if_pos (by decide +kernel)]; kernel_rfl) | (rw [if_neg (by decide +kernel)]; exact ⟨rfl, rfl⟩))
    (fun os started H enc _ => sitesRanges_lifted os started H enc)
#print axioms sitesRanges_holds

end Go.Proofs.Ytckpgpgmaccepaa
