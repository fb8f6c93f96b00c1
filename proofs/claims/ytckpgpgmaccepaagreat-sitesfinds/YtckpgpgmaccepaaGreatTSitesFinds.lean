/-
  Proved here: the law SitesFinds (switchyardlaw08) answers true for every input, and each argument reads afterwards as it read before. No condition of ours: the row's own reach alone (each slice and text takes at most 2^47 - 4096 bytes).
-/
import Derived.Test.YtckpgpgmaccepaaGreatOpenU
import Derived.Test.YtckpgpgmaccepaaGreatTm
import Derived.Test.YtckpgpgmaccepaaGreatTq
import Derived.BigQuiet

/- How a table of sites, and a key with a place, are opened that came in. -/
namespace Go.Proofs.YtckpgpgmaccepaaGreat
open Go.ChangeShapes Go.WideShapes Go.ChangeAt Go.RowKit

theorem Tryz.cells34 : Tryz.prog.cellsOf 34 = 3 := by kernel_rfl
theorem Tryz.bytes34 : Tryz.prog.bytesOf 34 = 24 := by kernel_rfl
theorem Tryz.cells38 : Tryz.prog.cellsOf 38 = 2 := by kernel_rfl
def SiF (s : Si) : Prop := i64P s.key ∧ i64P s.at_ ∧ i64P s.to_

theorem open_site {H : Type} {enc : TypeId × Value → H} {W : World} (fuel : Nat) (cs : List Value) (x : DataW H × List MemPlace) (h : DataW.trod enc Tryz.prog W 0 (fun _ => true) true fuel 34 cs = some x) : ∃ y, cs = l3 (siV y) ∧ SiF y := by
  obtain ⟨xs, n, rfl, hx, hlen, hxl, hf⟩ := DataW.trod_struct Tryz.underlying34 h
  rw [Tryz.cells34] at hlen
  obtain ⟨a, b, c, rfl⟩ := list_three hlen
  have f0 := hf 0
  have f1 := hf 1
  have f2 := hf 2
  simp [Tryz.cells3] at f0 f1 f2
  obtain ⟨x0, x1, x2, rfl⟩ := list_three (show xs.length = 3 from hxl)
  simp only [List.getElem?_cons_zero, List.getElem?_cons_succ] at f0 f1 f2
  obtain ⟨k, e0, y0, w0⟩ := DataW.trod_int Tryz.underlying3 f0
  obtain ⟨m, e1, y1, w1⟩ := DataW.trod_int Tryz.underlying3 f1
  obtain ⟨g, e2, y2, w2⟩ := DataW.trod_int Tryz.underlying3 f2
  simp only [List.cons.injEq, and_true] at e0 e1 e2
  subst e0 e1 e2
  exact ⟨⟨k, m, g⟩, rfl, wf_i64 w0, wf_i64 w1, wf_i64 w2⟩

set_option maxRecDepth 20000 in
theorem open_sites_val {H : Type} {enc : TypeId × Value → H} {W : World} {base : Nat} {v : Value} {d : DataW H} {p : List MemPlace} (hv : Value.okWide Tryz.prog W .any base 24 v)
    (h : DataW.Trod enc Tryz.prog W 0 (fun _ => true) true 24 v d p) {ts : List TypeId} {ds : List (DataW H)} (hsz : (DataW.weightsEach Tryz.prog ts ds).all (· ≤ reachBytes) = true) {j : Nat} (ht : ts[j]? = some 24) (hd : ds[j]? = some d) :
    ∃ (q : Option Addr) (e : Nat) (L : List Si), v = .slice q L.length e ∧ L.length ≤ e ∧ e ≤ maxLen ∧ L.length * 24 ≤ reachBytes ∧ Row3 W q (L.map siV) ∧ ∀ y ∈ L, SiF y := by
  obtain ⟨fuel, hf⟩ := h
  have hcs : v.cells.toList = [v] := by
    obtain ⟨_, _, _, rfl⟩ := Go.WideShapes.okWide_slice Tryz.underlying24 hv
    rfl
  rw [hcs] at hf
  have h2 := opened3 siV SiF Tryz.underlying24 Tryz.cells34 open_site hf (weights_of hsz ht hd)
  rw [Tryz.bytes34] at h2
  exact h2

theorem list_two {X : Type} {l : List X} (h : l.length = 2) : ∃ a b, l = [a, b] := by
  match l, h with
  | [a, b], _ => exact ⟨a, b, rfl⟩
set_option maxRecDepth 20000 in
theorem open_asked_val {H : Type} {enc : TypeId × Value → H} {W : World} {base : Nat} {v : Value} {d : DataW H} {p : List MemPlace} (hv : Value.okWide Tryz.prog W .any base 38 v)
    (h : DataW.Trod enc Tryz.prog W 0 (fun _ => true) true 38 v d p) {ts : List TypeId} {ds : List (DataW H)} (_hsz : (DataW.weightsEach Tryz.prog ts ds).all (· ≤ reachBytes) = true) {j : Nat} (_ht : ts[j]? = some 38) (_hd : ds[j]? = some d) :
    ∃ k a : Int, v = .agg #[.int .i64 k, .int .i64 a] := by
  obtain ⟨fuel, hf⟩ := h
  simp only [Value.okWide, Tryz.underlying38] at hv
  obtain ⟨cs, rfl, _, _⟩ := hv
  obtain ⟨xs, n, _, hx, hlen, hxl, hf⟩ := DataW.trod_struct Tryz.underlying38 hf
  rw [Tryz.cells38] at hlen
  have hlen' : cs.toList.length = 2 := hlen
  obtain ⟨a, b, hab⟩ := list_two hlen'
  have hca : (Value.agg cs).cells.toList = [a, b] := hab
  rw [hca] at hf
  have f0 := hf 0
  have f1 := hf 1
  simp [Tryz.cells3] at f0 f1
  obtain ⟨x0, x1, rfl⟩ := list_two (show xs.length = 2 from hxl)
  simp only [List.getElem?_cons_zero, List.getElem?_cons_succ] at f0 f1
  obtain ⟨k, e0, y0, w0⟩ := DataW.trod_int Tryz.underlying3 f0
  obtain ⟨m, e1, y1, w1⟩ := DataW.trod_int Tryz.underlying3 f1
  simp only [List.cons.injEq, and_true] at e0 e1
  refine ⟨k, m, ?_⟩
  have h2 : cs.toList = (#[.int .i64 k, .int .i64 m] : Array Value).toList := by rw [hab, e0, e1]
  rw [Array.toList_inj.1 h2]

end Go.Proofs.YtckpgpgmaccepaaGreat

/- SitesFinds: of any table whether it is right, a key's range, a place's site. -/
namespace Go.Proofs.YtckpgpgmaccepaaGreat
open Go.RowKit Go.Maps Go.WideMaps

theorem ref_of {T : List Si} {k : Int} {a b : Nat} (hs : byKey T) (h1 : ∀ i (hi : i < T.length), i < a → T[i].key < k) (h2 : ∀ h : a < T.length, ¬ T[a].key < k) (hab : a ≤ b) (hb : b ≤ T.length) (h3 : ∀ i (hi : i < T.length), a ≤ i → i < b → T[i].key ≤ k) (h4 : ∀ h : b < T.length, ¬ T[b].key ≤ k) : cutK T k = a ∧ cutK T (k + 1) = b := by
  have hmono : ∀ i j (hi : i < T.length) (hj : j < T.length), i ≤ j → T[i].key ≤ T[j].key := fun i j hi hj hij => by
    rcases Nat.lt_or_ge i j with h | h
    · exact List.pairwise_iff_getElem.1 hs i j hi hj h
    · have e : i = j := by omega
      subst e; omega
  refine ⟨cutK_only hs k (by omega) h1 fun i hi hai => ?_, cutK_only hs (k + 1) hb (fun i hi hib => ?_) fun i hi hbi => ?_⟩
  · have ha : a < T.length := by omega
    have := h2 ha
    have := hmono a i ha hi hai
    omega
  · by_cases h : i < a
    · have := h1 i hi h; omega
    · have := h3 i hi (by omega) hib; omega
  · have hb' : b < T.length := by omega
    have := h4 hb'
    have := hmono b i hb' hi hbi
    omega

set_option maxRecDepth 20000 in
set_option maxHeartbeats 1000000 in
theorem finds_walk (p : Option Addr) (n c : Nat) (T : List Si) (k a : Int) (keys : Int) (w : World) (hn : T.length = n) (hn6 : n ≤ 5864062014634) (hr : Row3 w p (T.map siV)) :
    Calls Tryz.prog 4 #[.slice p n c, .agg #[.int .i64 k, .int .i64 a], .int .i64 keys] w fun E w' => E = .returned (.bool true) ∧ Below w.heap.size w w' := by
  have HN := Hid.in hn
  have HR : Hid (∀ W, Below w.heap.size w W → Row3 W p (T.map siV)) := fun W hW => hr.below hW
  have HB0 := Hid.in (new_alloc w (.cells #[.int .i64 k, .int .i64 a] 38))
  have HK0 := Hid.in (Blk.new w 38 #[.int .i64 k, .int .i64 a])
  clear hn hr
  go_enter Tryz.func4, Tryz.ntmps4
  go_upto_region 1 with fail
  generalize w.alloc (.cells #[.int .i64 k, .int .i64 a] 38) = w0 at *
  have k0 : w0.cell? ⟨w.heap.size, 0, none⟩ = some (.int .i64 k) := HK0.out.cell 0
  have k1 : w0.cell? ⟨w.heap.size, 1, none⟩ = some (.int .i64 a) := HK0.out.cell 1
  go_quiet (fail)
  have HB1 := Hid.in (below_draws HB0.out nq)
  clear k0 k1 HB0 HK0
  go_wp2_with (go_at_call 15; refine Hid.out ?_)
  refine Lib.hid ?_
  generalize w0.drewN nq = w1 at *
  refine (copySites_any p n c T w1 HN.out hn6 (HR.out _ HB1.out)).mono ?_
  rintro e w2 ⟨v2, rfl, ho2, hb⟩
  obtain ⟨p2, c2, rfl, -, -, hr2⟩ := ho2.row3
  rw [List.length_map, HN.out]
  have HR2 := Hid.in hr2
  have HB2 := Hid.in (below_step HB1.out hb)
  clear ho2 hr2 hb HB1
  go_wp2_with (go_at_call 16; refine Hid.out ?_)
  refine Lib.hid ?_
  refine (of_any p2 n c2 k T w2 HN.out (by omega) HR2.out).mono ?_
  rintro e w3 ⟨rfl, hb⟩
  have HR3 := Hid.in (HR2.out.below hb)
  have HB3 := Hid.in (below_step HB2.out hb)
  clear hb HB2 HR2
  go_wp2_with (go_at_call 17; refine Hid.out ?_)
  refine Lib.hid ?_
  refine (refOf_any p n c T k w3 HN.out (by omega) (HR.out _ HB3.out)).mono ?_
  rintro e w3' ⟨⟨fa, fb, rfl, q1, q2, q3, q4, q5, q6⟩, rfl⟩
  have HQ : Hid (byKey T → cutK T k = fa ∧ cutK T (k + 1) = fb) := fun hs => ref_of hs q1 q2 q3 (by rw [HN.out]; exact q4) q5 q6
  have HC1 : Hid (cutK T (k + 1) ≤ n) := by
    have h := cutK_le T (k + 1)
    rw [HN.out] at h
    exact h
  have HC2 : Hid (cutK T k ≤ cutK T (k + 1)) := cutK_mono T (by omega)
  clear q1 q2 q3 q4 q5 q6
  go_wp2_with (go_at_call 18; refine Hid.out ?_)
  refine Lib.hid ?_
  refine (at_any p2 n c2 T a w3' HN.out (by omega) HR3.out).mono ?_
  rintro e w4 ⟨rfl, hb⟩
  have HR4 := Hid.in (HR3.out.below hb)
  have HB4 := Hid.in (below_step HB3.out hb)
  clear hb HB3 HR3
  obtain ⟨ai, ab, hat⟩ : ∃ (ai : Int) (ab : Bool), atR (atS T a) = .tuple #[.int .i64 ai, .bool ab] := by
    cases atS T a with
    | none => exact ⟨0, false, rfl⟩
    | some i => exact ⟨i, true, rfl⟩
  rw [hat]
  go_wp2_with (go_at_call 19; refine Hid.out ?_)
  refine Lib.hid ?_
  refine (refAt_any p n c T a w4 HN.out (by omega) (HR.out _ HB4.out)).mono ?_
  rintro e w4' ⟨rfl, rfl⟩
  rw [hat]
  clear hat
  go_wp2_with (go_at_call 20; refine Hid.out ?_)
  refine Lib.hid ?_
  refine (refSorted_any p n c T w4' HN.out (by omega) (HR.out _ HB4.out)).mono ?_
  rintro e w5 ⟨rfl, m, hw5⟩
  have HR5 : Hid (Row3 w5 p2 (T.map siV)) := by rw [hw5]; exact HR4.out
  have HB5 : Hid (Below w.heap.size w w5) := by rw [hw5]; exact below_draws HB4.out m
  clear hw5 HB4 HR4
  have HS : Hid (kyB T = true → cutK T k = fa ∧ cutK T (k + 1) = fb) := fun h => HQ.out (ky_byKey h)
  clear HQ
  have hc1 := HC1.out
  have hc2 := HC2.out
  clear HC1 HC2
  have hri := sright_any p2 n c2 T keys w5 HN.out (by omega) HR5.out
  have HRR : Hid (∀ W, Below w.heap.size w W → Calls Tryz.prog 22 #[.slice p n c, .int .i64 keys] W fun E w' => E = .returned (.bool (rightS T keys)) ∧ Below W.heap.size W w') := fun W hW => refRight_any p n c T keys W HN.out (by omega) (HR.out W hW)
  generalize rightS T keys = rg at *
  generalize cutK T k = ca at *
  generalize cutK T (k + 1) = cb at *
  generalize kyB T = ky at *
  have g1 : decide (cb < ca) = false := decide_eq_false (by omega)
  have g2 : decide (n < cb) = false := decide_eq_false (by omega)
  have g3 : (ca != ca) = false := by simp
  have g4 : (cb != cb) = false := by simp
  have g5 : (rg == rg) = true := by simp
  have g6 : (ab == ab) = true := by simp
  have HE : Hid (ky = false ∨ (ca = fa ∧ cb = fb)) := by
    cases ky with
    | true => exact .inr (HS.out rfl)
    | false => exact .inl rfl
  clear HS
  rcases HE.out with rfl | ⟨rfl, rfl⟩
  all_goals
    clear HE
    first | cases ky | skip
  all_goals
    go_wp2_with (go_at_call 21; refine Hid.out ?_)
    refine Lib.hid ?_
    refine hri.mono ?_
    rintro e w6 ⟨rfl, hb⟩
    have HR6 := Hid.in (HR5.out.below hb)
    have HB6 := Hid.in (below_step HB5.out hb)
    clear hb HR5 HB5 hri
    go_wp2_with (go_at_call 22; refine Hid.out ?_)
    refine Lib.hid ?_
    refine (HRR.out _ HB6.out).mono ?_
    rintro e w7 ⟨rfl, hb⟩
    have HR7 := Hid.in (HR6.out.below hb)
    have HB7 := Hid.in (below_step HB6.out hb)
    clear hb HR6 HB6 HRR
    go_wp2_with (go_at_call 10; refine Hid.out ?_)
    refine Lib.hid ?_
    refine (sameSites_any p2 p n c2 n c T T w7 HN.out HN.out (by omega) (by omega) HR7.out (HR.out _ HB7.out)).mono ?_
    rintro e w8 ⟨⟨bb, rfl, hbb⟩, z, hw8⟩
    have hbt : bb = true := hbb.2 rfl
    have HB8 : Hid (Below w.heap.size w w8) := by rw [hw8]; exact below_draws HB7.out z
    subst hbt
    clear hbb hw8 HB7 HR7
    go_wp2_with (go_at_call 14; refine Hid.out ?_)
    refine Lib.hid ?_
    refine (awake_any w8).mono ?_
    rintro e w9 ⟨rfl, hb⟩
    have HB9 := Hid.in (below_step HB8.out hb)
    clear hb HB8
    go_wp2_with fail
    go_ret
    exact ⟨rfl, HB9.out⟩

end Go.Proofs.YtckpgpgmaccepaaGreat

namespace Go.Proofs.YtckpgpgmaccepaaGreat
open Go.ChangeShapes Go.WideShapes Go.ChangeAt Go.RowKit
open Go.ChangeMaps (open_string shut_string)

set_option maxRecDepth 100000 in
theorem sitesFinds_lifted (os : Os) (started : os.Started) (H : Type) (enc : TypeId × Value → H) :
    ReturnsInHanded {} Tryz.checked os 4 .any (Rows.sitesFindsSpec.pre6 enc Tryz.prog Tryz.f4 Rows.sitesFindsRow.domain false) (Rows.sitesFindsSpec.post enc Tryz.prog Tryz.f4 false true false false) := by
  refine returnsInHanded_of_change_sized (C := Tryz.checked) Tryz.own started (by kernel_rfl) Tryz.func4
    (ChangeSpec.witness6 (enc := enc) (C := Tryz.checked) false ⟨#[], #[.slice none 0 0, .agg #[.int .i64 0, .int .i64 0], .int .i64 0], []⟩ 8 (by kernel_rfl) (by kernel_rfl) (by kernel_rfl) (by kernel_rfl)) ?_
  intro W base args ds gs before hval0 hW hcnd hsz0 _
  have hW' := hW
  obtain ⟨p, q, hA0, hV, rfl, hfz, hnd⟩ := hW
  have hA : DataW.TrodAll enc Tryz.prog W 0 (fun _ => true) true Tryz.f4.params.toList args.toList ds p := hA0
  have hval : ∀ (j : Nat) t v, Tryz.f4.params[j]? = some t → args[j]? = some v → Value.okWide Tryz.prog W .any base t v := hval0
  have hsz : (DataW.weightsEach Tryz.prog (Tryz.f4.params.toList ++ Rows.sitesFindsSpec.plain.varTypes Tryz.prog) (ds ++ gs)).all (· ≤ reachBytes) = true := hsz0
  rw [Tryz.params4] at hA hval hsz
  obtain ⟨v0, vs0, d0, ds0, p0, q0_, hargs, rfl, rfl, h0, r0⟩ := trodAll_cons hA
  obtain ⟨v1, vs1, d1, ds1, p1, q1_, rfl, rfl, rfl, h1, r1⟩ := trodAll_cons r0
  obtain ⟨v2, vs2, d2, ds2, p2, q2_, rfl, rfl, rfl, h2, r2⟩ := trodAll_cons r1
  obtain ⟨rfl, rfl, rfl⟩ := trodAll_nil r2
  obtain rfl : args = #[v0, v1, v2] := by cases args; simp_all
  obtain ⟨rfl, rfl⟩ := trodVars_none hV
  have k0 := h0
  have lt0 : ∀ x ∈ p0, x.block < W.heap.size := by obtain ⟨m, hm⟩ := k0; exact DataW.trod_lt m _ _ _ hm
  obtain ⟨qq0, ee0, L0, rfl, hl0, hm0, hb0, hu0, hw0⟩ := open_sites_val (hval 0 24 v0 rfl rfl) h0 hsz (j := 0) rfl rfl
  have k1 := h1
  have lt1 : ∀ x ∈ p1, x.block < W.heap.size := by obtain ⟨m, hm⟩ := k1; exact DataW.trod_lt m _ _ _ hm
  obtain ⟨ky1, pl1, rfl⟩ := open_asked_val (hval 1 38 v1 rfl rfl) h1 hsz (j := 1) rfl rfl
  obtain ⟨a2, rfl, rfl, rfl, w2⟩ := open_int Tryz.underlying3 (hval 2 3 v2 rfl rfl) h2
  refine (finds_walk qq0 L0.length ee0 L0 ky1 pl1 a2 W rfl (by simp only [reachBytes] at hb0; omega) hu0).mono fun e W' ⟨he, bel⟩ => ?_
  subst he
  exact ⟨_, rfl, _, _, _, [], _, [], hW', trodAll_mk1 (shut_bool Tryz.underlying4 _), (trodAll_cons_mk (Below.trod Tryz.laidOut (by kernel_rfl) (of_decide_eq_true (by kernel_rfl)) k0 bel lt0) (trodAll_cons_mk (Below.trod Tryz.laidOut (by kernel_rfl) (of_decide_eq_true (by kernel_rfl)) k1 bel lt1) (trodAll_cons_mk (shut_int Tryz.underlying3 w2) trodAll_mk0))), rfl, bel.frame _, fun h => by cases h⟩

theorem sitesFinds_holds : Rows.SitesFindsSaid :=
  OpenClaim.holds_of_wide 4 Tryz.f4 rfl rfl rfl rfl rfl rfl rfl ⟨rfl, rfl, rfl, rfl, rfl⟩ rfl rfl rfl rfl rfl (by kernel_rfl) Tryz.func4 (by kernel_rfl)
    (of_decide_eq_true (by kernel_rfl)) (by unfold Func.isWrapper; first | (rw [if_pos (by decide +kernel)]; kernel_rfl) | (rw [if_neg (by decide +kernel)]; exact ⟨rfl, rfl⟩))
    (fun os started H enc _ => sitesFinds_lifted os started H enc)
#print axioms sitesFinds_holds

end Go.Proofs.YtckpgpgmaccepaaGreat
