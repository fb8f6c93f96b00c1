/- Texts put together: Open, WatC, WatD. -/
import Derived.Test.YtgblohjdiheemaaGreatRows
import Derived.Test.YtgblohjdiheemaaGreatKaa
import Derived.WalkKit
import Derived.ProofKit
import Derived.OpenShut
import Derived.ShutString
import Derived.ChangeOld
import Derived.Below
import Derived.SizedLaws
import Derived.Test.YtgblohjdiheemaaGreatKah
import Derived.Deep.RegionHeld3

/- How the arguments of a law are opened: a slice of bytes, a text, numbers; and that they lie within the form's own reach. -/
namespace Go.Proofs.YtgblohjdiheemaaGreat
open Go.ChangeShapes Go.WideShapes Go.ChangeAt Go.RowKit

theorem Tryz.own : ownKnob Tryz.prog.godebug = none := by kernel_rfl
theorem Tryz.laidOut : laidOutB Tryz.prog = true := by kernel_rfl
theorem Tryz.cells5 : Tryz.prog.cellsOf 5 = 1 := by kernel_rfl
theorem Tryz.bytes5 : Tryz.prog.bytesOf 5 = 1 := by kernel_rfl

theorem wf_u8 {x : Int} (h : (Lit.int .u8 x).wf = true) : 0 ≤ x ∧ x ≤ 255 := by
  have h1 : IntKind.u8.min = 0 := rfl
  have h2 : IntKind.u8.max = 255 := rfl
  simp only [Lit.wf, Bool.and_eq_true, decide_eq_true_eq] at h
  omega
theorem wf_u32 {x : Int} (h : (Lit.int .u32 x).wf = true) : 0 ≤ x ∧ x ≤ 4294967295 := by
  have h1 : IntKind.u32.min = 0 := rfl
  have h2 : IntKind.u32.max = 4294967295 := rfl
  simp only [Lit.wf, Bool.and_eq_true, decide_eq_true_eq] at h
  omega
theorem wf_i32 {x : Int} (h : (Lit.int .i32 x).wf = true) : -2147483648 ≤ x ∧ x ≤ 2147483647 := by
  have h1 : IntKind.i32.min = -2147483648 := rfl
  have h2 : IntKind.i32.max = 2147483647 := rfl
  simp only [Lit.wf, Bool.and_eq_true, decide_eq_true_eq] at h
  omega
theorem wf_i64 {x : Int} (h : (Lit.int .i64 x).wf = true) : -9223372036854775808 ≤ x ∧ x ≤ 9223372036854775807 := by
  have h1 : IntKind.i64.min = -9223372036854775808 := rfl
  have h2 : IntKind.i64.max = 9223372036854775807 := rfl
  simp only [Lit.wf, Bool.and_eq_true, decide_eq_true_eq] at h
  omega

theorem getD_of_mem {P : Int → Prop} (h0 : P 0) {zs : List Int} (h : ∀ n ∈ zs, P n) (i : Nat) : P (zs.getD i 0) := by
  by_cases hi : i < zs.length
  · have := h zs[i] (List.getElem_mem hi)
    simpa [List.getD, hi] using this
  · simpa [List.getD, List.getElem?_eq_none (show zs.length ≤ i by omega)] using h0

/-- a slice of bytes that came in: its bytes, where they lie, and its datum -/
theorem opened {H : Type} {enc : TypeId × Value → H} {W : World} {a : Option Addr} {n c : Nat} {d : DataW H} {p : List MemPlace}
    (h : DataW.Trod enc Tryz.prog W 0 (fun _ => true) true 22 (.slice a n c) d p) :
    ∃ xs : List Int, xs.length = n ∧ n ≤ c ∧ Row W a xs ∧ Byt xs ∧ ((d = .nil ∧ c = 0) ∨ ∃ es sp, d = .slice es sp ∧ es.length + sp.length = c) := by
  obtain ⟨fuel, hf⟩ := h
  rcases open_ints Tryz.underlying22 Tryz.underlying5 Tryz.cells5 hf with ⟨hcs, hx⟩ | ⟨ad, l, cc, zs, hcs, _, hl, hm, hz, hx, hcell, hwz⟩
  · simp [Value.cells] at hcs
    obtain ⟨rfl, rfl, rfl⟩ := hcs
    simp only [Prod.mk.injEq] at hx
    exact ⟨[], rfl, Nat.le_refl _, fun h => absurd h (Nat.lt_irrefl 0), fun i => by simp, .inl ⟨hx.1, rfl⟩⟩
  · simp [Value.cells] at hcs
    obtain ⟨rfl, rfl, rfl⟩ := hcs
    simp only [Prod.mk.injEq] at hx
    simp only [if_true] at hz
    have hlen : (zs.take n).length = n := by rw [List.length_take]; omega
    refine ⟨zs.take n, hlen, hl, fun h0 => ?_, fun i => getD_of_mem (P := fun x => 0 ≤ x ∧ x ≤ 255) (by decide) (fun x hx' => wf_u8 (hwz x (List.mem_of_mem_take hx'))) i, .inr ⟨_, _, hx.1, ?_⟩⟩
    · obtain ⟨b, o, s⟩ := ad
      obtain rfl : s = none := by simpa [Addr.add] using World.cell?_spot (hcell 0 (by omega))
      exact ⟨b, o, rfl, fun i hi => by rw [← Go.WideShapes.add_plain, hcell i (by omega)]; simp [List.getD, show i < n by omega]⟩
    · simp [lits]; omega

theorem reach_slice {H : Type} {ts : List TypeId} {ds : List (DataW H)} (hsz : (DataW.weightsEach Tryz.prog ts ds).all (· ≤ reachBytes) = true) {j : Nat} {d : DataW H} {c : Nat} (ht : ts[j]? = some 22) (hd : ds[j]? = some d)
    (h : (d = .nil ∧ c = 0) ∨ ∃ es sp, d = .slice es sp ∧ es.length + sp.length = c) : c ≤ 140737488351232 := by
  rcases h with ⟨_, rfl⟩ | ⟨es, sp, rfl, hl⟩
  · omega
  · have := sized_slice hsz (j := j) (t := 22) (e := 5) ht hd Tryz.underlying22
    rw [Tryz.bytes5] at this
    simp only [reachBytes] at this
    omega

theorem reach_string {H : Type} {ts : List TypeId} {ds : List (DataW H)} (hsz : (DataW.weightsEach Tryz.prog ts ds).all (· ≤ reachBytes) = true) {j : Nat} {s : ByteArray} (ht : ts[j]? = some 9) (hd : ds[j]? = some (.lit (.string s.data.toList))) : s.size ≤ 140737488351232 := by
  have := sized_string hsz (j := j) (t := 9) ht hd
  simp only [reachBytes] at this
  simpa using this

end Go.Proofs.YtgblohjdiheemaaGreat

/- Ours: watch.Between, Outs. -/
namespace Go.Proofs.YtgblohjdiheemaaGreat
open Go.RowKit Go.Maps

/-- the events at the places from a to below b -/
def partL (L : List Fv) (a b : Int) : List Fv := (L.take b.toNat).drop a.toNat
theorem part_step (L : List Fv) (a : Int) (j : Nat) (hj : j < L.length) (h1 : a.toNat ≤ j) : partL L a ((j + 1 : Nat) : Int) = partL L a (j : Int) ++ [L[j]] := by
  unfold partL
  rw [Int.toNat_natCast, Int.toNat_natCast, take_snoc L j hj, List.drop_append_of_le_length (by rw [List.length_take]; omega)]
theorem part_le (L : List Fv) (a : Int) (j : Nat) : (partL L a j).length ≤ j := by
  unfold partL
  rw [List.length_drop, List.length_take, Int.toNat_natCast]
  omega
theorem btw_le (h a : Int) (L : List Fv) : (btwL h a L).1 ≤ L.length ∧ (btwL h a L).2 ≤ L.length := by
  suffices H : ∀ (L : List Fv) (v : Nat × Nat), (L.foldl (btwStep h a) v).1 ≤ L.length + v.1 ∧ (L.foldl (btwStep h a) v).2 ≤ L.length + v.2 by
    have := H L (0, 0)
    simpa [btwL] using this
  intro L
  induction L with
  | nil => intro v; simp
  | cons x L ih =>
    intro v
    rw [List.foldl_cons]
    have := ih (btwStep h a v x)
    have h2 : (btwStep h a v x).1 ≤ v.1 + 1 ∧ (btwStep h a v x).2 ≤ v.2 + 1 := by
      unfold btwStep
      split
      · split
        · exact ⟨Nat.le_refl _, Nat.le_succ _⟩
        · split
          · exact ⟨Nat.le_succ _, Nat.le_refl _⟩
          · exact ⟨Nat.le_succ _, Nat.le_succ _⟩
      · exact ⟨Nat.le_succ _, Nat.le_succ _⟩
    simp only [List.length_cons]
    omega
theorem run_max0 (a : Int) (W : World) : (Builtin.max_ #[3, 3] 3 #[.int .i64 a, .int .i64 0]).run Tryz.prog W = .ok (.int .i64 (max a 0)) W := by
  have e : (Builtin.max_ #[3, 3] 3 #[.int .i64 a, .int .i64 0]).run Tryz.prog W = .ok (.int .i64 (if (0 : Int) > a then 0 else a)) W := rfl
  rw [e]
  congr 2
  by_cases h : a < 0
  · rw [if_pos h]; omega
  · rw [if_neg h]; omega
theorem run_min (a b : Int) (W : World) : (Builtin.min_ #[3, 3] 3 #[.int .i64 a, .int .i64 b]).run Tryz.prog W = .ok (.int .i64 (min a b)) W := by
  have e : (Builtin.min_ #[3, 3] 3 #[.int .i64 a, .int .i64 b]).run Tryz.prog W = .ok (.int .i64 (if b < a then b else a)) W := rfl
  rw [e]
  congr 2
  by_cases h : b < a
  · rw [if_pos h]; omega
  · rw [if_neg h]; omega
set_option maxRecDepth 4000 in
set_option maxHeartbeats 4000000 in
theorem between_any (p : Option Addr) (n c : Nat) (L : List Fv) (hart site frm to_ : Int) (w : World) (hn : L.length = n) (hn2 : n ≤ 1048576) (hr : KRow fE w p L) :
    Calls Tryz.prog 11 #[.slice p n c, .int .i64 hart, .int .i64 site, .int .i64 frm, .int .i64 to_] w fun e w' => e = .returned (.tuple #[.int .i64 (btwL hart site (partL L frm to_)).1, .int .i64 (btwL hart site (partL L frm to_)).2]) ∧ Below w.heap.size w w' := by
  have HN := Hid.in hn
  have HR := Hid.in hr
  clear hn hr
  have HD : Hid (∀ x (W : World), Calls Tryz.prog 34 #[evV x] W _) := fun x W => deed_any x W
  have hmax := run_max0 frm
  have hmin := run_min to_ n
  go_enter Tryz.func11, Tryz.ntmps11
  go_wp2_with fail
  go_loopw [12, 13, 14] (fun qv ov vi wr => ∃ j : Nat, vi = .int .i64 j ∧ frm.toNat ≤ j ∧ (j = frm.toNat ∨ (j : Int) ≤ to_ ∧ j ≤ n) ∧ qv = .int .i64 (btwL hart site (partL L frm j)).1 ∧ ov = .int .i64 (btwL hart site (partL L frm j)).2 ∧ Below w.heap.size w wr) (fun _ _ vi _ => n - (intOf vi).toNat)
  case atStart =>
    have e : partL L frm (frm.toNat : Int) = [] := by unfold partL; rw [List.drop_eq_nil_of_le (by rw [List.length_take, Int.toNat_natCast]; omega)]
    exact ⟨frm.toNat, by rw [Int.toNat_eq_max], Nat.le_refl _, .inl rfl, by rw [e]; rfl, by rw [e]; rfl, Below.refl _ _⟩
  case round =>
    obtain ⟨j, rfl, hfj, hj, rfl, rfl, hB⟩ := hrel
    have HB := Hid.in hB
    clear hB
    by_cases hlt : (j : Int) < min to_ n
    · have hjn : j < n := by omega
      have hjL : j < L.length := by rw [HN.out]; exact hjn
      have HRr : Hid (KRow fE wr p L) := HR.out.below HB.out
      obtain ⟨b, o, rfl, hc⟩ := ev7 HRr.out (by omega)
      obtain ⟨c0, c1, c2, c3, c4, c5, c6⟩ := hc j hjL
      have HT := Hid.in (part_step L frm j hjL hfj)
      have HL := Hid.in (btw_le hart site (partL L frm j))
      have HP := Hid.in (part_le L frm j)
      have hmj : (min to_ (n : Int)) = min to_ n := rfl
      have g1 : decide ((j : Int) < min to_ (n : Int)) = true := decide_eq_true hlt
      have g2 : decide ((j : Int) < 0) = false := decide_eq_false (by omega)
      have g3 : decide ((n : Int) ≤ (j : Int)) = false := decide_eq_false (by omega)
      have HJ : Hid (((j + 1 : Nat) : Int) ≤ to_ ∧ j + 1 ≤ n) := ⟨by omega, by omega⟩
      have HBW : Hid (∀ q m : Nat, (btwL hart site (partL L frm j)).1 = q → IntKind.i64.wrap ((q : Int) + 1) = (q : Int) + 1) := fun q m e => by rw [IntKind.wrap_i64]; have := HL.out; have := HP.out; omega
      have HBW2 : Hid (∀ q m : Nat, (btwL hart site (partL L frm j)).2 = q → IntKind.i64.wrap ((q : Int) + 1) = (q : Int) + 1) := fun q m e => by rw [IntKind.wrap_i64]; have := HL.out; have := HP.out; omega
      have w1 := HBW.out _ 0 rfl
      have w2 := HBW2.out _ 0 rfl
      have w3 : IntKind.i64.wrap ((j : Int) + 1) = (j : Int) + 1 := by rw [IntKind.wrap_i64]; omega
      have HE : Hid (btwL hart site (partL L frm ((j + 1 : Nat) : Int)) = btwStep hart site (btwL hart site (partL L frm j)) L[j]) := by show _ = _; rw [HT.out, btwL_snoc]
      clear HBW HBW2 HT hc hmj
      generalize btwL hart site (partL L frm j) = v at *
      generalize L[j] = x at *
      obtain ⟨v1, v2⟩ := v
      dsimp only at *
      clear HL HP HRr
      by_cases hh : x.h = hart
      · by_cases hp : x.p = site
        · obtain ⟨xk, xst, xh, xp, xo, xky, xn⟩ := x
          dsimp only at *
          subst hh hp
          have hd := HD.out ⟨xk, xst, xh, xp, xo, xky, xn⟩ wr
          have hE := HE.out
          unfold btwStep at hE
          rw [if_pos ⟨rfl, rfl⟩] at hE
          have HE2 := Hid.in hE
          have hu := dd_u8 ⟨xk, xst, xh, xp, xo, xky, xn⟩
          clear HE hE
          generalize dd ⟨xk, xst, xh, xp, xo, xky, xn⟩ = d at *
          go_upto_region 6 with fail
          go_wp2_with (go_at_call 34; refine Hid.out ?_)
          refine Lib.hid ?_
          (with_reducible refine hd.mono ?_)
          rintro e w4 ⟨rfl, hb4⟩
          have HB4 := Hid.in (below_step HB.out hb4)
          clear hd hb4 c0 c1 c2 c3 c4 c5 c6
          have hd4 : d = 0 ∨ d = 1 ∨ d = 2 ∨ d = 3 := by omega
          clear hu
          rcases hd4 with rfl | rfl | rfl | rfl
          all_goals
            have hE := HE2.out
            simp only [show ((0 : Int) = 1) = False by simp, show ((0 : Int) = 2) = False by simp, show ((0 : Int) = 3) = False by simp, show ((2 : Int) = 1) = False by simp, show ((3 : Int) = 1) = False by simp, show ((3 : Int) = 2) = False by simp, or_false, or_true, true_or, if_true, if_false] at hE
            have HE3 := Hid.in hE
            clear HE2 hE
            go_wp2_with fail
            go_roundw
            case rel => exact ⟨j + 1, by go_num, by omega, .inr HJ.out, by rw [HE3.out] <;> first | rfl | go_num, by rw [HE3.out] <;> first | rfl | go_num, HB4.out⟩
            case measure => simp [intOf]; omega
        · have e1 : (x.p != site) = true := by simpa using hp
          have HE2 : Hid (btwL hart site (partL L frm ((j + 1 : Nat) : Int)) = (v1, v2)) := by show _ = _; rw [HE.out]; unfold btwStep; rw [if_neg (by simp [hp])]
          obtain ⟨xk, xst, xh, xp, xo, xky, xn⟩ := x
          dsimp only at *
          subst hh
          clear HE hp w1 w2
          go_wp2_with fail
          go_roundw
          case rel => exact ⟨j + 1, by go_num, by omega, .inr HJ.out, by rw [HE2.out], by rw [HE2.out], HB.out⟩
          case measure => simp [intOf]; omega
      · have e1 : (x.h != hart) = true := by simpa using hh
        have HE2 : Hid (btwL hart site (partL L frm ((j + 1 : Nat) : Int)) = (v1, v2)) := by show _ = _; rw [HE.out]; unfold btwStep; rw [if_neg (by simp [hh])]
        obtain ⟨xk, xst, xh, xp, xo, xky, xn⟩ := x
        dsimp only at *
        clear HE hh w1 w2
        go_wp2_with fail
        go_roundw
        case rel => exact ⟨j + 1, by go_num, by omega, .inr HJ.out, by rw [HE2.out], by rw [HE2.out], HB.out⟩
        case measure => simp [intOf]; omega
    · have HP : Hid (partL L frm (j : Int) = partL L frm to_) := by
        show _ = _
        unfold partL
        rcases hj with rfl | ⟨hj1, hj2⟩
        · rw [List.drop_eq_nil_of_le (by rw [List.length_take, Int.toNat_natCast]; omega), List.drop_eq_nil_of_le (by rw [List.length_take, HN.out]; omega)]
        · by_cases h9 : (n : Int) ≤ to_
          · have : j = n := by omega
            subst this
            rw [Int.toNat_natCast, List.take_of_length_le (by rw [HN.out]; exact Nat.le_refl _), List.take_of_length_le (by rw [HN.out]; omega)]
          · have : to_ = (j : Int) := by omega
            rw [this]
      have g1 : decide ((j : Int) < min to_ (n : Int)) = false := decide_eq_false hlt
      clear hj hlt hmax
      rw [HP.out]
      go_wp2_with fail
      go_ret2
      exact ⟨rfl, HB.out⟩
/-- how 32 bits are told as cells -/
def fU : Fm Int where
  k := 1
  f := fun x => [.int .u32 x]
  pos := by decide
  len := fun _ => rfl
  one := fun x u hu => by
    simp only [List.mem_cons, List.not_mem_nil, or_false] at hu
    rcases hu with rfl
    rfl
theorem elemU : ElemK fU 43 87 4 := ⟨Tryz.underlying43, .int .u32 0, rfl, by kernel_rfl⟩
theorem outsL_snoc (L : List Fv) (x : Fv) (h : Int) : outsL (L ++ [x]) h = outsL L h ++ (if x.k = 5 ∧ x.h = h then [x.n % 4294967296] else []) := by
  unfold outsL
  rw [List.filterMap_append]
  by_cases e : x.k = 5 ∧ x.h = h
  · rw [if_pos e]; simp [e]
  · rw [if_neg e]; simp [e]
theorem outsL_len (L : List Fv) (h : Int) : (outsL L h).length ≤ L.length := List.length_filterMap_le _ _
set_option maxRecDepth 4000 in
set_option maxHeartbeats 4000000 in
theorem outs_any (p : Option Addr) (n c : Nat) (L : List Fv) (hart : Int) (w : World) (hn : L.length = n) (hn2 : n ≤ 1048576) (hr : KRow fE w p L) :
    Calls Tryz.prog 12 #[.slice p n c, .int .i64 hart] w fun e w' => ∃ v, e = .returned v ∧ KOwn fU 87 w' w.heap.size v (outsL L hart) ∧ Below w.heap.size w w' := by
  have HN := Hid.in hn
  have HR := Hid.in hr
  clear hn hr
  go_enter Tryz.func12, Tryz.ntmps12
  go_wp2_with fail
  go_loopw [5, 10] (fun v vi wr => ∃ j : Nat, vi = .int .i64 j ∧ j ≤ n ∧ KOwn fU 87 wr w.heap.size v (outsL (L.take j) hart) ∧ Below w.heap.size w wr) (fun _ vi _ => n - (intOf vi).toNat)
  case atStart => exact ⟨0, rfl, Nat.zero_le _, KOwn.nil _ _ _ _, Below.refl _ _⟩
  case round =>
    obtain ⟨j, rfl, hj, hO, hB⟩ := hrel
    have HO := Hid.in hO
    have HB := Hid.in hB
    clear hO hB
    by_cases hlt : j < n
    · have hjL : j < L.length := by rw [HN.out]; exact hlt
      have HRr : Hid (KRow fE wr p L) := HR.out.below HB.out
      obtain ⟨b, o, rfl, hc⟩ := ev7 HRr.out (by omega)
      obtain ⟨c0, c1, c2, c3, c4, c5, c6⟩ := hc j hjL
      have HT : Hid (outsL (L.take (j + 1)) hart = outsL (L.take j) hart ++ (if L[j].k = 5 ∧ L[j].h = hart then [L[j].n % 4294967296] else [])) := by show _ = _; rw [take_snoc L j hjL, outsL_snoc]
      have HL : Hid ((outsL (L.take j) hart).length ≤ 1048576) := Nat.le_trans (outsL_len _ _) (by rw [List.length_take]; omega)
      generalize L[j] = x at *
      have g1 : decide ((j : Int) < (n : Int)) = true := decide_eq_true (by omega)
      have w3 : IntKind.i64.wrap ((j : Int) + 1) = (j : Int) + 1 := by rw [IntKind.wrap_i64]; omega
      have HB1 := Hid.in (below_alloc HB.out (.cells (evA x) 34))
      have HO1 := Hid.in (HO.out.alloc (.cells (evA x) 34))
      obtain ⟨pv, cv, ev, -⟩ := HO.out.shape
      subst ev
      clear hc HRr
      by_cases h5 : x.k = 5
      · by_cases hh : x.h = hart
        · obtain ⟨xk, xst, xh, xp, xo, xky, xn⟩ := x
          dsimp only at *
          subst h5 hh
          have hE := HT.out
          rw [if_pos ⟨rfl, rfl⟩] at hE
          have HE := Hid.in hE
          have hw : IntKind.u32.wrap xn = xn % 4294967296 := by simp [IntKind.wrap, IntKind.bits, IntKind.signed]
          clear HT hE
          go_wp2_with (at_builtin; refine Hid.out ?_)
          refine Lib.hid ?_
          refine kpush elemU _ rfl _ _ rfl w.heap.size _ (outsL (L.take j) xh) rfl (HO1.out.alloc _) ⟨wr.heap.size + 1, 0, none⟩ 1 (xn % 4294967296) rfl ?_ HL.out (by decide) (Nat.le_trans HB1.out.size (new_alloc _ _).size) ?_
          · have hf := fU.news (wr.alloc (.cells (evA ⟨5, xst, xh, xp, xo, xky, xn⟩) 34)) (xn % 4294967296) 87 #[.int .u32 (xn % 4294967296)] rfl
            rw [size_one] at hf
            exact hf
          intro v' w5 ho5 hg5 hb5
          have HO5 := Hid.in ho5
          have HB5 := Hid.in (hb5 w (below_alloc HB1.out _))
          clear ho5 hg5 hb5 c0 c1 c2 c3 c4 c5 c6
          go_wp2_with fail
          go_roundw
          case rel => exact ⟨j + 1, by go_num, by omega, by rw [HE.out]; exact HO5.out, HB5.out⟩
          case measure => simp [intOf]; omega
        · have e1 : (x.h == hart) = false := by simpa using hh
          have HE : Hid (outsL (L.take (j + 1)) hart = outsL (L.take j) hart) := by show _ = _; rw [HT.out, if_neg (by simp [hh]), List.append_nil]
          obtain ⟨xk, xst, xh, xp, xo, xky, xn⟩ := x
          dsimp only at *
          subst h5
          clear HT hh
          go_wp2_with fail
          go_roundw
          case rel => exact ⟨j + 1, by go_num, by omega, by rw [HE.out]; exact HO1.out, HB1.out⟩
          case measure => simp [intOf]; omega
      · have e1 : (x.k == 5) = false := by simpa using h5
        have HE : Hid (outsL (L.take (j + 1)) hart = outsL (L.take j) hart) := by show _ = _; rw [HT.out, if_neg (by simp [h5]), List.append_nil]
        obtain ⟨xk, xst, xh, xp, xo, xky, xn⟩ := x
        dsimp only at *
        clear HT h5
        go_wp2_with fail
        go_roundw
        case rel => exact ⟨j + 1, by go_num, by omega, by rw [HE.out]; exact HO1.out, HB1.out⟩
        case measure => simp [intOf]; omega
    · obtain rfl : j = n := by omega
      have HL : Hid (outsL (L.take j) hart = outsL L hart) := by show _ = _; rw [List.take_of_length_le (by rw [HN.out]; exact Nat.le_refl _)]
      go_wp2_with fail
      go_ret
      exact ⟨_, rfl, by rw [← HL.out]; exact HO.out, HB.out⟩
end Go.Proofs.YtgblohjdiheemaaGreat

/- Ours: watch.charge, Switches. -/
namespace Go.Proofs.YtgblohjdiheemaaGreat
open Go.RowKit Go.Maps

theorem blk_ty {w : World} {g : Nat} {T T' : TypeId} {c c' : Array Value} (h : Blk w g T c) (h' : Blk w g T' c') : T = T' := by
  have e : some (Obj.cells c T) = some (.cells c' T') := (show w.heap[g]? = _ from h).symm.trans h'
  injection e with e
  injection e
/-- how a switch's cost is told as cells -/
def fC : Fm Cn where
  k := 5
  f := fun x => [.int .i64 (x.s : Int), .int .i64 (x.w : Int), .int .i64 (x.r : Int), .int .i64 0, .int .i64 0]
  pos := by decide
  len := fun _ => rfl
  one := fun x u hu => by
    simp only [List.mem_cons, List.not_mem_nil, or_false] at hu
    rcases hu with rfl | rfl | rfl | rfl | rfl <;> rfl
theorem elemC : ElemK fC 46 49 40 := ⟨Tryz.underlying46, .agg #[.int .i64 0, .int .i64 0, .int .i64 0, .int .i64 0, .int .i64 0], rfl, by kernel_rfl⟩
theorem kown_at {α : Type} {F : Fm α} {T : TypeId} {w : World} {B g n c : Nat} {L : List α} (h : KOwn F T w B (.slice (some ⟨g, 0, none⟩) n c) L) (i : Nat) (hi : i < L.length) (j : Nat) (hj : j < F.k) : w.cell? ⟨g, i * F.k + j, none⟩ = (F.f L[i])[j]? ∧ w.frozen? ⟨g, i * F.k + j, none⟩ = false := by
  obtain ⟨p', c', hsh, -, -, hce⟩ := h.shape
  obtain ⟨g', e1, -, -, hcell⟩ := hce (by omega)
  obtain ⟨g2, e3, -, -, hf, -⟩ := h.some (by omega)
  injection hsh with e2 _ _
  rw [← e2] at e1
  injection e1 with e1
  injection e1 with e1
  injection e3 with e3
  injection e3 with e3
  subst e1 e3
  exact ⟨hcell i hi j hj, hf _⟩
def CnOk (c : Cn) : Prop := c.s ≤ 1048576 ∧ c.w ≤ 1048576 ∧ c.r ≤ 1048576
set_option maxRecDepth 4000 in
set_option maxHeartbeats 4000000 in
theorem charge_any (B g n c : Nat) (A : List Cn) (i : Nat) (hi : i < A.length) (x : Fv) (w : World) (ho : KOwn fC 49 w B (.slice (some ⟨g, 0, none⟩) n c) A) (hc : CnOk A[i]) :
    Calls Tryz.prog 42 #[.pointer (some ⟨g, i * 5, none⟩), evV x] w fun e w' => e = .returned (.tuple #[]) ∧ KOwn fC 49 w' B (.slice (some ⟨g, 0, none⟩) n c) (A.set i (chg A[i] x)) ∧ Keeps (fun j => j = g) w w' := by
  have HO := Hid.in (ho.alloc (.cells (evA x) 34))
  have HG : Hid (g < w.heap.size) := by
    obtain ⟨_, e, -, h, -⟩ := ho.some (by omega)
    injection e with e
    injection e with e
    subst e
    exact h
  have HB0 := Hid.in (Keeps.ofBelow (G := fun j => j = g) (new_alloc w (.cells (evA x) 34)))
  obtain ⟨p', c', hsh, -, -, hce⟩ := HO.out.shape
  obtain ⟨g', e1, -, -, hcell⟩ := hce (by omega)
  injection hsh with e2 e3 e4
  subst e2 e3 e4
  injection e1 with e1
  injection e1 with e1
  subst e1
  have b0 := hcell i hi 0 (by decide)
  have b1 := hcell i hi 1 (by decide)
  have b2 := hcell i hi 2 (by decide)
  have hfz : ∀ j, (w.alloc (.cells (evA x) 34)).frozen? ⟨g, j, none⟩ = false := by
    obtain ⟨g2, e3, -, -, hf, -⟩ := HO.out.some (by omega)
    injection e3 with e3
    injection e3 with e3
    subst e3
    exact hf
  have f0 := hfz (i * 5)
  have f1 := hfz (i * 5 + 1)
  have f2 := hfz (i * 5 + 2)
  clear ho hce hcell hfz
  generalize hq : A[i] = q at *
  obtain ⟨qs, qw, qr⟩ := q
  obtain ⟨h1, h2, h3⟩ := hc
  dsimp only at h1 h2 h3
  have b0 : (w.alloc (.cells (evA x) 34)).cell? ⟨g, i * 5, none⟩ = some (.int .i64 (qs : Int)) := b0
  have b1 : (w.alloc (.cells (evA x) 34)).cell? ⟨g, i * 5 + 1, none⟩ = some (.int .i64 (qw : Int)) := b1
  have b2 : (w.alloc (.cells (evA x) 34)).cell? ⟨g, i * 5 + 2, none⟩ = some (.int .i64 (qr : Int)) := b2
  have z0 : IntKind.i64.wrap ((qs : Int) + 1) = (qs : Int) + 1 := by rw [IntKind.wrap_i64]; omega
  have z1 : IntKind.i64.wrap ((qw : Int) + 1) = (qw : Int) + 1 := by rw [IntKind.wrap_i64]; omega
  have z2 : IntKind.i64.wrap ((qr : Int) + 1) = (qr : Int) + 1 := by rw [IntKind.wrap_i64]; omega
  have hset : ∀ (j : Nat) (_ : j < 5) (u : Value) (q' : Cn) (_ : (fC.f ⟨qs, qw, qr⟩).set j u = fC.f q'), KOwn fC 49 ((w.alloc (.cells (evA x) 34)).setCell ⟨g, i * 5 + j, none⟩ u) B (.slice (some ⟨g, 0, none⟩) A.length c) (A.set i q') := fun j hj u q' e => HO.out.set (i := i) hi j hj u q' (by rw [hq]; exact e)
  obtain ⟨xk, xst, xh, xp, xo, xky, xn⟩ := x
  by_cases k11 : xk = 11
  · have HC : Hid (chg ⟨qs, qw, qr⟩ ⟨xk, xst, xh, xp, xo, xky, xn⟩ = ⟨qs, qw, qr + 1⟩) := by show chg _ _ = _; unfold chg; rw [if_pos k11]
    rw [HC.out]
    subst k11
    have hS := Hid.in (hset 2 (by decide) (.int .i64 ((qr : Int) + 1)) ⟨qs, qw, qr + 1⟩ rfl)
    have hK := Hid.in (HB0.out.setCell g (i * 5 + 2) (.int .i64 ((qr : Int) + 1)) (.inl rfl))
    clear hset hq
    go_enter Tryz.func42, Tryz.ntmps42
    go_wp2_with fail
    go_end0
    exact ⟨rfl, hS.out, hK.out⟩
  · have e11 : (xk == 11) = false := by simpa using k11
    by_cases k10 : xk = 10
    · subst k10
      by_cases n4 : xn = 4
      · have HC : Hid (chg ⟨qs, qw, qr⟩ ⟨10, xst, xh, xp, xo, xky, xn⟩ = ⟨qs + 1, qw + 1, qr⟩) := by show chg _ _ = _; simp [chg, n4]
        rw [HC.out]
        subst n4
        have hS := Hid.in (hset 1 (by decide) (.int .i64 ((qw : Int) + 1)) ⟨qs, qw + 1, qr⟩ rfl)
        have hS2 : Hid (KOwn fC 49 (((w.alloc (.cells (evA ⟨10, xst, xh, xp, xo, xky, 4⟩) 34)).setCell ⟨g, i * 5 + 1, none⟩ (.int .i64 ((qw : Int) + 1))).setCell ⟨g, i * 5, none⟩ (.int .i64 ((qs : Int) + 1))) B (.slice (some ⟨g, 0, none⟩) A.length c) (A.set i ⟨qs + 1, qw + 1, qr⟩)) := by
          have h9 := (hS.out.set (i := i) (by rw [List.length_set]; exact hi) 0 (by decide) (.int .i64 ((qs : Int) + 1)) ⟨qs + 1, qw + 1, qr⟩ (by rw [List.getElem_set_self]; rfl))
          rw [List.set_set] at h9
          exact h9
        have hK := Hid.in ((HB0.out.setCell g (i * 5 + 1) (.int .i64 ((qw : Int) + 1)) (.inl rfl)).setCell g (i * 5) (.int .i64 ((qs : Int) + 1)) (.inl rfl))
        have HE : Hid (Blk ((w.alloc (.cells (evA ⟨10, xst, xh, xp, xo, xky, 4⟩) 34)).setCell ⟨g, i * 5 + 1, none⟩ (.int .i64 ((qw : Int) + 1))) w.heap.size 34 (evA ⟨10, xst, xh, xp, xo, xky, 4⟩)) := (Blk.new w 34 _).other (by have := HG.out; omega) _ _
        clear hset hq
        go_enter Tryz.func42, Tryz.ntmps42
        go_upto_region 6 with fail
        have d6 := HE.out.cell 6
        obtain ⟨d0', d1'⟩ := kown_at hS.out i (by rw [List.length_set]; exact hi) 0 (by decide)
        rw [List.getElem_set_self] at d0'
        have d0 : ((w.alloc (.cells (evA ⟨10, xst, xh, xp, xo, xky, 4⟩) 34)).setCell ⟨g, i * 5 + 1, none⟩ (.int .i64 ((qw : Int) + 1))).cell? ⟨g, i * 5, none⟩ = some (.int .i64 (qs : Int)) := d0'
        have d1 : ((w.alloc (.cells (evA ⟨10, xst, xh, xp, xo, xky, 4⟩) 34)).setCell ⟨g, i * 5 + 1, none⟩ (.int .i64 ((qw : Int) + 1))).frozen? ⟨g, i * 5, none⟩ = false := d1'
        clear d0' d1'
        generalize (w.alloc (.cells (evA ⟨10, xst, xh, xp, xo, xky, 4⟩) 34)).setCell ⟨g, i * 5 + 1, none⟩ (.int .i64 ((qw : Int) + 1)) = w1 at *
        go_wp2_with fail
        go_end0
        exact ⟨rfl, hS2.out, hK.out⟩
      · have e4 : (xn == 4) = false := by simpa using n4
        have HC : Hid (chg ⟨qs, qw, qr⟩ ⟨10, xst, xh, xp, xo, xky, xn⟩ = ⟨qs, qw + 1, qr⟩) := by show chg _ _ = _; simp [chg, n4]
        rw [HC.out]
        have hS := Hid.in (hset 1 (by decide) (.int .i64 ((qw : Int) + 1)) ⟨qs, qw + 1, qr⟩ rfl)
        have hK := Hid.in (HB0.out.setCell g (i * 5 + 1) (.int .i64 ((qw : Int) + 1)) (.inl rfl))
        have HE : Hid (Blk ((w.alloc (.cells (evA ⟨10, xst, xh, xp, xo, xky, xn⟩) 34)).setCell ⟨g, i * 5 + 1, none⟩ (.int .i64 ((qw : Int) + 1))) w.heap.size 34 (evA ⟨10, xst, xh, xp, xo, xky, xn⟩)) := (Blk.new w 34 _).other (by have := HG.out; omega) _ _
        clear hset hq n4
        go_enter Tryz.func42, Tryz.ntmps42
        go_upto_region 6 with fail
        have d6 := HE.out.cell 6
        generalize (w.alloc (.cells (evA ⟨10, xst, xh, xp, xo, xky, xn⟩) 34)).setCell ⟨g, i * 5 + 1, none⟩ (.int .i64 ((qw : Int) + 1)) = w1 at *
        go_wp2_with fail
        go_end0
        exact ⟨rfl, hS.out, hK.out⟩
    · have e10 : (xk == 10) = false := by simpa using k10
      have HC : Hid (chg ⟨qs, qw, qr⟩ ⟨xk, xst, xh, xp, xo, xky, xn⟩ = ⟨qs, qw, qr⟩) := by show chg _ _ = _; simp [chg, k11, k10]
      rw [HC.out]
      have hS : Hid (KOwn fC 49 (w.alloc (.cells (evA ⟨xk, xst, xh, xp, xo, xky, xn⟩) 34)) B (.slice (some ⟨g, 0, none⟩) A.length c) (A.set i ⟨qs, qw, qr⟩)) := by
        show KOwn _ _ _ _ _ _
        rw [← hq, List.set_getElem_self]
        exact HO.out
      clear hset hq k10 k11
      go_enter Tryz.func42, Tryz.ntmps42
      go_wp2_with fail
      go_end0
      exact ⟨rfl, hS.out, HB0.out⟩
def AllC (m : Nat) (A : List Cn) : Prop := ∀ c ∈ A, c.s ≤ m ∧ c.w ≤ m ∧ c.r ≤ m
theorem chg_ok {m : Nat} {c : Cn} (x : Fv) (h : c.s ≤ m ∧ c.w ≤ m ∧ c.r ≤ m) : (chg c x).s ≤ m + 1 ∧ (chg c x).w ≤ m + 1 ∧ (chg c x).r ≤ m + 1 := by
  unfold chg
  split
  · simp; omega
  · split
    · split <;> simp <;> omega
    · omega
theorem swStep_ok {m : Nat} {A : List Cn} (x : Fv) (h : AllC m A) : AllC (m + 1) (swStep A x) := by
  unfold swStep
  split
  · intro c hc
    rcases List.mem_append.1 hc with hc | hc
    · have := h c hc; omega
    · simp at hc; subst hc; simp
  · split
    · intro c hc; cases hc
    · rename_i hA
      intro c hc
      rcases List.mem_or_eq_of_mem_set hc with hc | hc
      · have := h c hc; omega
      · subst hc
        refine chg_ok x ?_
        have hl : A.length - 1 < A.length := by have := List.length_pos_iff.2 hA; omega
        rw [List.getD, List.getElem?_eq_getElem hl]
        exact h _ (List.getElem_mem hl)
theorem switchL_ok (L : List Fv) : AllC L.length (switchL L) := by
  suffices H : ∀ (L : List Fv) (A : List Cn) (m : Nat), AllC m A → AllC (m + L.length) (L.foldl swStep A) by
    have := H L [] 0 (fun c hc => by cases hc)
    simpa [switchL] using this
  intro L
  induction L with
  | nil => intro A m h; exact h
  | cons x L ih =>
    intro A m h
    have := ih _ _ (swStep_ok x h)
    rw [List.foldl_cons, List.length_cons]
    rwa [show m + 1 + L.length = m + (L.length + 1) by omega] at this
theorem switchL_len (L : List Fv) : (switchL L).length ≤ L.length := by
  suffices H : ∀ (L : List Fv) (A : List Cn), (L.foldl swStep A).length ≤ A.length + L.length by
    have := H L []
    simpa [switchL] using this
  intro L
  induction L with
  | nil => intro A; exact Nat.le_refl _
  | cons x L ih =>
    intro A
    have := ih (swStep A x)
    rw [List.foldl_cons, List.length_cons]
    have h2 : (swStep A x).length ≤ A.length + 1 := by
      unfold swStep
      split
      · simp
      · split
        · simp
        · simp
    omega
set_option maxRecDepth 8000 in
set_option maxHeartbeats 4000000 in
theorem switches_any (p : Option Addr) (n c : Nat) (L : List Fv) (w : World) (hn : L.length = n) (hn2 : n ≤ 1048000) (hr : KRow fE w p L) :
    Calls Tryz.prog 14 #[.slice p n c] w fun e w' => ∃ v, e = .returned v ∧ KOwn fC 49 w' w.heap.size v (switchL L) ∧ Below w.heap.size w w' := by
  have HN := Hid.in hn
  have HR := Hid.in hr
  clear hn hr
  go_enter Tryz.func14, Tryz.ntmps14
  go_wp2_with fail
  go_loopw [3, 8] (fun v vi wr => ∃ j : Nat, vi = .int .i64 j ∧ j ≤ n ∧ KOwn fC 49 wr w.heap.size v (switchL (L.take j)) ∧ Below w.heap.size w wr) (fun _ vi _ => n - (intOf vi).toNat)
  case atStart => exact ⟨0, rfl, Nat.zero_le _, KOwn.nil _ _ _ _, Below.refl _ _⟩
  case round =>
    obtain ⟨j, rfl, hj, hO, hB⟩ := hrel
    have HO := Hid.in hO
    have HB := Hid.in hB
    clear hO hB
    by_cases hlt : j < n
    · have hjL : j < L.length := by rw [HN.out]; exact hlt
      have HRr : Hid (KRow fE wr p L) := HR.out.below HB.out
      obtain ⟨b, o, rfl, hc⟩ := ev7 HRr.out (by omega)
      obtain ⟨c0, c1, c2, c3, c4, c5, c6⟩ := hc j hjL
      have HT : Hid (switchL (L.take (j + 1)) = swStep (switchL (L.take j)) L[j]) := by show _ = _; rw [take_snoc L j hjL, switchL_snoc]
      have HL : Hid ((switchL (L.take j)).length ≤ 1048000) := Nat.le_trans (switchL_len _) (by rw [List.length_take]; omega)
      have HC : Hid (AllC 1048000 (switchL (L.take j))) := fun x hx => by
        have h1 := switchL_ok (L.take j) x hx
        have h2 : (L.take j).length ≤ 1048000 := by rw [List.length_take]; omega
        omega
      generalize L[j] = x at *
      have g1 : decide ((j : Int) < (n : Int)) = true := decide_eq_true (by omega)
      have w3 : IntKind.i64.wrap ((j : Int) + 1) = (j : Int) + 1 := by rw [IntKind.wrap_i64]; omega
      have HB1 := Hid.in (below_alloc HB.out (.cells (evA x) 34))
      have HO1 := Hid.in (HO.out.alloc (.cells (evA x) 34))
      have HE1 := Hid.in (Blk.new wr 34 (evA x))
      obtain ⟨pv, cv, ev, -⟩ := HO.out.shape
      subst ev
      clear hc HRr
      generalize switchL (L.take j) = A at *
      by_cases h8 : x.k = 8
      · obtain ⟨xk, xst, xh, xp, xo, xky, xn⟩ := x
        dsimp only at *
        subst h8
        have HE : Hid (switchL (L.take (j + 1)) = A ++ [⟨0, 0, 0⟩]) := by show _ = _; rw [HT.out]; unfold swStep; rw [if_pos rfl]
        clear HT HC HE1
        go_wp2_with (at_builtin; refine Hid.out ?_)
        refine Lib.hid ?_
        refine kpush elemC _ rfl _ _ rfl w.heap.size _ A rfl (HO1.out.alloc _) ⟨wr.heap.size + 1, 0, none⟩ 1 ⟨0, 0, 0⟩ rfl ?_ (by have := HL.out; omega) (by decide) (Nat.le_trans HB1.out.size (new_alloc _ _).size) ?_
        · have hf := fC.news (wr.alloc (.cells (evA ⟨8, xst, xh, xp, xo, xky, xn⟩) 34)) ⟨0, 0, 0⟩ 49 #[.int .i64 0, .int .i64 0, .int .i64 0, .int .i64 0, .int .i64 0] rfl
          rw [size_one] at hf
          exact hf
        intro v' w5 ho5 hg5 hb5
        have HO5 := Hid.in ho5
        have HB5 := Hid.in (hb5 w (below_alloc HB1.out _))
        clear ho5 hg5 hb5 c0 c1 c2 c3 c4 c5 c6
        go_wp2_with fail
        go_roundw
        case rel => exact ⟨j + 1, by go_num, by omega, by rw [HE.out]; exact HO5.out, HB5.out⟩
        case measure => simp [intOf]; omega
      · have e8 : (x.k == 8) = false := by simpa using h8
        by_cases hA : A = []
        · subst hA
          have HE : Hid (switchL (L.take (j + 1)) = []) := by show _ = _; rw [HT.out]; unfold swStep; rw [if_neg h8, if_pos rfl]
          obtain ⟨xk, xst, xh, xp, xo, xky, xn⟩ := x
          dsimp only at *
          clear HT HC h8 HE1
          go_wp2_with fail
          go_roundw
          case rel => exact ⟨j + 1, by go_num, by omega, by rw [HE.out]; exact HO1.out, HB1.out⟩
          case measure => simp [intOf]; omega
        · have h0 : 0 < A.length := List.length_pos_iff.2 hA
          have hl : A.length - 1 < A.length := by omega
          have HE : Hid (switchL (L.take (j + 1)) = A.set (A.length - 1) (chg A[A.length - 1] x)) := by
            show _ = _
            rw [HT.out]; unfold swStep; rw [if_neg h8, if_neg hA, List.getD, List.getElem?_eq_getElem hl]; rfl
          obtain ⟨g, rfl, hgB, -⟩ := HO1.out.some h0
          have HGB := Hid.in hgB
          have HX : Hid (∀ W : World, KOwn fC 49 W w.heap.size (.slice (some ⟨g, 0, none⟩) A.length cv) A → Calls Tryz.prog 42 #[.pointer (some ⟨g, (A.length - 1) * 5, none⟩), evV x] W _) := fun W hW => charge_any w.heap.size g A.length cv A (A.length - 1) hl x W hW (by have := HC.out _ (List.getElem_mem hl); unfold CnOk; omega)
          have hlen := HL.out
          generalize hm : A.length - 1 = m at *
          have ha : A.length = m + 1 := by omega
          have hS0 := HX.out ((wr.alloc (.cells (evA x) 34)).drew) (HO1.out.drewN 1)
          obtain ⟨xk, xst, xh, xp, xo, xky, xn⟩ := x
          dsimp only at *
          have hgE : Hid (g ≠ wr.heap.size) := by
            obtain ⟨g2, e3, -, -, -, _, hb⟩ := HO1.out.some h0
            injection e3 with e3
            injection e3 with e3
            subst e3
            exact fun e => by subst e; exact absurd (blk_ty hb HE1.out) (by decide)
          have q0 : IntKind.i64.wrap ((A.length : Int) - 1) = (m : Int) := by rw [IntKind.wrap_i64]; omega
          have q1 : decide ((0 : Int) < (A.length : Int)) = true := decide_eq_true (by omega)
          have q2 : decide ((m : Int) < 0) = false := decide_eq_false (by omega)
          have q3 : decide ((A.length : Int) ≤ (m : Int)) = false := decide_eq_false (by omega)
          clear HX
          generalize A.set m (chg (A[m]'hl) ⟨xk, xst, xh, xp, xo, xky, xn⟩) = A2 at *
          have q4 : decide (0 < A.length) = true := decide_eq_true h0
          have q5 : decide (m < A.length) = true := decide_eq_true hl
          have q6 : decide ((m : Int) < (A.length : Int)) = true := decide_eq_true (by omega)
          have q7 : (0 : Int) ≤ (m : Int) := by omega
          clear HT HC h8 hA hm ha hlen
          go_upto_region 8 with fail
          generalize wr.alloc (.cells (evA ⟨xk, xst, xh, xp, xo, xky, xn⟩) 34) = w2 at *
          have d0 : w2.cell? ⟨wr.heap.size, 0, none⟩ = some (.int .u8 xk) := HE1.out.cell 0
          have d1 : w2.cell? ⟨wr.heap.size, 1, none⟩ = some (.int .i64 xst) := HE1.out.cell 1
          have d2 : w2.cell? ⟨wr.heap.size, 2, none⟩ = some (.int .i64 xh) := HE1.out.cell 2
          have d3 : w2.cell? ⟨wr.heap.size, 3, none⟩ = some (.int .i64 xp) := HE1.out.cell 3
          have d4 : w2.cell? ⟨wr.heap.size, 4, none⟩ = some (.int .u8 xo) := HE1.out.cell 4
          have d5 : w2.cell? ⟨wr.heap.size, 5, none⟩ = some (.int .i64 xky) := HE1.out.cell 5
          have d6 : w2.cell? ⟨wr.heap.size, 6, none⟩ = some (.int .i64 xn) := HE1.out.cell 6
          have HK0 : Hid (∀ W : World, Keeps (fun j => j = g) w2.drew W → Blk W wr.heap.size 34 (evA ⟨xk, xst, xh, xp, xo, xky, xn⟩)) := fun W hW => by
            have h1 : Blk w2.drew wr.heap.size 34 (evA ⟨xk, xst, xh, xp, xo, xky, xn⟩) := HE1.out
            exact (hW.block wr.heap.size h1.lt (fun e => hgE.out e.symm)).trans h1
          go_region_held3 (fun W => W.cell? ⟨wr.heap.size, 0, none⟩ = some (.int .u8 xk) ∧ W.cell? ⟨wr.heap.size, 1, none⟩ = some (.int .i64 xst) ∧ W.cell? ⟨wr.heap.size, 2, none⟩ = some (.int .i64 xh) ∧ W.cell? ⟨wr.heap.size, 3, none⟩ = some (.int .i64 xp) ∧ W.cell? ⟨wr.heap.size, 4, none⟩ = some (.int .u8 xo) ∧ W.cell? ⟨wr.heap.size, 5, none⟩ = some (.int .i64 xky) ∧ W.cell? ⟨wr.heap.size, 6, none⟩ = some (.int .i64 xn)) (first | (with_reducible exact hk1) | go_keep)
            (first
              | (go_at_call 42; (with_reducible refine hS0.mono ?_); rintro e w4 ⟨rfl, ho, hk⟩; have HO4 := Hid.in ho; have HK4 := Hid.in hk; have hbb := HK0.out w4 hk; have hk1 := And.intro (hbb.cell 0) (And.intro (hbb.cell 1) (And.intro (hbb.cell 2) (And.intro (hbb.cell 3) (And.intro (hbb.cell 4) (And.intro (hbb.cell 5) (hbb.cell 6)))))); clear ho hk hbb))
          have HB4 := Hid.in ((Keeps.below (G := fun j => j = g) HK4.out (B := w.heap.size) HB1.out.size (fun j e => by subst e; exact HGB.out)))
          have HB5 : Hid (Below w.heap.size w w4) := (below_draws HB1.out 1).trans HB4.out
          clear hk1 d0 d1 d2 d3 d4 d5 d6 hS0 q0 q1 q2 q3 q4 q5 q6 q7 hl h0
          go_wp2_with fail
          go_roundw
          case rel => exact ⟨j + 1, by go_num, by omega, by rw [HE.out]; exact HO4.out, HB5.out⟩
          case measure => simp [intOf]; omega
    · obtain rfl : j = n := by omega
      have HL : Hid (switchL (L.take j) = switchL L) := by show _ = _; rw [List.take_of_length_le (by rw [HN.out]; exact Nat.le_refl _)]
      go_wp2_with fail
      go_ret
      exact ⟨_, rfl, by rw [← HL.out]; exact HO.out, HB.out⟩
end Go.Proofs.YtgblohjdiheemaaGreat
