/- Texts put together: OpenQ, PokN, KitS, RfL, Mad2, PlaV. -/
import Derived.Test.YtekggimgobeggaaGl
import Derived.Test.YtekggimgobeggaaOpen
import Derived.Deep.Grids
import Derived.SizedLaws
import Derived.Test.YtekggimgobeggaaGc
import Derived.Test.YtekggimgobeggaaGh
import Derived.Test.YtekggimgobeggaaGe
import Derived.Test.YtekggimgobeggaaGd

/- How the arguments of PokePlays are opened: bytes, a script with flags and sites. -/
namespace Go.Proofs.Ytekggimgobeggaa
open Go.ChangeShapes Go.WideShapes Go.ChangeAt Go.RowKit

theorem Try.cells3q : Try.prog.cellsOf 3 = 1 := by kernel_rfl
theorem Try.cells4 : Try.prog.cellsOf 4 = 1 := by kernel_rfl
theorem Try.cells39 : Try.prog.cellsOf 39 = 1 := by kernel_rfl
theorem Try.cells49 : Try.prog.cellsOf 49 = 1 := by kernel_rfl
theorem Try.cells48 : Try.prog.cellsOf 48 = 3 := by kernel_rfl
theorem Try.cells72 : Try.prog.cellsOf 72 = 5 := by kernel_rfl
theorem Try.bytes4 : Try.prog.bytesOf 4 = 1 := by kernel_rfl
theorem Try.bytes48 : Try.prog.bytesOf 48 = 24 := by kernel_rfl
theorem list_three {X : Type} {l : List X} (h : l.length = 3) : ∃ a b c, l = [a, b, c] := by
  match l, h with
  | [a, b, c], _ => exact ⟨a, b, c, rfl⟩
theorem list_five {X : Type} {l : List X} (h : l.length = 5) : ∃ a b c d e, l = [a, b, c, d, e] := by
  match l, h with
  | [a, b, c, d, e], _ => exact ⟨a, b, c, d, e, rfl⟩
theorem list_ofG {X : Type} {P : Nat → X → Prop} : ∀ n, (∀ i, i < n → ∃ x, P i x) → ∃ xs : List X, xs.length = n ∧ ∀ i (h : i < xs.length), P i xs[i]
  | 0, _ => ⟨[], rfl, fun i h => absurd h (by simp)⟩
  | n + 1, h => by
    obtain ⟨xs, hl, hx⟩ := list_ofG n fun i hi => h i (by omega)
    obtain ⟨x, hp⟩ := h n (by omega)
    refine ⟨xs ++ [x], by simp [hl], fun i hi => ?_⟩
    by_cases hin : i < xs.length
    · rw [List.getElem_append_left hin]; exact hx i hin
    · have : i = n := by simp at hi; omega
      subst this
      rw [List.getElem_append_right (by omega)]
      simp [hl]
      exact hp

theorem weights_of {H : Type} {P : Program} {ts : List TypeId} {ds : List (DataW H)} (hsz : (DataW.weightsEach P ts ds).all (· ≤ reachBytes) = true) {j : Nat} {t : TypeId} {d : DataW H} (ht : ts[j]? = some t) (hd : ds[j]? = some d) : ∀ m ∈ d.weights P t, m ≤ reachBytes := by
  intro m hm
  have := List.all_eq_true.1 hsz m (DataW.weights_mem_each ht hd m hm)
  simpa using this
/-- a list of flags -/
theorem open_flags {H : Type} {enc : TypeId × Value → H} {W : World} {fuel : Nat} {v : Value} {x : DataW H × List MemPlace} (hf : DataW.trod enc Try.prog W 0 (fun _ => true) true fuel 39 [v] = some x) (hw : ∀ m ∈ x.1.weights Try.prog 39, m ≤ reachBytes) :
    ∃ (q : Option Addr) (e : Nat) (hs : List Bool), v = .slice q hs.length e ∧ hs.length ≤ 140737488351232 ∧ hs.length ≤ e ∧ e ≤ 9223372036854775807 ∧ BRow W q hs ∧ (q = none → e = 0) := by
  have hr : ∀ q n c, v = .slice q n c → n * 1 ≤ reachBytes := by
    intro q n c hv
    rcases DataW.trod_slice Try.underlying39 hf with ⟨hcs, hx⟩ | ⟨ad, l, cc, elems, rest, f, hfu, hcs, hx, _, hl, hm, hlen, hel, hsp, _⟩
    · simp only [List.cons.injEq, and_true] at hcs
      rw [hv] at hcs
      simp only [Value.slice.injEq] at hcs
      rw [hcs.2.1]; exact Nat.zero_le _
    · simp only [List.cons.injEq, and_true] at hcs
      rw [hv] at hcs
      simp only [Value.slice.injEq] at hcs
      have := hw ((elems.length + rest.length) * Try.prog.bytesOf 4) (by
        have hx1 : x.1 = _ := congrArg Prod.fst hx
        rw [hx1]; simp [DataW.weights, Try.underlying39])
      rw [Try.bytes4] at this
      rw [hcs.2.1]
      omega
  rcases Go.Deep.open_bools Try.underlying39 Try.underlying4 Try.cells4 hf with ⟨hcs, hx⟩ | ⟨ad, l, cc, B, hcs, _, hl, hm, hx, hcell⟩
  · simp only [List.cons.injEq, and_true] at hcs
    exact ⟨none, 0, [], by rw [hcs]; rfl, by decide, Nat.le_refl _, by decide, fun h => absurd h (Nat.lt_irrefl 0), fun _ => rfl⟩
  · simp only [List.cons.injEq, and_true] at hcs
    have hrr := hr _ _ _ hcs
    simp only [reachBytes] at hrr
    unfold maxLen at hm
    have hlen : ((List.range l).map B).length = l := by simp
    refine ⟨some ad, cc, (List.range l).map B, by rw [hcs, hlen], by rw [hlen]; omega, by rw [hlen]; omega, by omega, fun h0 => ?_, fun h => by cases h⟩
    obtain ⟨b, o, s⟩ := ad
    rw [hlen] at h0
    obtain rfl : s = none := by simpa [Addr.add] using World.cell?_spot (hcell 0 (by omega))
    exact ⟨b, o, rfl, fun i hi => by rw [hlen] at hi; rw [← Go.WideShapes.add_plain, hcell i (by omega)]; simp [List.getD, hi]⟩
theorem opened3 {H : Type} {enc : TypeId × Value → H} {W : World} {fuel : Nat} {v : Value} {x : DataW H × List MemPlace} {ST ET : TypeId} {X : Type} (V : X → V3) (P : X → Prop) (hu : Try.prog.underlying ST = some (.slice ET)) (hc3 : Try.prog.cellsOf ET = 3)
    (hone : ∀ (fuel : Nat) (cs : List Value) (x : DataW H × List MemPlace), DataW.trod enc Try.prog W 0 (fun _ => true) true fuel ET cs = some x → ∃ y, cs = l3 (V y) ∧ P y)
    (h : DataW.trod enc Try.prog W 0 (fun _ => true) true fuel ST [v] = some x) (hw : ∀ m ∈ x.1.weights Try.prog ST, m ≤ reachBytes) :
    ∃ (q : Option Addr) (e : Nat) (L : List X), v = .slice q L.length e ∧ L.length ≤ e ∧ e ≤ maxLen ∧ L.length * Try.prog.bytesOf ET ≤ reachBytes ∧ Row3 W q (L.map V) ∧ (∀ y ∈ L, P y) ∧ (q = none → e = 0) := by
  rcases DataW.trod_slice hu h with ⟨hcs, hx⟩ | ⟨ad, l, cc, elems, rest, f, hfu, hcs, hx, _, hl, hm, hlen, hel, hsp, _⟩
  · simp only [List.cons.injEq, and_true] at hcs
    exact ⟨none, 0, [], by rw [hcs]; rfl, Nat.le_refl _, Nat.zero_le _, by simp, Row3.nil W none, fun y hy => (by cases hy), fun _ => rfl⟩
  · simp only [List.cons.injEq, and_true] at hcs
    have hwt : l * Try.prog.bytesOf ET ≤ reachBytes := by
      have := hw ((elems.length + rest.length) * Try.prog.bytesOf ET) (by rw [hx]; simp [DataW.weights, hu])
      exact Nat.le_trans (Nat.mul_le_mul_right _ (by omega)) this
    obtain ⟨L, hL, hP⟩ := list_ofG (P := fun i y => (∀ j u, (l3 (V y))[j]? = some u → W.cell? ((ad.add (i * 3)).add j) = some u) ∧ P y) l fun i hi => by
      have he := hel i hi
      rw [hc3, List.getElem?_eq_getElem (by omega), Option.bind_eq_some_iff] at he
      obtain ⟨cs, hcs, htr⟩ := he
      obtain ⟨_, hcl, hcc⟩ := World.cells?_some hcs
      obtain ⟨y, hy, hp⟩ := hone _ _ _ htr
      refine ⟨y, fun j u hu => ?_, hp⟩
      rw [← hy] at hu
      have hj : j < 3 := by rw [← hcl]; exact (List.getElem?_eq_some_iff.1 hu).1
      rw [hcc j hj]; exact hu
    refine ⟨some ad, cc, L, by rw [hcs, hL], by rw [hL]; exact hl, hm, by rw [hL]; exact hwt, fun h0 => ?_, fun y hy => ?_, fun h => by cases h⟩
    · rw [List.length_map] at h0
      obtain ⟨b, o, s⟩ := ad
      obtain rfl : s = none := by
        have := (hP 0 h0).1 0 _ rfl
        simpa [Addr.add] using World.cell?_spot this
      refine ⟨b, o, rfl, fun i hi j hj => ?_⟩
      rw [List.length_map] at hi
      rw [List.getElem_map]
      have hl3 : j < (l3 (V L[i])).length := hj
      have := (hP i hi).1 j _ (List.getElem?_eq_getElem hl3)
      rw [Addr.add_mid, Addr.add_mid] at this
      rw [this, List.getElem?_eq_getElem hl3]
    · obtain ⟨i, hi, rfl⟩ := List.getElem_of_mem hy
      exact (hP i hi).2

theorem weights_all {H : Type} {P : Program} {e : TypeId} : ∀ {l : List (DataW H)} {i : Nat} {d : DataW H} {m : Nat}, l[i]? = some d → m ∈ d.weights P e → m ∈ DataW.weightsAll P e l
  | c :: l, 0, d, m, h, hm => by
    simp only [List.getElem?_cons_zero, Option.some.injEq] at h
    subst h
    simp only [DataW.weightsAll]
    exact List.mem_append_left _ hm
  | c :: l, i + 1, d, m, h, hm => by
    simp only [List.getElem?_cons_succ] at h
    simp only [DataW.weightsAll]
    exact List.mem_append_right _ (weights_all h hm)

theorem open_site {H : Type} {enc : TypeId × Value → H} {W : World} (fuel : Nat) (cs : List Value) (x : DataW H × List MemPlace) (h : DataW.trod enc Try.prog W 0 (fun _ => true) true fuel 48 cs = some x) : ∃ y, cs = l3 (siV y) ∧ True := by
  obtain ⟨xs, n, rfl, hx, hlen, hxl, hf⟩ := DataW.trod_struct Try.underlying48 h
  rw [Try.cells48] at hlen
  obtain ⟨a, b, c, rfl⟩ := list_three hlen
  have f0 := hf 0
  have f1 := hf 1
  have f2 := hf 2
  simp [Try.cells3q] at f0 f1 f2
  obtain ⟨x0, x1, x2, rfl⟩ := list_three (show xs.length = 3 from hxl)
  simp only [List.getElem?_cons_zero, List.getElem?_cons_succ] at f0 f1 f2
  obtain ⟨k, e0, y0, w0⟩ := DataW.trod_int Try.underlying3 f0
  obtain ⟨m, e1, y1, w1⟩ := DataW.trod_int Try.underlying3 f1
  obtain ⟨g, e2, y2, w2⟩ := DataW.trod_int Try.underlying3 f2
  simp only [List.cons.injEq, and_true] at e0 e1 e2
  subst e0 e1 e2
  exact ⟨⟨k, m, g⟩, rfl, trivial⟩
/-- a row of a script -/
structure OpD where
  kind : Int
  hart : Int
  rp : Option Addr
  rc : Nat
  rs : List Bool
  sp : Option Addr
  sc : Nat
  L : List Si
  up : Bool
abbrev opL (x : OpD) : List Value := [.int .i64 x.kind, .int .i64 x.hart, .slice x.rp x.rs.length x.rc, .slice x.sp x.L.length x.sc, .bool x.up]
structure OpW (W : World) (x : OpD) : Prop where
  row : BRow W x.rp x.rs
  rnil : x.rp = none → x.rc = 0
  srow : Row3 W x.sp (x.L.map siV)
  slen : x.L.length * 24 ≤ 140737488351232
  snil : x.sp = none → x.L.length = 0 ∧ x.sc = 0
theorem OpW.below {w w' : World} {x : OpD} (h : OpW w x) (hb : Below w.heap.size w w') : OpW w' x := ⟨h.row.below hb, h.rnil, h.srow.below hb, h.slen, h.snil⟩
/-- a script in memory -/
def Scr (w : World) (p : Option Addr) (L : List OpD) : Prop := 0 < L.length → ∃ b o, p = some ⟨b, o, none⟩ ∧ ∀ i y, L[i]? = some y → (w.cell? ⟨b, o + i * 5, none⟩ = some (.int .i64 y.kind) ∧ w.cell? ⟨b, o + i * 5 + 1, none⟩ = some (.int .i64 y.hart) ∧ w.cell? ⟨b, o + i * 5 + 2, none⟩ = some (.slice y.rp y.rs.length y.rc) ∧ w.cell? ⟨b, o + i * 5 + 3, none⟩ = some (.slice y.sp y.L.length y.sc) ∧ w.cell? ⟨b, o + i * 5 + 4, none⟩ = some (.bool y.up)) ∧ OpW w y
theorem Scr.below {w w' : World} {p : Option Addr} {L : List OpD} (h : Scr w p L) (hb : Below w.heap.size w w') : Scr w' p L := fun h0 => by
  obtain ⟨b, o, e, h1⟩ := h h0
  refine ⟨b, o, e, fun i y hy => ?_⟩
  obtain ⟨⟨c0, c1, c2, c3, c4⟩, hw⟩ := h1 i y hy
  exact ⟨⟨(hb.cell (p := ⟨b, o + i * 5, none⟩) (cell_lt c0)).trans c0, (hb.cell (p := ⟨b, o + i * 5 + 1, none⟩) (cell_lt c1)).trans c1, (hb.cell (p := ⟨b, o + i * 5 + 2, none⟩) (cell_lt c2)).trans c2, (hb.cell (p := ⟨b, o + i * 5 + 3, none⟩) (cell_lt c3)).trans c3, (hb.cell (p := ⟨b, o + i * 5 + 4, none⟩) (cell_lt c4)).trans c4⟩, hw.below hb⟩

theorem open_op {H : Type} {enc : TypeId × Value → H} {W : World} {fuel : Nat} {cs : List Value} {x : DataW H × List MemPlace} (h : DataW.trod enc Try.prog W 0 (fun _ => true) true fuel 72 cs = some x) (hw : ∀ m ∈ x.1.weights Try.prog 72, m ≤ reachBytes) :
    ∃ y : OpD, cs = opL y ∧ OpW W y := by
  obtain ⟨xs, n, rfl, hx, hlen, hxl, hf⟩ := DataW.trod_struct Try.underlying72 h
  rw [Try.cells72] at hlen
  obtain ⟨a, b, c, d, e, rfl⟩ := list_five hlen
  have f0 := hf 0
  have f1 := hf 1
  have f2 := hf 2
  have f3 := hf 3
  have f4 := hf 4
  simp [Try.cells3q, Try.cells39, Try.cells49, Try.cells4] at f0 f1 f2 f3 f4
  obtain ⟨x0, x1, x2, x3, x4, rfl⟩ := list_five (show xs.length = 5 from hxl)
  simp only [List.getElem?_cons_zero, List.getElem?_cons_succ] at f0 f1 f2 f3 f4
  have hin : ∀ m ∈ DataW.weightsEach Try.prog [3, 3, 39, 49, 4] [x0.1, x1.1, x2.1, x3.1, x4.1], m ≤ reachBytes := by
    intro m hm
    have hd' : x.1 = .agg [x0.1, x1.1, x2.1, x3.1, x4.1] := by rw [hx]; rfl
    refine hw m ?_
    rw [hd']
    simp only [DataW.weights, Try.underlying72]
    exact hm
  obtain ⟨k0, e0, y0, w0⟩ := DataW.trod_int Try.underlying3 f0
  obtain ⟨k1, e1, y1, w1⟩ := DataW.trod_int Try.underlying3 f1
  obtain ⟨qb, eb, bs, rfl, hl, hle, hem, hrow, hnil⟩ := open_flags f2 fun m hm => hin m (DataW.weights_mem_each (j := 2) rfl rfl m hm)
  have h2 := opened3 siV (fun _ => True) Try.underlying49 Try.cells48 open_site f3 fun m hm => hin m (DataW.weights_mem_each (j := 3) rfl rfl m hm)
  rw [Try.bytes48] at h2
  obtain ⟨qs, es, L, rfl, hsl, hsm, hsb, hsr, -, hsn⟩ := h2
  obtain ⟨k4, e4, y4⟩ := DataW.trod_bool Try.underlying4 f4
  simp only [List.cons.injEq, and_true] at e0 e1 e4
  subst e0 e1 e4
  unfold reachBytes at hsb
  exact ⟨⟨k0, k1, qb, eb, bs, qs, es, L, k4⟩, rfl, hrow, hnil, hsr, by show L.length * 24 ≤ _; omega, fun h => ⟨by have h2 := hsn h; show L.length = 0; omega, hsn h⟩⟩
set_option maxRecDepth 20000 in
theorem open_bytes_val {H : Type} {enc : TypeId × Value → H} {W : World} {base : Nat} {v : Value} {d : DataW H} {p : List MemPlace} (hv : Value.okWide Try.prog W .any base 54 v)
    (h : DataW.Trod enc Try.prog W 0 (fun _ => true) true 54 v d p) {ts : List TypeId} {ds : List (DataW H)} (hsz : (DataW.weightsEach Try.prog ts ds).all (· ≤ reachBytes) = true) {j : Nat} (ht : ts[j]? = some 54) (hd : ds[j]? = some d) :
    ∃ (q : Option Addr) (n e : Nat) (xs : List Int), v = .slice q n e ∧ xs.length = n ∧ n ≤ 9223372036854775807 ∧ n ≤ e ∧ Row W q xs := by
  obtain ⟨q, n, e, rfl⟩ := Go.WideShapes.okWide_slice Try.underlying54 hv
  obtain ⟨xs, h1, h2, h3, h4, h5⟩ := opened h
  have := reach_slice hsz ht hd h5
  exact ⟨q, n, e, xs, rfl, h1, by omega, h2, h3⟩

/-- a script -/
theorem open_script {H : Type} {enc : TypeId × Value → H} {W : World} {fuel : Nat} {v : Value} {x : DataW H × List MemPlace} (h : DataW.trod enc Try.prog W 0 (fun _ => true) true fuel 70 [v] = some x) (hw : ∀ m ∈ x.1.weights Try.prog 70, m ≤ reachBytes) :
    ∃ (q : Option Addr) (e : Nat) (L : List OpD), v = .slice q L.length e ∧ L.length ≤ 9223372036854775807 ∧ Scr W q L := by
  rcases DataW.trod_slice Try.underlying70 h with ⟨hcs, hx⟩ | ⟨ad, l, cc, elems, rest, f, hfu, hcs, hx, _, hl, hm, hlen, hel, hsp, _⟩
  · simp only [List.cons.injEq, and_true] at hcs
    exact ⟨none, 0, [], by rw [hcs]; rfl, by decide, fun h => absurd h (by simp)⟩
  · simp only [List.cons.injEq, and_true] at hcs
    have hwi : ∀ i (hi : i < elems.length), ∀ m ∈ elems[i].1.weights Try.prog 72, m ≤ reachBytes := by
      intro i hi m hm
      refine hw m ?_
      rw [hx]
      simp only [DataW.weights, Try.underlying70]
      refine List.mem_cons_of_mem _ (List.mem_append_left _ (weights_all (i := i) ?_ hm))
      rw [List.getElem?_map, List.getElem?_eq_getElem hi]; rfl
    obtain ⟨L, hL, hP⟩ := list_ofG (P := fun i (y : OpD) => (∀ j u, (opL y)[j]? = some u → W.cell? ((ad.add (i * 5)).add j) = some u) ∧ OpW W y) l fun i hi => by
      have he := hel i hi
      rw [Try.cells72, List.getElem?_eq_getElem (by omega), Option.bind_eq_some_iff] at he
      obtain ⟨cs, hcs, htr⟩ := he
      obtain ⟨_, hcl, hcc⟩ := World.cells?_some hcs
      obtain ⟨y, hy, hp⟩ := open_op htr (hwi i (by omega))
      refine ⟨y, fun j u hu => ?_, hp⟩
      rw [← hy] at hu
      have hj : j < 5 := by rw [← hcl]; exact (List.getElem?_eq_some_iff.1 hu).1
      rw [hcc j hj]; exact hu
    unfold maxLen at hm
    refine ⟨some ad, cc, L, by rw [hcs, hL], by omega, fun h0 => ?_⟩
    obtain ⟨b, o, s⟩ := ad
    obtain rfl : s = none := by
      have := (hP 0 h0).1 0 _ rfl
      simpa [Addr.add] using World.cell?_spot this
    refine ⟨b, o, rfl, fun i y hy => ?_⟩
    obtain ⟨hi, rfl⟩ := List.getElem?_eq_some_iff.1 hy
    obtain ⟨hc, hW⟩ := hP i hi
    have g0 := hc 0 _ rfl
    have g1 := hc 1 _ rfl
    have g2 := hc 2 _ rfl
    have g3 := hc 3 _ rfl
    have g4 := hc 4 _ rfl
    rw [Addr.add_mid, Addr.add_mid] at g0 g1 g2 g3 g4
    exact ⟨⟨g0, g1, g2, g3, g4⟩, hW⟩

set_option maxRecDepth 20000 in
theorem open_script_val {H : Type} {enc : TypeId × Value → H} {W : World} {base : Nat} {v : Value} {d : DataW H} {p : List MemPlace} (hv : Value.okWide Try.prog W .any base 70 v)
    (h : DataW.Trod enc Try.prog W 0 (fun _ => true) true 70 v d p) {ts : List TypeId} {ds : List (DataW H)} (hsz : (DataW.weightsEach Try.prog ts ds).all (· ≤ reachBytes) = true) {j : Nat} (ht : ts[j]? = some 70) (hd : ds[j]? = some d) :
    ∃ (q : Option Addr) (e : Nat) (L : List OpD), v = .slice q L.length e ∧ L.length ≤ 9223372036854775807 ∧ Scr W q L := by
  obtain ⟨fuel, hf⟩ := h
  have hcs : v.cells.toList = [v] := by
    obtain ⟨_, _, _, rfl⟩ := Go.WideShapes.okWide_slice Try.underlying70 hv
    rfl
  rw [hcs] at hf
  exact open_script hf (weights_of hsz ht hd)

end Go.Proofs.Ytekggimgobeggaa

/- Copy. -/
namespace Go.Proofs.Ytekggimgobeggaa
open Go.RowKit Go.Sort

/-- a patcher upon another memory and other rounds -/
def cpyP (s : PS) (xs : List Int) (fs : List Bool) (n : Int) : PS := { s with xs := xs, fs := fs, n := n }
set_option maxRecDepth 20000 in
set_option maxHeartbeats 2000000 in
theorem pcopy_ok {w : World} {B pq mq mg rq bq : Nat} {lp : Option Addr} {lc : Nat} {s : PS} (h : PA w B pq mq mg rq bq lp lc s) {mq' mg' rq' : Nat} {xs : List Int} {fs : List Bool} {n : Int} (hm : Mem w B mq' mg' xs) (hr : Rnd w rq' fs n) (hxl : xs.length ≤ 65536) (hB : B ≤ rq') (hBw : B ≤ w.heap.size) :
    Calls Try.prog 16 #[.pointer (some ⟨pq, 0, none⟩), .pointer (some ⟨mq', 0, none⟩), .pointer (some ⟨rq', 0, none⟩)] w fun e w' => ∃ pq' bq', e = .returned (.pointer (some ⟨pq', 0, none⟩)) ∧ PA w' B pq' mq' mg' rq' bq' lp lc (cpyP s xs fs n) ∧ Below w.heap.size w w' ∧ w.heap.size ≤ pq' ∧ w.heap.size ≤ bq' := by
  have hnn := pnone_no pq bq w (h.c 2 rfl)
  have hms := missing_no hm hr hxl
  have HP := Hid.in h
  have HM := Hid.in hm
  have HR := Hid.in hr
  clear h hm hr
  go_enter Try.func16, Try.ntmps16
  go_wp2_with (go_at_call 40; refine Hid.out ?_)
  refine Lib.hid ?_
  refine hnn.mono ?_
  rintro e w1 ⟨rfl, hw⟩
  rw [hw]
  clear hw w1 hnn
  go_wp2_with (go_at_call 52; refine Hid.out ?_)
  refine Lib.hid ?_
  refine hms.mono ?_
  rintro e w1 ⟨rfl, hb⟩
  have HB1 := Hid.in hb
  have HP1 := Hid.in (HP.out.below hb)
  have HM1 := Hid.in (HM.out.below hb)
  have HR1 := Hid.in (HR.out.below hb)
  clear hb hms HP HM HR
  have hz : (patA mq rq bq lp lc s).size = 13 := rfl
  have HA : Hid ((patA mq rq bq lp lc s).all (·.oneCell') = true) := by show _ = true; kernel_rfl
  have HPB := Hid.in HP1.out.pat
  have HNW : Hid (Blk (w1.alloc (.cells #[.pointer none, .pointer none, .pointer none, .slice none 0 0, .bool false, .int .u8 0, .int .i64 0, .int .u8 0, .int .i64 0, .int .i64 0, .int .i64 0, .int .i64 0, .int .i64 0] 99)) w1.heap.size 99 #[.pointer none, .pointer none, .pointer none, .slice none 0 0, .bool false, .int .u8 0, .int .i64 0, .int .u8 0, .int .i64 0, .int .i64 0, .int .i64 0, .int .i64 0, .int .i64 0]) := Blk.new _ _ _
  go_wp2_with (first | (refine step_load_blk HPB.out rfl 99 _ rfl rfl (patA mq rq bq lp lc s) (List.prefix_refl _) _ Try.underlying99 rfl (by rw [hz]; kernel_rfl) ?_) | (refine step_store_blk HNW.out rfl 99 _ _ rfl rfl rfl (patA mq rq bq lp lc s) rfl (by rw [hz]; kernel_rfl) rfl HA.out ?_; intro w2 hb2 hg2; refine Hid.out ?_))
  refine Lib.hid ?_
  have HN2 := Hid.in hb2
  have HL2 : Hid (Below w1.heap.size w1 w2) := (new_alloc _ _).trans (below_grown hg2 (Nat.le_refl _) (by simp))
  have HP2 := Hid.in (HP1.out.below HL2.out)
  have HM2 := Hid.in (HM1.out.below HL2.out)
  have HR2 := Hid.in (HR1.out.below HL2.out)
  have HB2 := Hid.in (below_step HB1.out HL2.out)
  have HZ1 : Hid (w.heap.size ≤ w1.heap.size) := HB1.out.size
  clear hb2 hg2 HNW HPB HP1 HM1 HR1 HB1 HL2
  generalize w1.heap.size = pq' at *
  have c2 : w2.cell? ⟨pq, 2, none⟩ = some (.pointer (some ⟨bq, 0, none⟩)) := HP2.out.c 2 rfl
  go_wp2_with (go_at_call 54; refine Hid.out ?_)
  refine Lib.hid ?_
  refine (bcopy_any bq s.bt w2 HP2.out.bat).mono ?_
  rintro e w3 ⟨rfl, hb3, hl3⟩
  have HT3 := Hid.in hb3
  have HN3 := Hid.in (HN2.out.grow hl3)
  have HW3 := Hid.in (HP2.out.row.below hl3)
  have HM3 := Hid.in (HM2.out.below hl3)
  have HR3 := Hid.in (HR2.out.below hl3)
  have HB3 := Hid.in (below_step HB2.out hl3)
  have HZ2 : Hid (w.heap.size ≤ w2.heap.size) := HB2.out.size
  have HLC : Hid (s.left.length ≤ lc ∧ lc ≤ maxLen) := ⟨HP2.out.lcl, HP2.out.lcm⟩
  clear hb3 hl3 HP2 HN2 HM2 HR2 HB2 c2
  generalize w2.heap.size = bq' at *
  have e0 : w3.cell? ⟨pq', 0, none⟩ = some (.pointer (some ⟨mq, 0, none⟩)) := (HN3.out.cell 0).trans rfl
  have e1 : w3.cell? ⟨pq', 1, none⟩ = some (.pointer (some ⟨rq, 0, none⟩)) := (HN3.out.cell 1).trans rfl
  have e2 : w3.cell? ⟨pq', 2, none⟩ = some (.pointer (some ⟨bq, 0, none⟩)) := (HN3.out.cell 2).trans rfl
  have f0 := HN3.out.free 0
  have f1 := HN3.out.free 1
  have f2 := HN3.out.free 2
  go_wp2_with fail
  go_ret
  obtain ⟨cg, hcg⟩ := HM3.out.blkg
  have hg := ((grown_setCell w3 pq' 0 (.pointer (some ⟨mq', 0, none⟩))).trans (grown_setCell _ pq' 1 (.pointer (some ⟨rq', 0, none⟩)))).trans (grown_setCell _ pq' 2 (.pointer (some ⟨bq', 0, none⟩)))
  have hk := keeps_grown hg
  refine ⟨pq', bq', rfl, ?_, HB3.out.trans (below_grown hg HZ1.out HB3.out.size), HZ1.out, HZ2.out⟩
  exact ⟨((HN3.out.set 0 _).set 1 _).set 2 _, HW3.out.keeps hk (fun j hj => ⟨99, _, hj ▸ HN3.out, by decide⟩), HLC.out.1, HLC.out.2, HM3.out.keeps hk (blk_ne HM3.out.blk2 HN3.out (by decide)) (blk_ne hcg HN3.out (by decide)), ⟨HR3.out.le, HR3.out.blk.keeps hk (blk_ne HR3.out.blk HN3.out (by decide))⟩, ⟨HT3.out.le, HT3.out.srt, HT3.out.blk.keeps hk (blk_ne HT3.out.blk HN3.out (by decide))⟩, Nat.le_trans hBw HZ1.out, hB, Nat.le_trans hBw HZ2.out⟩
end Go.Proofs.Ytekggimgobeggaa

/- switchyardkit.CopySites. -/
namespace Go.Proofs.Ytekggimgobeggaa
open Go.RowKit

theorem tpushW {ops : Array Oper} {rest : List Oper} {o : Oper} {a : Act} {Q : Exit → Act → World → Prop} {t T : TypeId} {by_ : Nat} (he : Elem3 t T by_) (w : World) (hgd : o.guard = none) (s x : Operand)
    (ho : o.op = .call { callee := .builtin .append, args := #[s, x], argTypes := #[t, t] }) (B : Nat) (v : Value) (L : List V3) (hs : a.eval s = v) (hown : TOwn T w B v L)
    (ad : Addr) (c : Nat) (q : V3) (hq : one3 q) (hx : a.eval x = .slice (some ad) 1 c) (hnews : ∀ j u, (l3 q)[j]? = some u → w.cell? (ad.add j) = some u)
    (hlen : L.length ≤ 5864062014640) (hby : (L.length + 1) * by_ ≤ 140737488355328) (hB : B ≤ w.heap.size)
    (h : ∀ v' w', TOwn T w' B v' (L ++ [q]) → w.grownBy w' v.ownBlock → (∀ w0, Below B w0 w → Below B w0 w') → wpList Try.prog ops Q rest (a.put o.dst v') w') :
    wpList Try.prog ops Q (o :: rest) a w := by
  obtain ⟨hu, z, hzc, hinfo⟩ := he
  obtain ⟨i0, hi, hz0, hz1, hz2⟩ := info_parts hinfo
  refine wpList_append_own w hgd s x t ho B T i0 z 3 by_ hu hi hz0 hz1 hz2 hzc (by decide) v L.length (c3 L) hs hown ad 1 c (l3 q) hx rfl hnews (one3_mem hq) (by unfold maxLen; omega) hby hB ?_
  intro v' w' h2 h3 _
  refine h v' w' ?_ h3 (fun w0 hb => hb.grown h3 hB fun k hk => (World.ownsRow.lt hown k hk).1)
  unfold TOwn
  rw [List.length_append, c3_two]
  have e : c3 [q] = l3 q := by simp [c3]
  rw [e]
  exact h2

set_option maxRecDepth 20000 in
set_option maxHeartbeats 1000000 in
theorem copySites_any (p : Option Addr) (n c : Nat) (L : List Si) (w : World) (hn : L.length = n) (hn6 : n ≤ 5864062014634) (h1 : Row3 w p (L.map siV)) :
    Calls Try.prog 24 #[.slice p n c] w fun E w' => ∃ v, E = .returned v ∧ TOwn 48 w' w.heap.size v (L.map siV) ∧ Below w.heap.size w w' := by
  have HL := Hid.in hn
  have H1 := Hid.in h1
  clear hn h1
  go_enter Try.func24, Try.ntmps24
  go_wp2_with fail
  go_loopw [3, 4] (fun v vi wr => ∃ k : Nat, vi = .int .i64 k ∧ k ≤ n ∧ TOwn 48 wr w.heap.size v ((L.take k).map siV) ∧ Below w.heap.size w wr) (fun _ vi _ => n - (intOf vi).toNat)
  case atStart => exact ⟨0, rfl, Nat.zero_le _, TOwn.nil _ _ _, below_self _⟩
  case round =>
    obtain ⟨k, rfl, hk, hT, hb⟩ := hrel
    have HT := Hid.in hT
    have HB := Hid.in hb
    have hlen : ((L.take k).map siV).length = k := by rw [List.length_map, List.length_take, HL.out]; omega
    obtain ⟨pv, cv, hv, -, -, -⟩ := hT.shape
    rw [hlen] at hv
    subst hv
    have HLEN := Hid.in hlen
    clear hT hb hlen
    by_cases hlt : k < n
    · have hk1 : k < L.length := by rw [HL.out]; exact hlt
      obtain ⟨b, o, rfl, hc⟩ := (H1.out.below HB.out) (by rw [List.length_map]; omega)
      obtain ⟨c0, c1, c2⟩ := cells3 hc k (by rw [List.length_map]; exact hk1)
      simp only [List.getElem_map, siV] at c0 c1 c2
      have HTK : Hid ((L.take (k + 1)).map siV = (L.take k).map siV ++ [siV L[k]]) := by
        rw [List.take_succ_eq_append_getElem hk1, List.map_append]; exact rfl
      clear hc
      generalize (L.take k).map siV = LQ at *
      generalize L[k] = x at *
      have hl1 : LQ.length ≤ 5864062014640 := by have := HLEN.out; omega
      have hl2 : (LQ.length + 1) * 24 ≤ 140737488355328 := by have := HLEN.out; omega
      go_wp2_with (refine tpushW Try.elemSite _ rfl _ _ rfl w.heap.size _ LQ rfl (HT.out.alloc _) ⟨wr.heap.size, 0, none⟩ 1 (.int .i64 x.key, .int .i64 x.at_, .int .i64 x.to_) ⟨rfl, rfl, rfl⟩ rfl (news3 _ _ _) hl1 hl2 (by have := HB.out.size; simp; omega) ?_; intro v5 w5 hT5 hg5 hb5; have HT5 := Hid.in hT5; have HB5 := Hid.in (hb5 w (below_alloc HB.out _)); clear hT5 hg5 hb5)
      go_roundw
      case rel => exact ⟨k + 1, by go_num, by omega, by rw [HTK.out]; exact HT5.out, HB5.out⟩
      case measure => simp [intOf]; omega
    · have hkn : k = n := by omega
      subst hkn
      have HR : Hid ((L.take k).map siV = L.map siV) := by
        rw [List.take_of_length_le (by rw [HL.out]; exact Nat.le_refl _)]; exact rfl
      rw [HR.out] at HT
      go_wp2_with fail
      go_ret
      exact ⟨_, rfl, HT.out, HB.out⟩


end Go.Proofs.Ytekggimgobeggaa

/- PokePlays: what a round of the script keeps. -/
namespace Go.Proofs.Ytekggimgobeggaa
open Go.RowKit Go.Sort

def SrIs2 (w : World) (B pq mq mg rq bq : Nat) (s0 : PS) (lp0 : Option Addr) (a : PS × Int) : Ending → World → Prop := fun e w' => ∃ lp lc, e = .returned (.int .i64 a.2) ∧ PA w' B pq mq mg rq bq lp lc a.1 ∧ Keeps (GP pq mg rq bq) w w' ∧ ((a.1 = s0 ∧ lp = lp0) ∨ Hi w.heap.size lp)
set_option maxRecDepth 20000 in
set_option maxHeartbeats 2000000 in
theorem pstart2_any (B pq mq mg rq bq : Nat) (lp : Option Addr) (lc : Nat) (s : PS) (p : Option Addr) (c : Nat) (L : List Si) (up : Bool) (w : World) (h : PA w B pq mq mg rq bq lp lc s) (hB : B ≤ w.heap.size) (hxl : s.xs.length ≤ 65536) (hn : L.length * 24 ≤ 140737488355328) (hp : p = none → L = []) (hr : Row3 w p (L.map siV)) :
    Calls Try.prog 13 #[.pointer (some ⟨pq, 0, none⟩), .slice p L.length c, .bool up] w (SrIs2 w B pq mq mg rq bq s lp (strP s L up)) := by
  have hnn := pnone_no pq bq w (h.c 2 rfl)
  have c5 : w.cell? ⟨pq, 5, none⟩ = some (.int .u8 s.ph) := h.c 5 rfl
  have c0 : w.cell? ⟨pq, 0, none⟩ = some (.pointer (some ⟨mq, 0, none⟩)) := h.c 0 rfl
  have HP := Hid.in h
  by_cases h0 : s.ph = 0
  · rw [h0] at c5
    have hlen := mlen_any mq mg B s.xs w h.mem
    have hturn := turn_any p L.length c L s.xs.length w rfl (by omega) hr (by omega) (by omega)
    cases hm : mayF s.xs.length 0 L
    · rw [hm] at hturn
      have HR : Hid (∀ w', Below w.heap.size w w' → SrIs2 w B pq mq mg rq bq s lp (strP s L up) (.returned (.int .i64 2)) w') := fun w' hb => by
        unfold strP; rw [if_neg (fun hh => hh h0), if_neg (by rw [hm]; decide)]
        exact ⟨lp, lc, rfl, HP.out.below hb, Keeps.ofBelow hb, .inl ⟨rfl, rfl⟩⟩
      generalize SrIs2 w B pq mq mg rq bq s lp (strP s L up) = R at *
      clear h hr hp hn hm
      go_enter Try.func13, Try.ntmps13
      go_wp2_with (go_at_call 40; refine Hid.out ?_)
      refine Lib.hid ?_
      refine hnn.mono ?_
      rintro e w1 ⟨rfl, hw⟩
      rw [hw]
      clear hw w1 hnn
      go_wp2_with (go_at_call 49; refine Hid.out ?_)
      refine Lib.hid ?_
      refine hlen.mono ?_
      rintro e w1 ⟨rfl, hw⟩
      rw [hw]
      clear hw w1 hlen
      go_wp2_with (go_at_call 48; refine Hid.out ?_)
      refine Lib.hid ?_
      refine hturn.mono ?_
      rintro e w1 ⟨rfl, hb⟩
      have HB1 := Hid.in hb
      clear hb hturn
      go_wp2_with fail
      exact HR.out _ HB1.out
    · rw [hm] at hturn
      have HR : Hid (∀ w' lp' lc', PA w' B pq mq mg rq bq lp' lc' { s with left := L, up := up, ph := 1, ct := ⟨L.length, 0, 0, 1, 0⟩ } → Keeps (GP pq mg rq bq) w w' → Hi w.heap.size lp' → SrIs2 w B pq mq mg rq bq s lp (strP s L up) (.returned (.int .i64 0)) w') := fun w' lp' lc' hP hk hh => by
        unfold strP; rw [if_neg (fun hh => hh h0), if_pos hm]
        exact ⟨lp', lc', rfl, hP, hk, .inr hh⟩
      generalize SrIs2 w B pq mq mg rq bq s lp (strP s L up) = R at *
      have H1 := Hid.in hr
      clear h hr hm
      go_enter Try.func13, Try.ntmps13
      go_wp2_with (go_at_call 40; refine Hid.out ?_)
      refine Lib.hid ?_
      refine hnn.mono ?_
      rintro e w1 ⟨rfl, hw⟩
      rw [hw]
      clear hw w1 hnn
      go_wp2_with (go_at_call 49; refine Hid.out ?_)
      refine Lib.hid ?_
      refine hlen.mono ?_
      rintro e w1 ⟨rfl, hw⟩
      rw [hw]
      clear hw w1 hlen
      go_wp2_with (go_at_call 48; refine Hid.out ?_)
      refine Lib.hid ?_
      refine hturn.mono ?_
      rintro e w1 ⟨rfl, hb⟩
      have HB1 := Hid.in hb
      have HP1 := Hid.in (HP.out.below hb)
      clear hb hturn HP
      go_wp2_with (go_at_call 50; refine Hid.out ?_)
      refine Lib.hid ?_
      refine (clone_any p c L w1 hn hp (H1.out.below HB1.out)).mono ?_
      rintro e w2 ⟨v, rfl, ht, hb⟩
      have HB2 := Hid.in (below_step HB1.out hb)
      have HP2 := Hid.in (HP1.out.below hb)
      obtain ⟨vp, vc, hv, hvl, hvm, hrow⟩ := ht.rowS
      subst hv
      have HHI := Hid.in (ht.hi.mono HB1.out.size)
      have HRW : Hid (RowS w2 B vp L) := fun h00 => by
        obtain ⟨b, o, cur, e, hBb, hbb, hc⟩ := hrow h00
        exact ⟨b, o, cur, e, Nat.le_trans (Nat.le_trans hB HB1.out.size) hBb, hbb, hc⟩
      clear hb ht HP1 HB1 hrow c0 c5
      have c3 : w2.cell? ⟨pq, 3, none⟩ = some (.slice lp s.left.length lc) := HP2.out.c 3 rfl
      have c4 : w2.cell? ⟨pq, 4, none⟩ = some (.bool s.up) := HP2.out.c 4 rfl
      have c5 : w2.cell? ⟨pq, 5, none⟩ = some (.int .u8 s.ph) := HP2.out.c 5 rfl
      have c8 : w2.cell? ⟨pq, 8, none⟩ = some (.int .i64 s.ct.si) := HP2.out.c 8 rfl
      have c9 : w2.cell? ⟨pq, 9, none⟩ = some (.int .i64 s.ct.wr) := HP2.out.c 9 rfl
      have c10 : w2.cell? ⟨pq, 10, none⟩ = some (.int .i64 s.ct.ro) := HP2.out.c 10 rfl
      have c11 : w2.cell? ⟨pq, 11, none⟩ = some (.int .i64 s.ct.st) := HP2.out.c 11 rfl
      have c12 : w2.cell? ⟨pq, 12, none⟩ = some (.int .i64 s.ct.wa) := HP2.out.c 12 rfl
      have f3 := HP2.out.f 3
      have f4 := HP2.out.f 4
      have f5 := HP2.out.f 5
      have f8 := HP2.out.f 8
      have f9 := HP2.out.f 9
      have f10 := HP2.out.f 10
      have f11 := HP2.out.f 11
      have f12 := HP2.out.f 12
      go_wp2_with fail
      have hg := ((((((((grown_setCell w2 pq 3 (.slice vp L.length vc)).trans (grown_setCell _ pq 4 (.bool up))).trans (grown_setCell _ pq 5 (.int .u8 1))).trans (grown_setCell _ pq 8 (.int .i64 L.length))).trans (grown_setCell _ pq 9 (.int .i64 0))).trans (grown_setCell _ pq 10 (.int .i64 0))).trans (grown_setCell _ pq 11 (.int .i64 1))).trans (grown_setCell _ pq 12 (.int .i64 0)))
      have hb8 := ((((((((HP2.out.pat.set 3 (.slice vp L.length vc)).set 4 (.bool up)).set 5 (.int .u8 1)).set 8 (.int .i64 L.length)).set 9 (.int .i64 0)).set 10 (.int .i64 0)).set 11 (.int .i64 1)).set 12 (.int .i64 0))
      rw [pat8] at hb8
      exact HR.out _ vp vc (HP2.out.setP (s' := { s with left := L, up := up, ph := 1, ct := ⟨L.length, 0, 0, 1, 0⟩ }) hb8 hg HRW.out hvl hvm rfl rfl rfl rfl) ((Keeps.ofBelow HB2.out).trans' (keepsP hg)) HHI.out
  · have HR : Hid (SrIs2 w B pq mq mg rq bq s lp (strP s L up) (.returned (.int .i64 310)) w) := by
      unfold strP; rw [if_pos h0]; exact ⟨lp, lc, rfl, h, Keeps.refl _ _, .inl ⟨rfl, rfl⟩⟩
    generalize SrIs2 w B pq mq mg rq bq s lp (strP s L up) = R at *
    clear h hr HP
    have g0 : ¬ (s.ph : Int) = 0 := by omega
    go_enter Try.func13, Try.ntmps13
    go_wp2_with (go_at_call 40; refine Hid.out ?_)
    refine Lib.hid ?_
    refine hnn.mono ?_
    rintro e w1 ⟨rfl, hw⟩
    rw [hw]
    clear hw hnn
    go_wp2_with fail
    exact HR.out
theorem Keeps.belowG {G : Nat → Prop} {w w' : World} {A : Nat} (h : Keeps G w w') (hG : ∀ j, G j → A ≤ j) (hA : A ≤ w.heap.size) : Below A w w' :=
  ⟨h.os, h.tape, h.output, h.size, fun k hk => h.block k (by omega) (fun hg => by have := hG k hg; omega)⟩
/-- a patcher stays where none of its blocks turns -/
theorem PA.keep {G : Nat → Prop} {w w' : World} {B pq mq mg rq bq : Nat} {lp : Option Addr} {lc : Nat} {s : PS} (h : PA w B pq mq mg rq bq lp lc s) (hk : Keeps G w w') (hG : ∀ j, G j → j ≠ pq ∧ j ≠ mq ∧ j ≠ mg ∧ j ≠ rq ∧ j ≠ bq ∧ ∀ b o, lp = some ⟨b, o, none⟩ → 0 < s.left.length → j ≠ b) : PA w' B pq mq mg rq bq lp lc s := by
  refine ⟨h.pat.keeps hk (fun hg => (hG _ hg).1 rfl), fun h0 => ?_, h.lcl, h.lcm, h.mem.keeps hk (fun hg => (hG _ hg).2.1 rfl) (fun hg => (hG _ hg).2.2.1 rfl), ⟨h.rnd.le, h.rnd.blk.keeps hk (fun hg => (hG _ hg).2.2.2.1 rfl)⟩, ⟨h.bat.le, h.bat.srt, h.bat.blk.keeps hk (fun hg => (hG _ hg).2.2.2.2.1 rfl)⟩, h.gp, h.gr, h.gb⟩
  obtain ⟨b, o, cur, e, hB, hb, hc⟩ := h.row h0
  have hb' : Blk w' b 48 cur := hb.keeps hk (fun hg => (hG _ hg).2.2.2.2.2 b o e h0 rfl)
  exact ⟨b, o, cur, e, hB, hb', fun i hi j hj => by rw [hb'.cell, ← hb.cell]; exact hc i hi j hj⟩
theorem PA.ne {w : World} {B pq mq mg rq bq : Nat} {lp : Option Addr} {lc : Nat} {s : PS} (h : PA w B pq mq mg rq bq lp lc s) {j : Nat} {T : TypeId} {c : Array Value} (hj : Blk w j T c) (hT : T = 26 ∨ T = 66 ∨ T = 72 ∨ T = 64) : j ≠ pq ∧ j ≠ mq ∧ j ≠ mg ∧ j ≠ rq ∧ j ≠ bq ∧ ∀ b o, lp = some ⟨b, o, none⟩ → 0 < s.left.length → j ≠ b := by
  obtain ⟨cg, hcg⟩ := h.mem.blkg
  have hne : T ≠ 99 ∧ T ≠ 93 ∧ T ≠ 5 ∧ T ≠ 96 ∧ T ≠ 141 ∧ T ≠ 48 := by rcases hT with rfl | rfl | rfl | rfl <;> decide
  refine ⟨blk_ne hj h.pat hne.1, blk_ne hj h.mem.blk2 hne.2.1, blk_ne hj hcg hne.2.2.1, blk_ne hj h.rnd.blk hne.2.2.2.1, blk_ne hj h.bat.blk hne.2.2.2.2.1, fun b o e h0 => ?_⟩
  obtain ⟨b', o', cur, e', -, hb, -⟩ := h.row h0
  rw [e] at e'
  injection e' with e'
  injection e' with e1 _
  subst e1
  exact blk_ne hj hb hne.2.2.2.2.2
theorem PA.off {w w' : World} {B pq mq mg rq bq : Nat} {lp : Option Addr} {lc : Nat} {s : PS} (h : PA w B pq mq mg rq bq lp lc s) {g : Nat} {T : TypeId} {c : Array Value} (hj : Blk w g T c) (hT : T = 26 ∨ T = 66 ∨ T = 72 ∨ T = 64) (hk : w.grownBy w' (some g)) : PA w' B pq mq mg rq bq lp lc s :=
  h.keep (keeps_grown hk) (fun _ e => e ▸ h.ne hj hT)
/-- the document's lists stay where none of their blocks turns -/
theorem RM.keep {G : Nat → Prop} {w w' : World} {mg : Nat} {r : RD} {q : RP} (h : RM w mg r q) (hk : Keeps G w w') (hG : ∀ j, G j → ∀ b o, (q.bp = some ⟨b, o, none⟩ ∨ q.fp = some ⟨b, o, none⟩ ∨ q.tp = some ⟨b, o, none⟩ ∨ q.lp = some ⟨b, o, none⟩) → j = b → (∀ T c, Blk w b T c → T ≠ 4 ∧ T ≠ 5 ∧ T ≠ 48)) : RM w' mg r q := by
  refine ⟨fun h0 => ?_, fun h0 => ?_, fun h0 => ?_, fun h0 => ?_, h.hb, h.hf, h.ht, h.tn, h.hl⟩
  · obtain ⟨b, o, cur, e, hn, hB, hc⟩ := h.xs h0
    have hB' : Blk w' b 5 cur := hB.keeps hk (fun hg => (hG b hg b o (.inl e) rfl 5 cur hB).2.1 rfl)
    exact ⟨b, o, cur, e, hn, hB', fun i hi => (cell_of_blk hB hB').trans (hc i hi)⟩
  · obtain ⟨b, o, cur, e, hB, hc⟩ := h.fs h0
    have hB' : Blk w' b 4 cur := hB.keeps hk (fun hg => (hG b hg b o (.inr (.inl e)) rfl 4 cur hB).1 rfl)
    exact ⟨b, o, cur, e, hB', fun i hi => (cell_of_blk hB hB').trans (hc i hi)⟩
  · obtain ⟨b, o, cur, e, hz, hB, hc⟩ := h.bt h0
    have hB' : Blk w' b 48 cur := hB.keeps hk (fun hg => (hG b hg b o (.inr (.inr (.inl e))) rfl 48 cur hB).2.2 rfl)
    exact ⟨b, o, cur, e, hz, hB', fun i hi j hj => by rw [hB'.cell, ← hB.cell]; exact hc i hi j hj⟩
  · obtain ⟨b, o, cur, e, hz, hB, hc⟩ := h.lf h0
    have hB' : Blk w' b 48 cur := hB.keeps hk (fun hg => (hG b hg b o (.inr (.inr (.inr e))) rfl 48 cur hB).2.2 rfl)
    exact ⟨b, o, cur, e, hz, hB', fun i hi j hj => by rw [hB'.cell, ← hB.cell]; exact hc i hi j hj⟩
theorem RM.off {w w' : World} {mg g : Nat} {r : RD} {q : RP} {T : TypeId} {A : Array Value} (h : RM w mg r q) (hB : Blk w g T A) (hT : T = 26 ∨ T = 66 ∨ T = 72 ∨ T = 64) (hk : w.grownBy w' (some g)) : RM w' mg r q :=
  h.keep (keeps_grown hk) (fun j hj b o _ e T' c hb => by
    subst hj
    subst e
    have := hB.symm.trans hb
    simp only [Option.some.injEq, Obj.cells.injEq] at this
    have hTT := this.2.1
    rcases hT with rfl | rfl | rfl | rfl <;> subst hTT <;> decide)
/-- the same, rows that are empty left out -/
theorem RM.keepN {G : Nat → Prop} {w w' : World} {mg : Nat} {r : RD} {q : RP} (h : RM w mg r q) (hk : Keeps G w w') (hG : ∀ j, G j → (∀ b o, q.bp = some ⟨b, o, none⟩ → 0 < r.xs.length → j ≠ b) ∧ (∀ b o, q.fp = some ⟨b, o, none⟩ → 0 < r.fs.length → j ≠ b) ∧ (∀ b o, q.tp = some ⟨b, o, none⟩ → 0 < r.bt.length → j ≠ b) ∧ ∀ b o, q.lp = some ⟨b, o, none⟩ → 0 < r.lf.length → j ≠ b) : RM w' mg r q := by
  refine ⟨fun h0 => ?_, fun h0 => ?_, fun h0 => ?_, fun h0 => ?_, h.hb, h.hf, h.ht, h.tn, h.hl⟩
  · obtain ⟨b, o, cur, e, hn, hB, hc⟩ := h.xs h0
    have hB' : Blk w' b 5 cur := hB.keeps hk (fun hg => (hG b hg).1 b o e h0 rfl)
    exact ⟨b, o, cur, e, hn, hB', fun i hi => (cell_of_blk hB hB').trans (hc i hi)⟩
  · obtain ⟨b, o, cur, e, hB, hc⟩ := h.fs h0
    have hB' : Blk w' b 4 cur := hB.keeps hk (fun hg => (hG b hg).2.1 b o e h0 rfl)
    exact ⟨b, o, cur, e, hB', fun i hi => (cell_of_blk hB hB').trans (hc i hi)⟩
  · obtain ⟨b, o, cur, e, hz, hB, hc⟩ := h.bt h0
    have hB' : Blk w' b 48 cur := hB.keeps hk (fun hg => (hG b hg).2.2.1 b o e h0 rfl)
    exact ⟨b, o, cur, e, hz, hB', fun i hi j hj => by rw [hB'.cell, ← hB.cell]; exact hc i hi j hj⟩
  · obtain ⟨b, o, cur, e, hz, hB, hc⟩ := h.lf h0
    have hB' : Blk w' b 48 cur := hB.keeps hk (fun hg => (hG b hg).2.2.2 b o e h0 rfl)
    exact ⟨b, o, cur, e, hz, hB', fun i hi j hj => by rw [hB'.cell, ← hB.cell]; exact hc i hi j hj⟩
theorem step_store_in {ops : Array Oper} {rest : List Oper} {o : Oper} {a : Act} {w : World} {Q : Exit → Act → World → Prop} {g : Nat} {T : TypeId} {c : Array Value} (hB : Blk w g T c) (hg : o.guard = none) (t : TypeId) (p x : Operand) (ho : o.op = .store t p x) (hd : o.dst = none)
    (off : Nat) (hp : a.eval p = .pointer (some ⟨g, off, none⟩)) (c' : Array Value) (hx : a.eval x = .agg c') (hi : (Try.prog.info? t).map (·.size) = some c'.size) (hf : off + c'.size ≤ c.size) (h1 : c'.all (·.oneCell') = true)
    (h : ∀ w' c2, Blk w' g T c2 → c2.size = c.size → w.grownBy w' (some g) → wpList Try.prog ops Q rest a w') : wpList Try.prog ops Q (o :: rest) a w := by
  refine wpList_store_mid hg t p x ho g off c' hp hx (hB.there off _ hf) hi h1 ?_
  rw [hd]
  obtain ⟨c2, h2, h3⟩ := Blk.some_after g T c'.toList off w c hB
  exact h _ c2 h2 h3 (grown_setCells g _ _ _)
/-- what holds between two rows of the script -/
structure PT (w0 w : World) (gw gs : Nat) (M : Int) (pq mq mg rq bq : Nat) (lp : Option Addr) (lc : Nat) (s : PS) (r : RD) (q : RP) : Prop where
  pa : PA w w0.heap.size pq mq mg rq bq lp lc s
  bw : Blk w gw 26 (wA mq rq pq)
  bs : Blk w gs 66 (r.val q)
  sr : SR s r
  rm : RM w mg r q
  ok : POk s M
  bt : BtOk s.bt
  bl : Below w0.heap.size w0 w
  g0 : w0.heap.size ≤ gw ∧ w0.heap.size ≤ gs
theorem PT.below {w0 w w' : World} {gw gs : Nat} {M : Int} {pq mq mg rq bq : Nat} {lp : Option Addr} {lc : Nat} {s : PS} {r : RD} {q : RP} (h : PT w0 w gw gs M pq mq mg rq bq lp lc s r q) (hb : Below w.heap.size w w') : PT w0 w' gw gs M pq mq mg rq bq lp lc s r q :=
  ⟨h.pa.below hb, h.bw.grow hb, h.bs.grow hb, h.sr, h.rm.below hb, h.ok, h.bt, below_step h.bl hb, h.g0⟩
theorem PT.mgl {w0 w : World} {gw gs : Nat} {M : Int} {pq mq mg rq bq : Nat} {lp : Option Addr} {lc : Nat} {s : PS} {r : RD} {q : RP} (h : PT w0 w gw gs M pq mq mg rq bq lp lc s r q) : mg < w.heap.size := by
  obtain ⟨c, hc⟩ := h.pa.mem.blkg
  exact hc.lt
theorem PT.gp_ge {w0 w : World} {gw gs : Nat} {M : Int} {pq mq mg rq bq : Nat} {lp : Option Addr} {lc : Nat} {s : PS} {r : RD} {q : RP} (h : PT w0 w gw gs M pq mq mg rq bq lp lc s r q) (j : Nat) (hj : GP pq mg rq bq j) : w0.heap.size ≤ j := by
  rcases hj with rfl | rfl | rfl | rfl
  · exact h.pa.gp
  · exact h.pa.mem.own.base
  · exact h.pa.gr
  · exact h.pa.gb
/-- the patcher has turned, the document's state not yet -/
theorem PT.turned {w0 w w' : World} {gw gs : Nat} {M : Int} {pq mq mg rq bq : Nat} {lp : Option Addr} {lc : Nat} {s : PS} {r : RD} {q : RP} (h : PT w0 w gw gs M pq mq mg rq bq lp lc s r q) (hk : Keeps (GP pq mg rq bq) w w') : Blk w' gw 26 (wA mq rq pq) ∧ Blk w' gs 66 (r.val q) ∧ RM w' mg r q ∧ Below w0.heap.size w0 w' := by
  have hw := h.pa.ne h.bw (.inl rfl)
  have hs := h.pa.ne h.bs (.inr (.inl rfl))
  refine ⟨h.bw.keeps hk ?_, h.bs.keeps hk ?_, h.rm.keeps h.pa hk, h.bl.trans (hk.belowG h.gp_ge h.bl.size)⟩
  · rintro (e | e | e | e)
    · exact hw.1 e
    · exact hw.2.2.1 e
    · exact hw.2.2.2.1 e
    · exact hw.2.2.2.2.1 e
  · rintro (e | e | e | e)
    · exact hs.1 e
    · exact hs.2.2.1 e
    · exact hs.2.2.2.1 e
    · exact hs.2.2.2.2.1 e
end Go.Proofs.Ytekggimgobeggaa

/- made, once more: the document's bytes lie behind memory's. -/
namespace Go.Proofs.Ytekggimgobeggaa
open Go.RowKit Go.Sort

set_option maxRecDepth 20000 in
set_option maxHeartbeats 4000000 in
theorem made2_any (p : Option Addr) (n c : Nat) (xs : List Int) (harts : Int) (w : World) (hx : xs.length = n) (hn : n ≤ 9223372036854775807) (hnc : n ≤ c) (hr : Row w p xs) :
    Calls Try.prog 20 #[.slice p n c, .int .i64 harts] w fun e w' => ∃ k mq mg rq pq bq bv g, k = pkN harts 9 ∧ k < 9 ∧ e = .returned (.tuple #[.agg (wA mq rq pq), .agg (stA bv (.slice (some ⟨g, 0, none⟩) k k) 0 0 0 (.slice none 0 0) (.slice none 0 0) 0 false ⟨0, 0, 0, 0, 0⟩), .bool true]) ∧ PA w' w.heap.size pq mq mg rq bq none 0 (newP (xs.take 2000) (List.replicate k false) 0) ∧ (∃ A, mg < A ∧ OwnV w' A bv (xs.take 2000)) ∧ GOwn 4 w' w.heap.size g k (flgs (List.replicate k false)) ∧ Below w.heap.size w w' := by
  obtain ⟨ys, hye⟩ : ∃ ys, ys = xs.take 2000 := ⟨_, rfl⟩
  rw [← hye]
  have hry : Row w p ys := by
    rw [hye]
    intro h0
    rw [List.length_take] at h0
    obtain ⟨b, o, e, hc⟩ := hr (by omega)
    refine ⟨b, o, e, fun i hi => ?_⟩
    rw [List.length_take] at hi
    rw [hc i (by omega)]
    congr 2
    simp only [List.getD]
    rw [List.getElem?_take_of_lt (by omega)]
  obtain ⟨m, hm⟩ : ∃ m, ys.length = m := ⟨_, rfl⟩
  have hmn : m = Nat.min 2000 n := by rw [← hm, hye, List.length_take, hx]
  have hm2 : m ≤ 2000 := by rw [hmn]; exact Nat.min_le_left _ _
  have HV1 : Hid (2000 < n → m = 2000) := fun h => by rw [hmn]; exact Nat.min_eq_left (by omega)
  have HV2 : Hid (¬ 2000 < n → m = n) := fun h => by rw [hmn]; exact Nat.min_eq_right (by omega)
  have HP8 : Hid (2000 < n → ∃ b o, p = some ⟨b, o, none⟩) := fun h => by obtain ⟨b, o, e, -⟩ := hr (by omega); exact ⟨b, o, e⟩
  have HM := Hid.in hm
  have HRY := Hid.in hry
  clear hye hr hry hmn hm hx
  go_enter Try.func20, Try.ntmps20
  go_upto_if 18 with fail
  obtain ⟨w1, hw1⟩ : ∃ w1, w1 = (w.alloc (.cells #[.pointer none, .pointer none, .pointer none] 26)).alloc (.cells #[.slice none 0 0, .int .i64 0, .slice none 0 0, .int .u8 0, .int .u8 0, .slice none 0 0, .slice none 0 0, .int .i64 0, .bool false, .int .i64 0, .int .i64 0, .int .i64 0, .int .i64 0, .int .i64 0] 66) := ⟨_, rfl⟩
  rw [← hw1]
  have HB1 : Hid (Below w.heap.size w w1) := by rw [hw1]; exact below_alloc (new_alloc _ _) _
  have HW4 : Hid (Blk w1 w.heap.size 26 #[.pointer none, .pointer none, .pointer none]) := by rw [hw1]; exact (Blk.new _ _ _).grow (new_alloc _ _)
  have HW5 : Hid (Blk w1 (w.heap.size + 1) 66 #[.slice none 0 0, .int .i64 0, .slice none 0 0, .int .u8 0, .int .u8 0, .slice none 0 0, .slice none 0 0, .int .i64 0, .bool false, .int .i64 0, .int .i64 0, .int .i64 0, .int .i64 0, .int .i64 0]) := by
    rw [hw1]
    have hb := Blk.new (w.alloc (.cells #[.pointer none, .pointer none, .pointer none] 26)) 66 #[.slice none 0 0, .int .i64 0, .slice none 0 0, .int .u8 0, .int .u8 0, .slice none 0 0, .slice none 0 0, .int .i64 0, .bool false, .int .i64 0, .int .i64 0, .int .i64 0, .int .i64 0, .int .i64 0]
    rw [size_one] at hb
    exact hb
  have HRY1 := Hid.in (HRY.out.below HB1.out)
  clear hw1 HRY
  go_cut [0] (fun v wx => v = .slice p m c ∧ wx = w1)
  case first =>
    by_cases h8 : 2000 < n
    · have he := HV1.out h8
      obtain ⟨b0, o0, rfl⟩ := HP8.out h8
      have g2 : decide (2000 < n) = true := decide_eq_true h8
      clear HV1 HV2 HP8
      go_wp2_with fail
      go_meet
      case rel => exact ⟨by rw [he], rfl⟩
    · have HE := Hid.in (HV2.out h8)
      have g2 : decide (2000 < n) = false := decide_eq_false h8
      clear HV1 HV2 HP8
      go_wp2_with fail
      go_meet
      case rel => exact ⟨by rw [HE.out], rfl⟩
  case rest =>
  obtain ⟨rfl, hwc⟩ := hcut
  have hwc2 := hwc.symm
  clear hwc HV1 HV2 HP8
  subst hwc2
  go_wp2_with (go_at_call 36; refine Hid.out ?_)
  refine Lib.hid ?_
  refine (pick_is harts 9 (by decide) (by decide) w1).mono ?_
  rintro e w2 ⟨rfl, hw⟩
  rw [hw]
  clear hw w2
  have hk := pkN_lt harts 9 (by decide)
  obtain ⟨k, hke⟩ : ∃ k, k = pkN harts 9 := ⟨_, rfl⟩
  rw [← hke] at hk ⊢
  have HKE := Hid.in hke
  clear hke
  go_wp2_with (go_at_call 14; refine Hid.out ?_)
  refine Lib.hid ?_
  refine (mnew_ok p m c ys w1 HM.out (by omega) HRY1.out).mono ?_
  rintro e w2 ⟨mq, mg, rfl, hm2', hb2⟩
  have HM2 := Hid.in hm2'
  have HB2 := Hid.in hb2
  clear hm2' hb2
  go_wp2_with (go_at_call 60; refine Hid.out ?_)
  refine Lib.hid ?_
  refine (new_ok k w2 (by omega)).mono ?_
  rintro e w3 ⟨rfl, hr3, hb3⟩
  have HM3 := Hid.in (HM2.out.below hb3)
  have HR3 := Hid.in hr3
  have HB3 := Hid.in (below_step HB2.out hb3)
  have HZ3 : Hid (w1.heap.size ≤ w2.heap.size) := HB2.out.size
  clear hr3 hb3 HM2 HB2
  generalize w2.heap.size = rq at *
  go_wp2_with (go_at_call 15; refine Hid.out ?_)
  refine Lib.hid ?_
  refine (pnew_ok HM3.out HR3.out (by rw [HM.out]; omega) HZ3.out HB3.out.size).mono ?_
  rintro e w4 ⟨pq, bq, rfl, hp4, hb4, -, -⟩
  have HP4 := Hid.in hp4
  have HB4 := Hid.in (below_step HB3.out hb4)
  clear hp4 hb4 HM3 HR3 HB3
  go_wp2_with (go_at_call 61; refine Hid.out ?_)
  refine Lib.hid ?_
  refine (rnew_ok k w4 (by omega)).mono ?_
  rintro e w5 ⟨g, rfl, hg5, hb5⟩
  have HP5 := Hid.in (HP4.out.below hb5)
  have HB5 := Hid.in (below_step HB4.out hb5)
  have HG5 : Hid (GOwn 4 w5 w1.heap.size g k (flgs (List.replicate k false))) := hg5.lower (Nat.le_trans HB4.out.size hg5.base)
  clear hb5 hg5 HP4 HB4
  go_upto_region 8 with fail
  obtain ⟨w6, hw6⟩ : ∃ w6, w6 = w5.alloc (.cells #[.int .i64 0, .slice (some ⟨g, 0, none⟩) k k] 64) := ⟨_, rfl⟩
  rw [← hw6]
  have HP6 : Hid (PA w6 w1.heap.size pq mq mg rq bq none 0 (newP ys (List.replicate k false) 0)) := by rw [hw6]; exact HP5.out.below (new_alloc _ _)
  have HB6 : Hid (Below w1.heap.size w1 w6) := by rw [hw6]; exact below_alloc HB5.out _
  have HG6 : Hid (GOwn 4 w6 w1.heap.size g k (flgs (List.replicate k false))) := by rw [hw6]; exact HG5.out.below (new_alloc _ _)
  have HX6 : Hid (Blk w6 w5.heap.size 64 #[.int .i64 0, .slice (some ⟨g, 0, none⟩) k k]) := by rw [hw6]; exact Blk.new _ _ _
  have HGE : Hid (w1.heap.size ≤ w5.heap.size) := HB5.out.size
  clear hw6 HP5 HB5 HG5
  generalize w5.heap.size = r14 at *
  have e0 : w6.cell? ⟨r14, 0, none⟩ = some (.int .i64 0) := (HX6.out.cell 0).trans rfl
  have e1 : w6.cell? ⟨r14, 1, none⟩ = some (.slice (some ⟨g, 0, none⟩) k k) := (HX6.out.cell 1).trans rfl
  have HRY6 := Hid.in (HRY1.out.below HB6.out)
  have HW4' := Hid.in (HW4.out.below HB6.out HW4.out.lt)
  have HW5' := Hid.in (HW5.out.below HB6.out HW5.out.lt)
  have HN4 : Hid (w.heap.size < w1.heap.size) := HW4.out.lt
  have HN5 : Hid (w.heap.size + 1 < w1.heap.size) := HW5.out.lt
  clear e0 e1
  have hw0 : IntKind.i64.wrap 0 = 0 := by rw [IntKind.wrap_i64]; decide
  refine wp_region_noPanic ?_
  refine wp_region_G (fun W => Blk W r14 64 #[.int .i64 0, .slice (some ⟨g, 0, none⟩) k k]) [] (by kernel_rfl) ?_
  refine wpAnyG_takeW (i := 0) (v := .pointer (some ⟨mq, 0, none⟩)) rfl (by kernel_rfl) (by kernel_rfl) (by kernel_rfl) (fun _ _ _ h => h) (Closed.start _) (by kernel_rfl) (fun W => by go_simp) ?_
  go_simp
  refine wpAnyG_takeW (i := 1) (v := .pointer (some ⟨rq, 0, none⟩)) rfl (by kernel_rfl) (by kernel_rfl) (by kernel_rfl) (fun _ _ _ h => h) (Closed.step (j := 0) (Closed.start _) (by kernel_rfl)) (by kernel_rfl) (fun W => by go_simp) ?_
  go_simp
  refine wpAnyG_takeW (i := 2) (v := .pointer (some ⟨pq, 0, none⟩)) rfl (by kernel_rfl) (by kernel_rfl) (by kernel_rfl) (fun _ _ _ h => h) (Closed.step (j := 1) (Closed.step (j := 0) (Closed.start _) (by kernel_rfl)) (by kernel_rfl)) (by kernel_rfl) (fun W => by go_simp) ?_
  go_simp
  refine wpAnyG_takeW (i := 3) (v := .agg (wA mq rq pq)) rfl (by kernel_rfl) (by kernel_rfl) (by kernel_rfl) (fun _ _ _ h => h) (Closed.step (j := 2) (Closed.step (j := 1) (Closed.step (j := 0) (Closed.start _) (by kernel_rfl)) (by kernel_rfl)) (by kernel_rfl)) (by kernel_rfl) (fun W => by go_simp) ?_
  go_simp
  refine wpAnyG_takeW (i := 4) (v := .slice p m c) rfl (by kernel_rfl) (by kernel_rfl) (by kernel_rfl) (fun _ _ _ h => h) (Closed.step (j := 3) (Closed.step (j := 2) (Closed.step (j := 1) (Closed.step (j := 0) (Closed.start _) (by kernel_rfl)) (by kernel_rfl)) (by kernel_rfl)) (by kernel_rfl)) (by kernel_rfl) (fun W => by go_simp) ?_
  go_simp
  refine wpAnyG_takeW (i := 8) (v := .int .i64 0) rfl (by kernel_rfl) (by kernel_rfl) (by kernel_rfl) (fun _ _ _ h => h) (Closed.step (j := 4) (Closed.step (j := 3) (Closed.step (j := 2) (Closed.step (j := 1) (Closed.step (j := 0) (Closed.start _) (by kernel_rfl)) (by kernel_rfl)) (by kernel_rfl)) (by kernel_rfl)) (by kernel_rfl)) (by kernel_rfl) (fun W => by go_simp) ?_
  go_simp
  refine wpAnyG_takeW (i := 9) (v := .int .i64 0) rfl (by kernel_rfl) (by kernel_rfl) (by kernel_rfl) (fun _ _ _ h => h) (Closed.step (j := 8) (Closed.step (j := 4) (Closed.step (j := 3) (Closed.step (j := 2) (Closed.step (j := 1) (Closed.step (j := 0) (Closed.start _) (by kernel_rfl)) (by kernel_rfl)) (by kernel_rfl)) (by kernel_rfl)) (by kernel_rfl)) (by kernel_rfl)) (by kernel_rfl) (fun W => by go_simp) ?_
  go_simp
  refine wpAnyG_takeW (i := 10) (v := .int .i64 0) rfl (by kernel_rfl) (by kernel_rfl) (by kernel_rfl) (fun _ _ _ h => h) (Closed.step (j := 9) (Closed.step (j := 8) (Closed.step (j := 4) (Closed.step (j := 3) (Closed.step (j := 2) (Closed.step (j := 1) (Closed.step (j := 0) (Closed.start _) (by kernel_rfl)) (by kernel_rfl)) (by kernel_rfl)) (by kernel_rfl)) (by kernel_rfl)) (by kernel_rfl)) (by kernel_rfl)) (by kernel_rfl) (fun W => by go_simp) ?_
  go_simp
  refine wpAnyG_takeW (i := 11) (v := .int .i64 0) rfl (by kernel_rfl) (by kernel_rfl) (by kernel_rfl) (fun _ _ _ h => h) (Closed.step (j := 10) (Closed.step (j := 9) (Closed.step (j := 8) (Closed.step (j := 4) (Closed.step (j := 3) (Closed.step (j := 2) (Closed.step (j := 1) (Closed.step (j := 0) (Closed.start _) (by kernel_rfl)) (by kernel_rfl)) (by kernel_rfl)) (by kernel_rfl)) (by kernel_rfl)) (by kernel_rfl)) (by kernel_rfl)) (by kernel_rfl)) (by kernel_rfl) (fun W => by go_simp) ?_
  go_simp
  refine wpAnyG_takeW (i := 12) (v := .int .i64 0) rfl (by kernel_rfl) (by kernel_rfl) (by kernel_rfl) (fun _ _ _ h => h) (Closed.step (j := 11) (Closed.step (j := 10) (Closed.step (j := 9) (Closed.step (j := 8) (Closed.step (j := 4) (Closed.step (j := 3) (Closed.step (j := 2) (Closed.step (j := 1) (Closed.step (j := 0) (Closed.start _) (by kernel_rfl)) (by kernel_rfl)) (by kernel_rfl)) (by kernel_rfl)) (by kernel_rfl)) (by kernel_rfl)) (by kernel_rfl)) (by kernel_rfl)) (by kernel_rfl)) (by kernel_rfl) (fun W => by go_simp) ?_
  go_simp
  refine wpAnyG_takeW (i := 13) (v := .bool true) rfl (by kernel_rfl) (by kernel_rfl) (by kernel_rfl) (fun _ _ _ h => h) (Closed.step (j := 12) (Closed.step (j := 11) (Closed.step (j := 10) (Closed.step (j := 9) (Closed.step (j := 8) (Closed.step (j := 4) (Closed.step (j := 3) (Closed.step (j := 2) (Closed.step (j := 1) (Closed.step (j := 0) (Closed.start _) (by kernel_rfl)) (by kernel_rfl)) (by kernel_rfl)) (by kernel_rfl)) (by kernel_rfl)) (by kernel_rfl)) (by kernel_rfl)) (by kernel_rfl)) (by kernel_rfl)) (by kernel_rfl)) (by kernel_rfl) (fun W => by go_simp) ?_
  go_simp
  refine wpAnyG_takeS (i := 6) (v := .agg #[.int .i64 0, .slice (some ⟨g, 0, none⟩) k k]) rfl (by kernel_rfl) (by kernel_rfl) (by kernel_rfl) (by kernel_rfl) (fun _ _ _ _ _ h => h) (Closed.step (j := 13) (Closed.step (j := 12) (Closed.step (j := 11) (Closed.step (j := 10) (Closed.step (j := 9) (Closed.step (j := 8) (Closed.step (j := 4) (Closed.step (j := 3) (Closed.step (j := 2) (Closed.step (j := 1) (Closed.step (j := 0) (Closed.start _) (by kernel_rfl)) (by kernel_rfl)) (by kernel_rfl)) (by kernel_rfl)) (by kernel_rfl)) (by kernel_rfl)) (by kernel_rfl)) (by kernel_rfl)) (by kernel_rfl)) (by kernel_rfl)) (by kernel_rfl)) (by kernel_rfl) HX6.out (fun W hW => by
    have q0 : W.cell? ⟨r14, 0, none⟩ = some (.int .i64 0) := (hW.cell 0).trans rfl
    have q1 : W.cell? ⟨r14, 1, none⟩ = some (.slice (some ⟨g, 0, none⟩) k k) := (hW.cell 1).trans rfl
    clear hW
    go_simp) ?_
  go_simp
  refine wpAnyG_one (i := 5) (by kernel_rfl) rfl (fun K hK => ?_)
  go_simp
  go_at_call 62
  refine (copy_any p m c ys w6.drew HM.out (by omega) HRY6.out).mono ?_
  rintro e w7 ⟨bv, rfl, ho7, hb7'⟩
  have hb7 : Below w6.heap.size w6 w7 := (Below.refl w6.heap.size w6).drew.trans hb7'
  have HO7 := Hid.in ho7
  have HP7 := Hid.in (HP6.out.below hb7)
  have HG7 := Hid.in (HG6.out.below hb7)
  have HB7 := Hid.in (below_step HB6.out hb7)
  have HX7 := Hid.in (HX6.out.grow hb7)
  have HF4 := Hid.in (HW4'.out.grow hb7)
  have HF5 := Hid.in (HW5'.out.grow hb7)
  have HZ7 : Hid (w1.heap.size ≤ w6.heap.size) := HB6.out.size
  have HMG : Hid (mg < w6.heap.size) := HP6.out.mem.own.lt
  have HR14 : Hid (w1.heap.size ≤ r14) := HGE.out
  obtain ⟨bp, bc, hbv, -, -⟩ := ho7.slice
  rw [HM.out] at hbv
  subst hbv
  clear ho7 hb7 hb7' HP6 HG6 HB6 HX6 HW4' HW5' HRY6
  refine hK.out _ _ HX7.out (fun _ => ?_)
  clear hK
  go_simp
  refine wpAnyG_takeW (i := 7) (v := .agg (stA (.slice bp m bc) (.slice (some ⟨g, 0, none⟩) k k) 0 0 0 (.slice none 0 0) (.slice none 0 0) 0 false ⟨0, 0, 0, 0, 0⟩)) rfl (by kernel_rfl) (by kernel_rfl) (by kernel_rfl) (fun _ _ _ h => h) (Closed.step (j := 5) (Closed.step (j := 6) (Closed.step (j := 13) (Closed.step (j := 12) (Closed.step (j := 11) (Closed.step (j := 10) (Closed.step (j := 9) (Closed.step (j := 8) (Closed.step (j := 4) (Closed.step (j := 3) (Closed.step (j := 2) (Closed.step (j := 1) (Closed.step (j := 0) (Closed.start _) (by kernel_rfl)) (by kernel_rfl)) (by kernel_rfl)) (by kernel_rfl)) (by kernel_rfl)) (by kernel_rfl)) (by kernel_rfl)) (by kernel_rfl)) (by kernel_rfl)) (by kernel_rfl)) (by kernel_rfl)) (by kernel_rfl)) (by kernel_rfl)) (by kernel_rfl) (fun W => by go_simp; rfl) ?_
  go_simp
  refine wpAnyG_one (i := 14) (by kernel_rfl) rfl (fun K hK => ?_)
  refine step_store_whole rfl _ _ _ rfl rfl HF4.out (wA mq rq pq) rfl rfl (by kernel_rfl) rfl (by kernel_rfl) ?_
  intro w8 HS8 HG8'
  have hne4 : r14 ≠ w.heap.size := by have h1 := HN4.out; have h2 := HR14.out; omega
  refine hK.out _ _ (HX7.out.kept HG8'.out (fun e => hne4 (by injection e))) (fun _ => ?_)
  clear hK
  have HF5' := Hid.in (HF5.out.kept HG8'.out (fun e => by injection e with e; omega))
  refine wpAnyG_one (i := 15) (by kernel_rfl) rfl (fun K hK => ?_)
  refine step_store_whole rfl _ _ _ rfl rfl HF5'.out (stA (.slice bp m bc) (.slice (some ⟨g, 0, none⟩) k k) 0 0 0 (.slice none 0 0) (.slice none 0 0) 0 false ⟨0, 0, 0, 0, 0⟩) rfl rfl (by kernel_rfl) rfl (by kernel_rfl) ?_
  intro w9 HS9 HG9'
  have hne5 : r14 ≠ w.heap.size + 1 := by have h1 := HN5.out; have h2 := HR14.out; omega
  refine hK.out _ _ ((HX7.out.kept HG8'.out (fun e => hne4 (by injection e))).kept HG9'.out (fun e => hne5 (by injection e))) (fun _ => ?_)
  clear hK
  refine wpAnyG_one (i := 16) (by kernel_rfl) rfl (fun K hK => ?_)
  go_simp
  refine hK.out _ _ ((HX7.out.kept HG8'.out (fun e => hne4 (by injection e))).kept HG9'.out (fun e => hne5 (by injection e))) (fun _ => ?_)
  clear hK
  refine wpAnyG_done (by kernel_rfl) ?_ _
  refine NoPanic.normal ?_
  have HS8' := Hid.in (HS8.out.kept HG9'.out (fun e => by injection e with e; omega))
  have hG4 : ∀ j, (fun j => j = w.heap.size) j → j < w1.heap.size := fun j hj => by have := HN4.out; subst hj; exact this
  have hG5 : ∀ j, (fun j => j = w.heap.size + 1) j → j < w1.heap.size := fun j hj => by have := HN5.out; subst hj; exact this
  have HP9 := Hid.in ((HP7.out.keeps (keeps_grown HG8'.out) hG4).keeps (keeps_grown HG9'.out) hG5)
  have HGG := Hid.in ((HG7.out.grown HG8'.out (fun e => by have h1 := HG7.out.base; have h2 := HN4.out; omega)).grown HG9'.out (fun e => by have h1 := HG7.out.base; have h2 := HN5.out; omega))
  have HOO : Hid (OwnV w9 w6.heap.size (.slice bp m bc) ys) := by
    refine ownV_kept (ownV_kept HO7.out HG8'.out ?_) HG9'.out ?_
    · have h1 := HN4.out; have h2 := HZ7.out; omega
    · have h1 := HN5.out; have h2 := HZ7.out; omega
  have HBB : Hid (Below w.heap.size w w9) := ((below_step HB1.out HB7.out).trans (below_grown HG8'.out (Nat.le_refl _) (Nat.le_trans HB1.out.size HB7.out.size))).trans (below_grown HG9'.out (Nat.le_succ _) (Nat.le_trans (Nat.le_trans HB1.out.size HB7.out.size) HG8'.out.size))
  clear HG8' HG9' HO7 HG7 HP7 HB7 HX7 HF4 HF5 HF5' HS8
  go_simp
  go_wp2_with fail
  refine bodyPost_ret (v := .tuple #[.agg (wA mq rq pq), .agg (stA (.slice bp m bc) (.slice (some ⟨g, 0, none⟩) k k) 0 0 0 (.slice none 0 0) (.slice none 0 0) 0 false ⟨0, 0, 0, 0, 0⟩), .bool true]) (res20 HS8'.out HS9.out rfl rfl rfl) rfl ?_
  have hlow : w.heap.size ≤ w1.heap.size := HB1.out.size
  rw [← HKE.out]
  exact ⟨hk, mq, mg, rq, pq, bq, _, g, rfl, HP9.out.lowB hlow, ⟨_, HMG.out, HOO.out⟩, (by have hgg := HGG.out.lower (Nat.le_trans hlow HGG.out.base); simpa [flgs] using hgg), HBB.out⟩
end Go.Proofs.Ytekggimgobeggaa

/- PokePlays: what the walk keeps. -/
namespace Go.Proofs.Ytekggimgobeggaa
open Go.RowKit Go.Sort

/-- the beginning: both are new -/
theorem sr_new (xs : List Int) (k : Nat) (hk : k < 9) : SR (newP xs (List.replicate k false) 0) (RD.mk xs 0 (List.replicate k false) 0 0 [] [] 0 false ⟨0, 0, 0, 0, 0⟩) :=
  ⟨rfl, rfl, rfl, rfl, rfl, rfl, rfl, rfl, fun h => absurd h (by show ¬ 2 ≤ 0; omega), fun h => absurd h (by show ¬ 0 = 5; omega), fun _ => rfl, fun _ => by show 0 < 4; decide, fun x h => by simp at h, List.Pairwise.nil, by simp; omega, Nat.zero_le _⟩
def PTx (w0 w : World) (gw gs : Nat) (M : Int) : Prop := ∃ pq mq mg rq bq lp lc s r q, PT w0 w gw gs M pq mq mg rq bq lp lc s r q
theorem pt_new {w0 w w2 : World} {mq mg rq pq bq g k : Nat} {bv : Value} {xs : List Int} (hk : k < 9) (hxl : xs.length ≤ 65536) (hpa : PA w w0.heap.size pq mq mg rq bq none 0 (newP xs (List.replicate k false) 0)) (hbv : ∃ A, mg < A ∧ OwnV w A bv xs) (hgo : GOwn 4 w w0.heap.size g k (flgs (List.replicate k false))) (hb : Below w0.heap.size w0 w) {gw gs : Nat} (hw2 : Below w.heap.size w w2) (h1 : Blk w2 gw 26 (wA mq rq pq)) (h2 : Blk w2 gs 66 (stA bv (.slice (some ⟨g, 0, none⟩) k k) 0 0 0 (.slice none 0 0) (.slice none 0 0) 0 false ⟨0, 0, 0, 0, 0⟩)) (h3 : w0.heap.size ≤ gw) (h4 : w0.heap.size ≤ gs) : PTx w0 w2 gw gs 0 := by
  obtain ⟨A, hA, ho⟩ := hbv
  obtain ⟨p, c, rfl, hc, hrb⟩ := ho.rowB hA
  have hgv : GOwnV 4 w w0.heap.size (.slice (some ⟨g, 0, none⟩) k k) (flgs (List.replicate k false)) := by
    have := hgo.val
    simpa [flgs] using this
  obtain ⟨p', c', e, hc', hrf⟩ := hgv.rowF
  rw [List.length_replicate] at e hc'
  injection e with e1 _ e3
  subst e1
  subst e3
  refine ⟨pq, mq, mg, rq, bq, none, 0, newP xs (List.replicate k false) 0, RD.mk xs 0 (List.replicate k false) 0 0 [] [] 0 false ⟨0, 0, 0, 0, 0⟩, ⟨p, c, some ⟨g, 0, none⟩, k, none, 0, none, 0⟩, hpa.below hw2, h1, ?_, sr_new xs k hk, ?_, ?_, ?_, below_step hb hw2, h3, h4⟩
  · have e : (RD.mk xs 0 (List.replicate k false) 0 0 [] [] 0 false ⟨0, 0, 0, 0, 0⟩).val ⟨p, c, some ⟨g, 0, none⟩, k, none, 0, none, 0⟩ = stA (.slice p xs.length c) (.slice (some ⟨g, 0, none⟩) k k) 0 0 0 (.slice none 0 0) (.slice none 0 0) 0 false ⟨0, 0, 0, 0, 0⟩ := by
      simp [RD.val, stA]
    rw [e]; exact h2
  · exact ⟨hrb.below hw2, hrf.below hw2, RowS.nil _ _ _, RowS.nil _ _ _, hc, by simp, Nat.le_refl _, fun _ => rfl, Nat.le_refl _, Nat.zero_le _⟩
  · exact ⟨Nat.zero_le _, Nat.zero_le _, Nat.le_refl _, fun _ => rfl, ⟨Int.le_refl 0, Int.le_refl 0⟩, ⟨Int.le_refl 0, Int.le_refl 0⟩, ⟨Int.le_refl 0, Int.le_refl 0⟩, ⟨Int.le_refl 0, Int.le_refl 0⟩, ⟨Int.le_refl 0, Int.le_refl 0⟩, hxl⟩
  · exact btOk_nil
theorem RM.turn {w0 w : World} {mg mg' : Nat} {r : RD} {q : RP} (h0 : RM w0 mg r q) (h : RM w mg r q) (hA : w0.heap.size ≤ mg') : RM w mg' r q := by
  refine ⟨fun hl => ?_, h.fs, h.bt, h.lf, h.hb, h.hf, h.ht, h.tn, h.hl⟩
  obtain ⟨b, o, cur, e, -, hB, hc⟩ := h.xs hl
  obtain ⟨b0, o0, cur0, e0, -, hB0, -⟩ := h0.xs hl
  rw [e] at e0
  injection e0 with e0
  injection e0 with e1 _
  subst e1
  have := hB0.lt
  exact ⟨b, o, cur, e, by omega, hB, hc⟩
theorem Mem.lowM {w : World} {B B' q g : Nat} {xs : List Int} (h : Mem w B q g xs) (hB : B' ≤ B) : Mem w B' q g xs := ⟨h.blk, h.own.lower hB, Nat.le_trans hB h.base, h.ne⟩
/-- the old one goes on, the copy stays -/
theorem PA.apart {w w' : World} {B pq mq mg rq bq pq' mq' mg' rq' bq' A : Nat} {lp lp' : Option Addr} {lc lc' : Nat} {s s' : PS} (h : PA w B pq' mq' mg' rq' bq' lp lc s) (ho : PA w B pq mq mg rq bq lp' lc' s') (hk : Keeps (GP pq mg rq bq) w w') (hA : pq < A ∧ mg < A ∧ rq < A ∧ bq < A) (hA' : A ≤ pq' ∧ A ≤ mq' ∧ A ≤ mg' ∧ A ≤ rq' ∧ A ≤ bq') : PA w' B pq' mq' mg' rq' bq' lp lc s := by
  refine h.keep hk (fun j hj => ?_)
  have hjA : j < A := by rcases hj with rfl | rfl | rfl | rfl <;> omega
  refine ⟨by omega, by omega, by omega, by omega, by omega, fun b o e h0 => ?_⟩
  obtain ⟨b', o', cur, e', -, hb, -⟩ := h.row h0
  rw [e] at e'
  injection e' with e'
  injection e' with e1 _
  subst e1
  rcases gp_types ho hj with ⟨-, c, h1⟩ | ⟨T, c, h1, -, -, h2⟩
  · exact blk_ne h1 hb (by decide)
  · exact blk_ne h1 hb h2
theorem ne_gp {j pq mq mg rq bq : Nat} {P : Prop} (h : j ≠ pq ∧ j ≠ mq ∧ j ≠ mg ∧ j ≠ rq ∧ j ≠ bq ∧ P) : ¬ GP pq mg rq bq j := by
  rintro (e | e | e | e)
  · exact h.1 e
  · exact h.2.2.1 e
  · exact h.2.2.2.1 e
  · exact h.2.2.2.2.1 e
theorem gp_ge {w : World} {B pq mq mg rq bq : Nat} {lp : Option Addr} {lc : Nat} {s : PS} (h : PA w B pq mq mg rq bq lp lc s) (j : Nat) (hj : GP pq mg rq bq j) : B ≤ j := by
  rcases hj with rfl | rfl | rfl | rfl
  · exact h.gp
  · exact h.mem.own.base
  · exact h.gr
  · exact h.gb
theorem TOwn.gin {w : World} {B n c : Nat} {p : Option Addr} {L : List V3} (h : TOwn 48 w B (.slice p n c) L) (h0 : 0 < n) : ∃ g cur, p = some ⟨g, 0, none⟩ ∧ B ≤ g ∧ Blk w g 48 cur ∧ n * 3 ≤ cur.size := by
  rcases h.2 with h2 | ⟨g, cap, cur, h1, h2, h3, h4, h5, h6, -⟩
  · have := h2.1
    injection this with _ e
    omega
  · injection h1 with e1 e2 e3
    refine ⟨g, cur, e1, h2, h3, ?_⟩
    rw [h6, e2]
    exact Nat.mul_le_mul_right _ h4
theorem start_ok {s : PS} {M : Int} (h : POk s M) (hM : 0 ≤ M) (L : List Si) (up : Bool) : POk (strP s L up).1 (M + 1) ∧ (strP s L up).1.bt = s.bt := by
  have hm := h.mono (show M ≤ M + 1 by omega)
  unfold strP
  by_cases h0 : s.ph = 0
  · have h0' : ¬ s.ph ≠ 0 := fun e => e h0
    rw [if_neg h0']
    split
    · have hw : s.wr = 0 := h.w2 (by omega)
      exact ⟨⟨by show 1 ≤ 6; decide, h.nx, h.w1, fun _ => hw, ⟨by show (0 : Int) ≤ 0; decide, by show (0 : Int) ≤ _; omega⟩, ⟨by show (0 : Int) ≤ 0; decide, by show (0 : Int) ≤ _; omega⟩, ⟨by show (0 : Int) ≤ 1; decide, by show (1 : Int) ≤ _; omega⟩, ⟨by show (0 : Int) ≤ 0; decide, by show (0 : Int) ≤ _; omega⟩, hm.n, h.xl⟩, rfl⟩
    · exact ⟨hm, rfl⟩
  · rw [if_pos h0]
    exact ⟨hm, rfl⟩
theorem strR_bt (r : RD) (L : List Si) (up : Bool) : (strR r L up).1.bt = r.bt := by
  unfold strR
  split
  · rfl
  · split <;> rfl
/-- a list of the law's own is written over -/
theorem PT.over {w0 w w' : World} {gw gs : Nat} {M : Int} {pq mq mg rq bq : Nat} {lp : Option Addr} {lc : Nat} {s : PS} {r : RD} {q : RP} (h : PT w0 w gw gs M pq mq mg rq bq lp lc s r q) {gin : Nat} {N : Prop} (hk : Keeps (fun j => N ∧ j = gin) w w') (hb : N → ∃ c, Blk w gin 48 c) (hge : N → w0.heap.size ≤ gin) (hl : N → ∀ b o, lp = some ⟨b, o, none⟩ → 0 < s.left.length → gin ≠ b) (ht : N → ∀ b o, q.tp = some ⟨b, o, none⟩ → 0 < r.bt.length → gin ≠ b) (hf : N → ∀ b o, q.lp = some ⟨b, o, none⟩ → 0 < r.lf.length → gin ≠ b) : PT w0 w' gw gs M pq mq mg rq bq lp lc s r q := by
  refine ⟨h.pa.keep hk ?_, h.bw.keeps hk ?_, h.bs.keeps hk ?_, h.sr, h.rm.keepN hk ?_, h.ok, h.bt, h.bl.trans (hk.belowG ?_ h.bl.size), h.g0⟩
  · rintro j ⟨n, rfl⟩
    obtain ⟨c, hc⟩ := hb n
    obtain ⟨cg, hcg⟩ := h.pa.mem.blkg
    exact ⟨blk_ne hc h.pa.pat (by decide), blk_ne hc h.pa.mem.blk2 (by decide), blk_ne hc hcg (by decide), blk_ne hc h.pa.rnd.blk (by decide), blk_ne hc h.pa.bat.blk (by decide), hl n⟩
  · rintro ⟨n, e⟩
    obtain ⟨c, hc⟩ := hb n
    exact blk_ne h.bw hc (by decide) e
  · rintro ⟨n, e⟩
    obtain ⟨c, hc⟩ := hb n
    exact blk_ne h.bs hc (by decide) e
  · rintro j ⟨n, rfl⟩
    obtain ⟨c, hc⟩ := hb n
    refine ⟨fun b o e h0 => ?_, fun b o e h0 => ?_, ht n, hf n⟩
    · obtain ⟨b', o', cur, e', -, hB, -⟩ := h.rm.xs h0
      rw [e] at e'
      injection e' with e'
      injection e' with e1 _
      subst e1
      exact blk_ne hc hB (by decide)
    · obtain ⟨b', o', cur, e', hB, -⟩ := h.rm.fs h0
      rw [e] at e'
      injection e' with e'
      injection e' with e1 _
      subst e1
      exact blk_ne hc hB (by decide)
  · rintro j ⟨n, rfl⟩
    exact hge n
theorem rowS_lo {w : World} {B b o : Nat} {p : Option Addr} {L : List Si} (h : RowS w B p L) (h0 : 0 < L.length) (e : p = some ⟨b, o, none⟩) : b < w.heap.size := by
  obtain ⟨b', o', cur, e', -, hB, -⟩ := h h0
  rw [e] at e'
  injection e' with e'
  injection e' with e1 _
  subst e1
  exact hB.lt
theorem PT.opk {w0 w w' : World} {gw gs g : Nat} {M : Int} {pq mq mg rq bq : Nat} {lp : Option Addr} {lc : Nat} {s : PS} {r : RD} {q : RP} {A : Array Value} (h : PT w0 w gw gs M pq mq mg rq bq lp lc s r q) (hg : Blk w g 72 A) (hk : Keeps (GP pq mg rq bq) w w') : Blk w' g 72 A := by
  have hw := h.pa.ne hg (.inr (.inr (.inl rfl)))
  refine hg.keeps hk ?_
  rintro (e | e | e | e)
  · exact hw.1 e
  · exact hw.2.2.1 e
  · exact hw.2.2.2.1 e
  · exact hw.2.2.2.2.1 e
theorem PT.more {w0 w : World} {gw gs i : Nat} {pq mq mg rq bq : Nat} {lp : Option Addr} {lc : Nat} {s : PS} {r : RD} {q : RP} (h : PT w0 w gw gs i pq mq mg rq bq lp lc s r q) : PT w0 w gw gs (i + 1) pq mq mg rq bq lp lc s r q :=
  ⟨h.pa, h.bw, h.bs, h.sr, h.rm, h.ok.mono (by omega), h.bt, h.bl, h.g0⟩
end Go.Proofs.Ytekggimgobeggaa
