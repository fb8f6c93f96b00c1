/- How slices of bytes and a script that came in are opened, of every size that an argument may have. -/
import Derived.Test.YtammbaamkechhaaPlaW
import Derived.Test.YtammbaamkechhaaOpen
import Derived.SizedLaws
namespace Go.Proofs.Ytammbaamkechhaa
open Go.ChangeShapes Go.WideShapes Go.ChangeAt Go.RowKit

theorem Try.cells3 : Try.prog.cellsOf 3 = 1 := by kernel_rfl
theorem Try.cells26 : Try.prog.cellsOf 26 = 1 := by kernel_rfl
theorem Try.cells46 : Try.prog.cellsOf 46 = 5 := by kernel_rfl
theorem Try.bytes46 : Try.prog.bytesOf 46 = 56 := by kernel_rfl

theorem list_five {X : Type} {l : List X} (h : l.length = 5) : ∃ a b c d e, l = [a, b, c, d, e] := by
  match l, h with
  | [a, b, c, d, e], _ => exact ⟨a, b, c, d, e, rfl⟩
theorem list_ofG {X : Type} {P : Nat → X → Prop} : ∀ n, (∀ i, i < n → ∃ x, P i x) → ∃ xs : List X, xs.length = n ∧ ∀ i (h : i < xs.length), P i xs[i]
  | 0, _ => ⟨[], rfl, fun i h => absurd h (by simp)⟩
  | n + 1, h => by
    obtain ⟨xs, hl, hx⟩ := list_ofG n fun i hi => h i (by omega)
    obtain ⟨x, hp⟩ := h n (by omega)
    refine ⟨xs ++ [x], by simp [hl], fun i hi => ?_⟩
    by_cases hin : i < xs.length
    · rw [List.getElem_append_left hin]; exact hx i hin
    · have : i = n := by simp at hi; omega
      subst this
      rw [List.getElem_append_right (by omega)]
      simp [hl]
      exact hp

/-- a slice of bytes -/
theorem open_data {H : Type} {enc : TypeId × Value → H} {W : World} {fuel : Nat} {v : Value} {x : DataW H × List MemPlace} (h : DataW.trod enc Try.prog W 0 (fun _ => true) true fuel 26 [v] = some x) (hw : ∀ m ∈ x.1.weights Try.prog 26, m ≤ reachBytes) :
    ∃ (q : Option Addr) (e : Nat) (xs : List Int), v = .slice q xs.length e ∧ Sl W q e xs ∧ Byt xs ∧ xs.length ≤ 140737488351232 := by
  have hr : ∀ q n c, v = .slice q n c → n * 1 ≤ reachBytes := by
    intro q n c hv
    rcases DataW.trod_slice Try.underlying26 h with ⟨hcs, hx⟩ | ⟨ad, l, cc, elems, rest, f, hfu, hcs, hx, _, hl, hm, hlen, hel, hsp, _⟩
    · simp only [List.cons.injEq, and_true] at hcs
      rw [hv] at hcs
      simp only [Value.slice.injEq] at hcs
      rw [hcs.2.1]; exact Nat.zero_le _
    · simp only [List.cons.injEq, and_true] at hcs
      rw [hv] at hcs
      simp only [Value.slice.injEq] at hcs
      have := hw ((elems.length + rest.length) * Try.prog.bytesOf 5) (by rw [hx]; simp [DataW.weights, Try.underlying26])
      rw [Try.bytes5] at this
      rw [hcs.2.1]
      omega
  rcases open_ints Try.underlying26 Try.underlying5 Try.cells5 h with ⟨hcs, hx⟩ | ⟨ad, l, cc, zs, hcs, _, hl, hm, hz, hx, hcell, hwz⟩
  · simp only [List.cons.injEq, and_true] at hcs
    exact ⟨none, 0, [], by rw [hcs]; rfl, ⟨fun h => absurd h (Nat.lt_irrefl 0), Nat.le_refl _, by decide, fun _ => rfl⟩, fun i => by simp, by decide⟩
  · simp only [List.cons.injEq, and_true] at hcs
    simp only [if_true] at hz
    have hlen : (zs.take l).length = l := by rw [List.length_take]; omega
    have hrr := hr _ _ _ hcs
    simp only [reachBytes] at hrr
    unfold maxLen at hm
    refine ⟨some ad, cc, zs.take l, by rw [hcs, hlen], ⟨fun h0 => ?_, by omega, by omega, fun e => by cases e⟩, fun i => getD_of_mem (P := fun x => 0 ≤ x ∧ x ≤ 255) (by decide) (fun x hx' => wf_u8 (hwz x (List.mem_of_mem_take hx'))) i, by omega⟩
    obtain ⟨b, o, s⟩ := ad
    rw [hlen] at h0
    obtain rfl : s = none := by simpa [Addr.add] using World.cell?_spot (hcell 0 (by omega))
    exact ⟨b, o, rfl, fun i hi => by rw [hlen] at hi; rw [← Go.WideShapes.add_plain, hcell i (by omega)]; simp [List.getD, show i < l by omega]⟩

abbrev opL (x : OpD) : List Value := [.int .i64 x.kind, .int .i64 x.on, .int .i64 x.a, .int .i64 x.n, .slice x.r x.ys.length x.d]
structure OpW (W : World) (x : OpD) : Prop where
  row : Row W x.r x.ys
  byt : Byt x.ys
  len : x.ys.length ≤ 140737488351232
  nle : x.n ≤ 9223372036854775807

theorem open_op {H : Type} {enc : TypeId × Value → H} {W : World} {fuel : Nat} {cs : List Value} {x : DataW H × List MemPlace} (h : DataW.trod enc Try.prog W 0 (fun _ => true) true fuel 46 cs = some x) (hw : ∀ m ∈ x.1.weights Try.prog 46, m ≤ reachBytes) :
    ∃ y : OpD, cs = opL y ∧ OpW W y := by
  obtain ⟨xs, n, rfl, hx, hlen, hxl, hf⟩ := DataW.trod_struct Try.underlying46 h
  rw [Try.cells46] at hlen
  obtain ⟨a, b, c, d, e, rfl⟩ := list_five hlen
  have f0 := hf 0
  have f1 := hf 1
  have f2 := hf 2
  have f3 := hf 3
  have f4 := hf 4
  simp [Try.cells3, Try.cells26] at f0 f1 f2 f3 f4
  obtain ⟨x0, x1, x2, x3, x4, rfl⟩ := list_five (show xs.length = 5 from hxl)
  simp only [List.getElem?_cons_zero, List.getElem?_cons_succ] at f0 f1 f2 f3 f4
  have hin : ∀ m ∈ DataW.weightsEach Try.prog [3, 3, 3, 3, 26] [x0.1, x1.1, x2.1, x3.1, x4.1], m ≤ reachBytes := by
    intro m hm
    have hd' : x.1 = .agg [x0.1, x1.1, x2.1, x3.1, x4.1] := by rw [hx]; rfl
    refine hw m ?_
    rw [hd']
    simp only [DataW.weights, Try.underlying46]
    exact hm
  obtain ⟨k0, e0, y0, w0⟩ := DataW.trod_int Try.underlying3 f0
  obtain ⟨k1, e1, y1, w1⟩ := DataW.trod_int Try.underlying3 f1
  obtain ⟨k2, e2, y2, w2⟩ := DataW.trod_int Try.underlying3 f2
  obtain ⟨k3, e3, y3, w3⟩ := DataW.trod_int Try.underlying3 f3
  obtain ⟨qb, eb, bs, rfl, hs, hb, hl⟩ := open_data f4 fun m hm => hin m (DataW.weights_mem_each (j := 4) rfl rfl m hm)
  simp only [List.cons.injEq, and_true] at e0 e1 e2 e3
  subst e0 e1 e2 e3
  exact ⟨⟨k0, k1, k2, k3, qb, eb, bs⟩, rfl, hs.row, hb, hl, (wf_i64 w3).2⟩

theorem weights_all {H : Type} {P : Program} {e : TypeId} : ∀ {l : List (DataW H)} {i : Nat} {d : DataW H} {m : Nat}, l[i]? = some d → m ∈ d.weights P e → m ∈ DataW.weightsAll P e l
  | c :: l, 0, d, m, h, hm => by
    simp only [List.getElem?_cons_zero, Option.some.injEq] at h
    subst h
    simp only [DataW.weightsAll]
    exact List.mem_append_left _ hm
  | c :: l, i + 1, d, m, h, hm => by
    simp only [List.getElem?_cons_succ] at h
    simp only [DataW.weightsAll]
    exact List.mem_append_right _ (weights_all h hm)

/-- a script -/
theorem open_script {H : Type} {enc : TypeId × Value → H} {W : World} {fuel : Nat} {v : Value} {x : DataW H × List MemPlace} (h : DataW.trod enc Try.prog W 0 (fun _ => true) true fuel 39 [v] = some x) (hw : ∀ m ∈ x.1.weights Try.prog 39, m ≤ reachBytes) :
    ∃ (q : Option Addr) (e : Nat) (L : List OpD), v = .slice q L.length e ∧ L.length ≤ 9223372036854775807 ∧ Scr W q L := by
  rcases DataW.trod_slice Try.underlying39 h with ⟨hcs, hx⟩ | ⟨ad, l, cc, elems, rest, f, hfu, hcs, hx, _, hl, hm, hlen, hel, hsp, _⟩
  · simp only [List.cons.injEq, and_true] at hcs
    exact ⟨none, 0, [], by rw [hcs]; rfl, by decide, fun h => absurd h (by simp)⟩
  · simp only [List.cons.injEq, and_true] at hcs
    have hwi : ∀ i (hi : i < elems.length), ∀ m ∈ elems[i].1.weights Try.prog 46, m ≤ reachBytes := by
      intro i hi m hm
      refine hw m ?_
      rw [hx]
      simp only [DataW.weights, Try.underlying39]
      refine List.mem_cons_of_mem _ (List.mem_append_left _ (weights_all (i := i) ?_ hm))
      rw [List.getElem?_map, List.getElem?_eq_getElem hi]; rfl
    obtain ⟨L, hL, hP⟩ := list_ofG (P := fun i (y : OpD) => (∀ j u, (opL y)[j]? = some u → W.cell? ((ad.add (i * 5)).add j) = some u) ∧ OpW W y) l fun i hi => by
      have he := hel i hi
      rw [Try.cells46, List.getElem?_eq_getElem (by omega), Option.bind_eq_some_iff] at he
      obtain ⟨cs, hcs, htr⟩ := he
      obtain ⟨_, hcl, hcc⟩ := World.cells?_some hcs
      obtain ⟨y, hy, hp⟩ := open_op htr (hwi i (by omega))
      refine ⟨y, fun j u hu => ?_, hp⟩
      rw [← hy] at hu
      have hj : j < 5 := by rw [← hcl]; exact (List.getElem?_eq_some_iff.1 hu).1
      rw [hcc j hj]; exact hu
    unfold maxLen at hm
    refine ⟨some ad, cc, L, by rw [hcs, hL], by omega, fun h0 => ?_⟩
    obtain ⟨b, o, s⟩ := ad
    obtain rfl : s = none := by
      have := (hP 0 h0).1 0 _ rfl
      simpa [Addr.add] using World.cell?_spot this
    refine ⟨b, o, rfl, fun i y hy => ?_⟩
    obtain ⟨hi, rfl⟩ := List.getElem?_eq_some_iff.1 hy
    obtain ⟨hc, hW⟩ := hP i hi
    have g0 := hc 0 _ rfl
    have g1 := hc 1 _ rfl
    have g2 := hc 2 _ rfl
    have g3 := hc 3 _ rfl
    have g4 := hc 4 _ rfl
    rw [Addr.add_mid, Addr.add_mid] at g0 g1 g2 g3 g4
    exact ⟨g0, g1, g2, g3, g4, hW.row, hW.byt, hW.len, hW.nle⟩

theorem weights_of {H : Type} {P : Program} {ts : List TypeId} {ds : List (DataW H)} (hsz : (DataW.weightsEach P ts ds).all (· ≤ reachBytes) = true) {j : Nat} {t : TypeId} {d : DataW H} (ht : ts[j]? = some t) (hd : ds[j]? = some d) : ∀ m ∈ d.weights P t, m ≤ reachBytes := by
  intro m hm
  have := List.all_eq_true.1 hsz m (DataW.weights_mem_each ht hd m hm)
  simpa using this

set_option maxRecDepth 20000 in
theorem open_bytes_val {H : Type} {enc : TypeId × Value → H} {W : World} {base : Nat} {v : Value} {d : DataW H} {p : List MemPlace} (hv : Value.okWide Try.prog W .any base 26 v)
    (h : DataW.Trod enc Try.prog W 0 (fun _ => true) true 26 v d p) {ts : List TypeId} {ds : List (DataW H)} (hsz : (DataW.weightsEach Try.prog ts ds).all (· ≤ reachBytes) = true) {j : Nat} (ht : ts[j]? = some 26) (hd : ds[j]? = some d) :
    ∃ (q : Option Addr) (e : Nat) (xs : List Int), v = .slice q xs.length e ∧ Sl W q e xs ∧ Byt xs ∧ xs.length ≤ 140737488351232 := by
  obtain ⟨fuel, hf⟩ := h
  have hcs : v.cells.toList = [v] := by
    obtain ⟨_, _, _, rfl⟩ := Go.WideShapes.okWide_slice Try.underlying26 hv
    rfl
  rw [hcs] at hf
  exact open_data hf (weights_of hsz ht hd)

set_option maxRecDepth 20000 in
theorem open_script_val {H : Type} {enc : TypeId × Value → H} {W : World} {base : Nat} {v : Value} {d : DataW H} {p : List MemPlace} (hv : Value.okWide Try.prog W .any base 39 v)
    (h : DataW.Trod enc Try.prog W 0 (fun _ => true) true 39 v d p) {ts : List TypeId} {ds : List (DataW H)} (hsz : (DataW.weightsEach Try.prog ts ds).all (· ≤ reachBytes) = true) {j : Nat} (ht : ts[j]? = some 39) (hd : ds[j]? = some d) :
    ∃ (q : Option Addr) (e : Nat) (L : List OpD), v = .slice q L.length e ∧ L.length ≤ 9223372036854775807 ∧ Scr W q L := by
  obtain ⟨fuel, hf⟩ := h
  have hcs : v.cells.toList = [v] := by
    obtain ⟨_, _, _, rfl⟩ := Go.WideShapes.okWide_slice Try.underlying39 hv
    rfl
  rw [hcs] at hf
  exact open_script hf (weights_of hsz ht hd)

end Go.Proofs.Ytammbaamkechhaa
