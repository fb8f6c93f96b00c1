/- Texts put together: OpenI, OpenL, TabG, AwkK, NonK, ImK. -/
import Derived.Test.YtkpieeldoielgaaGc
import Derived.Test.YtkpieeldoielgaaOpen
import Derived.SizedLaws
import Derived.Test.YtkpieeldoielgaaGe
import Derived.Test.YtkpieeldoielgaaGd

/- How an image (api.Image) that came in by value is opened, of every size that an argument may have. -/
namespace Go.Proofs.Ytkpieeldoielgaa
open Go.ChangeShapes Go.WideShapes Go.ChangeAt Go.RowKit

theorem Try.cells3 : Try.prog.cellsOf 3 = 1 := by kernel_rfl
theorem Try.cells9 : Try.prog.cellsOf 9 = 1 := by kernel_rfl
theorem Try.cells26 : Try.prog.cellsOf 26 = 1 := by kernel_rfl
theorem Try.cells27 : Try.prog.cellsOf 27 = 1 := by kernel_rfl
theorem Try.cells28 : Try.prog.cellsOf 28 = 1 := by kernel_rfl
theorem Try.cells29 : Try.prog.cellsOf 29 = 1 := by kernel_rfl
theorem Try.cells31 : Try.prog.cellsOf 31 = 4 := by kernel_rfl
theorem Try.cells41 : Try.prog.cellsOf 41 = 3 := by kernel_rfl
theorem Try.bytes3 : Try.prog.bytesOf 3 = 8 := by kernel_rfl
theorem Try.bytes9 : Try.prog.bytesOf 9 = 16 := by kernel_rfl
theorem Try.bytes41 : Try.prog.bytesOf 41 = 24 := by kernel_rfl

theorem list_three {X : Type} {l : List X} (h : l.length = 3) : ∃ a b c, l = [a, b, c] := by
  match l, h with
  | [a, b, c], _ => exact ⟨a, b, c, rfl⟩
theorem list_four {X : Type} {l : List X} (h : l.length = 4) : ∃ a b c d, l = [a, b, c, d] := by
  match l, h with
  | [a, b, c, d], _ => exact ⟨a, b, c, d, rfl⟩
theorem list_ofG {X : Type} {P : Nat → X → Prop} : ∀ n, (∀ i, i < n → ∃ x, P i x) → ∃ xs : List X, xs.length = n ∧ ∀ i (h : i < xs.length), P i xs[i]
  | 0, _ => ⟨[], rfl, fun i h => absurd h (by simp)⟩
  | n + 1, h => by
    obtain ⟨xs, hl, hx⟩ := list_ofG n fun i hi => h i (by omega)
    obtain ⟨x, hp⟩ := h n (by omega)
    refine ⟨xs ++ [x], by simp [hl], fun i hi => ?_⟩
    by_cases hin : i < xs.length
    · rw [List.getElem_append_left hin]; exact hx i hin
    · have : i = n := by simp at hi; omega
      subst this
      rw [List.getElem_append_right (by omega)]
      simp [hl]
      exact hp

theorem opened3 {H : Type} {enc : TypeId × Value → H} {W : World} {fuel : Nat} {v : Value} {x : DataW H × List MemPlace} {ST ET : TypeId} {X : Type} (V : X → V3) (P : X → Prop) (hu : Try.prog.underlying ST = some (.slice ET)) (hc3 : Try.prog.cellsOf ET = 3)
    (hone : ∀ (fuel : Nat) (cs : List Value) (x : DataW H × List MemPlace), DataW.trod enc Try.prog W 0 (fun _ => true) true fuel ET cs = some x → ∃ y, cs = l3 (V y) ∧ P y)
    (h : DataW.trod enc Try.prog W 0 (fun _ => true) true fuel ST [v] = some x) (hw : ∀ m ∈ x.1.weights Try.prog ST, m ≤ reachBytes) :
    ∃ (q : Option Addr) (e : Nat) (L : List X), v = .slice q L.length e ∧ L.length ≤ e ∧ e ≤ maxLen ∧ L.length * Try.prog.bytesOf ET ≤ reachBytes ∧ Row3 W q (L.map V) ∧ ∀ y ∈ L, P y := by
  rcases DataW.trod_slice hu h with ⟨hcs, hx⟩ | ⟨ad, l, cc, elems, rest, f, hfu, hcs, hx, _, hl, hm, hlen, hel, hsp, _⟩
  · simp only [List.cons.injEq, and_true] at hcs
    exact ⟨none, 0, [], by rw [hcs]; rfl, Nat.le_refl _, Nat.zero_le _, by simp, Row3.nil W none, fun y hy => by cases hy⟩
  · simp only [List.cons.injEq, and_true] at hcs
    have hwt : l * Try.prog.bytesOf ET ≤ reachBytes := by
      have := hw ((elems.length + rest.length) * Try.prog.bytesOf ET) (by rw [hx]; simp [DataW.weights, hu])
      exact Nat.le_trans (Nat.mul_le_mul_right _ (by omega)) this
    obtain ⟨L, hL, hP⟩ := list_ofG (P := fun i y => (∀ j u, (l3 (V y))[j]? = some u → W.cell? ((ad.add (i * 3)).add j) = some u) ∧ P y) l fun i hi => by
      have he := hel i hi
      rw [hc3, List.getElem?_eq_getElem (by omega), Option.bind_eq_some_iff] at he
      obtain ⟨cs, hcs, htr⟩ := he
      obtain ⟨_, hcl, hcc⟩ := World.cells?_some hcs
      obtain ⟨y, hy, hp⟩ := hone _ _ _ htr
      refine ⟨y, fun j u hu => ?_, hp⟩
      rw [← hy] at hu
      have hj : j < 3 := by rw [← hcl]; exact (List.getElem?_eq_some_iff.1 hu).1
      rw [hcc j hj]; exact hu
    refine ⟨some ad, cc, L, by rw [hcs, hL], by rw [hL]; exact hl, hm, by rw [hL]; exact hwt, fun h0 => ?_, fun y hy => ?_⟩
    · rw [List.length_map] at h0
      obtain ⟨b, o, s⟩ := ad
      obtain rfl : s = none := by
        have := (hP 0 h0).1 0 _ rfl
        simpa [Addr.add] using World.cell?_spot this
      refine ⟨b, o, rfl, fun i hi j hj => ?_⟩
      rw [List.length_map] at hi
      rw [List.getElem_map]
      have hl3 : j < (l3 (V L[i])).length := hj
      have := (hP i hi).1 j _ (List.getElem?_eq_getElem hl3)
      rw [Addr.add_mid, Addr.add_mid] at this
      rw [this, List.getElem?_eq_getElem hl3]
    · obtain ⟨i, hi, rfl⟩ := List.getElem_of_mem hy
      exact (hP i hi).2

/-- the same, of elements of one cell -/
theorem opened1 {H : Type} {enc : TypeId × Value → H} {W : World} {fuel : Nat} {v : Value} {x : DataW H × List MemPlace} {ST ET : TypeId} {X : Type} (V : X → Value) (P : X → Prop) (hu : Try.prog.underlying ST = some (.slice ET)) (hc1 : Try.prog.cellsOf ET = 1)
    (hone : ∀ (fuel : Nat) (cs : List Value) (x : DataW H × List MemPlace), DataW.trod enc Try.prog W 0 (fun _ => true) true fuel ET cs = some x → ∃ y, cs = [V y] ∧ P y)
    (h : DataW.trod enc Try.prog W 0 (fun _ => true) true fuel ST [v] = some x) (hw : ∀ m ∈ x.1.weights Try.prog ST, m ≤ reachBytes) :
    ∃ (q : Option Addr) (e : Nat) (L : List X), v = .slice q L.length e ∧ L.length ≤ e ∧ e ≤ maxLen ∧ L.length * Try.prog.bytesOf ET ≤ reachBytes ∧ GRow W q (L.map V) ∧ ∀ y ∈ L, P y := by
  rcases DataW.trod_slice hu h with ⟨hcs, hx⟩ | ⟨ad, l, cc, elems, rest, f, hfu, hcs, hx, _, hl, hm, hlen, hel, hsp, _⟩
  · simp only [List.cons.injEq, and_true] at hcs
    exact ⟨none, 0, [], by rw [hcs]; rfl, Nat.le_refl _, Nat.zero_le _, by simp, GRow.nil W none, fun y hy => by cases hy⟩
  · simp only [List.cons.injEq, and_true] at hcs
    have hwt : l * Try.prog.bytesOf ET ≤ reachBytes := by
      have := hw ((elems.length + rest.length) * Try.prog.bytesOf ET) (by rw [hx]; simp [DataW.weights, hu])
      exact Nat.le_trans (Nat.mul_le_mul_right _ (by omega)) this
    obtain ⟨L, hL, hP⟩ := list_ofG (P := fun i y => (∀ j u, ([V y])[j]? = some u → W.cell? ((ad.add (i * 1)).add j) = some u) ∧ P y) l fun i hi => by
      have he := hel i hi
      rw [hc1, List.getElem?_eq_getElem (by omega), Option.bind_eq_some_iff] at he
      obtain ⟨cs, hcs, htr⟩ := he
      obtain ⟨_, hcl, hcc⟩ := World.cells?_some hcs
      obtain ⟨y, hy, hp⟩ := hone _ _ _ htr
      refine ⟨y, fun j u hu => ?_, hp⟩
      rw [← hy] at hu
      have hj : j < 1 := by rw [← hcl]; exact (List.getElem?_eq_some_iff.1 hu).1
      rw [hcc j hj]; exact hu
    refine ⟨some ad, cc, L, by rw [hcs, hL], by rw [hL]; exact hl, hm, by rw [hL]; exact hwt, fun h0 => ?_, fun y hy => ?_⟩
    · rw [List.length_map] at h0
      obtain ⟨b, o, s⟩ := ad
      obtain rfl : s = none := by
        have := (hP 0 h0).1 0 _ rfl
        simpa [Addr.add] using World.cell?_spot this
      refine ⟨b, o, rfl, fun i hi => ?_⟩
      rw [List.length_map] at hi
      have := (hP i hi).1 0 (V L[i]) rfl
      rw [Addr.add_mid, Addr.add_mid] at this
      simp only [Nat.mul_one, Nat.add_zero] at this
      rw [this, List.getElem?_map, List.getElem?_eq_getElem hi]
      rfl
    · obtain ⟨i, hi, rfl⟩ := List.getElem_of_mem hy
      exact (hP i hi).2

/-- a slice of bytes within a unit -/
theorem open_data {H : Type} {enc : TypeId × Value → H} {W : World} {fuel : Nat} {v : Value} {x : DataW H × List MemPlace} (h : DataW.trod enc Try.prog W 0 (fun _ => true) true fuel 26 [v] = some x) (hw : ∀ m ∈ x.1.weights Try.prog 26, m ≤ reachBytes) :
    ∃ (q : Option Addr) (e : Nat) (xs : List Int), v = .slice q xs.length e ∧ Row W q xs ∧ Byt xs ∧ xs.length ≤ e ∧ e ≤ maxLen ∧ xs.length ≤ reachBytes := by
  have hr : ∀ q n c, v = .slice q n c → n * 1 ≤ reachBytes := by
    intro q n c hv
    rcases DataW.trod_slice Try.underlying26 h with ⟨hcs, hx⟩ | ⟨ad, l, cc, elems, rest, f, hfu, hcs, hx, _, hl, hm, hlen, hel, hsp, _⟩
    · simp only [List.cons.injEq, and_true] at hcs
      rw [hv] at hcs
      simp only [Value.slice.injEq] at hcs
      rw [hcs.2.1]; exact Nat.zero_le _
    · simp only [List.cons.injEq, and_true] at hcs
      rw [hv] at hcs
      simp only [Value.slice.injEq] at hcs
      have := hw ((elems.length + rest.length) * Try.prog.bytesOf 5) (by rw [hx]; simp [DataW.weights, Try.underlying26])
      rw [Try.bytes5] at this
      rw [hcs.2.1]
      omega
  rcases open_ints Try.underlying26 Try.underlying5 Try.cells5 h with ⟨hcs, hx⟩ | ⟨ad, l, cc, zs, hcs, _, hl, hm, hz, hx, hcell, hwz⟩
  · simp only [List.cons.injEq, and_true] at hcs
    exact ⟨none, 0, [], by rw [hcs]; rfl, fun h => absurd h (Nat.lt_irrefl 0), fun i => by simp, Nat.le_refl _, Nat.zero_le _, Nat.zero_le _⟩
  · simp only [List.cons.injEq, and_true] at hcs
    simp only [if_true] at hz
    have hlen : (zs.take l).length = l := by rw [List.length_take]; omega
    have hrr := hr _ _ _ hcs
    refine ⟨some ad, cc, zs.take l, by rw [hcs, hlen], fun h0 => ?_, fun i => getD_of_mem (P := fun x => 0 ≤ x ∧ x ≤ 255) (by decide) (fun x hx' => wf_u8 (hwz x (List.mem_of_mem_take hx'))) i, by omega, hm, by omega⟩
    obtain ⟨b, o, s⟩ := ad
    rw [hlen] at h0
    obtain rfl : s = none := by simpa [Addr.add] using World.cell?_spot (hcell 0 (by omega))
    exact ⟨b, o, rfl, fun i hi => by rw [hlen] at hi; rw [← Go.WideShapes.add_plain, hcell i (by omega)]; simp [List.getD, show i < l by omega]⟩

def SiF (s : Si) : Prop := i64P s.key ∧ i64P s.at_ ∧ i64P s.to_
theorem open_site {H : Type} {enc : TypeId × Value → H} {W : World} (fuel : Nat) (cs : List Value) (x : DataW H × List MemPlace) (h : DataW.trod enc Try.prog W 0 (fun _ => true) true fuel 41 cs = some x) : ∃ y, cs = l3 (siV y) ∧ SiF y := by
  obtain ⟨xs, n, rfl, hx, hlen, hxl, hf⟩ := DataW.trod_struct Try.underlying41 h
  rw [Try.cells41] at hlen
  obtain ⟨a, b, c, rfl⟩ := list_three hlen
  have f0 := hf 0
  have f1 := hf 1
  have f2 := hf 2
  simp [Try.cells3] at f0 f1 f2
  obtain ⟨x0, x1, x2, rfl⟩ := list_three (show xs.length = 3 from hxl)
  simp only [List.getElem?_cons_zero, List.getElem?_cons_succ] at f0 f1 f2
  obtain ⟨k, e0, y0, w0⟩ := DataW.trod_int Try.underlying3 f0
  obtain ⟨m, e1, y1, w1⟩ := DataW.trod_int Try.underlying3 f1
  obtain ⟨g, e2, y2, w2⟩ := DataW.trod_int Try.underlying3 f2
  simp only [List.cons.injEq, and_true] at e0 e1 e2
  subst e0 e1 e2
  exact ⟨⟨k, m, g⟩, rfl, wf_i64 w0, wf_i64 w1, wf_i64 w2⟩
theorem open_num {H : Type} {enc : TypeId × Value → H} {W : World} (fuel : Nat) (cs : List Value) (x : DataW H × List MemPlace) (h : DataW.trod enc Try.prog W 0 (fun _ => true) true fuel 3 cs = some x) : ∃ y, cs = [Value.int .i64 y] ∧ i64P y := by
  obtain ⟨k, e0, y0, w0⟩ := DataW.trod_int Try.underlying3 h
  exact ⟨k, e0, wf_i64 w0⟩
theorem open_txt {H : Type} {enc : TypeId × Value → H} {W : World} (fuel : Nat) (cs : List Value) (x : DataW H × List MemPlace) (h : DataW.trod enc Try.prog W 0 (fun _ => true) true fuel 9 cs = some x) : ∃ y, cs = [Value.string y] ∧ y.size ≤ maxLen := by
  obtain ⟨k, e0, y0, w0⟩ := DataW.trod_string Try.underlying9 h
  exact ⟨k, e0, w0⟩

theorem open_image {H : Type} {enc : TypeId × Value → H} {W : World} {fuel : Nat} {cs : List Value} {x : DataW H × List MemPlace} (h : DataW.trod enc Try.prog W 0 (fun _ => true) true fuel 31 cs = some x) (hw : ∀ m ∈ x.1.weights Try.prog 31, m ≤ reachBytes) :
    ∃ (m : IM) (pb pk ps pu : Option Addr) (cb ck cs' cu : Nat), cs = [.slice pb m.bs.length cb, .slice pk m.ks.length ck, .slice ps m.si.length cs', .slice pu m.un.length cu] ∧ ImIn W m pb pk ps pu m.bs.length cb m.ks.length ck m.si.length cs' m.un.length cu ∧
      m.bs.length ≤ reachBytes ∧ m.ks.length * 16 ≤ reachBytes ∧ m.si.length * 24 ≤ reachBytes ∧ m.un.length * 8 ≤ reachBytes := by
  obtain ⟨xs, n, rfl, hx, hlen, hxl, hf⟩ := DataW.trod_struct Try.underlying31 h
  rw [Try.cells31] at hlen
  obtain ⟨a, b, c, d, rfl⟩ := list_four hlen
  have f0 := hf 0
  have f1 := hf 1
  have f2 := hf 2
  have f3 := hf 3
  simp [Try.cells26, Try.cells27, Try.cells28, Try.cells29] at f0 f1 f2 f3
  obtain ⟨x0, x1, x2, x3, rfl⟩ := list_four (show xs.length = 4 from hxl)
  simp only [List.getElem?_cons_zero, List.getElem?_cons_succ] at f0 f1 f2 f3
  have hin : ∀ m ∈ DataW.weightsEach Try.prog [26, 27, 28, 29] [x0.1, x1.1, x2.1, x3.1], m ≤ reachBytes := by
    intro m hm
    have hd' : x.1 = .agg [x0.1, x1.1, x2.1, x3.1] := by rw [hx]; rfl
    refine hw m ?_
    rw [hd']
    simp only [DataW.weights, Try.underlying31]
    exact hm
  obtain ⟨qb, eb, bs, rfl, hb1, hb2, hb4, hb5, k1⟩ := open_data f0 fun m hm => hin m (DataW.weights_mem_each (j := 0) rfl rfl m hm)
  obtain ⟨qk, ek, K, rfl, hk0, hk1, k2, hk2, hk3⟩ := opened1 Value.string (fun s : ByteArray => s.size ≤ maxLen) Try.underlying27 Try.cells9 open_txt f1 fun m hm => hin m (DataW.weights_mem_each (j := 1) rfl rfl m hm)
  obtain ⟨qs, es, S, rfl, hs0, hs1, k3, hs2, hs3⟩ := opened3 siV SiF Try.underlying28 Try.cells41 open_site f2 fun m hm => hin m (DataW.weights_mem_each (j := 2) rfl rfl m hm)
  obtain ⟨qu, eu, U, rfl, hu0, hu1, k4, hu2, hu3⟩ := opened1 (Value.int .i64) i64P Try.underlying29 Try.cells3 open_num f3 fun m hm => hin m (DataW.weights_mem_each (j := 3) rfl rfl m hm)
  rw [Try.bytes9] at k2
  rw [Try.bytes41] at k3
  rw [Try.bytes3] at k4
  have r2 := k2
  have r3 := k3
  have r4 := k4
  simp only [reachBytes] at r2 r3 r4
  refine ⟨⟨bs, K, S, U⟩, qb, qk, qs, qu, eb, ek, es, eu, rfl, ⟨rfl, rfl, rfl, rfl, hb4, ?_, ?_, ?_, ?_, hb1, hk2, hs2, hu2, hb2, hk3, hu3⟩, k1, k2, k3, k4⟩
  · unfold maxLen at hb5; omega
  · show K.length ≤ _; omega
  · show S.length ≤ _; omega
  · show U.length ≤ _; omega

theorem weights_of {H : Type} {P : Program} {ts : List TypeId} {ds : List (DataW H)} (hsz : (DataW.weightsEach P ts ds).all (· ≤ reachBytes) = true) {j : Nat} {t : TypeId} {d : DataW H} (ht : ts[j]? = some t) (hd : ds[j]? = some d) : ∀ m ∈ d.weights P t, m ≤ reachBytes := by
  intro m hm
  have := List.all_eq_true.1 hsz m (DataW.weights_mem_each ht hd m hm)
  simpa using this


set_option maxRecDepth 20000 in
theorem open_image_val {H : Type} {enc : TypeId × Value → H} {W : World} {base : Nat} {v : Value} {d : DataW H} {p : List MemPlace} (hv : Value.okWide Try.prog W .any base 31 v)
    (h : DataW.Trod enc Try.prog W 0 (fun _ => true) true 31 v d p) {ts : List TypeId} {ds : List (DataW H)} (hsz : (DataW.weightsEach Try.prog ts ds).all (· ≤ reachBytes) = true) {j : Nat} (ht : ts[j]? = some 31) (hd : ds[j]? = some d) :
    ∃ (m : IM) (pb pk ps pu : Option Addr) (cb ck cs' cu : Nat), v = .agg (imA pb pk ps pu m.bs.length cb m.ks.length ck m.si.length cs' m.un.length cu) ∧ ImIn W m pb pk ps pu m.bs.length cb m.ks.length ck m.si.length cs' m.un.length cu ∧
      m.bs.length ≤ reachBytes ∧ m.ks.length * 16 ≤ reachBytes ∧ m.si.length * 24 ≤ reachBytes ∧ m.un.length * 8 ≤ reachBytes := by
  obtain ⟨fuel, hf⟩ := h
  simp only [Value.okWide, Try.underlying31] at hv
  obtain ⟨cs, rfl, _, _⟩ := hv
  obtain ⟨m, pb, pk, ps, pu, cb, ck, cs', cu, hc, hr⟩ := open_image hf (weights_of hsz ht hd)
  refine ⟨m, pb, pk, ps, pu, cb, ck, cs', cu, ?_, hr⟩
  have h2 : cs.toList = (imA pb pk ps pu m.bs.length cb m.ks.length ck m.si.length cs' m.un.length cu).toList := hc
  rw [Array.toList_inj.1 h2]

set_option maxRecDepth 20000 in
theorem open_bytes_val {H : Type} {enc : TypeId × Value → H} {W : World} {base : Nat} {v : Value} {d : DataW H} {p : List MemPlace} (hv : Value.okWide Try.prog W .any base 26 v)
    (h : DataW.Trod enc Try.prog W 0 (fun _ => true) true 26 v d p) {ts : List TypeId} {ds : List (DataW H)} (hsz : (DataW.weightsEach Try.prog ts ds).all (· ≤ reachBytes) = true) {j : Nat} (ht : ts[j]? = some 26) (hd : ds[j]? = some d) :
    ∃ (q : Option Addr) (e : Nat) (xs : List Int), v = .slice q xs.length e ∧ Row W q xs ∧ Byt xs ∧ xs.length ≤ e ∧ e ≤ maxLen ∧ xs.length ≤ reachBytes := by
  obtain ⟨fuel, hf⟩ := h
  have hcs : v.cells.toList = [v] := by
    obtain ⟨_, _, _, rfl⟩ := Go.WideShapes.okWide_slice Try.underlying26 hv
    rfl
  rw [hcs] at hf
  exact open_data hf (weights_of hsz ht hd)

end Go.Proofs.Ytkpieeldoielgaa

/- Ours: how a list of numbers and a script that came in are opened, of every size that an argument may have. -/
namespace Go.Proofs.Ytkpieeldoielgaa
open Go.ChangeShapes Go.WideShapes Go.ChangeAt Go.RowKit

theorem Try.cells4 : Try.prog.cellsOf 4 = 1 := by kernel_rfl
theorem Try.cells53 : Try.prog.cellsOf 53 = 4 := by kernel_rfl
set_option maxRecDepth 20000 in
theorem open_ints_val {H : Type} {enc : TypeId × Value → H} {W : World} {base : Nat} {v : Value} {d : DataW H} {p : List MemPlace} (hv : Value.okWide Try.prog W .any base 29 v)
    (h : DataW.Trod enc Try.prog W 0 (fun _ => true) true 29 v d p) {ts : List TypeId} {ds : List (DataW H)} (hsz : (DataW.weightsEach Try.prog ts ds).all (· ≤ reachBytes) = true) {j : Nat} (ht : ts[j]? = some 29) (hd : ds[j]? = some d) :
    ∃ (q : Option Addr) (n e : Nat) (zs : List Int), v = .slice q n e ∧ zs.length = n ∧ n ≤ 140737488355328 ∧ n ≤ e ∧ GRow W q (numZ zs) := by
  obtain ⟨fuel, hf⟩ := h
  have hcs : v.cells.toList = [v] := by
    obtain ⟨_, _, _, rfl⟩ := Go.WideShapes.okWide_slice Try.underlying29 hv
    rfl
  rw [hcs] at hf
  obtain ⟨q, e, L, hv', hl, hm, hb, hr, -⟩ := opened1 (Value.int .i64) i64P Try.underlying29 Try.cells3 open_num hf (weights_of hsz ht hd)
  rw [Try.bytes3] at hb
  simp only [reachBytes] at hb
  exact ⟨q, L.length, e, L, hv', rfl, by omega, hl, hr⟩
/-- a row of a script -/
structure OpD where
  kind : Int
  on : Int
  key : Int
  up : Bool
abbrev opL (x : OpD) : List Value := [.int .i64 x.kind, .int .i64 x.on, .int .i64 x.key, .bool x.up]
def OpP (x : OpD) : Prop := i64P x.kind ∧ i64P x.on ∧ i64P x.key
/-- a script in memory -/
def Scr (w : World) (p : Option Addr) (L : List OpD) : Prop := 0 < L.length → ∃ b o, p = some ⟨b, o, none⟩ ∧ ∀ i y, L[i]? = some y → (w.cell? ⟨b, o + i * 4, none⟩ = some (.int .i64 y.kind) ∧ w.cell? ⟨b, o + i * 4 + 1, none⟩ = some (.int .i64 y.on) ∧ w.cell? ⟨b, o + i * 4 + 2, none⟩ = some (.int .i64 y.key) ∧ w.cell? ⟨b, o + i * 4 + 3, none⟩ = some (.bool y.up)) ∧ OpP y
theorem open_op {H : Type} {enc : TypeId × Value → H} {W : World} {fuel : Nat} {cs : List Value} {x : DataW H × List MemPlace} (h : DataW.trod enc Try.prog W 0 (fun _ => true) true fuel 53 cs = some x) :
    ∃ y : OpD, cs = opL y ∧ OpP y := by
  obtain ⟨xs, n, rfl, hx, hlen, hxl, hf⟩ := DataW.trod_struct Try.underlying53 h
  rw [Try.cells53] at hlen
  obtain ⟨a, b, c, d, rfl⟩ := list_four hlen
  have f0 := hf 0
  have f1 := hf 1
  have f2 := hf 2
  have f3 := hf 3
  simp [Try.cells3, Try.cells4] at f0 f1 f2 f3
  obtain ⟨x0, x1, x2, x3, rfl⟩ := list_four (show xs.length = 4 from hxl)
  simp only [List.getElem?_cons_zero, List.getElem?_cons_succ] at f0 f1 f2 f3
  obtain ⟨k0, e0, y0, w0⟩ := DataW.trod_int Try.underlying3 f0
  obtain ⟨k1, e1, y1, w1⟩ := DataW.trod_int Try.underlying3 f1
  obtain ⟨k2, e2, y2, w2⟩ := DataW.trod_int Try.underlying3 f2
  obtain ⟨k3, e3, y3⟩ := DataW.trod_bool Try.underlying4 f3
  simp only [List.cons.injEq, and_true] at e0 e1 e2 e3
  subst e0 e1 e2 e3
  exact ⟨⟨k0, k1, k2, k3⟩, rfl, wf_i64 w0, wf_i64 w1, wf_i64 w2⟩
theorem open_script {H : Type} {enc : TypeId × Value → H} {W : World} {fuel : Nat} {v : Value} {x : DataW H × List MemPlace} (h : DataW.trod enc Try.prog W 0 (fun _ => true) true fuel 43 [v] = some x) :
    ∃ (q : Option Addr) (e : Nat) (L : List OpD), v = .slice q L.length e ∧ L.length ≤ 9223372036854775807 ∧ Scr W q L := by
  rcases DataW.trod_slice Try.underlying43 h with ⟨hcs, hx⟩ | ⟨ad, l, cc, elems, rest, f, hfu, hcs, hx, _, hl, hm, hlen, hel, hsp, _⟩
  · simp only [List.cons.injEq, and_true] at hcs
    exact ⟨none, 0, [], by rw [hcs]; rfl, by decide, fun h => absurd h (by simp)⟩
  · simp only [List.cons.injEq, and_true] at hcs
    obtain ⟨L, hL, hP⟩ := list_ofG (P := fun i (y : OpD) => (∀ j u, (opL y)[j]? = some u → W.cell? ((ad.add (i * 4)).add j) = some u) ∧ OpP y) l fun i hi => by
      have he := hel i hi
      rw [Try.cells53, List.getElem?_eq_getElem (by omega), Option.bind_eq_some_iff] at he
      obtain ⟨cs, hcs, htr⟩ := he
      obtain ⟨_, hcl, hcc⟩ := World.cells?_some hcs
      obtain ⟨y, hy, hp⟩ := open_op htr
      refine ⟨y, fun j u hu => ?_, hp⟩
      rw [← hy] at hu
      have hj : j < 4 := by rw [← hcl]; exact (List.getElem?_eq_some_iff.1 hu).1
      rw [hcc j hj]; exact hu
    unfold maxLen at hm
    refine ⟨some ad, cc, L, by rw [hcs, hL], by omega, fun h0 => ?_⟩
    obtain ⟨b, o, s⟩ := ad
    obtain rfl : s = none := by
      have := (hP 0 h0).1 0 _ rfl
      simpa [Addr.add] using World.cell?_spot this
    refine ⟨b, o, rfl, fun i y hy => ?_⟩
    obtain ⟨hi, rfl⟩ := List.getElem?_eq_some_iff.1 hy
    obtain ⟨hc, hW⟩ := hP i hi
    have g0 := hc 0 _ rfl
    have g1 := hc 1 _ rfl
    have g2 := hc 2 _ rfl
    have g3 := hc 3 _ rfl
    rw [Addr.add_mid, Addr.add_mid] at g0 g1 g2 g3
    exact ⟨⟨g0, g1, g2, g3⟩, hW⟩
set_option maxRecDepth 20000 in
theorem open_script_val {H : Type} {enc : TypeId × Value → H} {W : World} {base : Nat} {v : Value} {d : DataW H} {p : List MemPlace} (hv : Value.okWide Try.prog W .any base 43 v)
    (h : DataW.Trod enc Try.prog W 0 (fun _ => true) true 43 v d p) {ts : List TypeId} {ds : List (DataW H)} (_ : (DataW.weightsEach Try.prog ts ds).all (· ≤ reachBytes) = true) {j : Nat} (_ : ts[j]? = some 43) (_ : ds[j]? = some d) :
    ∃ (q : Option Addr) (e : Nat) (L : List OpD), v = .slice q L.length e ∧ L.length ≤ 9223372036854775807 ∧ Scr W q L := by
  obtain ⟨fuel, hf⟩ := h
  have hcs : v.cells.toList = [v] := by
    obtain ⟨_, _, _, rfl⟩ := Go.WideShapes.okWide_slice Try.underlying43 hv
    rfl
  rw [hcs] at hf
  exact open_script hf
theorem Scr.below {w w' : World} {p : Option Addr} {L : List OpD} (h : Scr w p L) (hb : Below w.heap.size w w') : Scr w' p L := fun h0 => by
  obtain ⟨b, o, e, hc⟩ := h h0
  refine ⟨b, o, e, fun i y hy => ?_⟩
  obtain ⟨⟨c0, c1, c2, c3⟩, hW⟩ := hc i y hy
  have hlt := cell_lt c0
  exact ⟨⟨(hb.cell (p := ⟨b, o + i * 4, none⟩) hlt).trans c0, (hb.cell (p := ⟨b, o + i * 4 + 1, none⟩) hlt).trans c1, (hb.cell (p := ⟨b, o + i * 4 + 2, none⟩) hlt).trans c2, (hb.cell (p := ⟨b, o + i * 4 + 3, none⟩) hlt).trans c3⟩, hW⟩
end Go.Proofs.Ytkpieeldoielgaa

/- Ours: which sites a call tells; the table of the fixed answers; awake. -/
namespace Go.Proofs.Ytkpieeldoielgaa
open Go.RowKit

/-- the sites of a key are those that are its -/
theorem ofK_filter {si : List Si} (hs : byKey si) (z : Int) : ofK si z = si.filter fun s => decide (s.key = z) := by
  obtain ⟨a1, a2⟩ := cutK_sorted hs z
  obtain ⟨b1, b2⟩ := cutK_sorted hs (z + 1)
  have hmo := cutK_mono si (show z ≤ z + 1 by omega)
  have hle := cutK_le si (z + 1)
  unfold ofK
  generalize cutK si z = a at *
  generalize cutK si (z + 1) = b at *
  have e : si = si.take a ++ ((si.drop a).take (b - a) ++ si.drop b) := by
    have h1 := (List.take_append_drop (b - a) (si.drop a)).symm
    rw [List.drop_drop, show a + (b - a) = b by omega] at h1
    rw [← h1, List.take_append_drop]
  have f1 : (si.take a).filter (fun s => decide (s.key = z)) = [] := by
    rw [List.filter_eq_nil_iff]
    intro s hs'
    obtain ⟨i, hi, rfl⟩ := List.getElem_of_mem hs'
    rw [List.length_take] at hi
    rw [List.getElem_take]
    have := a1 i (by omega) (by omega)
    simp; omega
  have f3 : (si.drop b).filter (fun s => decide (s.key = z)) = [] := by
    rw [List.filter_eq_nil_iff]
    intro s hs'
    obtain ⟨i, hi, rfl⟩ := List.getElem_of_mem hs'
    rw [List.length_drop] at hi
    rw [List.getElem_drop]
    have := b2 (b + i) (by omega) (by omega)
    simp; omega
  have f2 : ((si.drop a).take (b - a)).filter (fun s => decide (s.key = z)) = (si.drop a).take (b - a) := by
    rw [List.filter_eq_self]
    intro s hs'
    obtain ⟨i, hi, rfl⟩ := List.getElem_of_mem hs'
    rw [List.length_take, List.length_drop] at hi
    rw [List.getElem_take, List.getElem_drop]
    have h1 := a2 (a + i) (by omega) (by omega)
    have h2 := b1 (a + i) (by omega) (by omega)
    simp; omega
  conv => rhs; rw [e]
  rw [List.filter_append, List.filter_append, f1, f2, f3]
  simp
/-- the sites that a call tells -/
def toldR (si : List Si) (z : Int) (r : CalR) : List Si := if r.turns = true then ofK si z else []
theorem call_sl (h b n : Nat) (cs : List Int) (p : Option Addr) (c : Nat) (si : List Si) (w : World) (op : Bool) (H : TabAt w h b n cs op p c si) (z : Int) (hz : i64P z) (up : Bool) (hn : n < 524288) (r : CalR) (hr : calL cs op z up = r) (L : List Si) (hL : toldR si z r = L) :
    Calls Try.prog 11 #[.pointer (some ⟨h, 0, none⟩), .int .i64 z, .bool up] w fun e w' => ∃ q cq n', e = .returned (.tuple #[.slice q L.length cq, .bool r.turns, .int .i64 r.e]) ∧ TOwn 41 w' w.heap.size (.slice q L.length cq) (L.map siV) ∧ TabAt w' h b n' r.cs r.op p c si ∧ n' ≤ n + 1 ∧ Keeps (G2 h b) w w' := by
  subst hr hL
  refine (call_any h b n cs p c si w op H z hz up hn).mono ?_
  rintro e w' ⟨v, n', rfl, hT, h1, h2, h3⟩
  obtain ⟨q, cq, hv, -, -, -⟩ := hT.row3
  rw [List.length_map] at hv
  subst hv
  exact ⟨q, cq, n', rfl, hT, h1, h2, h3⟩
/-- the image of the fixed answers -/
def im2 : IM := imM [0, 0, 1]
theorem im2_si : im2.si = [⟨0, 8, 17⟩, ⟨0, 20, 29⟩, ⟨1, 32, 41⟩] := by kernel_rfl
theorem im2_ks : im2.ks.length = 2 := by kernel_rfl
theorem im2_ok : okI im2 = true := imM_ok _ (by decide)
theorem im2_by : byKey im2.si := by rw [im2_si]; unfold byKey; decide
theorem im2_of0 : ofK im2.si 0 = [⟨0, 8, 17⟩, ⟨0, 20, 29⟩] := by rw [ofK_filter im2_by, im2_si]; decide
theorem im2_of1 : ofK im2.si 1 = [⟨1, 32, 41⟩] := by rw [ofK_filter im2_by, im2_si]; decide
set_option maxRecDepth 20000 in
set_option maxHeartbeats 1600000 in
theorem two_any (w : World) : Calls Try.prog 10 #[] w fun e w' => ∃ vB vK vS vU, e = .returned (.agg #[vB, vK, vS, vU]) ∧ ImOwn w' w.heap.size im2 vB vK vS vU ∧ Below w.heap.size w w' := by
  have HRs := Hid.in ((Blk.new w 31 nil4).grow (new_alloc _ (.cells #[.int .i64 0, .int .i64 0, .int .i64 1] 3)))
  have HB0 := Hid.in (below_alloc (new_alloc w (.cells nil4 31)) (.cells #[.int .i64 0, .int .i64 0, .int .i64 1] 3))
  have hn0 := Blk.new (w.alloc (.cells nil4 31)) 3 #[.int .i64 0, .int .i64 0, .int .i64 1]
  rw [size_one] at hn0
  have HR0 : Hid (GRow ((w.alloc (.cells nil4 31)).alloc (.cells #[.int .i64 0, .int .i64 0, .int .i64 1] 3)) (some ⟨w.heap.size + 1, 0, none⟩) (numZ [0, 0, 1])) := fun _ => ⟨_, _, rfl, fun i _ => by
    rw [Nat.zero_add, hn0.cell]; simp⟩
  clear hn0
  go_enter Try.func10, Try.ntmps10
  go_wp2_with (go_at_call 16; refine Hid.out ?_)
  refine Lib.hid ?_
  generalize (w.alloc (.cells nil4 31)).alloc (.cells #[.int .i64 0, .int .i64 0, .int .i64 1] 3) = w1 at *
  refine (image_any (some ⟨w.heap.size + 1, 0, none⟩) 3 3 [0, 0, 1] w1 rfl (by decide) (by decide) HR0.out).mono ?_
  rintro e w2 ⟨vB, vK, vS, vU, rfl, hI, hb2⟩
  have e2 : imM (([0, 0, 1] : List Int).take 20) = im2 := rfl
  rw [e2] at hI
  have hlw := HRs.out.lt
  have HI := Hid.in hI
  have HR2 := Hid.in (HRs.out.grow hb2)
  have HB2 := Hid.in (below_step HB0.out hb2)
  obtain ⟨z0, z1, z2, z3⟩ := HR2.out.cells4
  have f0 := HR2.out.free 0
  have f1 := HR2.out.free 1
  have f2 := HR2.out.free 2
  have f3 := HR2.out.free 3
  obtain ⟨pb, nb', cb', rfl, -⟩ := HI.out.b.sl
  obtain ⟨pk, nk', ck', rfl, -⟩ := HI.out.k.sl
  obtain ⟨ps, ns', cs', rfl, -⟩ := HI.out.s.sl
  obtain ⟨pu, nu', cu', rfl, -⟩ := HI.out.u.sl
  clear hI hb2 e2 HRs HB0 HR0
  have HBE := Hid.in (HR2.out.set4 rfl (.slice pb nb' cb') (.slice pk nk' ck') (.slice ps ns' cs') (.slice pu nu' cu') rfl)
  have HIE := Hid.in (HI.out.set4 (R := w.heap.size) hlw (.slice pb nb' cb') (.slice pk nk' ck') (.slice ps ns' cs') (.slice pu nu' cu'))
  have HLE := Hid.in (below4 (R := w.heap.size) (Below.refl _ w2) (.slice pb nb' cb') (.slice pk nk' ck') (.slice ps ns' cs') (.slice pu nu' cu'))
  go_wp2_with fail
  generalize ((((w2.setCell ⟨w.heap.size, 0, none⟩ (.slice pb nb' cb')).setCell ⟨w.heap.size, 1, none⟩ (.slice pk nk' ck')).setCell ⟨w.heap.size, 2, none⟩ (.slice ps ns' cs')).setCell ⟨w.heap.size, 3, none⟩ (.slice pu nu' cu')) = w3 at *
  have hld := load_im HBE.out
  exact bodyPost_ret (v := .agg #[.slice pb nb' cb', .slice pk nk' ck', .slice ps ns' cs', .slice pu nu' cu']) (by simp [results, asAddr, hld]) rfl ⟨_, _, _, _, rfl, HIE.out.lower (by omega), HB2.out.trans HLE.out⟩
/-- the table of two keys -/
theorem tnew_two (w : World) (B : Nat) (vB vK vS vU : Value) (h : ImOwn w B im2 vB vK vS vU) :
    Calls Try.prog 9 #[.agg #[vB, vK, vS, vU]] w fun e w' => ∃ h b p c, e = .returned (.tuple #[.pointer (some ⟨h, 0, none⟩), .int .i64 0]) ∧ TabAt w' h b 2 [0, 0] false p c im2.si ∧ Below w.heap.size w w' ∧ w.heap.size ≤ h ∧ w.heap.size ≤ b := by
  obtain ⟨qb, qk, qs, qu, db, dk, ds, du, rfl, rfl, rfl, rfl, hI, -⟩ := h.inOk im2_ok (imM_byt _)
  have hl : im2.si.length = 3 := by rw [im2_si]; rfl
  have hq : qs = none → im2.si.length = 0 := fun e => by
    subst e
    obtain ⟨q, cq, hv, -, -, hr⟩ := h.s.row3
    obtain ⟨b, o, e', -⟩ := hI.rs (by rw [List.length_map, hl]; decide)
    cases e'
  refine (tnew_yes im2 qb qk qs qu _ _ _ _ _ _ _ _ w hI im2_ok hq).mono ?_
  rintro e w' ⟨h', b', p', c', rfl, hT, hb, h1, h2, -⟩
  rw [im2_ks] at hT
  exact ⟨h', b', p', c', rfl, hT, hb, h1, h2⟩
end Go.Proofs.Ytkpieeldoielgaa

/- Ours: switchyardlaw21.awake answers true. -/
namespace Go.Proofs.Ytkpieeldoielgaa
open Go.RowKit

theorem i64_0 : i64P 0 := by unfold i64P; omega
theorem i64_1 : i64P 1 := by unfold i64P; omega
set_option maxRecDepth 20000 in
set_option maxHeartbeats 6400000 in
theorem awake_any (w : World) : Calls Try.prog 15 #[] w fun e w' => e = .returned (.bool true) ∧ Below w.heap.size w w' := by
  go_enter Try.func15, Try.ntmps15
  go_wp2_with (go_at_call 10; refine Hid.out ?_)
  refine Lib.hid ?_
  refine (two_any w).mono ?_
  rintro e w1 ⟨vB, vK, vS, vU, rfl, hI, hb1⟩
  have hT1 := tnew_two w1 w.heap.size vB vK vS vU hI
  have HB1 := Hid.in hb1
  clear hI hb1
  go_wp2_with (go_at_call 9; refine Hid.out ?_)
  refine Lib.hid ?_
  (with_reducible refine hT1.mono ?_)
  rintro e w2 ⟨h, b, p, c, rfl, hT, hb2, hh, hb⟩
  have HB2 := Hid.in (below_step HB1.out hb2)
  have HG : Hid (∀ j, G2 h b j → w.heap.size ≤ j) := fun j hj => by
    have := HB1.out.size
    rcases hj with rfl | rfl <;> omega
  have HS2 : Hid (w.heap.size ≤ w2.heap.size) := HB2.out.size
  have hC := call_sl h b 2 [0, 0] p c im2.si w2 false hT 0 i64_0 true (by decide) ⟨[1, 0], true, true, 0⟩ (by kernel_rfl) [⟨0, 8, 17⟩, ⟨0, 20, 29⟩] im2_of0
  clear hT hb2 hT1 HB1 hh hb
  go_wp2_with (go_at_call 11; refine Hid.out ?_)
  refine Lib.hid ?_
  (with_reducible refine hC.mono ?_)
  rintro e w3 ⟨q, cq, n3, rfl, -, hT3, hn3, hK3⟩
  have HB3 : Hid (Below w.heap.size w w3) := HB2.out.trans (hK3.below HS2.out HG.out)
  have hC3 := call_sl h b n3 [1, 0] p c im2.si w3 true hT3 1 i64_1 true (by omega) ⟨[1, 0], true, false, 310⟩ (by kernel_rfl) [] rfl
  clear hT3 hK3 hC HB2 HS2
  go_wp2_with (go_at_call 11; refine Hid.out ?_)
  refine Lib.hid ?_
  (with_reducible refine hC3.mono ?_)
  rintro e w4 ⟨q4, cq4, n4, rfl, -, hT4, hn4, hK4⟩
  have HB4 : Hid (Below w.heap.size w w4) := HB3.out.trans (hK4.below HB3.out.size HG.out)
  have hC4 := return_any h b n4 [1, 0] true p c im2.si w4 hT4
  clear hT4 hK4 hC3 HB3
  go_wp2_with (go_at_call 12; refine Hid.out ?_)
  refine Lib.hid ?_
  (with_reducible refine hC4.mono ?_)
  rintro e w5 ⟨rfl, hT5, hK5⟩
  have HB5 : Hid (Below w.heap.size w w5) := HB4.out.trans (hK5.below HB4.out.size HG.out)
  have hC5 := call_sl h b n4 [1, 0] p c im2.si w5 false hT5 0 i64_0 true (by omega) ⟨[2, 0], false, false, 0⟩ (by kernel_rfl) [] rfl
  clear hT5 hK5 hC4 HB4
  go_wp2_with (go_at_call 11; refine Hid.out ?_)
  refine Lib.hid ?_
  (with_reducible refine hC5.mono ?_)
  rintro e w6 ⟨q6, cq6, n6, rfl, -, hT6, hn6, hK6⟩
  have HB6 : Hid (Below w.heap.size w w6) := HB5.out.trans (hK6.below HB5.out.size HG.out)
  have hC6 := count_any h b n6 [2, 0] false p c im2.si w6 hT6 0 i64_0
  have e6 : cntL [2, 0] 0 = (2, 0) := by decide
  rw [e6] at hC6
  clear hT6 hK6 hC5 HB5 e6
  go_wp2_with (go_at_call 14; refine Hid.out ?_)
  refine Lib.hid ?_
  (with_reducible refine hC6.mono ?_)
  rintro e w7 ⟨rfl, rfl⟩
  clear hC6
  go_wp2_with fail
  go_ret
  exact ⟨rfl, HB6.out⟩
end Go.Proofs.Ytkpieeldoielgaa

/- Ours: keys' methods of what is no table; KeysNone. -/
namespace Go.Proofs.Ytkpieeldoielgaa
open Go.RowKit

/-- what is no table -/
def NoT (w : World) (v : Value) : Prop := v = .pointer none ∨ ∃ q, v = .pointer (some ⟨q, 0, none⟩) ∧ w.cell? ⟨q, 0, none⟩ = some (.map none)
theorem NoT.below {w w' : World} {v : Value} (h : NoT w v) (hb : Below w.heap.size w w') : NoT w' v := by
  rcases h with h | ⟨q, h, hc⟩
  · exact .inl h
  · exact .inr ⟨q, h, (hb.cell (p := ⟨q, 0, none⟩) (cell_lt hc)).trans hc⟩
theorem nnone (w : World) (v : Value) (h : NoT w v) : Calls Try.prog 34 #[v] w fun e w' => e = .returned (.bool true) ∧ w' = w := by
  rcases h with rfl | ⟨q, rfl, hc⟩
  · exact tnone_nil w
  · exact tnone_zero q w hc
section
variable (w : World) (v : Value) (h : NoT w v)
include h
set_option maxHeartbeats 800000 in
theorem ncount (z : Int) : Calls Try.prog 14 #[v, .int .i64 z] w fun e w' => e = .returned (.tuple #[.int .i64 0, .int .i64 1]) ∧ w' = w := by
  have hN := nnone w v h
  clear h
  go_enter Try.func14, Try.ntmps14
  go_wp2_with (go_at_call 34; refine hN.mono ?_; rintro e w1 ⟨rfl, rfl⟩)
  go_ret2
  exact ⟨rfl, rfl⟩
set_option maxHeartbeats 800000 in
theorem non (z : Int) : Calls Try.prog 13 #[v, .int .i64 z] w fun e w' => e = .returned (.tuple #[.bool false, .int .i64 1]) ∧ w' = w := by
  have hN := ncount w v h z
  clear h
  go_enter Try.func13, Try.ntmps13
  go_wp2_with (go_at_call 14; refine hN.mono ?_; rintro e w1 ⟨rfl, rfl⟩)
  go_ret2
  exact ⟨rfl, rfl⟩
set_option maxHeartbeats 800000 in
theorem nbusy : Calls Try.prog 27 #[v] w fun e w' => e = .returned (.bool false) ∧ w' = w := by
  have hN := nnone w v h
  clear h
  go_enter Try.func27, Try.ntmps27
  go_wp2_with (go_at_call 34; refine hN.mono ?_; rintro e w1 ⟨rfl, rfl⟩)
  go_ret
  exact ⟨rfl, rfl⟩
set_option maxHeartbeats 800000 in
theorem nreturn : Calls Try.prog 12 #[v] w fun e w' => e = .returned (.int .i64 1) ∧ w' = w := by
  have hN := nnone w v h
  clear h
  go_enter Try.func12, Try.ntmps12
  go_wp2_with (go_at_call 34; refine hN.mono ?_; rintro e w1 ⟨rfl, rfl⟩)
  go_ret
  exact ⟨rfl, rfl⟩
set_option maxHeartbeats 800000 in
theorem ncopy : Calls Try.prog 24 #[v] w fun e w' => e = .returned (.pointer none) ∧ w' = w := by
  have hN := nnone w v h
  clear h
  go_enter Try.func24, Try.ntmps24
  go_wp2_with (go_at_call 34; refine hN.mono ?_; rintro e w1 ⟨rfl, rfl⟩)
  go_ret
  exact ⟨rfl, rfl⟩
set_option maxHeartbeats 800000 in
theorem ncall (z : Int) (up : Bool) : Calls Try.prog 11 #[v, .int .i64 z, .bool up] w fun e w' => e = .returned (.tuple #[.slice none 0 0, .bool false, .int .i64 1]) ∧ w' = w := by
  have hN := ncount w v h z
  clear h
  go_enter Try.func11, Try.ntmps11
  go_wp2_with (go_at_call 14; refine hN.mono ?_; rintro e w1 ⟨rfl, rfl⟩)
  exact bodyPost_ret (v := .tuple #[.slice none 0 0, .bool false, .int .i64 1]) (by simp [results]) rfl ⟨rfl, rfl⟩
end
theorem ImIn.nilS {m : IM} {pb pk ps pu : Option Addr} {nb cb nk ck ns cs nu cu : Nat} {w : World} (H : ImIn w m pb pk ps pu nb cb nk ck ns cs nu cu) (e : ps = none) : ns = 0 := by
  subst e
  have hl := H.ls
  rcases Nat.eq_zero_or_pos ns with h | h
  · exact h
  · obtain ⟨b, o, e', -⟩ := H.rs (by rw [List.length_map]; omega)
    cases e'
/-- New answers by whether the image is right -/
theorem tnew_any (m : IM) (pb pk ps pu : Option Addr) (nb cb nk ck ns cs nu cu : Nat) (w : World) (H : ImIn w m pb pk ps pu nb cb nk ck ns cs nu cu) :
    Calls Try.prog 9 #[.agg (imA pb pk ps pu nb cb nk ck ns cs nu cu)] w fun e w' => (∃ t x, e = .returned (.tuple #[.pointer t, .int .i64 x]) ∧ ((okI m = true ∧ x = 0) ∨ (okI m = false ∧ x = 2 ∧ t = none))) ∧ Below w.heap.size w w' := by
  cases hok : okI m
  · refine (tnew_no m pb pk ps pu nb cb nk ck ns cs nu cu w H hok).mono ?_
    rintro e w' ⟨rfl, hb⟩
    exact ⟨⟨_, _, rfl, .inr ⟨rfl, rfl, rfl⟩⟩, hb⟩
  · refine (tnew_yes m pb pk ps pu nb cb nk ck ns cs nu cu w H hok H.nilS).mono ?_
    rintro e w' ⟨h, b, p, c, rfl, -, hb, -⟩
    exact ⟨⟨_, _, rfl, .inl ⟨rfl, rfl⟩⟩, hb⟩
/-- the fixed part: two that are no tables -/
def NLit (w : World) (g q : Nat) : Prop := Blk w g 22 #[.pointer none, .pointer (some ⟨q, 0, none⟩)] ∧ w.cell? ⟨q, 0, none⟩ = some (.map none)
theorem NLit.below {w w' : World} {g q : Nat} (h : NLit w g q) (hb : Below w.heap.size w w') : NLit w' g q := ⟨h.1.grow hb, (hb.cell (p := ⟨q, 0, none⟩) (cell_lt h.2)).trans h.2⟩
set_option maxRecDepth 20000 in
set_option maxHeartbeats 6400000 in
theorem none_walk (m : IM) (pb pk ps pu : Option Addr) (nb cb nk ck ns cs nu cu : Nat) (key : Int) (up : Bool) (w : World) (H : ImIn w m pb pk ps pu nb cb nk ck ns cs nu cu) :
    Calls Try.prog 5 #[.agg (imA pb pk ps pu nb cb nk ck ns cs nu cu), .int .i64 key, .bool up] w fun e w' => e = .returned (.bool true) ∧ Below w.heap.size w w' := by
  have HA0 : Hid (Blk (w.alloc (.cells (imA pb pk ps pu nb cb nk ck ns cs nu cu) 31)) w.heap.size 31 (imA pb pk ps pu nb cb nk ck ns cs nu cu)) := Blk.new w 31 _
  have HW0 : Hid (Below w.heap.size w (w.alloc (.cells (imA pb pk ps pu nb cb nk ck ns cs nu cu) 31))) := new_alloc w _
  obtain ⟨a0, a1, a2, a3⟩ := HA0.out.cells4
  have hN := tnew_any m pb pk ps pu nb cb nk ck ns cs nu cu _ (H.below HW0.out)
  have HI := Hid.in H
  clear H
  go_enter Try.func5, Try.ntmps5
  go_wp2_with (go_at_call 9; refine Hid.out ?_)
  refine Lib.hid ?_
  generalize w.alloc (.cells (imA pb pk ps pu nb cb nk ck ns cs nu cu) 31) = w0 at *
  (with_reducible refine hN.mono ?_)
  rintro e w1 ⟨⟨t, x, rfl, hx⟩, hb1⟩
  have HB1 := Hid.in (below_step HW0.out hb1)
  have HA1 := Hid.in (HA0.out.grow hb1)
  clear hb1 hN a0 a1 a2 a3 HA0 HW0
  obtain ⟨a0, a1, a2, a3⟩ := HA1.out.cells4
  have hR := iright_any m pb pk ps pu nb cb nk ck ns cs nu cu w1 (HI.out.below HB1.out)
  go_wp2_with (go_at_call 26; refine Hid.out ?_)
  refine Lib.hid ?_
  (with_reducible refine hR.mono ?_)
  rintro e w2 ⟨rfl, hb2⟩
  have HB2 := Hid.in (below_step HB1.out hb2)
  clear hb2 hR a0 a1 a2 a3 HA1 HB1
  rcases hx with ⟨h1, rfl⟩ | ⟨h1, rfl, rfl⟩
  · rw [h1]
    go_upto_region 5 with fail
    have HL : Hid (NLit ((w2.alloc (.cells #[.map none, .slice none 0 0, .bool false] 66)).alloc (.cells #[.pointer none, .pointer (some ⟨w2.heap.size, 0, none⟩)] 22)) (w2.heap.size + 1) w2.heap.size) := by
      have h2 := Blk.new (w2.alloc (.cells #[.map none, .slice none 0 0, .bool false] 66)) 22 #[.pointer none, .pointer (some ⟨w2.heap.size, 0, none⟩)]
      rw [size_one] at h2
      exact ⟨h2, ((Blk.new w2 66 #[.map none, .slice none 0 0, .bool false]).grow (new_alloc _ _)).cell 0⟩
    have HB3 := Hid.in (below_step HB2.out (below_alloc (new_alloc w2 (.cells #[.map none, .slice none 0 0, .bool false] 66)) (.cells #[.pointer none, .pointer (some ⟨w2.heap.size, 0, none⟩)] 22)))
    go_wp2_with fail
    generalize (w2.alloc (.cells #[.map none, .slice none 0 0, .bool false] 66)).alloc (.cells #[.pointer none, .pointer (some ⟨w2.heap.size, 0, none⟩)] 22) = w3 at *
    generalize hgq : w2.heap.size = q at *
    clear HB2 hgq
    go_loopw [46] (fun vi wr => ∃ i : Nat, i ≤ 2 ∧ vi = .int .i64 i ∧ NLit wr (q + 1) q ∧ Below w.heap.size w wr) (fun vi _ => 2 - (intOf vi).toNat)
    case atStart => exact ⟨0, Nat.zero_le _, rfl, HL.out, HB3.out⟩
    case round =>
      obtain ⟨i, hi, rfl, hL, hB⟩ := hrel
      have HLr := Hid.in hL
      have HBr := Hid.in hB
      clear hL hB HL HB3
      by_cases hlt : i < 2
      · obtain ⟨v, hv, hcv⟩ : ∃ v, NoT wr v ∧ wr.cell? ⟨q + 1, i, none⟩ = some v := by
          rcases (by omega : i = 0 ∨ i = 1) with rfl | rfl
          · exact ⟨_, .inl rfl, HLr.out.1.cell 0⟩
          · exact ⟨_, .inr ⟨q, rfl, HLr.out.2⟩, HLr.out.1.cell 1⟩
        have n1 := ncall wr v hv key up
        have n2 := ncount wr v hv key
        have n3 := non wr v hv key
        have n4 := nreturn wr v hv
        have n5 := nbusy wr v hv
        have n6 := ncopy wr v hv
        clear hv
        go_wp2_with (first
          | (go_at_call 11; refine n1.mono ?_; rintro e w4 ⟨rfl, rfl⟩)
          | (go_at_call 14; refine n2.mono ?_; rintro e w4 ⟨rfl, rfl⟩)
          | (go_at_call 13; refine n3.mono ?_; rintro e w4 ⟨rfl, rfl⟩)
          | (go_at_call 12; refine n4.mono ?_; rintro e w4 ⟨rfl, rfl⟩)
          | (go_at_call 27; refine n5.mono ?_; rintro e w4 ⟨rfl, rfl⟩)
          | (go_at_call 24; refine n6.mono ?_; rintro e w4 ⟨rfl, rfl⟩))
        go_roundw
        case rel => exact ⟨i + 1, by omega, by go_num, HLr.out, HBr.out⟩
        case measure => simp [intOf]; omega
      · obtain rfl : i = 2 := by omega
        go_wp2_with (go_at_call 15; refine (awake_any _).mono ?_; rintro e w5 ⟨rfl, hb5⟩; have HB5 := Hid.in (below_step HBr.out hb5); clear hb5)
        go_ret
        exact ⟨rfl, HB5.out⟩
  · rw [h1]
    go_upto_region 5 with fail
    have HL : Hid (NLit ((w2.alloc (.cells #[.map none, .slice none 0 0, .bool false] 66)).alloc (.cells #[.pointer none, .pointer (some ⟨w2.heap.size, 0, none⟩)] 22)) (w2.heap.size + 1) w2.heap.size) := by
      have h2 := Blk.new (w2.alloc (.cells #[.map none, .slice none 0 0, .bool false] 66)) 22 #[.pointer none, .pointer (some ⟨w2.heap.size, 0, none⟩)]
      rw [size_one] at h2
      exact ⟨h2, ((Blk.new w2 66 #[.map none, .slice none 0 0, .bool false]).grow (new_alloc _ _)).cell 0⟩
    have HB3 := Hid.in (below_step HB2.out (below_alloc (new_alloc w2 (.cells #[.map none, .slice none 0 0, .bool false] 66)) (.cells #[.pointer none, .pointer (some ⟨w2.heap.size, 0, none⟩)] 22)))
    go_wp2_with fail
    generalize (w2.alloc (.cells #[.map none, .slice none 0 0, .bool false] 66)).alloc (.cells #[.pointer none, .pointer (some ⟨w2.heap.size, 0, none⟩)] 22) = w3 at *
    generalize hgq : w2.heap.size = q at *
    clear HB2 hgq
    go_loopw [46] (fun vi wr => ∃ i : Nat, i ≤ 2 ∧ vi = .int .i64 i ∧ NLit wr (q + 1) q ∧ Below w.heap.size w wr) (fun vi _ => 2 - (intOf vi).toNat)
    case atStart => exact ⟨0, Nat.zero_le _, rfl, HL.out, HB3.out⟩
    case round =>
      obtain ⟨i, hi, rfl, hL, hB⟩ := hrel
      have HLr := Hid.in hL
      have HBr := Hid.in hB
      clear hL hB HL HB3
      by_cases hlt : i < 2
      · obtain ⟨v, hv, hcv⟩ : ∃ v, NoT wr v ∧ wr.cell? ⟨q + 1, i, none⟩ = some v := by
          rcases (by omega : i = 0 ∨ i = 1) with rfl | rfl
          · exact ⟨_, .inl rfl, HLr.out.1.cell 0⟩
          · exact ⟨_, .inr ⟨q, rfl, HLr.out.2⟩, HLr.out.1.cell 1⟩
        have n1 := ncall wr v hv key up
        have n2 := ncount wr v hv key
        have n3 := non wr v hv key
        have n4 := nreturn wr v hv
        have n5 := nbusy wr v hv
        have n6 := ncopy wr v hv
        clear hv
        go_wp2_with (first
          | (go_at_call 11; refine n1.mono ?_; rintro e w4 ⟨rfl, rfl⟩)
          | (go_at_call 14; refine n2.mono ?_; rintro e w4 ⟨rfl, rfl⟩)
          | (go_at_call 13; refine n3.mono ?_; rintro e w4 ⟨rfl, rfl⟩)
          | (go_at_call 12; refine n4.mono ?_; rintro e w4 ⟨rfl, rfl⟩)
          | (go_at_call 27; refine n5.mono ?_; rintro e w4 ⟨rfl, rfl⟩)
          | (go_at_call 24; refine n6.mono ?_; rintro e w4 ⟨rfl, rfl⟩))
        go_roundw
        case rel => exact ⟨i + 1, by omega, by go_num, HLr.out, HBr.out⟩
        case measure => simp [intOf]; omega
      · obtain rfl : i = 2 := by omega
        go_wp2_with (go_at_call 15; refine (awake_any _).mono ?_; rintro e w5 ⟨rfl, hb5⟩; have HB5 := Hid.in (below_step HBr.out hb5); clear hb5)
        go_ret
        exact ⟨rfl, HB5.out⟩
end Go.Proofs.Ytkpieeldoielgaa

/- Ours: the table of an image that switchyardmade makes. -/
namespace Go.Proofs.Ytkpieeldoielgaa
open Go.RowKit

theorem imM_by (l : List Int) (h : l.length ≤ 20) : byKey (imM l).si := (right_byKey (okI_parts (imM_ok l h)).2.1).1
theorem imM_ks (l : List Int) : (imM l).ks.length = imN l := txtP_len _
theorem imM_sl (l : List Int) : (imM l).si.length = l.length := by show ((imS l).map zS).length = _; rw [List.length_map, imS_len]
/-- each key has a site -/
theorem kdS_onto (l : List Int) : ∀ i, ∀ k : Nat, k < (kdS l i).1.length → ∃ j, j < i ∧ (kdS l i).2.getD j 0 = k
  | 0, k, h => absurd h (by simp [kdS])
  | i + 1, k, h => by
    have hl := (kdS_len l i).1
    simp only [kdS] at h ⊢
    split at h
    · rename_i hc
      rw [if_pos hc]
      simp only [List.length_append, List.length_cons, List.length_nil] at h
      by_cases hk : k < (kdS l i).1.length
      · obtain ⟨j, hj, e⟩ := kdS_onto l i k hk
        refine ⟨j, by omega, ?_⟩
        rw [List.getD, List.getElem?_append_left (by omega)]
        exact e
      · refine ⟨i, by omega, ?_⟩
        rw [List.getD, List.getElem?_append_right (by omega), hl, Nat.sub_self]
        simp
        omega
    · rename_i hc
      rw [if_neg hc]
      obtain ⟨j, hj, e⟩ := kdS_onto l i k h
      refine ⟨j, by omega, ?_⟩
      dsimp only
      rw [List.getD, List.getElem?_append_left (by omega)]
      exact e
theorem imM_some (l : List Int) (h : l.length ≤ 20) (k : Nat) (hk : k < imN l) : 0 < (ofK (imM l).si k).length := by
  obtain ⟨j, hj, e⟩ := kdS_onto l l.length k hk
  rw [ofK_filter (imM_by l h)]
  have hm : zS (imZ l j) ∈ (imM l).si := by
    show _ ∈ (imS l).map zS
    refine List.mem_map.2 ⟨imZ l j, ?_, rfl⟩
    refine (imS_perm l).mem_iff.2 ?_
    unfold imR
    exact List.mem_map.2 ⟨j, List.mem_range.2 hj, rfl⟩
  have : zS (imZ l j) ∈ (imM l).si.filter (fun s => decide (s.key = (k : Int))) := by
    rw [List.mem_filter]
    exact ⟨hm, decide_eq_true e⟩
  exact List.length_pos_of_mem this
theorem tnew_im (l : List Int) (h20 : l.length ≤ 20) (w : World) (B : Nat) (vB vK vS vU : Value) (h : ImOwn w B (imM l) vB vK vS vU) :
    Calls Try.prog 9 #[.agg #[vB, vK, vS, vU]] w fun e w' => ∃ h b p c, e = .returned (.tuple #[.pointer (some ⟨h, 0, none⟩), .int .i64 0]) ∧ TabAt w' h b (imN l) (zerosC (imN l)) false p c (imM l).si ∧ Below w.heap.size w w' ∧ w.heap.size ≤ h ∧ w.heap.size ≤ b ∧ ∀ a, p = some a → w.heap.size ≤ a.block := by
  obtain ⟨qb, qk, qs, qu, db, dk, ds, du, rfl, rfl, rfl, rfl, hI, -⟩ := h.inOk (imM_ok l h20) (imM_byt _)
  refine (tnew_yes (imM l) qb qk qs qu _ _ _ _ _ _ _ _ w hI (imM_ok l h20) hI.nilS).mono ?_
  rintro e w' ⟨h', b', p', c', rfl, hT, hb, h1, h2, h3⟩
  rw [imM_ks] at hT
  exact ⟨h', b', p', c', rfl, hT, hb, h1, h2, h3⟩
/-- Image's answer as an image in memory -/
theorem image_sl (p : Option Addr) (n c : Nat) (L : List Int) (w : World) (hL : L.length = n) (hn : n ≤ 140737488355328) (hnc : n ≤ c) (hr : GRow w p (numZ L)) :
    Calls Try.prog 16 #[.slice p n c] w fun e w' => ∃ l qb qk qs qu nb db dk ns ds nu du, l = L.take 20 ∧ e = .returned (.agg #[.slice qb nb db, .slice qk (imN l) dk, .slice qs ns ds, .slice qu nu du]) ∧ ImOwn w' w.heap.size (imM l) (.slice qb nb db) (.slice qk (imN l) dk) (.slice qs ns ds) (.slice qu nu du) ∧ ns = l.length ∧ Below w.heap.size w w' := by
  refine (image_any p n c L w hL hn hnc hr).mono ?_
  rintro e w' ⟨vB, vK, vS, vU, rfl, hI, hb⟩
  have h20 : (L.take 20).length ≤ 20 := by rw [List.length_take]; omega
  obtain ⟨qb, qk, qs, qu, db, dk, ds, du, rfl, rfl, rfl, rfl, -, -⟩ := hI.inOk (imM_ok _ h20) (imM_byt _)
  rw [imM_ks] at hI ⊢
  exact ⟨_, qb, qk, qs, qu, _, db, dk, _, ds, _, du, rfl, rfl, hI, imM_sl _, hb⟩
theorem zerosC_at (n k : Nat) : (zerosC n).getD k 0 = 0 := by
  unfold zerosC
  by_cases h : k < n <;> simp [List.getD, h]
end Go.Proofs.Ytkpieeldoielgaa
