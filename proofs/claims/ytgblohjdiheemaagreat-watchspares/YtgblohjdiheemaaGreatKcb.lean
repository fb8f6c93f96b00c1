/- Texts put together: OpenI, OpenN, OpenE, Spr2, RVw, SprW. -/
import Derived.Test.YtgblohjdiheemaaGreatKar
import Derived.Test.YtgblohjdiheemaaGreatKai
import Derived.SizedLaws
import Derived.Test.YtgblohjdiheemaaGreatKap
import Derived.Test.YtgblohjdiheemaaGreatKah
import Derived.Deep.MidRow
import Derived.Test.YtgblohjdiheemaaGreatKca
import Derived.Test.YtgblohjdiheemaaGreatKas
import Derived.Test.YtgblohjdiheemaaGreatRfC
import Derived.Test.YtgblohjdiheemaaGreatRfB
import Derived.Test.YtgblohjdiheemaaGreatRfD
import Derived.Test.YtgblohjdiheemaaGreatRRgW
import Derived.Test.YtgblohjdiheemaaGreatKao
import Derived.Deep.DeepCutAuto
import Derived.Deep.RegionHeld3

/- How an image (api.Image) that came in by value is opened, of every size that an argument may have. -/
namespace Go.Proofs.YtgblohjdiheemaaGreat
open Go.ChangeShapes Go.WideShapes Go.ChangeAt Go.RowKit

theorem Tryz.cells9 : Tryz.prog.cellsOf 9 = 1 := by kernel_rfl
theorem Tryz.cells22 : Tryz.prog.cellsOf 22 = 1 := by kernel_rfl
theorem Tryz.cells23 : Tryz.prog.cellsOf 23 = 1 := by kernel_rfl
theorem Tryz.cells24 : Tryz.prog.cellsOf 24 = 1 := by kernel_rfl
theorem Tryz.cells25 : Tryz.prog.cellsOf 25 = 1 := by kernel_rfl
theorem Tryz.cells27 : Tryz.prog.cellsOf 27 = 4 := by kernel_rfl
theorem Tryz.cells68 : Tryz.prog.cellsOf 68 = 3 := by kernel_rfl
theorem Tryz.bytes3 : Tryz.prog.bytesOf 3 = 8 := by kernel_rfl
theorem Tryz.bytes9 : Tryz.prog.bytesOf 9 = 16 := by kernel_rfl
theorem Tryz.bytes68 : Tryz.prog.bytesOf 68 = 24 := by kernel_rfl

theorem list_three {X : Type} {l : List X} (h : l.length = 3) : ∃ a b c, l = [a, b, c] := by
  match l, h with
  | [a, b, c], _ => exact ⟨a, b, c, rfl⟩
theorem list_four {X : Type} {l : List X} (h : l.length = 4) : ∃ a b c d, l = [a, b, c, d] := by
  match l, h with
  | [a, b, c, d], _ => exact ⟨a, b, c, d, rfl⟩
theorem list_ofG {X : Type} {P : Nat → X → Prop} : ∀ n, (∀ i, i < n → ∃ x, P i x) → ∃ xs : List X, xs.length = n ∧ ∀ i (h : i < xs.length), P i xs[i]
  | 0, _ => ⟨[], rfl, fun i h => absurd h (by simp)⟩
  | n + 1, h => by
    obtain ⟨xs, hl, hx⟩ := list_ofG n fun i hi => h i (by omega)
    obtain ⟨x, hp⟩ := h n (by omega)
    refine ⟨xs ++ [x], by simp [hl], fun i hi => ?_⟩
    by_cases hin : i < xs.length
    · rw [List.getElem_append_left hin]; exact hx i hin
    · have : i = n := by simp at hi; omega
      subst this
      rw [List.getElem_append_right (by omega)]
      simp [hl]
      exact hp

theorem opened3 {H : Type} {enc : TypeId × Value → H} {W : World} {fuel : Nat} {v : Value} {x : DataW H × List MemPlace} {ST ET : TypeId} {X : Type} (V : X → V3) (P : X → Prop) (hu : Tryz.prog.underlying ST = some (.slice ET)) (hc3 : Tryz.prog.cellsOf ET = 3)
    (hone : ∀ (fuel : Nat) (cs : List Value) (x : DataW H × List MemPlace), DataW.trod enc Tryz.prog W 0 (fun _ => true) true fuel ET cs = some x → ∃ y, cs = l3 (V y) ∧ P y)
    (h : DataW.trod enc Tryz.prog W 0 (fun _ => true) true fuel ST [v] = some x) (hw : ∀ m ∈ x.1.weights Tryz.prog ST, m ≤ reachBytes) :
    ∃ (q : Option Addr) (e : Nat) (L : List X), v = .slice q L.length e ∧ L.length ≤ e ∧ e ≤ maxLen ∧ L.length * Tryz.prog.bytesOf ET ≤ reachBytes ∧ Row3 W q (L.map V) ∧ ∀ y ∈ L, P y := by
  rcases DataW.trod_slice hu h with ⟨hcs, hx⟩ | ⟨ad, l, cc, elems, rest, f, hfu, hcs, hx, _, hl, hm, hlen, hel, hsp, _⟩
  · simp only [List.cons.injEq, and_true] at hcs
    exact ⟨none, 0, [], by rw [hcs]; rfl, Nat.le_refl _, Nat.zero_le _, by simp, Row3.nil W none, fun y hy => by cases hy⟩
  · simp only [List.cons.injEq, and_true] at hcs
    have hwt : l * Tryz.prog.bytesOf ET ≤ reachBytes := by
      have := hw ((elems.length + rest.length) * Tryz.prog.bytesOf ET) (by rw [hx]; simp [DataW.weights, hu])
      exact Nat.le_trans (Nat.mul_le_mul_right _ (by omega)) this
    obtain ⟨L, hL, hP⟩ := list_ofG (P := fun i y => (∀ j u, (l3 (V y))[j]? = some u → W.cell? ((ad.add (i * 3)).add j) = some u) ∧ P y) l fun i hi => by
      have he := hel i hi
      rw [hc3, List.getElem?_eq_getElem (by omega), Option.bind_eq_some_iff] at he
      obtain ⟨cs, hcs, htr⟩ := he
      obtain ⟨_, hcl, hcc⟩ := World.cells?_some hcs
      obtain ⟨y, hy, hp⟩ := hone _ _ _ htr
      refine ⟨y, fun j u hu => ?_, hp⟩
      rw [← hy] at hu
      have hj : j < 3 := by rw [← hcl]; exact (List.getElem?_eq_some_iff.1 hu).1
      rw [hcc j hj]; exact hu
    refine ⟨some ad, cc, L, by rw [hcs, hL], by rw [hL]; exact hl, hm, by rw [hL]; exact hwt, fun h0 => ?_, fun y hy => ?_⟩
    · rw [List.length_map] at h0
      obtain ⟨b, o, s⟩ := ad
      obtain rfl : s = none := by
        have := (hP 0 h0).1 0 _ rfl
        simpa [Addr.add] using World.cell?_spot this
      refine ⟨b, o, rfl, fun i hi j hj => ?_⟩
      rw [List.length_map] at hi
      rw [List.getElem_map]
      have hl3 : j < (l3 (V L[i])).length := hj
      have := (hP i hi).1 j _ (List.getElem?_eq_getElem hl3)
      rw [Addr.add_mid, Addr.add_mid] at this
      rw [this, List.getElem?_eq_getElem hl3]
    · obtain ⟨i, hi, rfl⟩ := List.getElem_of_mem hy
      exact (hP i hi).2

/-- the same, of elements of one cell -/
theorem opened1 {H : Type} {enc : TypeId × Value → H} {W : World} {fuel : Nat} {v : Value} {x : DataW H × List MemPlace} {ST ET : TypeId} {X : Type} (V : X → Value) (P : X → Prop) (hu : Tryz.prog.underlying ST = some (.slice ET)) (hc1 : Tryz.prog.cellsOf ET = 1)
    (hone : ∀ (fuel : Nat) (cs : List Value) (x : DataW H × List MemPlace), DataW.trod enc Tryz.prog W 0 (fun _ => true) true fuel ET cs = some x → ∃ y, cs = [V y] ∧ P y)
    (h : DataW.trod enc Tryz.prog W 0 (fun _ => true) true fuel ST [v] = some x) (hw : ∀ m ∈ x.1.weights Tryz.prog ST, m ≤ reachBytes) :
    ∃ (q : Option Addr) (e : Nat) (L : List X), v = .slice q L.length e ∧ L.length ≤ e ∧ e ≤ maxLen ∧ L.length * Tryz.prog.bytesOf ET ≤ reachBytes ∧ GRow W q (L.map V) ∧ ∀ y ∈ L, P y := by
  rcases DataW.trod_slice hu h with ⟨hcs, hx⟩ | ⟨ad, l, cc, elems, rest, f, hfu, hcs, hx, _, hl, hm, hlen, hel, hsp, _⟩
  · simp only [List.cons.injEq, and_true] at hcs
    exact ⟨none, 0, [], by rw [hcs]; rfl, Nat.le_refl _, Nat.zero_le _, by simp, GRow.nil W none, fun y hy => by cases hy⟩
  · simp only [List.cons.injEq, and_true] at hcs
    have hwt : l * Tryz.prog.bytesOf ET ≤ reachBytes := by
      have := hw ((elems.length + rest.length) * Tryz.prog.bytesOf ET) (by rw [hx]; simp [DataW.weights, hu])
      exact Nat.le_trans (Nat.mul_le_mul_right _ (by omega)) this
    obtain ⟨L, hL, hP⟩ := list_ofG (P := fun i y => (∀ j u, ([V y])[j]? = some u → W.cell? ((ad.add (i * 1)).add j) = some u) ∧ P y) l fun i hi => by
      have he := hel i hi
      rw [hc1, List.getElem?_eq_getElem (by omega), Option.bind_eq_some_iff] at he
      obtain ⟨cs, hcs, htr⟩ := he
      obtain ⟨_, hcl, hcc⟩ := World.cells?_some hcs
      obtain ⟨y, hy, hp⟩ := hone _ _ _ htr
      refine ⟨y, fun j u hu => ?_, hp⟩
      rw [← hy] at hu
      have hj : j < 1 := by rw [← hcl]; exact (List.getElem?_eq_some_iff.1 hu).1
      rw [hcc j hj]; exact hu
    refine ⟨some ad, cc, L, by rw [hcs, hL], by rw [hL]; exact hl, hm, by rw [hL]; exact hwt, fun h0 => ?_, fun y hy => ?_⟩
    · rw [List.length_map] at h0
      obtain ⟨b, o, s⟩ := ad
      obtain rfl : s = none := by
        have := (hP 0 h0).1 0 _ rfl
        simpa [Addr.add] using World.cell?_spot this
      refine ⟨b, o, rfl, fun i hi => ?_⟩
      rw [List.length_map] at hi
      have := (hP i hi).1 0 (V L[i]) rfl
      rw [Addr.add_mid, Addr.add_mid] at this
      simp only [Nat.mul_one, Nat.add_zero] at this
      rw [this, List.getElem?_map, List.getElem?_eq_getElem hi]
      rfl
    · obtain ⟨i, hi, rfl⟩ := List.getElem_of_mem hy
      exact (hP i hi).2

/-- a slice of bytes within a unit -/
theorem open_data {H : Type} {enc : TypeId × Value → H} {W : World} {fuel : Nat} {v : Value} {x : DataW H × List MemPlace} (h : DataW.trod enc Tryz.prog W 0 (fun _ => true) true fuel 22 [v] = some x) (hw : ∀ m ∈ x.1.weights Tryz.prog 22, m ≤ reachBytes) :
    ∃ (q : Option Addr) (e : Nat) (xs : List Int), v = .slice q xs.length e ∧ Row W q xs ∧ Byt xs ∧ xs.length ≤ e ∧ e ≤ maxLen ∧ xs.length ≤ reachBytes := by
  have hr : ∀ q n c, v = .slice q n c → n * 1 ≤ reachBytes := by
    intro q n c hv
    rcases DataW.trod_slice Tryz.underlying22 h with ⟨hcs, hx⟩ | ⟨ad, l, cc, elems, rest, f, hfu, hcs, hx, _, hl, hm, hlen, hel, hsp, _⟩
    · simp only [List.cons.injEq, and_true] at hcs
      rw [hv] at hcs
      simp only [Value.slice.injEq] at hcs
      rw [hcs.2.1]; exact Nat.zero_le _
    · simp only [List.cons.injEq, and_true] at hcs
      rw [hv] at hcs
      simp only [Value.slice.injEq] at hcs
      have := hw ((elems.length + rest.length) * Tryz.prog.bytesOf 5) (by rw [hx]; simp [DataW.weights, Tryz.underlying22])
      rw [Tryz.bytes5] at this
      rw [hcs.2.1]
      omega
  rcases open_ints Tryz.underlying22 Tryz.underlying5 Tryz.cells5 h with ⟨hcs, hx⟩ | ⟨ad, l, cc, zs, hcs, _, hl, hm, hz, hx, hcell, hwz⟩
  · simp only [List.cons.injEq, and_true] at hcs
    exact ⟨none, 0, [], by rw [hcs]; rfl, fun h => absurd h (Nat.lt_irrefl 0), fun i => by simp, Nat.le_refl _, Nat.zero_le _, Nat.zero_le _⟩
  · simp only [List.cons.injEq, and_true] at hcs
    simp only [if_true] at hz
    have hlen : (zs.take l).length = l := by rw [List.length_take]; omega
    have hrr := hr _ _ _ hcs
    refine ⟨some ad, cc, zs.take l, by rw [hcs, hlen], fun h0 => ?_, fun i => getD_of_mem (P := fun x => 0 ≤ x ∧ x ≤ 255) (by decide) (fun x hx' => wf_u8 (hwz x (List.mem_of_mem_take hx'))) i, by omega, hm, by omega⟩
    obtain ⟨b, o, s⟩ := ad
    rw [hlen] at h0
    obtain rfl : s = none := by simpa [Addr.add] using World.cell?_spot (hcell 0 (by omega))
    exact ⟨b, o, rfl, fun i hi => by rw [hlen] at hi; rw [← Go.WideShapes.add_plain, hcell i (by omega)]; simp [List.getD, show i < l by omega]⟩

def SiF (s : Si) : Prop := i64P s.key ∧ i64P s.at_ ∧ i64P s.to_
theorem open_site {H : Type} {enc : TypeId × Value → H} {W : World} (fuel : Nat) (cs : List Value) (x : DataW H × List MemPlace) (h : DataW.trod enc Tryz.prog W 0 (fun _ => true) true fuel 68 cs = some x) : ∃ y, cs = l3 (siV y) ∧ SiF y := by
  obtain ⟨xs, n, rfl, hx, hlen, hxl, hf⟩ := DataW.trod_struct Tryz.underlying68 h
  rw [Tryz.cells68] at hlen
  obtain ⟨a, b, c, rfl⟩ := list_three hlen
  have f0 := hf 0
  have f1 := hf 1
  have f2 := hf 2
  simp [Tryz.cells3] at f0 f1 f2
  obtain ⟨x0, x1, x2, rfl⟩ := list_three (show xs.length = 3 from hxl)
  simp only [List.getElem?_cons_zero, List.getElem?_cons_succ] at f0 f1 f2
  obtain ⟨k, e0, y0, w0⟩ := DataW.trod_int Tryz.underlying3 f0
  obtain ⟨m, e1, y1, w1⟩ := DataW.trod_int Tryz.underlying3 f1
  obtain ⟨g, e2, y2, w2⟩ := DataW.trod_int Tryz.underlying3 f2
  simp only [List.cons.injEq, and_true] at e0 e1 e2
  subst e0 e1 e2
  exact ⟨⟨k, m, g⟩, rfl, wf_i64 w0, wf_i64 w1, wf_i64 w2⟩
theorem open_num {H : Type} {enc : TypeId × Value → H} {W : World} (fuel : Nat) (cs : List Value) (x : DataW H × List MemPlace) (h : DataW.trod enc Tryz.prog W 0 (fun _ => true) true fuel 3 cs = some x) : ∃ y, cs = [Value.int .i64 y] ∧ i64P y := by
  obtain ⟨k, e0, y0, w0⟩ := DataW.trod_int Tryz.underlying3 h
  exact ⟨k, e0, wf_i64 w0⟩
theorem open_txt {H : Type} {enc : TypeId × Value → H} {W : World} (fuel : Nat) (cs : List Value) (x : DataW H × List MemPlace) (h : DataW.trod enc Tryz.prog W 0 (fun _ => true) true fuel 9 cs = some x) : ∃ y, cs = [Value.string y] ∧ y.size ≤ maxLen := by
  obtain ⟨k, e0, y0, w0⟩ := DataW.trod_string Tryz.underlying9 h
  exact ⟨k, e0, w0⟩

theorem open_image {H : Type} {enc : TypeId × Value → H} {W : World} {fuel : Nat} {cs : List Value} {x : DataW H × List MemPlace} (h : DataW.trod enc Tryz.prog W 0 (fun _ => true) true fuel 27 cs = some x) (hw : ∀ m ∈ x.1.weights Tryz.prog 27, m ≤ reachBytes) :
    ∃ (m : IM) (pb pk ps pu : Option Addr) (cb ck cs' cu : Nat), cs = [.slice pb m.bs.length cb, .slice pk m.ks.length ck, .slice ps m.si.length cs', .slice pu m.un.length cu] ∧ ImIn W m pb pk ps pu m.bs.length cb m.ks.length ck m.si.length cs' m.un.length cu ∧
      m.bs.length ≤ reachBytes ∧ m.ks.length * 16 ≤ reachBytes ∧ m.si.length * 24 ≤ reachBytes ∧ m.un.length * 8 ≤ reachBytes := by
  obtain ⟨xs, n, rfl, hx, hlen, hxl, hf⟩ := DataW.trod_struct Tryz.underlying27 h
  rw [Tryz.cells27] at hlen
  obtain ⟨a, b, c, d, rfl⟩ := list_four hlen
  have f0 := hf 0
  have f1 := hf 1
  have f2 := hf 2
  have f3 := hf 3
  simp [Tryz.cells22, Tryz.cells23, Tryz.cells24, Tryz.cells25] at f0 f1 f2 f3
  obtain ⟨x0, x1, x2, x3, rfl⟩ := list_four (show xs.length = 4 from hxl)
  simp only [List.getElem?_cons_zero, List.getElem?_cons_succ] at f0 f1 f2 f3
  have hin : ∀ m ∈ DataW.weightsEach Tryz.prog [22, 23, 24, 25] [x0.1, x1.1, x2.1, x3.1], m ≤ reachBytes := by
    intro m hm
    have hd' : x.1 = .agg [x0.1, x1.1, x2.1, x3.1] := by rw [hx]; rfl
    refine hw m ?_
    rw [hd']
    simp only [DataW.weights, Tryz.underlying27]
    exact hm
  obtain ⟨qb, eb, bs, rfl, hb1, hb2, hb4, hb5, k1⟩ := open_data f0 fun m hm => hin m (DataW.weights_mem_each (j := 0) rfl rfl m hm)
  obtain ⟨qk, ek, K, rfl, hk0, hk1, k2, hk2, hk3⟩ := opened1 Value.string (fun s : ByteArray => s.size ≤ maxLen) Tryz.underlying23 Tryz.cells9 open_txt f1 fun m hm => hin m (DataW.weights_mem_each (j := 1) rfl rfl m hm)
  obtain ⟨qs, es, S, rfl, hs0, hs1, k3, hs2, hs3⟩ := opened3 siV SiF Tryz.underlying24 Tryz.cells68 open_site f2 fun m hm => hin m (DataW.weights_mem_each (j := 2) rfl rfl m hm)
  obtain ⟨qu, eu, U, rfl, hu0, hu1, k4, hu2, hu3⟩ := opened1 (Value.int .i64) i64P Tryz.underlying25 Tryz.cells3 open_num f3 fun m hm => hin m (DataW.weights_mem_each (j := 3) rfl rfl m hm)
  rw [Tryz.bytes9] at k2
  rw [Tryz.bytes68] at k3
  rw [Tryz.bytes3] at k4
  have r2 := k2
  have r3 := k3
  have r4 := k4
  simp only [reachBytes] at r2 r3 r4
  refine ⟨⟨bs, K, S, U⟩, qb, qk, qs, qu, eb, ek, es, eu, rfl, ⟨rfl, rfl, rfl, rfl, hb4, ?_, ?_, ?_, ?_, hb1, hk2, hs2, hu2, hb2, hk3, hu3⟩, k1, k2, k3, k4⟩
  · unfold maxLen at hb5; omega
  · show K.length ≤ _; omega
  · show S.length ≤ _; omega
  · show U.length ≤ _; omega

theorem weights_of {H : Type} {P : Program} {ts : List TypeId} {ds : List (DataW H)} (hsz : (DataW.weightsEach P ts ds).all (· ≤ reachBytes) = true) {j : Nat} {t : TypeId} {d : DataW H} (ht : ts[j]? = some t) (hd : ds[j]? = some d) : ∀ m ∈ d.weights P t, m ≤ reachBytes := by
  intro m hm
  have := List.all_eq_true.1 hsz m (DataW.weights_mem_each ht hd m hm)
  simpa using this


set_option maxRecDepth 20000 in
theorem open_image_val {H : Type} {enc : TypeId × Value → H} {W : World} {base : Nat} {v : Value} {d : DataW H} {p : List MemPlace} (hv : Value.okWide Tryz.prog W .any base 27 v)
    (h : DataW.Trod enc Tryz.prog W 0 (fun _ => true) true 27 v d p) {ts : List TypeId} {ds : List (DataW H)} (hsz : (DataW.weightsEach Tryz.prog ts ds).all (· ≤ reachBytes) = true) {j : Nat} (ht : ts[j]? = some 27) (hd : ds[j]? = some d) :
    ∃ (m : IM) (pb pk ps pu : Option Addr) (cb ck cs' cu : Nat), v = .agg (imA pb pk ps pu m.bs.length cb m.ks.length ck m.si.length cs' m.un.length cu) ∧ ImIn W m pb pk ps pu m.bs.length cb m.ks.length ck m.si.length cs' m.un.length cu ∧
      m.bs.length ≤ reachBytes ∧ m.ks.length * 16 ≤ reachBytes ∧ m.si.length * 24 ≤ reachBytes ∧ m.un.length * 8 ≤ reachBytes := by
  obtain ⟨fuel, hf⟩ := h
  simp only [Value.okWide, Tryz.underlying27] at hv
  obtain ⟨cs, rfl, _, _⟩ := hv
  obtain ⟨m, pb, pk, ps, pu, cb, ck, cs', cu, hc, hr⟩ := open_image hf (weights_of hsz ht hd)
  refine ⟨m, pb, pk, ps, pu, cb, ck, cs', cu, ?_, hr⟩
  have h2 : cs.toList = (imA pb pk ps pu m.bs.length cb m.ks.length ck m.si.length cs' m.un.length cu).toList := hc
  rw [Array.toList_inj.1 h2]

set_option maxRecDepth 20000 in
theorem open_bytes_val {H : Type} {enc : TypeId × Value → H} {W : World} {base : Nat} {v : Value} {d : DataW H} {p : List MemPlace} (hv : Value.okWide Tryz.prog W .any base 22 v)
    (h : DataW.Trod enc Tryz.prog W 0 (fun _ => true) true 22 v d p) {ts : List TypeId} {ds : List (DataW H)} (hsz : (DataW.weightsEach Tryz.prog ts ds).all (· ≤ reachBytes) = true) {j : Nat} (ht : ts[j]? = some 22) (hd : ds[j]? = some d) :
    ∃ (q : Option Addr) (e : Nat) (xs : List Int), v = .slice q xs.length e ∧ Row W q xs ∧ Byt xs ∧ xs.length ≤ e ∧ e ≤ maxLen ∧ xs.length ≤ reachBytes := by
  obtain ⟨fuel, hf⟩ := h
  have hcs : v.cells.toList = [v] := by
    obtain ⟨_, _, _, rfl⟩ := Go.WideShapes.okWide_slice Tryz.underlying22 hv
    rfl
  rw [hcs] at hf
  exact open_data hf (weights_of hsz ht hd)

end Go.Proofs.YtgblohjdiheemaaGreat

/- Ours: how a list of numbers that came in is opened. -/
namespace Go.Proofs.YtgblohjdiheemaaGreat
open Go.ChangeShapes Go.WideShapes Go.ChangeAt Go.RowKit

set_option maxRecDepth 20000 in
theorem open_ints_val {H : Type} {enc : TypeId × Value → H} {W : World} {base : Nat} {v : Value} {d : DataW H} {p : List MemPlace} (hv : Value.okWide Tryz.prog W .any base 25 v)
    (h : DataW.Trod enc Tryz.prog W 0 (fun _ => true) true 25 v d p) {ts : List TypeId} {ds : List (DataW H)} (hsz : (DataW.weightsEach Tryz.prog ts ds).all (· ≤ reachBytes) = true) {j : Nat} (ht : ts[j]? = some 25) (hd : ds[j]? = some d) :
    ∃ (q : Option Addr) (n e : Nat) (zs : List Int), v = .slice q n e ∧ zs.length = n ∧ n ≤ 140737488355328 ∧ n ≤ e ∧ GRow W q (numZ zs) := by
  obtain ⟨fuel, hf⟩ := h
  have hcs : v.cells.toList = [v] := by
    obtain ⟨_, _, _, rfl⟩ := Go.WideShapes.okWide_slice Tryz.underlying25 hv
    rfl
  rw [hcs] at hf
  obtain ⟨q, e, L, hv', hl, hm, hb, hr, -⟩ := opened1 (Value.int .i64) i64P Tryz.underlying25 Tryz.cells3 open_num hf (weights_of hsz ht hd)
  rw [Tryz.bytes3] at hb
  simp only [reachBytes] at hb
  exact ⟨q, L.length, e, L, hv', rfl, by omega, hl, hr⟩
end Go.Proofs.YtgblohjdiheemaaGreat

/- Ours: how a list of events, and a list of numbers, that came in is opened: a generic row of k cells. -/
namespace Go.Proofs.YtgblohjdiheemaaGreat
open Go.ChangeShapes Go.WideShapes Go.ChangeAt Go.RowKit

theorem list_ofE {X : Type} {P : Nat → X → Prop} : ∀ n, (∀ i, i < n → ∃ x, P i x) → ∃ xs : List X, xs.length = n ∧ ∀ i (h : i < xs.length), P i xs[i]
  | 0, _ => ⟨[], rfl, fun i h => absurd h (by simp)⟩
  | n + 1, h => by
    obtain ⟨xs, hl, hx⟩ := list_ofE n fun i hi => h i (by omega)
    obtain ⟨x, hp⟩ := h n (by omega)
    refine ⟨xs ++ [x], by simp [hl], fun i hi => ?_⟩
    by_cases hin : i < xs.length
    · rw [List.getElem_append_left hin]; exact hx i hin
    · have : i = n := by simp at hi; omega
      subst this
      rw [List.getElem_append_right (by omega)]
      simp [hl]
      exact hp
/-- a row of k cells that came in -/
theorem openedK {α H : Type} (F : Fm α) {enc : TypeId × Value → H} {W : World} {fuel : Nat} {v : Value} {x : DataW H × List MemPlace} {ST ET : TypeId} (P : α → Prop) (hu : Tryz.prog.underlying ST = some (.slice ET)) (hck : Tryz.prog.cellsOf ET = F.k)
    (hone : ∀ (fuel : Nat) (cs : List Value) (x : DataW H × List MemPlace), DataW.trod enc Tryz.prog W 0 (fun _ => true) true fuel ET cs = some x → ∃ y, cs = F.f y ∧ P y)
    (h : DataW.trod enc Tryz.prog W 0 (fun _ => true) true fuel ST [v] = some x) :
    ∃ (q : Option Addr) (e : Nat) (L : List α), v = .slice q L.length e ∧ L.length ≤ e ∧ e ≤ maxLen ∧ KRow F W q L ∧ ∀ y ∈ L, P y := by
  rcases DataW.trod_slice hu h with ⟨hcs, hx⟩ | ⟨ad, l, cc, elems, rest, f, hfu, hcs, hx, _, hl, hm, hlen, hel, hsp, _⟩
  · simp only [List.cons.injEq, and_true] at hcs
    exact ⟨none, 0, [], by rw [hcs]; rfl, Nat.le_refl _, Nat.zero_le _, KRow.nil W none, fun y hy => by cases hy⟩
  · simp only [List.cons.injEq, and_true] at hcs
    obtain ⟨L, hL, hP⟩ := list_ofE (P := fun i y => (∀ j u, (F.f y)[j]? = some u → W.cell? ((ad.add (i * F.k)).add j) = some u) ∧ P y) l fun i hi => by
      have he := hel i hi
      rw [hck, List.getElem?_eq_getElem (by omega), Option.bind_eq_some_iff] at he
      obtain ⟨cs, hcs, htr⟩ := he
      obtain ⟨_, hcl, hcc⟩ := World.cells?_some hcs
      obtain ⟨y, hy, hp⟩ := hone _ _ _ htr
      refine ⟨y, fun j u hu => ?_, hp⟩
      rw [← hy] at hu
      have hj : j < F.k := by rw [← hcl]; exact (List.getElem?_eq_some_iff.1 hu).1
      rw [hcc j hj]; exact hu
    refine ⟨some ad, cc, L, by rw [hcs, hL], by rw [hL]; exact hl, hm, fun h0 => ?_, fun y hy => ?_⟩
    · obtain ⟨b, o, s⟩ := ad
      obtain rfl : s = none := by
        have h3 : 0 < (F.f L[0]).length := by rw [F.len]; exact F.pos
        have := (hP 0 h0).1 0 _ (List.getElem?_eq_getElem h3)
        simpa [Addr.add] using World.cell?_spot this
      refine ⟨b, o, rfl, fun i hi j hj => ?_⟩
      have h3 : j < (F.f L[i]).length := by rw [F.len]; exact hj
      have := (hP i hi).1 j _ (List.getElem?_eq_getElem h3)
      rw [Addr.add_mid, Addr.add_mid] at this
      rw [this, List.getElem?_eq_getElem h3]
    · obtain ⟨i, hi, rfl⟩ := List.getElem_of_mem hy
      exact (hP i hi).2
theorem list_seven {X : Type} {l : List X} (h : l.length = 7) : ∃ a b c d e f g, l = [a, b, c, d, e, f, g] := by
  match l, h with
  | [a, b, c, d, e, f, g], _ => exact ⟨a, b, c, d, e, f, g, rfl⟩
theorem open_event {H : Type} {enc : TypeId × Value → H} {W : World} {fuel : Nat} {cs : List Value} {x : DataW H × List MemPlace} (h : DataW.trod enc Tryz.prog W 0 (fun _ => true) true fuel 34 cs = some x) :
    ∃ y : Fv, cs = fE.f y ∧ FvOk y := by
  obtain ⟨xs, n, rfl, hx, hlen, hxl, hf⟩ := DataW.trod_struct Tryz.underlying34 h
  have hc34 : Tryz.prog.cellsOf 34 = 7 := by kernel_rfl
  have hc3 : Tryz.prog.cellsOf 3 = 1 := by kernel_rfl
  have hc2 : Tryz.prog.cellsOf 2 = 1 := by kernel_rfl
  have hc31 : Tryz.prog.cellsOf 31 = 1 := by kernel_rfl
  have hc32 : Tryz.prog.cellsOf 32 = 1 := by kernel_rfl
  rw [hc34] at hlen
  obtain ⟨a, b, c, d, e, f, g, rfl⟩ := list_seven hlen
  have f0 := hf 0
  have f1 := hf 1
  have f2 := hf 2
  have f3 := hf 3
  have f4 := hf 4
  have f5 := hf 5
  have f6 := hf 6
  simp [hc3, hc2, hc31, hc32] at f0 f1 f2 f3 f4 f5 f6
  obtain ⟨x0, x1, x2, x3, x4, x5, x6, rfl⟩ := list_seven (show xs.length = 7 from hxl)
  simp only [List.getElem?_cons_zero, List.getElem?_cons_succ] at f0 f1 f2 f3 f4 f5 f6
  obtain ⟨k0, e0, y0, w0⟩ := DataW.trod_int Tryz.underlying31 f0
  obtain ⟨k1, e1, y1, w1⟩ := DataW.trod_int Tryz.underlying3 f1
  obtain ⟨k2, e2, y2, w2⟩ := DataW.trod_int Tryz.underlying3 f2
  obtain ⟨k3, e3, y3, w3⟩ := DataW.trod_int Tryz.underlying3 f3
  obtain ⟨k4, e4, y4, w4⟩ := DataW.trod_int Tryz.underlying32 f4
  obtain ⟨k5, e5, y5, w5⟩ := DataW.trod_int Tryz.underlying3 f5
  obtain ⟨k6, e6, y6, w6⟩ := DataW.trod_int Tryz.underlying2 f6
  simp only [List.cons.injEq, and_true] at e0 e1 e2 e3 e4 e5 e6
  subst e0 e1 e2 e3 e4 e5 e6
  exact ⟨⟨k0, k1, k2, k3, k4, k5, k6⟩, rfl, wf_i64 w2, wf_i64 w3, wf_i64 w5, wf_i64 w6⟩
set_option maxRecDepth 20000 in
theorem open_evs_val {H : Type} {enc : TypeId × Value → H} {W : World} {base : Nat} {v : Value} {d : DataW H} {p : List MemPlace} (hv : Value.okWide Tryz.prog W .any base 29 v)
    (h : DataW.Trod enc Tryz.prog W 0 (fun _ => true) true 29 v d p) {ts : List TypeId} {ds : List (DataW H)} (_hsz : (DataW.weightsEach Tryz.prog ts ds).all (· ≤ reachBytes) = true) {j : Nat} (_ht : ts[j]? = some 29) (_hd : ds[j]? = some d) :
    ∃ (q : Option Addr) (e : Nat) (L : List Fv), v = .slice q L.length e ∧ L.length ≤ e ∧ e ≤ maxLen ∧ KRow fE W q L ∧ ∀ y ∈ L, FvOk y := by
  obtain ⟨fuel, hf⟩ := h
  have hcs : v.cells.toList = [v] := by
    obtain ⟨_, _, _, rfl⟩ := Go.WideShapes.okWide_slice Tryz.underlying29 hv
    rfl
  rw [hcs] at hf
  exact openedK fE FvOk Tryz.underlying29 (by kernel_rfl) (fun _ _ _ hh => open_event hh) hf
end Go.Proofs.YtgblohjdiheemaaGreat

/- Ours: two lists that a call has made, as switchyardkit's Apart functions want them; switchyardkit.CopyViews. -/
namespace Go.Proofs.YtgblohjdiheemaaGreat
open Go.RowKit Go.Maps

theorem KOwn.slq {α : Type} {F : Fm α} {T : TypeId} {w : World} {B : Nat} {v : Value} {L : List α} (h : KOwn F T w B v L) : ∃ q c, v = .slice (ptrK q) L.length c ∧ (∀ g, q = Option.some g → B ≤ g ∧ g < w.heap.size) := by
  rcases h.form with ⟨e, el⟩ | ⟨g, cap, e, ho⟩
  · subst el
    exact ⟨Option.none, 0, e, fun g e => by cases e⟩
  · exact ⟨Option.some g, cap, e, fun g' e => by injection e with e; subst e; exact ⟨ho.base, ho.lt⟩⟩
theorem own_ptr (q : Option Nat) (n c : Nat) : (Value.slice (ptrK q) n c).ownBlock = q := sl_block q n c
def two {α : Type} (x y : α) : Nat → α := fun k => if k = 0 then x else y
theorem two_all {α : Type} {P : Nat → α → Prop} {x y : α} (h0 : P 0 x) (h1 : P 1 y) : ∀ k, k < 2 → P k (two x y k) := fun k hk => by
  rcases (by omega : k = 0 ∨ k = 1) with rfl | rfl
  · exact h0
  · exact h1
theorem two_apart (qa qb : Option Nat) (h : ∀ g, qa = some g → qb ≠ some g) : Apart 2 (two qa qb) := fun i j hi hj hij => by
  have H : qa = none ∨ qa ≠ qb := by
    cases qa with
    | none => exact .inl rfl
    | some g => exact .inr (fun e => h g rfl e.symm)
  have H2 : qb = none ∨ qb ≠ qa := by
    cases qb with
    | none => exact .inl rfl
    | some g => exact .inr (fun e => h g e.symm rfl)
  rcases (by omega : i = 0 ∨ i = 1) with rfl | rfl <;> rcases (by omega : j = 0 ∨ j = 1) with rfl | rfl
  · exact absurd rfl hij
  · exact H
  · exact H2
  · exact absurd rfl hij
theorem two_set (qa qb : Option Nat) (j : Nat) (h : GSet 2 (two qa qb) j) : qa = some j ∨ qb = some j := by
  obtain ⟨k, hk, e⟩ := h
  rcases (by omega : k = 0 ∨ k = 1) with rfl | rfl
  · exact .inl e
  · exact .inr e
theorem apartViews2 (qa qb : Option Nat) (ca cb : Nat) (L M : List Vw) (w : World) (B : Nat) (ha : KOwn fW 39 w B (.slice (ptrK qa) L.length ca) L) (hb : KOwn fW 39 w B (.slice (ptrK qb) M.length cb) M) (hne : ∀ g, qa = some g → qb ≠ some g) (hB : B ≤ w.heap.size) (hl : L.length ≤ 1099511627776) (hm : M.length ≤ 1099511627776) :
    Calls Tryz.prog 25 #[.slice (some ⟨w.heap.size, 0, none⟩) 2 2] (w.alloc (.cells #[.slice (ptrK qa) L.length ca, .slice (ptrK qb) M.length cb] 36)) fun e w' => e = .returned (.bool true) ∧ Keeps (fun j => qa = some j ∨ qb = some j) (w.alloc (.cells #[.slice (ptrK qa) L.length ca, .slice (ptrK qb) M.length cb] 36)) w' := by
  have hN := new_alloc w (.cells #[.slice (ptrK qa) L.length ca, .slice (ptrK qb) M.length cb] 36)
  refine (apartViews_any 2 B w.heap.size (two qa qb) (two L.length M.length) (two ca cb) (two L M) _ (by decide) (two_apart qa qb hne) (two_all (α := List Vw) (P := fun k (y : List Vw) => y.length = two L.length M.length k) rfl rfl) (two_all (α := Nat) (P := fun _ (y : Nat) => y ≤ 1099511627776) hl hm) (Nat.le_trans hB hN.size)
    (two_all (α := List Vw) (P := fun k (y : List Vw) => KOwn fW 39 _ B (slA (two qa qb k) (two L.length M.length k) (two ca cb k)) y) (KOwn.below ha hN) (KOwn.below hb hN)) (Blk.new w 36 #[.slice (ptrK qa) L.length ca, .slice (ptrK qb) M.length cb])).mono ?_
  rintro e w' ⟨h1, h2⟩
  exact ⟨h1, h2.wider (fun j hj => two_set qa qb j hj)⟩
def cn4 (c : Cn) : Cn4 := ⟨c.s, c.w, c.r, 0, 0⟩
theorem fC_to4 (L : List Cn) : fC.cs L = fC4.cs (L.map cn4) := by
  unfold Fm.cs
  rw [List.flatMap_map]
  rfl
theorem KOwn.to4 {w : World} {B : Nat} {v : Value} {L : List Cn} (h : KOwn fC 49 w B v L) : KOwn fC4 49 w B v (L.map cn4) := by
  unfold KOwn at *
  rw [List.length_map, ← fC_to4]
  exact h
theorem apartCounts2 (qa qb : Option Nat) (ca cb : Nat) (L M : List Cn) (w : World) (B : Nat) (ha : KOwn fC 49 w B (.slice (ptrK qa) L.length ca) L) (hb : KOwn fC 49 w B (.slice (ptrK qb) M.length cb) M) (hne : ∀ g, qa = some g → qb ≠ some g) (hB : B ≤ w.heap.size) (hl : L.length ≤ 1099511627776) (hm : M.length ≤ 1099511627776) :
    Calls Tryz.prog 27 #[.slice (some ⟨w.heap.size, 0, none⟩) 2 2] (w.alloc (.cells #[.slice (ptrK qa) L.length ca, .slice (ptrK qb) M.length cb] 46)) fun e w' => e = .returned (.bool true) ∧ Keeps (fun j => qa = some j ∨ qb = some j) (w.alloc (.cells #[.slice (ptrK qa) L.length ca, .slice (ptrK qb) M.length cb] 46)) w' := by
  have hN := new_alloc w (.cells #[.slice (ptrK qa) L.length ca, .slice (ptrK qb) M.length cb] 46)
  refine (apartCounts_any 2 B w.heap.size (two qa qb) (two L.length M.length) (two ca cb) (two (L.map cn4) (M.map cn4)) _ (by decide) (two_apart qa qb hne) (two_all (α := List Cn4) (P := fun k (y : List Cn4) => y.length = two L.length M.length k) (by simp [two]) (by simp [two])) (two_all (α := Nat) (P := fun _ (y : Nat) => y ≤ 1099511627776) hl hm) (Nat.le_trans hB hN.size)
    (two_all (α := List Cn4) (P := fun k (y : List Cn4) => KOwn fC4 49 _ B (slA (two qa qb k) (two L.length M.length k) (two ca cb k)) y) (KOwn.to4 (KOwn.below ha hN)) (KOwn.to4 (KOwn.below hb hN))) (Blk.new w 46 #[.slice (ptrK qa) L.length ca, .slice (ptrK qb) M.length cb])).mono ?_
  rintro e w' ⟨h1, h2⟩
  exact ⟨h1, h2.wider (fun j hj => two_set qa qb j hj)⟩
theorem fU_cs (L : List Int) : fU.cs L = L.map (Value.int .u32) := by
  induction L with
  | nil => rfl
  | cons a L ih => show _ :: fU.cs L = _; rw [ih]; rfl
theorem KOwn.toG {w : World} {B : Nat} {v : Value} {L : List Int} (h : KOwn fU 87 w B v L) : GOwnV 87 w B v (L.map (Value.int .u32)) := by
  unfold KOwn at h
  rw [fU_cs] at h
  unfold GOwnV
  rw [List.length_map]
  exact h
theorem apartPlaces2 (qa qb : Option Nat) (ca cb : Nat) (L M : List Int) (w : World) (B : Nat) (ha : KOwn fU 87 w B (.slice (ptrK qa) L.length ca) L) (hb : KOwn fU 87 w B (.slice (ptrK qb) M.length cb) M) (hne : ∀ g, qa = some g → qb ≠ some g) (hB : B ≤ w.heap.size) (hl : L.length ≤ 1099511627776) (hm : M.length ≤ 1099511627776) :
    Calls Tryz.prog 26 #[.slice (some ⟨w.heap.size, 0, none⟩) 2 2] (w.alloc (.cells #[.slice (ptrK qa) L.length ca, .slice (ptrK qb) M.length cb] 43)) fun e w' => e = .returned (.bool true) ∧ Keeps (fun j => qa = some j ∨ qb = some j) (w.alloc (.cells #[.slice (ptrK qa) L.length ca, .slice (ptrK qb) M.length cb] 43)) w' := by
  have hN := new_alloc w (.cells #[.slice (ptrK qa) L.length ca, .slice (ptrK qb) M.length cb] 43)
  refine (apartPlaces_any 2 B w.heap.size (two qa qb) (two L.length M.length) (two ca cb) (two (L.map (Value.int .u32)) (M.map (Value.int .u32))) _ (by decide) (two_apart qa qb hne) (two_all (α := List Value) (P := fun k (y : List Value) => y.length = two L.length M.length k) (by simp [two]) (by simp [two])) (two_all (α := Nat) (P := fun _ (y : Nat) => y ≤ 1099511627776) hl hm) (Nat.le_trans hB hN.size)
    (two_all (α := List Value) (P := fun k (y : List Value) => GOwnV 87 _ B (slA (two qa qb k) (two L.length M.length k) (two ca cb k)) y) (KOwn.toG (KOwn.below ha hN)) (KOwn.toG (KOwn.below hb hN))) (Blk.new w 43 #[.slice (ptrK qa) L.length ca, .slice (ptrK qb) M.length cb])).mono ?_
  rintro e w' ⟨h1, h2⟩
  exact ⟨h1, h2.wider (fun j hj => two_set qa qb j hj)⟩
set_option maxRecDepth 4000 in
set_option maxHeartbeats 4000000 in
theorem copyViews_any (p : Option Addr) (n c : Nat) (L : List Vw) (w : World) (hn : L.length = n) (hn2 : n ≤ 1000000) (hr : KRow fW w p L) :
    Calls Tryz.prog 24 #[.slice p n c] w fun e w' => ∃ v, e = .returned v ∧ KOwn fW 39 w' w.heap.size v L ∧ Below w.heap.size w w' := by
  have HN := Hid.in hn
  have HR := Hid.in hr
  clear hn hr
  go_enter Tryz.func24, Tryz.ntmps24
  go_wp2_with fail
  go_loopw [3, 4] (fun v vi wr => ∃ j : Nat, vi = .int .i64 j ∧ j ≤ n ∧ KOwn fW 39 wr w.heap.size v (L.take j) ∧ Below w.heap.size w wr) (fun _ vi _ => n - (intOf vi).toNat)
  case atStart => exact ⟨0, rfl, Nat.zero_le _, KOwn.nil _ _ _ _, Below.refl _ _⟩
  case round =>
    obtain ⟨j, rfl, hj, hO, hB⟩ := hrel
    have HO := Hid.in hO
    have HB := Hid.in hB
    clear hO hB
    by_cases hlt : j < n
    · have hjL : j < L.length := by rw [HN.out]; exact hlt
      obtain ⟨b, o, e0, hc0⟩ := HR.out.below HB.out (by omega)
      subst e0
      have hc := hc0 j hjL
      have HT := Hid.in (take_snoc L j hjL)
      have HL : Hid ((L.take j).length ≤ 1048576) := by show _ ≤ _; rw [List.length_take]; omega
      generalize L[j] = x at *
      generalize L.take j = A at *
      have c0 : wr.cell? ⟨b, o + j * 5, none⟩ = some (.int .i64 x.h) := hc 0 (by decide)
      have c1 : wr.cell? ⟨b, o + j * 5 + 1, none⟩ = some (.int .i64 x.s) := hc 1 (by decide)
      have c2 : wr.cell? ⟨b, o + j * 5 + 2, none⟩ = some (.int .i64 x.o) := hc 2 (by decide)
      have c3 : wr.cell? ⟨b, o + j * 5 + 3, none⟩ = some (.int .i64 x.n) := hc 3 (by decide)
      have c4 : wr.cell? ⟨b, o + j * 5 + 4, none⟩ = some (.bool x.m) := hc 4 (by decide)
      obtain ⟨pv, cv, ev, -⟩ := HO.out.shape
      subst ev
      have g1 : decide ((j : Int) < (n : Int)) = true := decide_eq_true (by omega)
      have w3 : IntKind.i64.wrap ((j : Int) + 1) = (j : Int) + 1 := by rw [IntKind.wrap_i64]; omega
      clear hc hc0
      obtain ⟨xh, xs, xo, xn, xm⟩ := x
      dsimp only at *
      go_wp2_with (at_builtin; refine Hid.out ?_)
      refine Lib.hid ?_
      refine kpush elemW _ rfl _ _ rfl w.heap.size _ A rfl (HO.out.alloc _) ⟨wr.heap.size, 0, none⟩ 1 ⟨xh, xs, xo, xn, xm⟩ rfl (fW.news wr ⟨xh, xs, xo, xn, xm⟩ 39 (vwA ⟨xh, xs, xo, xn, xm⟩) rfl) HL.out (by decide) (Nat.le_trans HB.out.size (new_alloc _ _).size) ?_
      intro v' w5 ho5 hg5 hb5
      have HO5 := Hid.in ho5
      have HB5 := Hid.in (hb5 w (below_alloc HB.out _))
      clear ho5 hg5 hb5 c0 c1 c2 c3 c4
      go_wp2_with fail
      go_roundw
      case rel => exact ⟨j + 1, by go_num, by omega, by rw [HT.out]; exact HO5.out, HB5.out⟩
      case measure => simp [intOf]; omega
    · obtain rfl : j = n := by omega
      have HE : Hid (L.take j = L) := List.take_of_length_le (by rw [HN.out]; exact Nat.le_refl _)
      go_wp2_with fail
      go_ret
      exact ⟨_, rfl, by rw [← HE.out]; exact HO.out, HB.out⟩
end Go.Proofs.YtgblohjdiheemaaGreat

/- Ours: switchyardref23.Views. -/
namespace Go.Proofs.YtgblohjdiheemaaGreat
open Go.RowKit Go.Maps

/-- the first k views of a hart -/
def rowN (si : List Si) (L : List Fv) (h : Int) (k : Nat) : List Vw := (List.range k).filterMap fun i => if 0 < (ctS si L h i).o + (ctS si L h i).n then some (vw1 si L h i) else none
theorem rowN_len (si : List Si) (L : List Fv) (h : Int) (k : Nat) : (rowN si L h k).length ≤ k := by
  unfold rowN; exact Nat.le_trans (List.length_filterMap_le _ _) (by simp)
theorem rowN_succ (si : List Si) (L : List Fv) (h : Int) (k : Nat) : rowN si L h (k + 1) = rowN si L h k ++ (if 0 < (ctS si L h k).o + (ctS si L h k).n then [vw1 si L h k] else []) := by
  unfold rowN
  rw [List.range_succ, List.filterMap_append]
  congr 1
  simp only [List.filterMap_cons, List.filterMap_nil]
  split <;> simp_all
theorem flat_len {α β : Type} (f : α → List β) (m : Nat) (h : ∀ a, (f a).length ≤ m) : ∀ l : List α, (l.flatMap f).length ≤ l.length * m
  | [] => by simp
  | a :: l => by
    have ih := flat_len f m h l
    have := h a
    rw [List.flatMap_cons, List.length_append, List.length_cons, Nat.succ_mul]
    omega
/-- a struct is stored, in a region that draws -/
theorem oper_store_any {ops : Array Oper} {o : Oper} {a : Act} {w : World} {K : Act → World → Prop} {Q : Exit → Act → World → Prop} {E : Prop} {g : Nat} {T : TypeId} {c : Array Value} (hB : Blk w g T c) (hg : o.guard = none) (t : TypeId) (p x : Operand) (ho : o.op = .store t p x) (hd : o.dst = none)
    (hp : a.eval p = .pointer (some ⟨g, 0, none⟩)) (c' : List Value) (hx : a.eval x = .agg c'.toArray) (hi : (Tryz.prog.info? t).map (·.size) = some c'.length) (hcs : c'.length = c.size) (h1 : (c'.all (·.oneCell')) = true)
    (h : ∀ w', Blk w' g T c'.toArray → w.grownBy w' (some g) → K a w') : if Region.wanted o (yielded ops a.tmps) = true then Oper.wp Tryz.prog o a w K Q else E := by
  rw [if_pos (by unfold Region.wanted; rw [hg])]
  refine wp_store_mid t p x ho g 0 c'.toArray hp hx (hB.there 0 _ (by simp; omega)) (by simpa using hi) (by rw [List.all_toArray]; exact h1) ?_
  rw [hd]
  exact h _ (hB.setAll c'.toArray (by simpa using hcs)) (grown_setCells g _ _ _)
set_option maxRecDepth 20000 in
set_option maxHeartbeats 8000000 in
theorem rviews_any (m : IM) (pb pk ps pu : Option Addr) (nb cb nk ck ns cs nu cu : Nat) (p : Option Addr) (n c : Nat) (L : List Fv) (w : World) (hI : ImIn w m pb pk ps pu nb cb nk ck ns cs nu cu) (hn : L.length = n) (hn2 : n ≤ 400) (hs2 : ns ≤ 60) (hr : KRow fE w p L) :
    Calls Tryz.prog 18 #[.agg (imA pb pk ps pu nb cb nk ck ns cs nu cu), .slice p n c] w fun e w' => ∃ v, e = .returned v ∧ KOwn fW 39 w' w.heap.size v (viewsA m L) ∧ Below w.heap.size w w' := by
  have HI := Hid.in hI
  have HN := Hid.in hn
  have HR := Hid.in hr
  have HA0 := Hid.in (Blk.new w 27 (imA pb pk ps pu nb cb nk ck ns cs nu cu))
  have HB0 := Hid.in (new_alloc w (.cells (imA pb pk ps pu nb cb nk ck ns cs nu cu) 27))
  clear hI hn hr
  have hc := rightR_any m pb pk ps pu nb cb nk ck ns cs nu cu _ (HI.out.below HB0.out)
  cases ho : okI m with
  | false =>
    have HV : Hid (viewsA m L = []) := by show viewsA m L = []; unfold viewsA; rw [if_neg (by rw [ho]; simp)]
    rw [HV.out]
    rw [ho] at hc
    go_enter Tryz.func18, Tryz.ntmps18
    go_upto_region 1 with fail
    generalize w.alloc (.cells (imA pb pk ps pu nb cb nk ck ns cs nu cu) 27) = w0 at *
    have a0 : w0.cell? ⟨w.heap.size, 0, none⟩ = some (.slice pb nb cb) := HA0.out.cell 0
    have a1 : w0.cell? ⟨w.heap.size, 1, none⟩ = some (.slice pk nk ck) := HA0.out.cell 1
    have a2 : w0.cell? ⟨w.heap.size, 2, none⟩ = some (.slice ps ns cs) := HA0.out.cell 2
    have a3 : w0.cell? ⟨w.heap.size, 3, none⟩ = some (.slice pu nu cu) := HA0.out.cell 3
    go_wp2_with (go_at_call 44; refine Hid.out ?_)
    refine Lib.hid ?_
    (with_reducible refine hc.mono ?_)
    rintro e w1 ⟨rfl, hb⟩
    have HB1 := Hid.in (below_step HB0.out hb)
    clear hc hb a0 a1 a2 a3
    go_wp2_with fail
    go_ret
    exact ⟨_, rfl, KOwn.nil _ _ _ _, HB1.out⟩
  | true =>
    have HV : Hid (viewsA m L = (hartsL L).flatMap (rowV m.si L)) := by show viewsA m L = _; unfold viewsA; rw [if_pos ho]; rfl
    rw [HV.out]
    rw [ho] at hc
    have HHL : Hid ((hartsL L).length ≤ 400) := by
      show _ ≤ _
      have e : hartsL L = hartsP L := hartsL_eq L
      rw [e]
      exact Nat.le_trans (hartsP_len L) (by rw [HN.out]; exact hn2)
    have HHA : Hid (∀ W : World, KRow fE W p L → Calls Tryz.prog 45 #[.slice p n c] W _) := fun W hW => rharts_any p n c L W HN.out (by omega) hW
    clear ho HV
    generalize hartsL L = hs at *
    go_enter Tryz.func18, Tryz.ntmps18
    go_upto_region 1 with fail
    generalize w.alloc (.cells (imA pb pk ps pu nb cb nk ck ns cs nu cu) 27) = w0 at *
    have a0 : w0.cell? ⟨w.heap.size, 0, none⟩ = some (.slice pb nb cb) := HA0.out.cell 0
    have a1 : w0.cell? ⟨w.heap.size, 1, none⟩ = some (.slice pk nk ck) := HA0.out.cell 1
    have a2 : w0.cell? ⟨w.heap.size, 2, none⟩ = some (.slice ps ns cs) := HA0.out.cell 2
    have a3 : w0.cell? ⟨w.heap.size, 3, none⟩ = some (.slice pu nu cu) := HA0.out.cell 3
    go_wp2_with (go_at_call 44; refine Hid.out ?_)
    refine Lib.hid ?_
    (with_reducible refine hc.mono ?_)
    rintro e w1 ⟨rfl, hb⟩
    have HB1 := Hid.in (below_step HB0.out hb)
    have HA1 := Hid.in (HA0.out.grow hb)
    clear hc hb a0 a1 a2 a3 HA0 HB0
    have hh := HHA.out w1 (HR.out.below HB1.out)
    go_wp2_with (go_at_call 45; refine Hid.out ?_)
    refine Lib.hid ?_
    (with_reducible refine hh.mono ?_)
    rintro e w2 ⟨va, rfl, hva, hb⟩
    have HB2 := Hid.in (below_step HB1.out hb)
    have HA2 := Hid.in (HA1.out.grow hb)
    obtain ⟨pa, ca, rfl, hcl, hcm, hra⟩ := hva.row
    have HRA := Hid.in hra
    clear hh hb hva hra HB1 HA1
    have HCT := Hid.in (fun h i => cntC_le (callL L (m.si.getD i default).key) h (m.si.getD i default).at_ L)
    have HRS : Hid (Row3 w2 ps (m.si.map siV)) := HI.out.rs.below HB2.out
    have HLS := Hid.in HI.out.ls
    have hhl := HHL.out
    go_wp2_with fail
    go_loopw [6, 7] (fun v vi wr => ∃ i : Nat, vi = .int .i64 i ∧ i ≤ hs.length ∧ KOwn fW 39 wr w2.heap.size v ((hs.take i).flatMap (rowV m.si L)) ∧ Below w2.heap.size w2 wr) (fun _ vi _ => hs.length - (intOf vi).toNat)
    case atStart => exact ⟨0, rfl, Nat.zero_le _, KOwn.nil _ _ _ _, Below.refl _ _⟩
    case round =>
      obtain ⟨i, rfl, hi, hO, hB⟩ := hrel
      have HO := Hid.in hO
      have HB := Hid.in hB
      clear hO hB
      by_cases hlt : i < hs.length
      · obtain ⟨bA, oA, rfl, hA1⟩ := HRA.out (by omega)
        have hA2 := hA1 i hlt 0 (by decide)
        have hA3 : w2.cell? ⟨bA, oA + i, none⟩ = some (.int .i64 hs[i]) := by
          have e : oA + i * fI.k + 0 = oA + i := by show oA + i * 1 + 0 = _; omega
          rw [e] at hA2
          exact hA2
        have HAC := Hid.in hA3
        have HT : Hid ((hs.take (i + 1)).flatMap (rowV m.si L) = (hs.take i).flatMap (rowV m.si L) ++ rowV m.si L hs[i]) := by
          show _ = _
          rw [take_snoc hs i hlt, List.flatMap_append]
          simp
        have HAL : Hid (((hs.take i).flatMap (rowV m.si L)).length ≤ 400 * 60) := by
          show _ ≤ _
          refine Nat.le_trans (flat_len (rowV m.si L) 60 (fun a => Nat.le_trans (rowN_len m.si L a _) (by rw [HLS.out]; exact hs2)) _) ?_
          exact Nat.mul_le_mul_right _ (by rw [List.length_take]; omega)
        clear hA1 hA2 hA3
        generalize (hs.take i).flatMap (rowV m.si L) = A at *
        generalize hs[i] = h at *
        have g1 : decide ((i : Int) < (hs.length : Int)) = true := decide_eq_true (by omega)
        have w3 : IntKind.i64.wrap ((i : Int) + 1) = (i : Int) + 1 := by rw [IntKind.wrap_i64]; omega
        have g2 : (0 : Int) ≤ (i : Int) := by omega
        have g3 : (i : Int) < (hs.length : Int) := by omega
        go_wp2_with fail
        go_loopw [6, 8] (fun v vk wx => ∃ k : Nat, vk = .int .i64 k ∧ k ≤ ns ∧ KOwn fW 39 wx w2.heap.size v (A ++ rowN m.si L h k) ∧ Below w2.heap.size w2 wx) (fun _ vk _ => ns - (intOf vk).toNat)
        case atStart => exact ⟨0, rfl, Nat.zero_le _, by rw [show A ++ rowN m.si L h 0 = A from List.append_nil A]; exact HO.out, HB.out⟩
        case round =>
          obtain ⟨k, rfl, hk, hO, hB⟩ := hrel
          have HOx := Hid.in hO
          have HBx := Hid.in hB
          clear hO hB HO HB
          have HA := Hid.in (HA2.out.grow HBx.out)
          have a2 : wr.cell? ⟨w.heap.size, 2, none⟩ = some (.slice ps ns cs) := HA.out.cell 2
          have HLEN : Hid ((A ++ rowN m.si L h k).length ≤ 1048576) := by
            show _ ≤ _
            have h1 := HAL.out
            have h2 := rowN_len m.si L h k
            rw [List.length_append]; omega
          by_cases hkn : k < ns
          · have hkS : k < m.si.length := by rw [HLS.out]; exact hkn
            have HRSr : Hid (Row3 wr ps (m.si.map siV)) := HRS.out.below HBx.out
            obtain ⟨bS, oS, rfl, hS⟩ := Row3.at3 HRSr.out (by omega)
            obtain ⟨s0, s1, s2⟩ := hS k hkS
            have HRE := Hid.in (HR.out.below HB2.out)
            have hac : wr.cell? ⟨bA, oA + i, none⟩ = some (.int .i64 h) := (HBx.out.cell (cell_lt HAC.out)).trans HAC.out
            have HCTk := HCT.out h k
            have HRK := Hid.in (rowN_succ m.si L h k)
            have HVW : Hid (vw1 m.si L h k = ⟨h, k, (cntC (callL L m.si[k].key) h m.si[k].at_ L).o, (cntC (callL L m.si[k].key) h m.si[k].at_ L).n, (cntC (callL L m.si[k].key) h m.si[k].at_ L).m⟩ ∧ ctS m.si L h k = cntC (callL L m.si[k].key) h m.si[k].at_ L) := by
              show _ ∧ _
              unfold vw1 ctS
              rw [List.getD, List.getElem?_eq_getElem hkS]
              exact ⟨rfl, rfl⟩
            have hgd : m.si.getD k default = m.si[k] := by rw [List.getD, List.getElem?_eq_getElem hkS]; rfl
            rw [hgd] at HCTk
            clear hS HRSr hgd
            have hv := fun (W : World) (hW : Below w2.heap.size w2 W) => rview_any p n c L h k m.si[k] W HN.out (by omega) (HRE.out.below hW)
            generalize m.si[k] = s at *
            generalize cntC (callL L s.key) h s.at_ L = ct at *
            obtain ⟨co, cn, cm⟩ := ct
            dsimp only at *
            rw [HVW.out.1, HVW.out.2] at HRK
            have HRA1 : Hid (A ++ rowN m.si L h (k + 1) = (A ++ rowN m.si L h k) ++ (if 0 < co + cn then [⟨h, k, co, cn, cm⟩] else [])) := by show _ = _; rw [HRK.out, List.append_assoc]
            generalize A ++ rowN m.si L h k = A1 at *
            have HV := Hid.in hv
            clear hv HVW
            have g4 : decide ((k : Int) < (ns : Int)) = true := decide_eq_true (by omega)
            have g5 : (0 : Int) ≤ (k : Int) := by omega
            have g6 : (k : Int) < (ns : Int) := by omega
            have w4 : IntKind.i64.wrap ((k : Int) + 1) = (k : Int) + 1 := by rw [IntKind.wrap_i64]; omega
            obtain ⟨pv, cv, ev, -⟩ := HOx.out.shape
            subst ev
            go_upto_region 11 with fail
            have HZA := Hid.in (new_alloc wr (.cells vwZ 39))
            have x0 : wr.cell? ⟨w.heap.size, 2, none⟩ = some (.slice (some ⟨bS, oS, none⟩) ns cs) := a2
            have v0 := fun d os => cell_regrown x0 d os
            have v1 := fun d os => cell_regrown hac d os
            have v2 := fun d os => cell_regrown s0 d os
            have v3 := fun d os => cell_regrown s1 d os
            have v4 := fun d os => cell_regrown s2 d os
            have HVX : Hid (∀ W : World, Below w2.heap.size w2 W → Calls Tryz.prog 46 #[.slice p n c, .int .i64 h, .int .i64 k, .agg #[.int .i64 s.key, .int .i64 s.at_, .int .i64 s.to_]] W fun e w' => e = .returned (.agg #[.int .i64 h, .int .i64 k, .int .i64 (co : Int), .int .i64 (cn : Int), .bool cm]) ∧ Below W.heap.size W w') := HV.out
            have HOB : Hid ((Value.slice pv A1.length cv).ownBlock = none ∨ ∃ g, (Value.slice pv A1.length cv).ownBlock = some g ∧ g < wr.heap.size) := by
              show _ ∨ _
              cases hob : (Value.slice pv A1.length cv).ownBlock with
              | none => exact .inl rfl
              | some g => exact .inr ⟨g, rfl, (HOx.out.ownB hob).2.choose_spec.lt⟩
            have HNB : Hid (∀ V, wr.heap.size ≤ V → (Value.slice pv A1.length cv).ownBlock ≠ some V) := fun V hV e => by
              rcases HOB.out with h | ⟨g, h, hg⟩
              · rw [h] at e; cases e
              · rw [h] at e; injection e with e; omega
            clear HOB HV
            go_cut [9] (fun v9 wc => ∃ V, v9 = .pointer (some ⟨V, 0, none⟩) ∧ Blk wc V 39 (vwA ⟨h, k, co, cn, cm⟩) ∧ w2.heap.size ≤ V ∧ (Value.slice pv A1.length cv).ownBlock ≠ some V ∧ KOwn fW 39 wc w2.heap.size (.slice pv A1.length cv) A1 ∧ Below w2.heap.size w2 wc)
            case first =>
              refine wp_region_noPanic ?_
              refine wp_region_sink 11 [13] 3 (by kernel_rfl) (by kernel_rfl) (by kernel_rfl) (by kernel_rfl) (by kernel_rfl) (fun _ _ _ _ _ h => h) ?_
              simp only [List.take_succ_cons, List.take_zero]
              iterate 11 (go_big_quiet_step (fail))
              refine wpQuiet_nil ?_
              rintro _ ⟨⟨dq, osq⟩, rfl⟩
              have HQ := Hid.in (below_regrown wr dq osq)
              generalize Go.Sort.grow (redrawn wr dq) osq = w8 at HQ ⊢
              clear v0 v1 v2 v3 v4
              refine wpAnyG_two (i := 11) (j := 12) (by kernel_rfl) rfl rfl (fun K hK => ?_) (fun K hK => ?_)
              · go_simp
                go_at_call 46
                refine (HVX.out _ (below_step HBx.out HQ.out)).mono ?_
                rintro e_ w10 ⟨rfl, hb⟩
                replace HQ := Hid.in (below_step HQ.out hb)
                refine hK.out _ _ (regrown_of_below HQ.out) (fun _ => ?_)
                clear hK K hb
                refine wpAnyG_one (i := 12) (by kernel_rfl) rfl (fun K hK => ?_)
                go_simp
                refine hK.out _ _ (regrown_of_below (below_alloc HQ.out _)) (fun _ => ?_)
                clear hK K
                have HZ := Hid.in (Blk.new w10 39 #[.int .i64 0, .int .i64 0, .int .i64 0, .int .i64 0, .bool false])
                have HGV : Hid (wr.heap.size ≤ w10.heap.size) := HQ.out.size
                replace HQ := Hid.in (below_alloc HQ.out (.cells #[.int .i64 0, .int .i64 0, .int .i64 0, .int .i64 0, .bool false] 39))
                generalize w10.alloc (.cells #[.int .i64 0, .int .i64 0, .int .i64 0, .int .i64 0, .bool false] 39) = w11 at *
                generalize w10.heap.size = V at *
                refine wpAnyG_last (i := 13) (by kernel_rfl) rfl rfl (fun K hK => ?_)
                refine oper_store_any HZ.out (by rfl) 39 _ _ (by rfl) (by rfl) (by rfl) [.int .i64 h, .int .i64 k, .int .i64 (co : Int), .int .i64 (cn : Int), .bool cm] (by rfl) Tryz.sz39 rfl rfl ?_
                intro wA hbA hgA
                refine hK.out _ _ ?_
                clear hK K
                refine wpAnyG_done (by kernel_rfl) ?_ _
                refine NoPanic.normal ?_
                go_wp2_with fail
                go_meet
                case rel => exact ⟨_, rfl, hbA, Nat.le_trans HBx.out.size HGV.out, HNB.out _ HGV.out, (HOx.out.below HQ.out).kept hgA (.inr (HNB.out _ HGV.out)), (below_step HBx.out HQ.out).grown hgA (below_step HBx.out HQ.out).size (fun k e => by injection e with e; subst e; exact Nat.le_trans HBx.out.size HGV.out)⟩
              · go_simp
                refine hK.out _ _ (regrown_of_below (below_alloc HQ.out _)) (fun _ => ?_)
                clear hK K
                have HZ0 := Hid.in (Blk.new w8 39 #[.int .i64 0, .int .i64 0, .int .i64 0, .int .i64 0, .bool false])
                have HGV : Hid (wr.heap.size ≤ w8.heap.size) := HQ.out.size
                replace HQ := Hid.in (below_alloc HQ.out (.cells #[.int .i64 0, .int .i64 0, .int .i64 0, .int .i64 0, .bool false] 39))
                generalize w8.alloc (.cells #[.int .i64 0, .int .i64 0, .int .i64 0, .int .i64 0, .bool false] 39) = w9 at *
                generalize w8.heap.size = V at *
                refine wpAnyG_one (i := 11) (by kernel_rfl) rfl (fun K hK => ?_)
                go_simp
                go_at_call 46
                refine (HVX.out _ (below_step HBx.out HQ.out)).mono ?_
                rintro e_ w10 ⟨rfl, hb⟩
                replace HQ := Hid.in (below_step HQ.out hb)
                have HZ := Hid.in (HZ0.out.grow hb)
                refine hK.out _ _ (regrown_of_below HQ.out) (fun _ => ?_)
                clear hK K hb HZ0
                refine wpAnyG_last (i := 13) (by kernel_rfl) rfl rfl (fun K hK => ?_)
                refine oper_store_any HZ.out (by rfl) 39 _ _ (by rfl) (by rfl) (by rfl) [.int .i64 h, .int .i64 k, .int .i64 (co : Int), .int .i64 (cn : Int), .bool cm] (by rfl) Tryz.sz39 rfl rfl ?_
                intro wA hbA hgA
                refine hK.out _ _ ?_
                clear hK K
                refine wpAnyG_done (by kernel_rfl) ?_ _
                refine NoPanic.normal ?_
                go_wp2_with fail
                go_meet
                case rel => exact ⟨_, rfl, hbA, Nat.le_trans HBx.out.size HGV.out, HNB.out _ HGV.out, (HOx.out.below HQ.out).kept hgA (.inr (HNB.out _ HGV.out)), (below_step HBx.out HQ.out).grown hgA (below_step HBx.out HQ.out).size (fun k e => by injection e with e; subst e; exact Nat.le_trans HBx.out.size HGV.out)⟩
            case rest =>
              obtain ⟨V, rfl, hV, hVl, hne, hOc, hBc⟩ := hcut
              have HBV := Hid.in hV
              have HOc := Hid.in hOc
              have HBc := Hid.in hBc
              clear hV hne hOc hBc hac s0 s1 s2 a2 x0 HOx HBx HNB HVX
              have y0 : wc.cell? ⟨V, 0, none⟩ = some (.int .i64 h) := HBV.out.cell 0
              have y1 : wc.cell? ⟨V, 1, none⟩ = some (.int .i64 k) := HBV.out.cell 1
              have y2 : wc.cell? ⟨V, 2, none⟩ = some (.int .i64 (co : Int)) := HBV.out.cell 2
              have y3 : wc.cell? ⟨V, 3, none⟩ = some (.int .i64 (cn : Int)) := HBV.out.cell 3
              have y4 : wc.cell? ⟨V, 4, none⟩ = some (.bool cm) := HBV.out.cell 4
              have w5 : IntKind.i64.wrap ((co : Int) + (cn : Int)) = (co : Int) + (cn : Int) := by have := HN.out; rw [IntKind.wrap_i64]; omega
              by_cases hp : 0 < co + cn
              · have q1 : decide ((0 : Int) < (co : Int) + (cn : Int)) = true := decide_eq_true (by omega)
                have HE : Hid (A ++ rowN m.si L h (k + 1) = A1 ++ [⟨h, k, co, cn, cm⟩]) := by show _ = _; rw [HRA1.out, if_pos hp]
                go_wp2_with (at_builtin; refine Hid.out ?_)
                refine Lib.hid ?_
                refine kpush elemW _ rfl _ _ rfl w2.heap.size _ A1 rfl (HOc.out.alloc _) ⟨wc.heap.size, 0, none⟩ 1 ⟨h, k, co, cn, cm⟩ rfl (fW.news wc ⟨h, k, co, cn, cm⟩ 39 (vwA ⟨h, k, co, cn, cm⟩) rfl) HLEN.out (by decide) (Nat.le_trans HBc.out.size (new_alloc _ _).size) ?_
                intro v' w9 ho9 hg9 hb9
                have HO9 := Hid.in ho9
                have HB9 := Hid.in (hb9 w2 (below_alloc HBc.out _))
                clear ho9 hg9 hb9 y0 y1 y2 y3 y4
                go_wp2_with fail
                go_roundw
                case rel => exact ⟨k + 1, by go_num, by omega, by rw [HE.out]; exact HO9.out, HB9.out⟩
                case measure => simp [intOf]; omega
              · have q1 : decide ((0 : Int) < (co : Int) + (cn : Int)) = false := decide_eq_false (by omega)
                have HE : Hid (A ++ rowN m.si L h (k + 1) = A1) := by show _ = _; rw [HRA1.out, if_neg hp, List.append_nil]
                go_wp2_with fail
                go_roundw
                case rel => exact ⟨k + 1, by go_num, by omega, by rw [HE.out]; exact HOc.out, HBc.out⟩
                case measure => simp [intOf]; omega
          · obtain rfl : k = ns := by omega
            have HE : Hid (A ++ rowN m.si L h k = (hs.take (i + 1)).flatMap (rowV m.si L)) := by
              show _ = _
              rw [HT.out, ← HLS.out]; rfl
            have g4 : decide ((k : Int) < (k : Int)) = false := decide_eq_false (by omega)
            go_wp2_with fail
            go_roundw
            case rel => exact ⟨i + 1, by go_num, by omega, by rw [← HE.out]; exact HOx.out, HBx.out⟩
            case measure => simp [intOf]; omega
      · obtain rfl : i = hs.length := by omega
        have HE : Hid ((hs.take hs.length).flatMap (rowV m.si L) = hs.flatMap (rowV m.si L)) := by show _ = _; rw [List.take_length]
        have hO2 := HO.out
        rw [HE.out] at hO2
        have HO2 := Hid.in (hO2.lower HB2.out.size)
        clear hO2 HO HE
        go_wp2_with fail
        go_ret
        exact ⟨_, rfl, HO2.out, below_step HB2.out HB.out⟩
end Go.Proofs.YtgblohjdiheemaaGreat

/- Ours: the walk of WatchSpares. -/
namespace Go.Proofs.YtgblohjdiheemaaGreat
open Go.RowKit Go.Maps

/-- three pairs of lists, each list in a block of its own, in the order in which they were made -/
structure SP (w0 W : World) (V : List Vw) (O : List Int) (C : List Cn) (qa qb qc qd qe qf : Option Nat) (ca cb cc cd ce cf : Nat) : Prop where
  a : KOwn fW 39 W w0.heap.size (.slice (ptrK qa) V.length ca) V
  b : KOwn fW 39 W w0.heap.size (.slice (ptrK qb) V.length cb) V
  c : KOwn fU 87 W w0.heap.size (.slice (ptrK qc) O.length cc) O
  d : KOwn fU 87 W w0.heap.size (.slice (ptrK qd) O.length cd) O
  e : KOwn fC 49 W w0.heap.size (.slice (ptrK qe) C.length ce) C
  f : KOwn fC 49 W w0.heap.size (.slice (ptrK qf) C.length cf) C
theorem SP.below {w0 W W' : World} {V : List Vw} {O : List Int} {C : List Cn} {qa qb qc qd qe qf : Option Nat} {ca cb cc cd ce cf : Nat} (h : SP w0 W V O C qa qb qc qd qe qf ca cb cc cd ce cf) (hb : Below W.heap.size W W') : SP w0 W' V O C qa qb qc qd qe qf ca cb cc cd ce cf :=
  ⟨h.a.below hb, h.b.below hb, h.c.below hb, h.d.below hb, h.e.below hb, h.f.below hb⟩
/-- lists that were made one behind the other lie apart -/
structure Ord (lo s1 s2 s3 s4 s5 s6 : Nat) (qa qb qc qd qe qf : Option Nat) : Prop where
  a : ∀ g, qa = some g → lo ≤ g ∧ g < s1
  b : ∀ g, qb = some g → s1 ≤ g ∧ g < s2
  c : ∀ g, qc = some g → s2 ≤ g ∧ g < s3
  d : ∀ g, qd = some g → s3 ≤ g ∧ g < s4
  e : ∀ g, qe = some g → s4 ≤ g ∧ g < s5
  f : ∀ g, qf = some g → s5 ≤ g ∧ g < s6
  l1 : lo ≤ s1
  l2 : s1 ≤ s2
  l3 : s2 ≤ s3
  l4 : s3 ≤ s4
  l5 : s4 ≤ s5
  l6 : s5 ≤ s6
theorem KOwn.keepA {α : Type} {F : Fm α} {T : TypeId} {G : Nat → Prop} {w w' : World} {B n c : Nat} {r : Option Nat} {L : List α} (h : KOwn F T w B (.slice (ptrK r) n c) L) (o : Obj) (hk : Keeps G (w.alloc o) w') (hG : ∀ j, r = Option.some j → ¬ G j) : KOwn F T w' B (.slice (ptrK r) n c) L :=
  (h.alloc o).keeps hk (fun j e => hG j ((own_ptr r n c).symm.trans e))
theorem views_len (m : IM) (L : List Fv) (hL : L.length ≤ 400) (hs : m.si.length ≤ 256) : (viewsA m L).length ≤ 102400 := by
  unfold viewsA
  split
  · unfold viewsL
    refine Nat.le_trans (flat_len (rowV m.si L) 256 (fun a => Nat.le_trans (rowN_len m.si L a _) hs) _) ?_
    have e : hartsL L = hartsP L := hartsL_eq L
    rw [e]
    have := hartsP_len L
    omega
  · simp
set_option maxRecDepth 20000 in
set_option maxHeartbeats 32000000 in
theorem spares_walk (p : Option Addr) (n c : Nat) (Z : List Int) (q : Option Addr) (k d : Nat) (L : List Fv) (w : World) (hZ : Z.length = n) (hn : n ≤ 140737488355328) (hnc : n ≤ c) (hr : GRow w p (numZ Z)) (hk : L.length = k) (hk6 : k ≤ 9223372036854775807) (hq : KRow fE w q L) (hok : ∀ x ∈ L, FvOk x) :
    Calls Tryz.prog 5 #[.slice p n c, .slice q k d] w fun e w' => e = .returned (.bool true) ∧ Below w.heap.size w w' := by
  have hIm := image_any p n c Z w hZ hn hnc hr
  have HK := Hid.in hk
  have HQ := Hid.in hq
  have HOK := Hid.in hok
  clear hZ hn hnc hr hk hq hok
  by_cases hbig : (400 : Int) < (k : Int)
  · have g0 : decide ((400 : Int) < (k : Int)) = true := decide_eq_true hbig
    go_enter Tryz.func5, Tryz.ntmps5
    go_wp2_with (first | (go_at_call 15; (with_reducible refine (awake_any _).mono ?_); rintro e w2 ⟨rfl, hb⟩; have HB := Hid.in hb; clear hb))
    go_ret
    exact ⟨rfl, HB.out⟩
  have g0 : decide ((400 : Int) < (k : Int)) = false := decide_eq_false hbig
  have hk4 : k ≤ 400 := by omega
  go_enter Tryz.func5, Tryz.ntmps5
  go_wp2_with (go_at_call 6; refine Hid.out ?_)
  refine Lib.hid ?_
  (with_reducible refine hIm.mono ?_)
  rintro e w1 ⟨vB, vK, vS, vU, rfl, ho, hb1⟩
  have h20 : (Z.take 20).length ≤ 20 := by rw [List.length_take]; omega
  obtain ⟨qb, qk, qs, qu, db, dk, ds, du, rfl, rfl, rfl, rfl, hin, -⟩ := ho.inOk (imM_ok _ h20) (imM_byt _)
  have HSI := Hid.in (okI_one (imM_ok _ h20)).2.1
  generalize imM (Z.take 20) = m at *
  have HI1 := Hid.in hin
  have HB1 := Hid.in hb1
  clear hIm ho hin hb1 g0
  obtain ⟨nb, hnb⟩ : ∃ nb, m.bs.length = nb := ⟨_, rfl⟩
  obtain ⟨nk, hnk⟩ : ∃ nk, m.ks.length = nk := ⟨_, rfl⟩
  obtain ⟨ns, hns⟩ : ∃ ns, m.si.length = ns := ⟨_, rfl⟩
  obtain ⟨nu, hnu⟩ : ∃ nu, m.un.length = nu := ⟨_, rfl⟩
  have HI1' : Hid (ImIn w1 m qb qk qs qu nb db nk dk ns ds nu du) := by
    have h := HI1.out
    rw [hnb, hnk, hns, hnu] at h
    exact h
  rw [hnb, hnk, hns, hnu]
  have HNS := Hid.in hns
  clear HI1 hnb hnk hns hnu
  go_upto_region 4 with fail
  have hal := new_alloc w1 (.cells (imA qb qk qs qu nb db nk dk ns ds nu du) 27)
  have HM3 := Hid.in (Blk.new w1 27 (imA qb qk qs qu nb db nk dk ns ds nu du))
  have HB3 := Hid.in (below_step HB1.out hal)
  have HI3 := Hid.in (HI1'.out.below hal)
  clear hal HB1 HI1'
  generalize w1.alloc (.cells (imA qb qk qs qu nb db nk dk ns ds nu du) 27) = w3 at *
  generalize w1.heap.size = M at *
  have HQ3 := Hid.in (HQ.out.below HB3.out)
  have HVW0 := Hid.in (fun (W : World) (hB : Below w3.heap.size w3 W) => views_any m qb qk qs qu nb db nk dk ns ds nu du q k d L W (HI3.out.below hB) HK.out (by omega) (HQ3.out.below hB) HOK.out)
  have HVL : Hid ((viewsA m L).length ≤ 102400) := views_len m L (by rw [HK.out]; exact hk4) HSI.out
  have HVW : Hid (∀ W : World, Below w3.heap.size w3 W → Calls Tryz.prog 9 #[.agg #[.slice qb nb db, .slice qk nk dk, .slice qs ns ds, .slice qu nu du], .slice q k d] W fun e w' => ∃ r cr, e = .returned (.slice (ptrK r) (viewsA m L).length cr) ∧ KOwn fW 39 w' W.heap.size (.slice (ptrK r) (viewsA m L).length cr) (viewsA m L) ∧ (∀ g, r = some g → W.heap.size ≤ g ∧ g < w'.heap.size) ∧ Below W.heap.size W w') := fun W hB => (HVW0.out W hB).mono (by
    rintro e w' ⟨v, h1, h2, h3⟩
    obtain ⟨r, cr, e2, h4⟩ := h2.slq
    subst e2
    exact ⟨r, cr, h1, h2, h4, h3⟩)
  have HOU : Hid (∀ W : World, Below w3.heap.size w3 W → Calls Tryz.prog 12 #[.slice q k d, .int .i64 1] W fun e w' => ∃ r cr, e = .returned (.slice (ptrK r) (outsL L 1).length cr) ∧ KOwn fU 87 w' W.heap.size (.slice (ptrK r) (outsL L 1).length cr) (outsL L 1) ∧ (∀ g, r = some g → W.heap.size ≤ g ∧ g < w'.heap.size) ∧ Below W.heap.size W w') := fun W hB => (outs_any q k d L 1 W HK.out (by omega) (HQ3.out.below hB)).mono (by
    rintro e w' ⟨v, h1, h2, h3⟩
    obtain ⟨r, cr, e2, h4⟩ := h2.slq
    subst e2
    exact ⟨r, cr, h1, h2, h4, h3⟩)
  have HSW : Hid (∀ W : World, Below w3.heap.size w3 W → Calls Tryz.prog 14 #[.slice q k d] W fun e w' => ∃ r cr, e = .returned (.slice (ptrK r) (switchL L).length cr) ∧ KOwn fC 49 w' W.heap.size (.slice (ptrK r) (switchL L).length cr) (switchL L) ∧ (∀ g, r = some g → W.heap.size ≤ g ∧ g < w'.heap.size) ∧ Below W.heap.size W w') := fun W hB => (switches_any q k d L W HK.out (by omega) (HQ3.out.below hB)).mono (by
    rintro e w' ⟨v, h1, h2, h3⟩
    obtain ⟨r, cr, e2, h4⟩ := h2.slq
    subst e2
    exact ⟨r, cr, h1, h2, h4, h3⟩)
  have HOL : Hid ((outsL L 1).length ≤ 400) := by show _ ≤ _; exact Nat.le_trans (outsL_len L 1) (by rw [HK.out]; exact hk4)
  have HCL : Hid ((switchL L).length ≤ 400) := by show _ ≤ _; exact Nat.le_trans (switchL_len L) (by rw [HK.out]; exact hk4)
  generalize viewsA m L = V at *
  generalize outsL L 1 = O at *
  generalize switchL L = C at *
  clear HVW0 HSI HNS HQ HOK
  have hvl := HVL.out
  have hol := HOL.out
  have hcl := HCL.out
  have a0 : w3.cell? ⟨M, 0, none⟩ = some (.slice qb nb db) := HM3.out.cell 0
  have a1 : w3.cell? ⟨M, 1, none⟩ = some (.slice qk nk dk) := HM3.out.cell 1
  have a2 : w3.cell? ⟨M, 2, none⟩ = some (.slice qs ns ds) := HM3.out.cell 2
  have a3 : w3.cell? ⟨M, 3, none⟩ = some (.slice qu nu du) := HM3.out.cell 3
  have HSK : Hid (∀ W W' : World, (W.cell? ⟨M, 0, none⟩ = some (.slice qb nb db) ∧ W.cell? ⟨M, 1, none⟩ = some (.slice qk nk dk) ∧ W.cell? ⟨M, 2, none⟩ = some (.slice qs ns ds) ∧ W.cell? ⟨M, 3, none⟩ = some (.slice qu nu du) ∧ Below w3.heap.size w3 W) → Below W.heap.size W W' → (W'.cell? ⟨M, 0, none⟩ = some (.slice qb nb db) ∧ W'.cell? ⟨M, 1, none⟩ = some (.slice qk nk dk) ∧ W'.cell? ⟨M, 2, none⟩ = some (.slice qs ns ds) ∧ W'.cell? ⟨M, 3, none⟩ = some (.slice qu nu du) ∧ Below w3.heap.size w3 W')) := by
    intro W W' ⟨h0, h1, h2, h3, hB⟩ hb
    exact ⟨(hb.cell (cell_lt h0)).trans h0, (hb.cell (cell_lt h1)).trans h1, (hb.cell (cell_lt h2)).trans h2, (hb.cell (cell_lt h3)).trans h3, below_step hB hb⟩
  have hI0 : Below w3.heap.size w3 w3.drew := below_draws (Below.refl _ _) 1
  go_region_held3 (fun W => (W.cell? ⟨M, 0, none⟩ = some (.slice qb nb db) ∧ W.cell? ⟨M, 1, none⟩ = some (.slice qk nk dk) ∧ W.cell? ⟨M, 2, none⟩ = some (.slice qs ns ds) ∧ W.cell? ⟨M, 3, none⟩ = some (.slice qu nu du) ∧ Below w3.heap.size w3 W))
    (first | assumption | (exact HSK.out _ _ (by assumption) (new_alloc _ _)) | (exact HSK.out _ _ (by assumption) (below_draws (below_self _) _)) | (refine ⟨?_, ?_, ?_, ?_, ?_⟩ <;> assumption) | go_keep)
    ((go_at_call 9; first
      | (have hzz := hoa; clear hzz; refine (HVW.out _ (And.right (And.right (And.right (And.right (by assumption)))))).mono ?_; rintro e w5 ⟨rb, cb, rfl, hob, hgb, hbb⟩; have hkb := HSK.out _ _ (by assumption) hbb)
      | (refine (HVW.out _ (And.right (And.right (And.right (And.right (by assumption)))))).mono ?_; rintro e w4 ⟨ra, ca, rfl, hoa, hga, hba⟩; have hka := HSK.out _ _ (by assumption) hba)))
  all_goals
    have HB5 := Hid.in (And.right (And.right (And.right (And.right hkb))))
    have HA5 := Hid.in (hoa.below hbb)
    have HBb5 := Hid.in hob
    have HGa := Hid.in hga
    have HGb := Hid.in hgb
    have hz4 : w3.heap.size ≤ w4.heap.size := hba.size
    have hz5 := hbb.size
    clear hkb hka hoa hob hga hgb hba hbb a0 a1 a2 a3 hI0 HSK
    -- c
    go_wp2_with (go_at_call 12; refine Hid.out ?_)
    refine Lib.hid ?_
    (with_reducible refine (HOU.out w5 HB5.out).mono ?_)
    rintro e w6 ⟨rc, cc, rfl, hoc, hgc, hbc⟩
    have HB6 := Hid.in (below_step HB5.out hbc)
    have HA6 := Hid.in (HA5.out.below hbc)
    have HBb6 := Hid.in (HBb5.out.below hbc)
    have HC6 := Hid.in hoc
    have HGc := Hid.in hgc
    have hz6 := hbc.size
    clear hoc hgc hbc HB5 HA5 HBb5
    -- d
    go_wp2_with (go_at_call 12; refine Hid.out ?_)
    refine Lib.hid ?_
    (with_reducible refine (HOU.out w6 HB6.out).mono ?_)
    rintro e w7 ⟨rd, cd, rfl, hod, hgd, hbd⟩
    have HB7 := Hid.in (below_step HB6.out hbd)
    have HA7 := Hid.in (HA6.out.below hbd)
    have HBb7 := Hid.in (HBb6.out.below hbd)
    have HC7 := Hid.in (HC6.out.below hbd)
    have HD7 := Hid.in hod
    have HGd := Hid.in hgd
    have hz7 := hbd.size
    clear hod hgd hbd HB6 HA6 HBb6 HC6
    -- e
    go_wp2_with (go_at_call 14; refine Hid.out ?_)
    refine Lib.hid ?_
    (with_reducible refine (HSW.out w7 HB7.out).mono ?_)
    rintro e w8 ⟨re, ce, rfl, hoe, hge, hbe⟩
    have HB8 := Hid.in (below_step HB7.out hbe)
    have HA8 := Hid.in (HA7.out.below hbe)
    have HBb8 := Hid.in (HBb7.out.below hbe)
    have HC8 := Hid.in (HC7.out.below hbe)
    have HD8 := Hid.in (HD7.out.below hbe)
    have HE8 := Hid.in hoe
    have HGe := Hid.in hge
    have hz8 := hbe.size
    clear hoe hge hbe HB7 HA7 HBb7 HC7 HD7
    -- f
    go_wp2_with (go_at_call 14; refine Hid.out ?_)
    refine Lib.hid ?_
    (with_reducible refine (HSW.out w8 HB8.out).mono ?_)
    rintro e w9 ⟨rf, cf, rfl, hof, hgf, hbf⟩
    have HB9 := Hid.in (below_step HB8.out hbf)
    have HSP9 : Hid (SP w3 w9 V O C ra rb rc rd re rf ca cb cc cd ce cf) := ⟨(HA8.out.below hbf).lower (Nat.le_refl _), (HBb8.out.below hbf).lower (by omega), (HC8.out.below hbf).lower (by omega), (HD8.out.below hbf).lower (by omega), (HE8.out.below hbf).lower (by omega), hof.lower (by omega)⟩
    have hz9 := hbf.size
    have HORD : Hid (Ord w3.heap.size w4.heap.size w5.heap.size w6.heap.size w7.heap.size w8.heap.size w9.heap.size ra rb rc rd re rf) := ⟨HGa.out, HGb.out, HGc.out, HGd.out, HGe.out, hgf, hz4, hz5, hz6, hz7, hz8, hz9⟩
    clear hof hgf hbf HB8 HA8 HBb8 HC8 HD8 HE8 HGa HGb HGc HGd HGe HOU HSW
    generalize w4.heap.size = s1 at *
    generalize w5.heap.size = s2 at *
    generalize w6.heap.size = s3 at *
    generalize w7.heap.size = s4 at *
    generalize w8.heap.size = s5 at *
    -- the three pairs are alike
    have hs8 := sameViews_self (ptrK ra) (ptrK rb) V.length ca cb V w9 rfl (by omega) HSP9.out.a.row2 HSP9.out.b.row2
    go_wp2_with (go_at_call 8; refine Hid.out ?_)
    refine Lib.hid ?_
    (with_reducible refine hs8.mono ?_)
    rintro e w10 ⟨rfl, m8, e2⟩
    have hd : Below w9.heap.size w9 w10 := by rw [e2]; exact below_draws (below_self _) m8
    have HSP10 := Hid.in (HSP9.out.below hd)
    have HB10 := Hid.in (below_step HB9.out hd)
    have hz10 := hd.size
    clear e2 hs8 hd HSP9 HB9
    have hs19 := samePlaces_self (ptrK rc) (ptrK rd) O.length cc cd O w10 rfl (by omega) HSP10.out.c.row2 HSP10.out.d.row2
    go_wp2_with (go_at_call 19; refine Hid.out ?_)
    refine Lib.hid ?_
    (with_reducible refine hs19.mono ?_)
    rintro e w11 ⟨rfl, m19, e2⟩
    have hd : Below w10.heap.size w10 w11 := by rw [e2]; exact below_draws (below_self _) m19
    have HSP11 := Hid.in (HSP10.out.below hd)
    have HB11 := Hid.in (below_step HB10.out hd)
    have hz11 := hd.size
    clear e2 hs19 hd HSP10 HB10
    have hs13 := sameCounts_self (ptrK re) (ptrK rf) C.length ce cf C w11 rfl (by omega) HSP11.out.e.row2 HSP11.out.f.row2
    go_wp2_with (go_at_call 13; refine Hid.out ?_)
    refine Lib.hid ?_
    (with_reducible refine hs13.mono ?_)
    rintro e w12 ⟨rfl, m13, e2⟩
    have hd : Below w11.heap.size w11 w12 := by rw [e2]; exact below_draws (below_self _) m13
    have HSP12 := Hid.in (HSP11.out.below hd)
    have HB12 := Hid.in (below_step HB11.out hd)
    have hz12 := hd.size
    clear e2 hs13 hd HSP11 HB11
    -- the copy
    have hcp := copyViews_any (ptrK ra) V.length ca V w12 rfl (by omega) HSP12.out.a.row2
    go_wp2_with (go_at_call 24; refine Hid.out ?_)
    refine Lib.hid ?_
    (with_reducible refine hcp.mono ?_)
    rintro e w13 ⟨vw, rfl, hw13, hbw⟩
    obtain ⟨rw_, cw, ew, hgw⟩ := hw13.slq
    subst ew
    have HW13 := Hid.in hw13
    have HGw := Hid.in hgw
    have HSP13 := Hid.in (HSP12.out.below hbw)
    have HB13 := Hid.in (below_step HB12.out hbw)
    have hz13 := hbw.size
    clear hcp hw13 hgw hbw HSP12 HB12
    have hs0 := HB13.out.size
    -- the views lie apart
    have hap := apartViews2 ra rb ca cb V V w13 w3.heap.size HSP13.out.a HSP13.out.b (fun g e1 e2 => by have := HORD.out.a g e1; have := HORD.out.b g e2; omega) hs0 (by omega) (by omega)
    go_wp2_with (go_at_call 25; refine Hid.out ?_)
    refine Lib.hid ?_
    (with_reducible refine hap.mono ?_)
    rintro e w14 ⟨rfl, hK⟩
    have HW14 := Hid.in (HW13.out.keepA _ hK (fun j e h => by have := HGw.out j e; have := HORD.out.l2; have := HORD.out.l3; have := HORD.out.l4; have := HORD.out.l5; have := HORD.out.l6; rcases h with h | h; have := HORD.out.a j h; omega; have := HORD.out.b j h; omega))
    have HC14 := Hid.in (HSP13.out.c.keepA _ hK (fun j e h => by have := HORD.out.c j e; have := HORD.out.l2; rcases h with h | h; have := HORD.out.a j h; omega; have := HORD.out.b j h; omega))
    have HD14 := Hid.in (HSP13.out.d.keepA _ hK (fun j e h => by have := HORD.out.d j e; have := HORD.out.l2; have := HORD.out.l3; rcases h with h | h; have := HORD.out.a j h; omega; have := HORD.out.b j h; omega))
    have HE14 := Hid.in (HSP13.out.e.keepA _ hK (fun j e h => by have := HORD.out.e j e; have := HORD.out.l2; have := HORD.out.l3; have := HORD.out.l4; rcases h with h | h; have := HORD.out.a j h; omega; have := HORD.out.b j h; omega))
    have HF14 := Hid.in (HSP13.out.f.keepA _ hK (fun j e h => by have := HORD.out.f j e; have := HORD.out.l2; have := HORD.out.l3; have := HORD.out.l4; have := HORD.out.l5; rcases h with h | h; have := HORD.out.a j h; omega; have := HORD.out.b j h; omega))
    have hbn := below_alloc HB13.out (.cells #[.slice (ptrK ra) V.length ca, .slice (ptrK rb) V.length cb] 36)
    have HB14 : Hid (Below w3.heap.size w3 w14) := hbn.trans (hK.below hbn.size (fun j h => by have := HORD.out.l1; rcases h with h | h; have := HORD.out.a j h; omega; have := HORD.out.b j h; omega))
    have hz14 : w13.heap.size ≤ w14.heap.size := Nat.le_trans (new_alloc w13 (.cells #[.slice (ptrK ra) V.length ca, .slice (ptrK rb) V.length cb] 36)).size hK.size
    clear hap hK hbn HW13 HSP13 HB13
    -- the numbers
    have hap := apartPlaces2 rc rd cc cd O O w14 w3.heap.size HC14.out HD14.out (fun g e1 e2 => by have := HORD.out.c g e1; have := HORD.out.d g e2; omega) (by omega) (by omega) (by omega)
    go_wp2_with (go_at_call 26; refine Hid.out ?_)
    refine Lib.hid ?_
    (with_reducible refine hap.mono ?_)
    rintro e w15 ⟨rfl, hK⟩
    have HW15 := Hid.in (HW14.out.keepA _ hK (fun j e h => by have := HGw.out j e; have := HORD.out.l4; have := HORD.out.l5; have := HORD.out.l6; rcases h with h | h; have := HORD.out.c j h; omega; have := HORD.out.d j h; omega))
    have HE15 := Hid.in (HE14.out.keepA _ hK (fun j e h => by have := HORD.out.e j e; have := HORD.out.l4; rcases h with h | h; have := HORD.out.c j h; omega; have := HORD.out.d j h; omega))
    have HF15 := Hid.in (HF14.out.keepA _ hK (fun j e h => by have := HORD.out.f j e; have := HORD.out.l4; have := HORD.out.l5; rcases h with h | h; have := HORD.out.c j h; omega; have := HORD.out.d j h; omega))
    have hbn := below_alloc HB14.out (.cells #[.slice (ptrK rc) O.length cc, .slice (ptrK rd) O.length cd] 43)
    have HB15 : Hid (Below w3.heap.size w3 w15) := hbn.trans (hK.below hbn.size (fun j h => by have := HORD.out.l1; have := HORD.out.l2; have := HORD.out.l3; rcases h with h | h; have := HORD.out.c j h; omega; have := HORD.out.d j h; omega))
    have hz15 : w14.heap.size ≤ w15.heap.size := Nat.le_trans (new_alloc w14 (.cells #[.slice (ptrK rc) O.length cc, .slice (ptrK rd) O.length cd] 43)).size hK.size
    clear hap hK hbn HW14 HC14 HD14 HE14 HF14 HB14
    -- the counts
    have hap := apartCounts2 re rf ce cf C C w15 w3.heap.size HE15.out HF15.out (fun g e1 e2 => by have := HORD.out.e g e1; have := HORD.out.f g e2; omega) (by omega) (by omega) (by omega)
    go_wp2_with (go_at_call 27; refine Hid.out ?_)
    refine Lib.hid ?_
    (with_reducible refine hap.mono ?_)
    rintro e w16 ⟨rfl, hK⟩
    have HW16 := Hid.in (HW15.out.keepA _ hK (fun j e h => by have := HGw.out j e; have := HORD.out.l6; rcases h with h | h; have := HORD.out.e j h; omega; have := HORD.out.f j h; omega))
    have hbn := below_alloc HB15.out (.cells #[.slice (ptrK re) C.length ce, .slice (ptrK rf) C.length cf] 46)
    have HB16 : Hid (Below w3.heap.size w3 w16) := hbn.trans (hK.below hbn.size (fun j h => by have := HORD.out.l1; have := HORD.out.l2; have := HORD.out.l3; have := HORD.out.l4; have := HORD.out.l5; rcases h with h | h; have := HORD.out.e j h; omega; have := HORD.out.f j h; omega))
    clear hap hK hbn HW15 HE15 HF15 HB15
    have HM16 := Hid.in (HM3.out.grow HB16.out)
    have a0 : w16.cell? ⟨M, 0, none⟩ = some (.slice qb nb db) := HM16.out.cell 0
    have a1 : w16.cell? ⟨M, 1, none⟩ = some (.slice qk nk dk) := HM16.out.cell 1
    have a2 : w16.cell? ⟨M, 2, none⟩ = some (.slice qs ns ds) := HM16.out.cell 2
    have a3 : w16.cell? ⟨M, 3, none⟩ = some (.slice qu nu du) := HM16.out.cell 3
    go_wp2_with (go_at_call 9; refine Hid.out ?_)
    refine Lib.hid ?_
    (with_reducible refine (HVW.out w16 HB16.out).mono ?_)
    rintro e w17 ⟨rz, cz, rfl, hoz, -, hbz⟩
    have HZ17 := Hid.in hoz
    have HW17 := Hid.in (HW16.out.below hbz)
    have HB17 := Hid.in (below_step HB16.out hbz)
    clear hoz hbz HW16 HB16 a0 a1 a2 a3 HM16
    have hs8 := sameViews_self (ptrK rz) (ptrK rw_) V.length cz cw V w17 rfl (by omega) HZ17.out.row2 HW17.out.row2
    go_wp2_with (go_at_call 8; refine Hid.out ?_)
    refine Lib.hid ?_
    (with_reducible refine hs8.mono ?_)
    rintro e w18 ⟨rfl, m8, e2⟩
    have HB18 : Hid (Below w3.heap.size w3 w18) := by rw [e2]; exact below_draws HB17.out m8
    clear e2 hs8
    go_wp2_with (first | (go_at_call 15; (with_reducible refine (awake_any _).mono ?_); rintro e w19 ⟨rfl, hb⟩; have HB19 := Hid.in (below_step HB3.out (below_step HB18.out hb)); clear hb))
    go_ret
    exact ⟨rfl, HB19.out⟩
end Go.Proofs.YtgblohjdiheemaaGreat
