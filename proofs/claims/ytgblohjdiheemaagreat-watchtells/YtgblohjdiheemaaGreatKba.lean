/- Texts put together: OpenI, OpenE, TelC, RVw, SamI, TelW. -/
import Derived.Test.YtgblohjdiheemaaGreatKar
import Derived.Test.YtgblohjdiheemaaGreatKai
import Derived.SizedLaws
import Derived.Test.YtgblohjdiheemaaGreatKah
import Derived.Deep.MidRow
import Derived.Test.YtgblohjdiheemaaGreatKas
import Derived.Test.YtgblohjdiheemaaGreatRfB
import Derived.Test.YtgblohjdiheemaaGreatRfD
import Derived.Test.YtgblohjdiheemaaGreatRRgW
import Derived.Test.YtgblohjdiheemaaGreatKao
import Derived.Deep.DeepCutAuto
import Derived.Test.YtgblohjdiheemaaGreatKat
import Derived.Test.YtgblohjdiheemaaGreatRfC
import Derived.Test.YtgblohjdiheemaaGreatRfA
import Derived.Test.YtgblohjdiheemaaGreatKak

/- How an image (api.Image) that came in by value is opened, of every size that an argument may have. -/
namespace Go.Proofs.YtgblohjdiheemaaGreat
open Go.ChangeShapes Go.WideShapes Go.ChangeAt Go.RowKit

theorem Tryz.cells9 : Tryz.prog.cellsOf 9 = 1 := by kernel_rfl
theorem Tryz.cells22 : Tryz.prog.cellsOf 22 = 1 := by kernel_rfl
theorem Tryz.cells23 : Tryz.prog.cellsOf 23 = 1 := by kernel_rfl
theorem Tryz.cells24 : Tryz.prog.cellsOf 24 = 1 := by kernel_rfl
theorem Tryz.cells25 : Tryz.prog.cellsOf 25 = 1 := by kernel_rfl
theorem Tryz.cells27 : Tryz.prog.cellsOf 27 = 4 := by kernel_rfl
theorem Tryz.cells68 : Tryz.prog.cellsOf 68 = 3 := by kernel_rfl
theorem Tryz.bytes3 : Tryz.prog.bytesOf 3 = 8 := by kernel_rfl
theorem Tryz.bytes9 : Tryz.prog.bytesOf 9 = 16 := by kernel_rfl
theorem Tryz.bytes68 : Tryz.prog.bytesOf 68 = 24 := by kernel_rfl

theorem list_three {X : Type} {l : List X} (h : l.length = 3) : ∃ a b c, l = [a, b, c] := by
  match l, h with
  | [a, b, c], _ => exact ⟨a, b, c, rfl⟩
theorem list_four {X : Type} {l : List X} (h : l.length = 4) : ∃ a b c d, l = [a, b, c, d] := by
  match l, h with
  | [a, b, c, d], _ => exact ⟨a, b, c, d, rfl⟩
theorem list_ofG {X : Type} {P : Nat → X → Prop} : ∀ n, (∀ i, i < n → ∃ x, P i x) → ∃ xs : List X, xs.length = n ∧ ∀ i (h : i < xs.length), P i xs[i]
  | 0, _ => ⟨[], rfl, fun i h => absurd h (by simp)⟩
  | n + 1, h => by
    obtain ⟨xs, hl, hx⟩ := list_ofG n fun i hi => h i (by omega)
    obtain ⟨x, hp⟩ := h n (by omega)
    refine ⟨xs ++ [x], by simp [hl], fun i hi => ?_⟩
    by_cases hin : i < xs.length
    · rw [List.getElem_append_left hin]; exact hx i hin
    · have : i = n := by simp at hi; omega
      subst this
      rw [List.getElem_append_right (by omega)]
      simp [hl]
      exact hp

theorem opened3 {H : Type} {enc : TypeId × Value → H} {W : World} {fuel : Nat} {v : Value} {x : DataW H × List MemPlace} {ST ET : TypeId} {X : Type} (V : X → V3) (P : X → Prop) (hu : Tryz.prog.underlying ST = some (.slice ET)) (hc3 : Tryz.prog.cellsOf ET = 3)
    (hone : ∀ (fuel : Nat) (cs : List Value) (x : DataW H × List MemPlace), DataW.trod enc Tryz.prog W 0 (fun _ => true) true fuel ET cs = some x → ∃ y, cs = l3 (V y) ∧ P y)
    (h : DataW.trod enc Tryz.prog W 0 (fun _ => true) true fuel ST [v] = some x) (hw : ∀ m ∈ x.1.weights Tryz.prog ST, m ≤ reachBytes) :
    ∃ (q : Option Addr) (e : Nat) (L : List X), v = .slice q L.length e ∧ L.length ≤ e ∧ e ≤ maxLen ∧ L.length * Tryz.prog.bytesOf ET ≤ reachBytes ∧ Row3 W q (L.map V) ∧ ∀ y ∈ L, P y := by
  rcases DataW.trod_slice hu h with ⟨hcs, hx⟩ | ⟨ad, l, cc, elems, rest, f, hfu, hcs, hx, _, hl, hm, hlen, hel, hsp, _⟩
  · simp only [List.cons.injEq, and_true] at hcs
    exact ⟨none, 0, [], by rw [hcs]; rfl, Nat.le_refl _, Nat.zero_le _, by simp, Row3.nil W none, fun y hy => by cases hy⟩
  · simp only [List.cons.injEq, and_true] at hcs
    have hwt : l * Tryz.prog.bytesOf ET ≤ reachBytes := by
      have := hw ((elems.length + rest.length) * Tryz.prog.bytesOf ET) (by rw [hx]; simp [DataW.weights, hu])
      exact Nat.le_trans (Nat.mul_le_mul_right _ (by omega)) this
    obtain ⟨L, hL, hP⟩ := list_ofG (P := fun i y => (∀ j u, (l3 (V y))[j]? = some u → W.cell? ((ad.add (i * 3)).add j) = some u) ∧ P y) l fun i hi => by
      have he := hel i hi
      rw [hc3, List.getElem?_eq_getElem (by omega), Option.bind_eq_some_iff] at he
      obtain ⟨cs, hcs, htr⟩ := he
      obtain ⟨_, hcl, hcc⟩ := World.cells?_some hcs
      obtain ⟨y, hy, hp⟩ := hone _ _ _ htr
      refine ⟨y, fun j u hu => ?_, hp⟩
      rw [← hy] at hu
      have hj : j < 3 := by rw [← hcl]; exact (List.getElem?_eq_some_iff.1 hu).1
      rw [hcc j hj]; exact hu
    refine ⟨some ad, cc, L, by rw [hcs, hL], by rw [hL]; exact hl, hm, by rw [hL]; exact hwt, fun h0 => ?_, fun y hy => ?_⟩
    · rw [List.length_map] at h0
      obtain ⟨b, o, s⟩ := ad
      obtain rfl : s = none := by
        have := (hP 0 h0).1 0 _ rfl
        simpa [Addr.add] using World.cell?_spot this
      refine ⟨b, o, rfl, fun i hi j hj => ?_⟩
      rw [List.length_map] at hi
      rw [List.getElem_map]
      have hl3 : j < (l3 (V L[i])).length := hj
      have := (hP i hi).1 j _ (List.getElem?_eq_getElem hl3)
      rw [Addr.add_mid, Addr.add_mid] at this
      rw [this, List.getElem?_eq_getElem hl3]
    · obtain ⟨i, hi, rfl⟩ := List.getElem_of_mem hy
      exact (hP i hi).2

/-- the same, of elements of one cell -/
theorem opened1 {H : Type} {enc : TypeId × Value → H} {W : World} {fuel : Nat} {v : Value} {x : DataW H × List MemPlace} {ST ET : TypeId} {X : Type} (V : X → Value) (P : X → Prop) (hu : Tryz.prog.underlying ST = some (.slice ET)) (hc1 : Tryz.prog.cellsOf ET = 1)
    (hone : ∀ (fuel : Nat) (cs : List Value) (x : DataW H × List MemPlace), DataW.trod enc Tryz.prog W 0 (fun _ => true) true fuel ET cs = some x → ∃ y, cs = [V y] ∧ P y)
    (h : DataW.trod enc Tryz.prog W 0 (fun _ => true) true fuel ST [v] = some x) (hw : ∀ m ∈ x.1.weights Tryz.prog ST, m ≤ reachBytes) :
    ∃ (q : Option Addr) (e : Nat) (L : List X), v = .slice q L.length e ∧ L.length ≤ e ∧ e ≤ maxLen ∧ L.length * Tryz.prog.bytesOf ET ≤ reachBytes ∧ GRow W q (L.map V) ∧ ∀ y ∈ L, P y := by
  rcases DataW.trod_slice hu h with ⟨hcs, hx⟩ | ⟨ad, l, cc, elems, rest, f, hfu, hcs, hx, _, hl, hm, hlen, hel, hsp, _⟩
  · simp only [List.cons.injEq, and_true] at hcs
    exact ⟨none, 0, [], by rw [hcs]; rfl, Nat.le_refl _, Nat.zero_le _, by simp, GRow.nil W none, fun y hy => by cases hy⟩
  · simp only [List.cons.injEq, and_true] at hcs
    have hwt : l * Tryz.prog.bytesOf ET ≤ reachBytes := by
      have := hw ((elems.length + rest.length) * Tryz.prog.bytesOf ET) (by rw [hx]; simp [DataW.weights, hu])
      exact Nat.le_trans (Nat.mul_le_mul_right _ (by omega)) this
    obtain ⟨L, hL, hP⟩ := list_ofG (P := fun i y => (∀ j u, ([V y])[j]? = some u → W.cell? ((ad.add (i * 1)).add j) = some u) ∧ P y) l fun i hi => by
      have he := hel i hi
      rw [hc1, List.getElem?_eq_getElem (by omega), Option.bind_eq_some_iff] at he
      obtain ⟨cs, hcs, htr⟩ := he
      obtain ⟨_, hcl, hcc⟩ := World.cells?_some hcs
      obtain ⟨y, hy, hp⟩ := hone _ _ _ htr
      refine ⟨y, fun j u hu => ?_, hp⟩
      rw [← hy] at hu
      have hj : j < 1 := by rw [← hcl]; exact (List.getElem?_eq_some_iff.1 hu).1
      rw [hcc j hj]; exact hu
    refine ⟨some ad, cc, L, by rw [hcs, hL], by rw [hL]; exact hl, hm, by rw [hL]; exact hwt, fun h0 => ?_, fun y hy => ?_⟩
    · rw [List.length_map] at h0
      obtain ⟨b, o, s⟩ := ad
      obtain rfl : s = none := by
        have := (hP 0 h0).1 0 _ rfl
        simpa [Addr.add] using World.cell?_spot this
      refine ⟨b, o, rfl, fun i hi => ?_⟩
      rw [List.length_map] at hi
      have := (hP i hi).1 0 (V L[i]) rfl
      rw [Addr.add_mid, Addr.add_mid] at this
      simp only [Nat.mul_one, Nat.add_zero] at this
      rw [this, List.getElem?_map, List.getElem?_eq_getElem hi]
      rfl
    · obtain ⟨i, hi, rfl⟩ := List.getElem_of_mem hy
      exact (hP i hi).2

/-- a slice of bytes within a unit -/
theorem open_data {H : Type} {enc : TypeId × Value → H} {W : World} {fuel : Nat} {v : Value} {x : DataW H × List MemPlace} (h : DataW.trod enc Tryz.prog W 0 (fun _ => true) true fuel 22 [v] = some x) (hw : ∀ m ∈ x.1.weights Tryz.prog 22, m ≤ reachBytes) :
    ∃ (q : Option Addr) (e : Nat) (xs : List Int), v = .slice q xs.length e ∧ Row W q xs ∧ Byt xs ∧ xs.length ≤ e ∧ e ≤ maxLen ∧ xs.length ≤ reachBytes := by
  have hr : ∀ q n c, v = .slice q n c → n * 1 ≤ reachBytes := by
    intro q n c hv
    rcases DataW.trod_slice Tryz.underlying22 h with ⟨hcs, hx⟩ | ⟨ad, l, cc, elems, rest, f, hfu, hcs, hx, _, hl, hm, hlen, hel, hsp, _⟩
    · simp only [List.cons.injEq, and_true] at hcs
      rw [hv] at hcs
      simp only [Value.slice.injEq] at hcs
      rw [hcs.2.1]; exact Nat.zero_le _
    · simp only [List.cons.injEq, and_true] at hcs
      rw [hv] at hcs
      simp only [Value.slice.injEq] at hcs
      have := hw ((elems.length + rest.length) * Tryz.prog.bytesOf 5) (by rw [hx]; simp [DataW.weights, Tryz.underlying22])
      rw [Tryz.bytes5] at this
      rw [hcs.2.1]
      omega
  rcases open_ints Tryz.underlying22 Tryz.underlying5 Tryz.cells5 h with ⟨hcs, hx⟩ | ⟨ad, l, cc, zs, hcs, _, hl, hm, hz, hx, hcell, hwz⟩
  · simp only [List.cons.injEq, and_true] at hcs
    exact ⟨none, 0, [], by rw [hcs]; rfl, fun h => absurd h (Nat.lt_irrefl 0), fun i => by simp, Nat.le_refl _, Nat.zero_le _, Nat.zero_le _⟩
  · simp only [List.cons.injEq, and_true] at hcs
    simp only [if_true] at hz
    have hlen : (zs.take l).length = l := by rw [List.length_take]; omega
    have hrr := hr _ _ _ hcs
    refine ⟨some ad, cc, zs.take l, by rw [hcs, hlen], fun h0 => ?_, fun i => getD_of_mem (P := fun x => 0 ≤ x ∧ x ≤ 255) (by decide) (fun x hx' => wf_u8 (hwz x (List.mem_of_mem_take hx'))) i, by omega, hm, by omega⟩
    obtain ⟨b, o, s⟩ := ad
    rw [hlen] at h0
    obtain rfl : s = none := by simpa [Addr.add] using World.cell?_spot (hcell 0 (by omega))
    exact ⟨b, o, rfl, fun i hi => by rw [hlen] at hi; rw [← Go.WideShapes.add_plain, hcell i (by omega)]; simp [List.getD, show i < l by omega]⟩

def SiF (s : Si) : Prop := i64P s.key ∧ i64P s.at_ ∧ i64P s.to_
theorem open_site {H : Type} {enc : TypeId × Value → H} {W : World} (fuel : Nat) (cs : List Value) (x : DataW H × List MemPlace) (h : DataW.trod enc Tryz.prog W 0 (fun _ => true) true fuel 68 cs = some x) : ∃ y, cs = l3 (siV y) ∧ SiF y := by
  obtain ⟨xs, n, rfl, hx, hlen, hxl, hf⟩ := DataW.trod_struct Tryz.underlying68 h
  rw [Tryz.cells68] at hlen
  obtain ⟨a, b, c, rfl⟩ := list_three hlen
  have f0 := hf 0
  have f1 := hf 1
  have f2 := hf 2
  simp [Tryz.cells3] at f0 f1 f2
  obtain ⟨x0, x1, x2, rfl⟩ := list_three (show xs.length = 3 from hxl)
  simp only [List.getElem?_cons_zero, List.getElem?_cons_succ] at f0 f1 f2
  obtain ⟨k, e0, y0, w0⟩ := DataW.trod_int Tryz.underlying3 f0
  obtain ⟨m, e1, y1, w1⟩ := DataW.trod_int Tryz.underlying3 f1
  obtain ⟨g, e2, y2, w2⟩ := DataW.trod_int Tryz.underlying3 f2
  simp only [List.cons.injEq, and_true] at e0 e1 e2
  subst e0 e1 e2
  exact ⟨⟨k, m, g⟩, rfl, wf_i64 w0, wf_i64 w1, wf_i64 w2⟩
theorem open_num {H : Type} {enc : TypeId × Value → H} {W : World} (fuel : Nat) (cs : List Value) (x : DataW H × List MemPlace) (h : DataW.trod enc Tryz.prog W 0 (fun _ => true) true fuel 3 cs = some x) : ∃ y, cs = [Value.int .i64 y] ∧ i64P y := by
  obtain ⟨k, e0, y0, w0⟩ := DataW.trod_int Tryz.underlying3 h
  exact ⟨k, e0, wf_i64 w0⟩
theorem open_txt {H : Type} {enc : TypeId × Value → H} {W : World} (fuel : Nat) (cs : List Value) (x : DataW H × List MemPlace) (h : DataW.trod enc Tryz.prog W 0 (fun _ => true) true fuel 9 cs = some x) : ∃ y, cs = [Value.string y] ∧ y.size ≤ maxLen := by
  obtain ⟨k, e0, y0, w0⟩ := DataW.trod_string Tryz.underlying9 h
  exact ⟨k, e0, w0⟩

theorem open_image {H : Type} {enc : TypeId × Value → H} {W : World} {fuel : Nat} {cs : List Value} {x : DataW H × List MemPlace} (h : DataW.trod enc Tryz.prog W 0 (fun _ => true) true fuel 27 cs = some x) (hw : ∀ m ∈ x.1.weights Tryz.prog 27, m ≤ reachBytes) :
    ∃ (m : IM) (pb pk ps pu : Option Addr) (cb ck cs' cu : Nat), cs = [.slice pb m.bs.length cb, .slice pk m.ks.length ck, .slice ps m.si.length cs', .slice pu m.un.length cu] ∧ ImIn W m pb pk ps pu m.bs.length cb m.ks.length ck m.si.length cs' m.un.length cu ∧
      m.bs.length ≤ reachBytes ∧ m.ks.length * 16 ≤ reachBytes ∧ m.si.length * 24 ≤ reachBytes ∧ m.un.length * 8 ≤ reachBytes := by
  obtain ⟨xs, n, rfl, hx, hlen, hxl, hf⟩ := DataW.trod_struct Tryz.underlying27 h
  rw [Tryz.cells27] at hlen
  obtain ⟨a, b, c, d, rfl⟩ := list_four hlen
  have f0 := hf 0
  have f1 := hf 1
  have f2 := hf 2
  have f3 := hf 3
  simp [Tryz.cells22, Tryz.cells23, Tryz.cells24, Tryz.cells25] at f0 f1 f2 f3
  obtain ⟨x0, x1, x2, x3, rfl⟩ := list_four (show xs.length = 4 from hxl)
  simp only [List.getElem?_cons_zero, List.getElem?_cons_succ] at f0 f1 f2 f3
  have hin : ∀ m ∈ DataW.weightsEach Tryz.prog [22, 23, 24, 25] [x0.1, x1.1, x2.1, x3.1], m ≤ reachBytes := by
    intro m hm
    have hd' : x.1 = .agg [x0.1, x1.1, x2.1, x3.1] := by rw [hx]; rfl
    refine hw m ?_
    rw [hd']
    simp only [DataW.weights, Tryz.underlying27]
    exact hm
  obtain ⟨qb, eb, bs, rfl, hb1, hb2, hb4, hb5, k1⟩ := open_data f0 fun m hm => hin m (DataW.weights_mem_each (j := 0) rfl rfl m hm)
  obtain ⟨qk, ek, K, rfl, hk0, hk1, k2, hk2, hk3⟩ := opened1 Value.string (fun s : ByteArray => s.size ≤ maxLen) Tryz.underlying23 Tryz.cells9 open_txt f1 fun m hm => hin m (DataW.weights_mem_each (j := 1) rfl rfl m hm)
  obtain ⟨qs, es, S, rfl, hs0, hs1, k3, hs2, hs3⟩ := opened3 siV SiF Tryz.underlying24 Tryz.cells68 open_site f2 fun m hm => hin m (DataW.weights_mem_each (j := 2) rfl rfl m hm)
  obtain ⟨qu, eu, U, rfl, hu0, hu1, k4, hu2, hu3⟩ := opened1 (Value.int .i64) i64P Tryz.underlying25 Tryz.cells3 open_num f3 fun m hm => hin m (DataW.weights_mem_each (j := 3) rfl rfl m hm)
  rw [Tryz.bytes9] at k2
  rw [Tryz.bytes68] at k3
  rw [Tryz.bytes3] at k4
  have r2 := k2
  have r3 := k3
  have r4 := k4
  simp only [reachBytes] at r2 r3 r4
  refine ⟨⟨bs, K, S, U⟩, qb, qk, qs, qu, eb, ek, es, eu, rfl, ⟨rfl, rfl, rfl, rfl, hb4, ?_, ?_, ?_, ?_, hb1, hk2, hs2, hu2, hb2, hk3, hu3⟩, k1, k2, k3, k4⟩
  · unfold maxLen at hb5; omega
  · show K.length ≤ _; omega
  · show S.length ≤ _; omega
  · show U.length ≤ _; omega

theorem weights_of {H : Type} {P : Program} {ts : List TypeId} {ds : List (DataW H)} (hsz : (DataW.weightsEach P ts ds).all (· ≤ reachBytes) = true) {j : Nat} {t : TypeId} {d : DataW H} (ht : ts[j]? = some t) (hd : ds[j]? = some d) : ∀ m ∈ d.weights P t, m ≤ reachBytes := by
  intro m hm
  have := List.all_eq_true.1 hsz m (DataW.weights_mem_each ht hd m hm)
  simpa using this


set_option maxRecDepth 20000 in
theorem open_image_val {H : Type} {enc : TypeId × Value → H} {W : World} {base : Nat} {v : Value} {d : DataW H} {p : List MemPlace} (hv : Value.okWide Tryz.prog W .any base 27 v)
    (h : DataW.Trod enc Tryz.prog W 0 (fun _ => true) true 27 v d p) {ts : List TypeId} {ds : List (DataW H)} (hsz : (DataW.weightsEach Tryz.prog ts ds).all (· ≤ reachBytes) = true) {j : Nat} (ht : ts[j]? = some 27) (hd : ds[j]? = some d) :
    ∃ (m : IM) (pb pk ps pu : Option Addr) (cb ck cs' cu : Nat), v = .agg (imA pb pk ps pu m.bs.length cb m.ks.length ck m.si.length cs' m.un.length cu) ∧ ImIn W m pb pk ps pu m.bs.length cb m.ks.length ck m.si.length cs' m.un.length cu ∧
      m.bs.length ≤ reachBytes ∧ m.ks.length * 16 ≤ reachBytes ∧ m.si.length * 24 ≤ reachBytes ∧ m.un.length * 8 ≤ reachBytes := by
  obtain ⟨fuel, hf⟩ := h
  simp only [Value.okWide, Tryz.underlying27] at hv
  obtain ⟨cs, rfl, _, _⟩ := hv
  obtain ⟨m, pb, pk, ps, pu, cb, ck, cs', cu, hc, hr⟩ := open_image hf (weights_of hsz ht hd)
  refine ⟨m, pb, pk, ps, pu, cb, ck, cs', cu, ?_, hr⟩
  have h2 : cs.toList = (imA pb pk ps pu m.bs.length cb m.ks.length ck m.si.length cs' m.un.length cu).toList := hc
  rw [Array.toList_inj.1 h2]

set_option maxRecDepth 20000 in
theorem open_bytes_val {H : Type} {enc : TypeId × Value → H} {W : World} {base : Nat} {v : Value} {d : DataW H} {p : List MemPlace} (hv : Value.okWide Tryz.prog W .any base 22 v)
    (h : DataW.Trod enc Tryz.prog W 0 (fun _ => true) true 22 v d p) {ts : List TypeId} {ds : List (DataW H)} (hsz : (DataW.weightsEach Tryz.prog ts ds).all (· ≤ reachBytes) = true) {j : Nat} (ht : ts[j]? = some 22) (hd : ds[j]? = some d) :
    ∃ (q : Option Addr) (e : Nat) (xs : List Int), v = .slice q xs.length e ∧ Row W q xs ∧ Byt xs ∧ xs.length ≤ e ∧ e ≤ maxLen ∧ xs.length ≤ reachBytes := by
  obtain ⟨fuel, hf⟩ := h
  have hcs : v.cells.toList = [v] := by
    obtain ⟨_, _, _, rfl⟩ := Go.WideShapes.okWide_slice Tryz.underlying22 hv
    rfl
  rw [hcs] at hf
  exact open_data hf (weights_of hsz ht hd)

end Go.Proofs.YtgblohjdiheemaaGreat

/- Ours: how a list of events, and a list of numbers, that came in is opened: a generic row of k cells. -/
namespace Go.Proofs.YtgblohjdiheemaaGreat
open Go.ChangeShapes Go.WideShapes Go.ChangeAt Go.RowKit

theorem list_ofE {X : Type} {P : Nat → X → Prop} : ∀ n, (∀ i, i < n → ∃ x, P i x) → ∃ xs : List X, xs.length = n ∧ ∀ i (h : i < xs.length), P i xs[i]
  | 0, _ => ⟨[], rfl, fun i h => absurd h (by simp)⟩
  | n + 1, h => by
    obtain ⟨xs, hl, hx⟩ := list_ofE n fun i hi => h i (by omega)
    obtain ⟨x, hp⟩ := h n (by omega)
    refine ⟨xs ++ [x], by simp [hl], fun i hi => ?_⟩
    by_cases hin : i < xs.length
    · rw [List.getElem_append_left hin]; exact hx i hin
    · have : i = n := by simp at hi; omega
      subst this
      rw [List.getElem_append_right (by omega)]
      simp [hl]
      exact hp
/-- a row of k cells that came in -/
theorem openedK {α H : Type} (F : Fm α) {enc : TypeId × Value → H} {W : World} {fuel : Nat} {v : Value} {x : DataW H × List MemPlace} {ST ET : TypeId} (P : α → Prop) (hu : Tryz.prog.underlying ST = some (.slice ET)) (hck : Tryz.prog.cellsOf ET = F.k)
    (hone : ∀ (fuel : Nat) (cs : List Value) (x : DataW H × List MemPlace), DataW.trod enc Tryz.prog W 0 (fun _ => true) true fuel ET cs = some x → ∃ y, cs = F.f y ∧ P y)
    (h : DataW.trod enc Tryz.prog W 0 (fun _ => true) true fuel ST [v] = some x) :
    ∃ (q : Option Addr) (e : Nat) (L : List α), v = .slice q L.length e ∧ L.length ≤ e ∧ e ≤ maxLen ∧ KRow F W q L ∧ ∀ y ∈ L, P y := by
  rcases DataW.trod_slice hu h with ⟨hcs, hx⟩ | ⟨ad, l, cc, elems, rest, f, hfu, hcs, hx, _, hl, hm, hlen, hel, hsp, _⟩
  · simp only [List.cons.injEq, and_true] at hcs
    exact ⟨none, 0, [], by rw [hcs]; rfl, Nat.le_refl _, Nat.zero_le _, KRow.nil W none, fun y hy => by cases hy⟩
  · simp only [List.cons.injEq, and_true] at hcs
    obtain ⟨L, hL, hP⟩ := list_ofE (P := fun i y => (∀ j u, (F.f y)[j]? = some u → W.cell? ((ad.add (i * F.k)).add j) = some u) ∧ P y) l fun i hi => by
      have he := hel i hi
      rw [hck, List.getElem?_eq_getElem (by omega), Option.bind_eq_some_iff] at he
      obtain ⟨cs, hcs, htr⟩ := he
      obtain ⟨_, hcl, hcc⟩ := World.cells?_some hcs
      obtain ⟨y, hy, hp⟩ := hone _ _ _ htr
      refine ⟨y, fun j u hu => ?_, hp⟩
      rw [← hy] at hu
      have hj : j < F.k := by rw [← hcl]; exact (List.getElem?_eq_some_iff.1 hu).1
      rw [hcc j hj]; exact hu
    refine ⟨some ad, cc, L, by rw [hcs, hL], by rw [hL]; exact hl, hm, fun h0 => ?_, fun y hy => ?_⟩
    · obtain ⟨b, o, s⟩ := ad
      obtain rfl : s = none := by
        have h3 : 0 < (F.f L[0]).length := by rw [F.len]; exact F.pos
        have := (hP 0 h0).1 0 _ (List.getElem?_eq_getElem h3)
        simpa [Addr.add] using World.cell?_spot this
      refine ⟨b, o, rfl, fun i hi j hj => ?_⟩
      have h3 : j < (F.f L[i]).length := by rw [F.len]; exact hj
      have := (hP i hi).1 j _ (List.getElem?_eq_getElem h3)
      rw [Addr.add_mid, Addr.add_mid] at this
      rw [this, List.getElem?_eq_getElem h3]
    · obtain ⟨i, hi, rfl⟩ := List.getElem_of_mem hy
      exact (hP i hi).2
theorem list_seven {X : Type} {l : List X} (h : l.length = 7) : ∃ a b c d e f g, l = [a, b, c, d, e, f, g] := by
  match l, h with
  | [a, b, c, d, e, f, g], _ => exact ⟨a, b, c, d, e, f, g, rfl⟩
theorem open_event {H : Type} {enc : TypeId × Value → H} {W : World} {fuel : Nat} {cs : List Value} {x : DataW H × List MemPlace} (h : DataW.trod enc Tryz.prog W 0 (fun _ => true) true fuel 34 cs = some x) :
    ∃ y : Fv, cs = fE.f y ∧ FvOk y := by
  obtain ⟨xs, n, rfl, hx, hlen, hxl, hf⟩ := DataW.trod_struct Tryz.underlying34 h
  have hc34 : Tryz.prog.cellsOf 34 = 7 := by kernel_rfl
  have hc3 : Tryz.prog.cellsOf 3 = 1 := by kernel_rfl
  have hc2 : Tryz.prog.cellsOf 2 = 1 := by kernel_rfl
  have hc31 : Tryz.prog.cellsOf 31 = 1 := by kernel_rfl
  have hc32 : Tryz.prog.cellsOf 32 = 1 := by kernel_rfl
  rw [hc34] at hlen
  obtain ⟨a, b, c, d, e, f, g, rfl⟩ := list_seven hlen
  have f0 := hf 0
  have f1 := hf 1
  have f2 := hf 2
  have f3 := hf 3
  have f4 := hf 4
  have f5 := hf 5
  have f6 := hf 6
  simp [hc3, hc2, hc31, hc32] at f0 f1 f2 f3 f4 f5 f6
  obtain ⟨x0, x1, x2, x3, x4, x5, x6, rfl⟩ := list_seven (show xs.length = 7 from hxl)
  simp only [List.getElem?_cons_zero, List.getElem?_cons_succ] at f0 f1 f2 f3 f4 f5 f6
  obtain ⟨k0, e0, y0, w0⟩ := DataW.trod_int Tryz.underlying31 f0
  obtain ⟨k1, e1, y1, w1⟩ := DataW.trod_int Tryz.underlying3 f1
  obtain ⟨k2, e2, y2, w2⟩ := DataW.trod_int Tryz.underlying3 f2
  obtain ⟨k3, e3, y3, w3⟩ := DataW.trod_int Tryz.underlying3 f3
  obtain ⟨k4, e4, y4, w4⟩ := DataW.trod_int Tryz.underlying32 f4
  obtain ⟨k5, e5, y5, w5⟩ := DataW.trod_int Tryz.underlying3 f5
  obtain ⟨k6, e6, y6, w6⟩ := DataW.trod_int Tryz.underlying2 f6
  simp only [List.cons.injEq, and_true] at e0 e1 e2 e3 e4 e5 e6
  subst e0 e1 e2 e3 e4 e5 e6
  exact ⟨⟨k0, k1, k2, k3, k4, k5, k6⟩, rfl, wf_i64 w2, wf_i64 w3, wf_i64 w5, wf_i64 w6⟩
set_option maxRecDepth 20000 in
theorem open_evs_val {H : Type} {enc : TypeId × Value → H} {W : World} {base : Nat} {v : Value} {d : DataW H} {p : List MemPlace} (hv : Value.okWide Tryz.prog W .any base 29 v)
    (h : DataW.Trod enc Tryz.prog W 0 (fun _ => true) true 29 v d p) {ts : List TypeId} {ds : List (DataW H)} (_hsz : (DataW.weightsEach Tryz.prog ts ds).all (· ≤ reachBytes) = true) {j : Nat} (_ht : ts[j]? = some 29) (_hd : ds[j]? = some d) :
    ∃ (q : Option Addr) (e : Nat) (L : List Fv), v = .slice q L.length e ∧ L.length ≤ e ∧ e ≤ maxLen ∧ KRow fE W q L ∧ ∀ y ∈ L, FvOk y := by
  obtain ⟨fuel, hf⟩ := h
  have hcs : v.cells.toList = [v] := by
    obtain ⟨_, _, _, rfl⟩ := Go.WideShapes.okWide_slice Tryz.underlying29 hv
    rfl
  rw [hcs] at hf
  exact openedK fE FvOk Tryz.underlying29 (by kernel_rfl) (fun _ _ _ hh => open_event hh) hf
end Go.Proofs.YtgblohjdiheemaaGreat

/- Ours: switchyardkit.CopyEvents; a list's length is bounded. -/
namespace Go.Proofs.YtgblohjdiheemaaGreat
open Go.RowKit Go.Maps

theorem KOwn.row6 {α : Type} {F : Fm α} {T : TypeId} {w : World} {B : Nat} {v : Value} {L : List α} (h : KOwn F T w B v L) : ∃ p cap, v = .slice p L.length cap ∧ L.length ≤ 9223372036854775807 ∧ KRow F w p L := by
  obtain ⟨p, cap, e, h1, h2, h3⟩ := h.row
  exact ⟨p, cap, e, by unfold maxLen at h2; omega, h3⟩
set_option maxRecDepth 4000 in
set_option maxHeartbeats 4000000 in
theorem copyEvents_any (p : Option Addr) (n c : Nat) (L : List Fv) (w : World) (hn : L.length = n) (hn2 : n ≤ 1000000) (hr : KRow fE w p L) :
    Calls Tryz.prog 16 #[.slice p n c] w fun e w' => ∃ v, e = .returned v ∧ KOwn fE 34 w' w.heap.size v L ∧ Below w.heap.size w w' := by
  have HN := Hid.in hn
  have HR := Hid.in hr
  clear hn hr
  go_enter Tryz.func16, Tryz.ntmps16
  go_wp2_with fail
  go_loopw [3, 4] (fun v vi wr => ∃ j : Nat, vi = .int .i64 j ∧ j ≤ n ∧ KOwn fE 34 wr w.heap.size v (L.take j) ∧ Below w.heap.size w wr) (fun _ vi _ => n - (intOf vi).toNat)
  case atStart => exact ⟨0, rfl, Nat.zero_le _, KOwn.nil _ _ _ _, Below.refl _ _⟩
  case round =>
    obtain ⟨j, rfl, hj, hO, hB⟩ := hrel
    have HO := Hid.in hO
    have HB := Hid.in hB
    clear hO hB
    by_cases hlt : j < n
    · have hjL : j < L.length := by rw [HN.out]; exact hlt
      have HRr : Hid (KRow fE wr p L) := HR.out.below HB.out
      obtain ⟨b, o, rfl, hc⟩ := ev7 HRr.out (by omega)
      obtain ⟨c0, c1, c2, c3, c4, c5, c6⟩ := hc j hjL
      have HT := Hid.in (take_snoc L j hjL)
      have HL : Hid ((L.take j).length ≤ 1048576) := by show _ ≤ _; rw [List.length_take]; omega
      generalize L[j] = x at *
      generalize L.take j = A at *
      obtain ⟨pv, cv, ev, -⟩ := HO.out.shape
      subst ev
      have g1 : decide ((j : Int) < (n : Int)) = true := decide_eq_true (by omega)
      have w3 : IntKind.i64.wrap ((j : Int) + 1) = (j : Int) + 1 := by rw [IntKind.wrap_i64]; omega
      clear hc HRr
      obtain ⟨xk, xst, xh, xp, xo, xky, xn⟩ := x
      dsimp only at *
      go_wp2_with (at_builtin; refine Hid.out ?_)
      refine Lib.hid ?_
      refine kpush elemE _ rfl _ _ rfl w.heap.size _ A rfl (HO.out.alloc _) ⟨wr.heap.size, 0, none⟩ 1 ⟨xk, xst, xh, xp, xo, xky, xn⟩ rfl (fE.news wr ⟨xk, xst, xh, xp, xo, xky, xn⟩ 34 (evA ⟨xk, xst, xh, xp, xo, xky, xn⟩) rfl) HL.out (by decide) (Nat.le_trans HB.out.size (new_alloc _ _).size) ?_
      intro v' w5 ho5 hg5 hb5
      have HO5 := Hid.in ho5
      have HB5 := Hid.in (hb5 w (below_alloc HB.out _))
      clear ho5 hg5 hb5 c0 c1 c2 c3 c4 c5 c6
      go_wp2_with fail
      go_roundw
      case rel => exact ⟨j + 1, by go_num, by omega, by rw [HT.out]; exact HO5.out, HB5.out⟩
      case measure => simp [intOf]; omega
    · obtain rfl : j = n := by omega
      have HE : Hid (L.take j = L) := List.take_of_length_le (by rw [HN.out]; exact Nat.le_refl _)
      go_wp2_with fail
      go_ret
      exact ⟨_, rfl, by rw [← HE.out]; exact HO.out, HB.out⟩
end Go.Proofs.YtgblohjdiheemaaGreat

/- Ours: switchyardref23.Views. -/
namespace Go.Proofs.YtgblohjdiheemaaGreat
open Go.RowKit Go.Maps

/-- the first k views of a hart -/
def rowN (si : List Si) (L : List Fv) (h : Int) (k : Nat) : List Vw := (List.range k).filterMap fun i => if 0 < (ctS si L h i).o + (ctS si L h i).n then some (vw1 si L h i) else none
theorem rowN_len (si : List Si) (L : List Fv) (h : Int) (k : Nat) : (rowN si L h k).length ≤ k := by
  unfold rowN; exact Nat.le_trans (List.length_filterMap_le _ _) (by simp)
theorem rowN_succ (si : List Si) (L : List Fv) (h : Int) (k : Nat) : rowN si L h (k + 1) = rowN si L h k ++ (if 0 < (ctS si L h k).o + (ctS si L h k).n then [vw1 si L h k] else []) := by
  unfold rowN
  rw [List.range_succ, List.filterMap_append]
  congr 1
  simp only [List.filterMap_cons, List.filterMap_nil]
  split <;> simp_all
theorem flat_len {α β : Type} (f : α → List β) (m : Nat) (h : ∀ a, (f a).length ≤ m) : ∀ l : List α, (l.flatMap f).length ≤ l.length * m
  | [] => by simp
  | a :: l => by
    have ih := flat_len f m h l
    have := h a
    rw [List.flatMap_cons, List.length_append, List.length_cons, Nat.succ_mul]
    omega
/-- a struct is stored, in a region that draws -/
theorem oper_store_any {ops : Array Oper} {o : Oper} {a : Act} {w : World} {K : Act → World → Prop} {Q : Exit → Act → World → Prop} {E : Prop} {g : Nat} {T : TypeId} {c : Array Value} (hB : Blk w g T c) (hg : o.guard = none) (t : TypeId) (p x : Operand) (ho : o.op = .store t p x) (hd : o.dst = none)
    (hp : a.eval p = .pointer (some ⟨g, 0, none⟩)) (c' : List Value) (hx : a.eval x = .agg c'.toArray) (hi : (Tryz.prog.info? t).map (·.size) = some c'.length) (hcs : c'.length = c.size) (h1 : (c'.all (·.oneCell')) = true)
    (h : ∀ w', Blk w' g T c'.toArray → w.grownBy w' (some g) → K a w') : if Region.wanted o (yielded ops a.tmps) = true then Oper.wp Tryz.prog o a w K Q else E := by
  rw [if_pos (by unfold Region.wanted; rw [hg])]
  refine wp_store_mid t p x ho g 0 c'.toArray hp hx (hB.there 0 _ (by simp; omega)) (by simpa using hi) (by rw [List.all_toArray]; exact h1) ?_
  rw [hd]
  exact h _ (hB.setAll c'.toArray (by simpa using hcs)) (grown_setCells g _ _ _)
set_option maxRecDepth 20000 in
set_option maxHeartbeats 8000000 in
theorem rviews_any (m : IM) (pb pk ps pu : Option Addr) (nb cb nk ck ns cs nu cu : Nat) (p : Option Addr) (n c : Nat) (L : List Fv) (w : World) (hI : ImIn w m pb pk ps pu nb cb nk ck ns cs nu cu) (hn : L.length = n) (hn2 : n ≤ 400) (hs2 : ns ≤ 60) (hr : KRow fE w p L) :
    Calls Tryz.prog 18 #[.agg (imA pb pk ps pu nb cb nk ck ns cs nu cu), .slice p n c] w fun e w' => ∃ v, e = .returned v ∧ KOwn fW 39 w' w.heap.size v (viewsA m L) ∧ Below w.heap.size w w' := by
  have HI := Hid.in hI
  have HN := Hid.in hn
  have HR := Hid.in hr
  have HA0 := Hid.in (Blk.new w 27 (imA pb pk ps pu nb cb nk ck ns cs nu cu))
  have HB0 := Hid.in (new_alloc w (.cells (imA pb pk ps pu nb cb nk ck ns cs nu cu) 27))
  clear hI hn hr
  have hc := rightR_any m pb pk ps pu nb cb nk ck ns cs nu cu _ (HI.out.below HB0.out)
  cases ho : okI m with
  | false =>
    have HV : Hid (viewsA m L = []) := by show viewsA m L = []; unfold viewsA; rw [if_neg (by rw [ho]; simp)]
    rw [HV.out]
    rw [ho] at hc
    go_enter Tryz.func18, Tryz.ntmps18
    go_upto_region 1 with fail
    generalize w.alloc (.cells (imA pb pk ps pu nb cb nk ck ns cs nu cu) 27) = w0 at *
    have a0 : w0.cell? ⟨w.heap.size, 0, none⟩ = some (.slice pb nb cb) := HA0.out.cell 0
    have a1 : w0.cell? ⟨w.heap.size, 1, none⟩ = some (.slice pk nk ck) := HA0.out.cell 1
    have a2 : w0.cell? ⟨w.heap.size, 2, none⟩ = some (.slice ps ns cs) := HA0.out.cell 2
    have a3 : w0.cell? ⟨w.heap.size, 3, none⟩ = some (.slice pu nu cu) := HA0.out.cell 3
    go_wp2_with (go_at_call 44; refine Hid.out ?_)
    refine Lib.hid ?_
    (with_reducible refine hc.mono ?_)
    rintro e w1 ⟨rfl, hb⟩
    have HB1 := Hid.in (below_step HB0.out hb)
    clear hc hb a0 a1 a2 a3
    go_wp2_with fail
    go_ret
    exact ⟨_, rfl, KOwn.nil _ _ _ _, HB1.out⟩
  | true =>
    have HV : Hid (viewsA m L = (hartsL L).flatMap (rowV m.si L)) := by show viewsA m L = _; unfold viewsA; rw [if_pos ho]; rfl
    rw [HV.out]
    rw [ho] at hc
    have HHL : Hid ((hartsL L).length ≤ 400) := by
      show _ ≤ _
      have e : hartsL L = hartsP L := hartsL_eq L
      rw [e]
      exact Nat.le_trans (hartsP_len L) (by rw [HN.out]; exact hn2)
    have HHA : Hid (∀ W : World, KRow fE W p L → Calls Tryz.prog 45 #[.slice p n c] W _) := fun W hW => rharts_any p n c L W HN.out (by omega) hW
    clear ho HV
    generalize hartsL L = hs at *
    go_enter Tryz.func18, Tryz.ntmps18
    go_upto_region 1 with fail
    generalize w.alloc (.cells (imA pb pk ps pu nb cb nk ck ns cs nu cu) 27) = w0 at *
    have a0 : w0.cell? ⟨w.heap.size, 0, none⟩ = some (.slice pb nb cb) := HA0.out.cell 0
    have a1 : w0.cell? ⟨w.heap.size, 1, none⟩ = some (.slice pk nk ck) := HA0.out.cell 1
    have a2 : w0.cell? ⟨w.heap.size, 2, none⟩ = some (.slice ps ns cs) := HA0.out.cell 2
    have a3 : w0.cell? ⟨w.heap.size, 3, none⟩ = some (.slice pu nu cu) := HA0.out.cell 3
    go_wp2_with (go_at_call 44; refine Hid.out ?_)
    refine Lib.hid ?_
    (with_reducible refine hc.mono ?_)
    rintro e w1 ⟨rfl, hb⟩
    have HB1 := Hid.in (below_step HB0.out hb)
    have HA1 := Hid.in (HA0.out.grow hb)
    clear hc hb a0 a1 a2 a3 HA0 HB0
    have hh := HHA.out w1 (HR.out.below HB1.out)
    go_wp2_with (go_at_call 45; refine Hid.out ?_)
    refine Lib.hid ?_
    (with_reducible refine hh.mono ?_)
    rintro e w2 ⟨va, rfl, hva, hb⟩
    have HB2 := Hid.in (below_step HB1.out hb)
    have HA2 := Hid.in (HA1.out.grow hb)
    obtain ⟨pa, ca, rfl, hcl, hcm, hra⟩ := hva.row
    have HRA := Hid.in hra
    clear hh hb hva hra HB1 HA1
    have HCT := Hid.in (fun h i => cntC_le (callL L (m.si.getD i default).key) h (m.si.getD i default).at_ L)
    have HRS : Hid (Row3 w2 ps (m.si.map siV)) := HI.out.rs.below HB2.out
    have HLS := Hid.in HI.out.ls
    have hhl := HHL.out
    go_wp2_with fail
    go_loopw [6, 7] (fun v vi wr => ∃ i : Nat, vi = .int .i64 i ∧ i ≤ hs.length ∧ KOwn fW 39 wr w2.heap.size v ((hs.take i).flatMap (rowV m.si L)) ∧ Below w2.heap.size w2 wr) (fun _ vi _ => hs.length - (intOf vi).toNat)
    case atStart => exact ⟨0, rfl, Nat.zero_le _, KOwn.nil _ _ _ _, Below.refl _ _⟩
    case round =>
      obtain ⟨i, rfl, hi, hO, hB⟩ := hrel
      have HO := Hid.in hO
      have HB := Hid.in hB
      clear hO hB
      by_cases hlt : i < hs.length
      · obtain ⟨bA, oA, rfl, hA1⟩ := HRA.out (by omega)
        have hA2 := hA1 i hlt 0 (by decide)
        have hA3 : w2.cell? ⟨bA, oA + i, none⟩ = some (.int .i64 hs[i]) := by
          have e : oA + i * fI.k + 0 = oA + i := by show oA + i * 1 + 0 = _; omega
          rw [e] at hA2
          exact hA2
        have HAC := Hid.in hA3
        have HT : Hid ((hs.take (i + 1)).flatMap (rowV m.si L) = (hs.take i).flatMap (rowV m.si L) ++ rowV m.si L hs[i]) := by
          show _ = _
          rw [take_snoc hs i hlt, List.flatMap_append]
          simp
        have HAL : Hid (((hs.take i).flatMap (rowV m.si L)).length ≤ 400 * 60) := by
          show _ ≤ _
          refine Nat.le_trans (flat_len (rowV m.si L) 60 (fun a => Nat.le_trans (rowN_len m.si L a _) (by rw [HLS.out]; exact hs2)) _) ?_
          exact Nat.mul_le_mul_right _ (by rw [List.length_take]; omega)
        clear hA1 hA2 hA3
        generalize (hs.take i).flatMap (rowV m.si L) = A at *
        generalize hs[i] = h at *
        have g1 : decide ((i : Int) < (hs.length : Int)) = true := decide_eq_true (by omega)
        have w3 : IntKind.i64.wrap ((i : Int) + 1) = (i : Int) + 1 := by rw [IntKind.wrap_i64]; omega
        have g2 : (0 : Int) ≤ (i : Int) := by omega
        have g3 : (i : Int) < (hs.length : Int) := by omega
        go_wp2_with fail
        go_loopw [6, 8] (fun v vk wx => ∃ k : Nat, vk = .int .i64 k ∧ k ≤ ns ∧ KOwn fW 39 wx w2.heap.size v (A ++ rowN m.si L h k) ∧ Below w2.heap.size w2 wx) (fun _ vk _ => ns - (intOf vk).toNat)
        case atStart => exact ⟨0, rfl, Nat.zero_le _, by rw [show A ++ rowN m.si L h 0 = A from List.append_nil A]; exact HO.out, HB.out⟩
        case round =>
          obtain ⟨k, rfl, hk, hO, hB⟩ := hrel
          have HOx := Hid.in hO
          have HBx := Hid.in hB
          clear hO hB HO HB
          have HA := Hid.in (HA2.out.grow HBx.out)
          have a2 : wr.cell? ⟨w.heap.size, 2, none⟩ = some (.slice ps ns cs) := HA.out.cell 2
          have HLEN : Hid ((A ++ rowN m.si L h k).length ≤ 1048576) := by
            show _ ≤ _
            have h1 := HAL.out
            have h2 := rowN_len m.si L h k
            rw [List.length_append]; omega
          by_cases hkn : k < ns
          · have hkS : k < m.si.length := by rw [HLS.out]; exact hkn
            have HRSr : Hid (Row3 wr ps (m.si.map siV)) := HRS.out.below HBx.out
            obtain ⟨bS, oS, rfl, hS⟩ := Row3.at3 HRSr.out (by omega)
            obtain ⟨s0, s1, s2⟩ := hS k hkS
            have HRE := Hid.in (HR.out.below HB2.out)
            have hac : wr.cell? ⟨bA, oA + i, none⟩ = some (.int .i64 h) := (HBx.out.cell (cell_lt HAC.out)).trans HAC.out
            have HCTk := HCT.out h k
            have HRK := Hid.in (rowN_succ m.si L h k)
            have HVW : Hid (vw1 m.si L h k = ⟨h, k, (cntC (callL L m.si[k].key) h m.si[k].at_ L).o, (cntC (callL L m.si[k].key) h m.si[k].at_ L).n, (cntC (callL L m.si[k].key) h m.si[k].at_ L).m⟩ ∧ ctS m.si L h k = cntC (callL L m.si[k].key) h m.si[k].at_ L) := by
              show _ ∧ _
              unfold vw1 ctS
              rw [List.getD, List.getElem?_eq_getElem hkS]
              exact ⟨rfl, rfl⟩
            have hgd : m.si.getD k default = m.si[k] := by rw [List.getD, List.getElem?_eq_getElem hkS]; rfl
            rw [hgd] at HCTk
            clear hS HRSr hgd
            have hv := fun (W : World) (hW : Below w2.heap.size w2 W) => rview_any p n c L h k m.si[k] W HN.out (by omega) (HRE.out.below hW)
            generalize m.si[k] = s at *
            generalize cntC (callL L s.key) h s.at_ L = ct at *
            obtain ⟨co, cn, cm⟩ := ct
            dsimp only at *
            rw [HVW.out.1, HVW.out.2] at HRK
            have HRA1 : Hid (A ++ rowN m.si L h (k + 1) = (A ++ rowN m.si L h k) ++ (if 0 < co + cn then [⟨h, k, co, cn, cm⟩] else [])) := by show _ = _; rw [HRK.out, List.append_assoc]
            generalize A ++ rowN m.si L h k = A1 at *
            have HV := Hid.in hv
            clear hv HVW
            have g4 : decide ((k : Int) < (ns : Int)) = true := decide_eq_true (by omega)
            have g5 : (0 : Int) ≤ (k : Int) := by omega
            have g6 : (k : Int) < (ns : Int) := by omega
            have w4 : IntKind.i64.wrap ((k : Int) + 1) = (k : Int) + 1 := by rw [IntKind.wrap_i64]; omega
            obtain ⟨pv, cv, ev, -⟩ := HOx.out.shape
            subst ev
            go_upto_region 11 with fail
            have HZA := Hid.in (new_alloc wr (.cells vwZ 39))
            have x0 : wr.cell? ⟨w.heap.size, 2, none⟩ = some (.slice (some ⟨bS, oS, none⟩) ns cs) := a2
            have v0 := fun d os => cell_regrown x0 d os
            have v1 := fun d os => cell_regrown hac d os
            have v2 := fun d os => cell_regrown s0 d os
            have v3 := fun d os => cell_regrown s1 d os
            have v4 := fun d os => cell_regrown s2 d os
            have HVX : Hid (∀ W : World, Below w2.heap.size w2 W → Calls Tryz.prog 46 #[.slice p n c, .int .i64 h, .int .i64 k, .agg #[.int .i64 s.key, .int .i64 s.at_, .int .i64 s.to_]] W fun e w' => e = .returned (.agg #[.int .i64 h, .int .i64 k, .int .i64 (co : Int), .int .i64 (cn : Int), .bool cm]) ∧ Below W.heap.size W w') := HV.out
            have HOB : Hid ((Value.slice pv A1.length cv).ownBlock = none ∨ ∃ g, (Value.slice pv A1.length cv).ownBlock = some g ∧ g < wr.heap.size) := by
              show _ ∨ _
              cases hob : (Value.slice pv A1.length cv).ownBlock with
              | none => exact .inl rfl
              | some g => exact .inr ⟨g, rfl, (HOx.out.ownB hob).2.choose_spec.lt⟩
            have HNB : Hid (∀ V, wr.heap.size ≤ V → (Value.slice pv A1.length cv).ownBlock ≠ some V) := fun V hV e => by
              rcases HOB.out with h | ⟨g, h, hg⟩
              · rw [h] at e; cases e
              · rw [h] at e; injection e with e; omega
            clear HOB HV
            go_cut [9] (fun v9 wc => ∃ V, v9 = .pointer (some ⟨V, 0, none⟩) ∧ Blk wc V 39 (vwA ⟨h, k, co, cn, cm⟩) ∧ w2.heap.size ≤ V ∧ (Value.slice pv A1.length cv).ownBlock ≠ some V ∧ KOwn fW 39 wc w2.heap.size (.slice pv A1.length cv) A1 ∧ Below w2.heap.size w2 wc)
            case first =>
              refine wp_region_noPanic ?_
              refine wp_region_sink 11 [13] 3 (by kernel_rfl) (by kernel_rfl) (by kernel_rfl) (by kernel_rfl) (by kernel_rfl) (fun _ _ _ _ _ h => h) ?_
              simp only [List.take_succ_cons, List.take_zero]
              iterate 11 (go_big_quiet_step (fail))
              refine wpQuiet_nil ?_
              rintro _ ⟨⟨dq, osq⟩, rfl⟩
              have HQ := Hid.in (below_regrown wr dq osq)
              generalize Go.Sort.grow (redrawn wr dq) osq = w8 at HQ ⊢
              clear v0 v1 v2 v3 v4
              refine wpAnyG_two (i := 11) (j := 12) (by kernel_rfl) rfl rfl (fun K hK => ?_) (fun K hK => ?_)
              · go_simp
                go_at_call 46
                refine (HVX.out _ (below_step HBx.out HQ.out)).mono ?_
                rintro e_ w10 ⟨rfl, hb⟩
                replace HQ := Hid.in (below_step HQ.out hb)
                refine hK.out _ _ (regrown_of_below HQ.out) (fun _ => ?_)
                clear hK K hb
                refine wpAnyG_one (i := 12) (by kernel_rfl) rfl (fun K hK => ?_)
                go_simp
                refine hK.out _ _ (regrown_of_below (below_alloc HQ.out _)) (fun _ => ?_)
                clear hK K
                have HZ := Hid.in (Blk.new w10 39 #[.int .i64 0, .int .i64 0, .int .i64 0, .int .i64 0, .bool false])
                have HGV : Hid (wr.heap.size ≤ w10.heap.size) := HQ.out.size
                replace HQ := Hid.in (below_alloc HQ.out (.cells #[.int .i64 0, .int .i64 0, .int .i64 0, .int .i64 0, .bool false] 39))
                generalize w10.alloc (.cells #[.int .i64 0, .int .i64 0, .int .i64 0, .int .i64 0, .bool false] 39) = w11 at *
                generalize w10.heap.size = V at *
                refine wpAnyG_last (i := 13) (by kernel_rfl) rfl rfl (fun K hK => ?_)
                refine oper_store_any HZ.out (by rfl) 39 _ _ (by rfl) (by rfl) (by rfl) [.int .i64 h, .int .i64 k, .int .i64 (co : Int), .int .i64 (cn : Int), .bool cm] (by rfl) Tryz.sz39 rfl rfl ?_
                intro wA hbA hgA
                refine hK.out _ _ ?_
                clear hK K
                refine wpAnyG_done (by kernel_rfl) ?_ _
                refine NoPanic.normal ?_
                go_wp2_with fail
                go_meet
                case rel => exact ⟨_, rfl, hbA, Nat.le_trans HBx.out.size HGV.out, HNB.out _ HGV.out, (HOx.out.below HQ.out).kept hgA (.inr (HNB.out _ HGV.out)), (below_step HBx.out HQ.out).grown hgA (below_step HBx.out HQ.out).size (fun k e => by injection e with e; subst e; exact Nat.le_trans HBx.out.size HGV.out)⟩
              · go_simp
                refine hK.out _ _ (regrown_of_below (below_alloc HQ.out _)) (fun _ => ?_)
                clear hK K
                have HZ0 := Hid.in (Blk.new w8 39 #[.int .i64 0, .int .i64 0, .int .i64 0, .int .i64 0, .bool false])
                have HGV : Hid (wr.heap.size ≤ w8.heap.size) := HQ.out.size
                replace HQ := Hid.in (below_alloc HQ.out (.cells #[.int .i64 0, .int .i64 0, .int .i64 0, .int .i64 0, .bool false] 39))
                generalize w8.alloc (.cells #[.int .i64 0, .int .i64 0, .int .i64 0, .int .i64 0, .bool false] 39) = w9 at *
                generalize w8.heap.size = V at *
                refine wpAnyG_one (i := 11) (by kernel_rfl) rfl (fun K hK => ?_)
                go_simp
                go_at_call 46
                refine (HVX.out _ (below_step HBx.out HQ.out)).mono ?_
                rintro e_ w10 ⟨rfl, hb⟩
                replace HQ := Hid.in (below_step HQ.out hb)
                have HZ := Hid.in (HZ0.out.grow hb)
                refine hK.out _ _ (regrown_of_below HQ.out) (fun _ => ?_)
                clear hK K hb HZ0
                refine wpAnyG_last (i := 13) (by kernel_rfl) rfl rfl (fun K hK => ?_)
                refine oper_store_any HZ.out (by rfl) 39 _ _ (by rfl) (by rfl) (by rfl) [.int .i64 h, .int .i64 k, .int .i64 (co : Int), .int .i64 (cn : Int), .bool cm] (by rfl) Tryz.sz39 rfl rfl ?_
                intro wA hbA hgA
                refine hK.out _ _ ?_
                clear hK K
                refine wpAnyG_done (by kernel_rfl) ?_ _
                refine NoPanic.normal ?_
                go_wp2_with fail
                go_meet
                case rel => exact ⟨_, rfl, hbA, Nat.le_trans HBx.out.size HGV.out, HNB.out _ HGV.out, (HOx.out.below HQ.out).kept hgA (.inr (HNB.out _ HGV.out)), (below_step HBx.out HQ.out).grown hgA (below_step HBx.out HQ.out).size (fun k e => by injection e with e; subst e; exact Nat.le_trans HBx.out.size HGV.out)⟩
            case rest =>
              obtain ⟨V, rfl, hV, hVl, hne, hOc, hBc⟩ := hcut
              have HBV := Hid.in hV
              have HOc := Hid.in hOc
              have HBc := Hid.in hBc
              clear hV hne hOc hBc hac s0 s1 s2 a2 x0 HOx HBx HNB HVX
              have y0 : wc.cell? ⟨V, 0, none⟩ = some (.int .i64 h) := HBV.out.cell 0
              have y1 : wc.cell? ⟨V, 1, none⟩ = some (.int .i64 k) := HBV.out.cell 1
              have y2 : wc.cell? ⟨V, 2, none⟩ = some (.int .i64 (co : Int)) := HBV.out.cell 2
              have y3 : wc.cell? ⟨V, 3, none⟩ = some (.int .i64 (cn : Int)) := HBV.out.cell 3
              have y4 : wc.cell? ⟨V, 4, none⟩ = some (.bool cm) := HBV.out.cell 4
              have w5 : IntKind.i64.wrap ((co : Int) + (cn : Int)) = (co : Int) + (cn : Int) := by have := HN.out; rw [IntKind.wrap_i64]; omega
              by_cases hp : 0 < co + cn
              · have q1 : decide ((0 : Int) < (co : Int) + (cn : Int)) = true := decide_eq_true (by omega)
                have HE : Hid (A ++ rowN m.si L h (k + 1) = A1 ++ [⟨h, k, co, cn, cm⟩]) := by show _ = _; rw [HRA1.out, if_pos hp]
                go_wp2_with (at_builtin; refine Hid.out ?_)
                refine Lib.hid ?_
                refine kpush elemW _ rfl _ _ rfl w2.heap.size _ A1 rfl (HOc.out.alloc _) ⟨wc.heap.size, 0, none⟩ 1 ⟨h, k, co, cn, cm⟩ rfl (fW.news wc ⟨h, k, co, cn, cm⟩ 39 (vwA ⟨h, k, co, cn, cm⟩) rfl) HLEN.out (by decide) (Nat.le_trans HBc.out.size (new_alloc _ _).size) ?_
                intro v' w9 ho9 hg9 hb9
                have HO9 := Hid.in ho9
                have HB9 := Hid.in (hb9 w2 (below_alloc HBc.out _))
                clear ho9 hg9 hb9 y0 y1 y2 y3 y4
                go_wp2_with fail
                go_roundw
                case rel => exact ⟨k + 1, by go_num, by omega, by rw [HE.out]; exact HO9.out, HB9.out⟩
                case measure => simp [intOf]; omega
              · have q1 : decide ((0 : Int) < (co : Int) + (cn : Int)) = false := decide_eq_false (by omega)
                have HE : Hid (A ++ rowN m.si L h (k + 1) = A1) := by show _ = _; rw [HRA1.out, if_neg hp, List.append_nil]
                go_wp2_with fail
                go_roundw
                case rel => exact ⟨k + 1, by go_num, by omega, by rw [HE.out]; exact HOc.out, HBc.out⟩
                case measure => simp [intOf]; omega
          · obtain rfl : k = ns := by omega
            have HE : Hid (A ++ rowN m.si L h k = (hs.take (i + 1)).flatMap (rowV m.si L)) := by
              show _ = _
              rw [HT.out, ← HLS.out]; rfl
            have g4 : decide ((k : Int) < (k : Int)) = false := decide_eq_false (by omega)
            go_wp2_with fail
            go_roundw
            case rel => exact ⟨i + 1, by go_num, by omega, by rw [← HE.out]; exact HOx.out, HBx.out⟩
            case measure => simp [intOf]; omega
      · obtain rfl : i = hs.length := by omega
        have HE : Hid ((hs.take hs.length).flatMap (rowV m.si L) = hs.flatMap (rowV m.si L)) := by show _ = _; rw [List.take_length]
        have hO2 := HO.out
        rw [HE.out] at hO2
        have HO2 := Hid.in (hO2.lower HB2.out.size)
        clear hO2 HO HE
        go_wp2_with fail
        go_ret
        exact ⟨_, rfl, HO2.out, below_step HB2.out HB.out⟩
end Go.Proofs.YtgblohjdiheemaaGreat

/- switchyardkit.SameImage at the same image twice. -/
namespace Go.Proofs.YtgblohjdiheemaaGreat
open Go.RowKit

set_option maxRecDepth 20000 in
set_option maxHeartbeats 2000000 in
theorem sameImage_yes (m : IM) (pb pk ps pu qb qk qs qu : Option Addr) (nb cb nk ck ns cs nu cu db dk ds du : Nat) (w : World) (h : ImIn w m pb pk ps pu nb cb nk ck ns cs nu cu) (h' : ImIn w m qb qk qs qu nb db nk dk ns ds nu du) :
    Calls Tryz.prog 22 #[.agg (imA pb pk ps pu nb cb nk ck ns cs nu cu), .agg (imA qb qk qs qu nb db nk dk ns ds nu du)] w fun E w' => E = .returned (.bool true) ∧ Below w.heap.size w w' := by
  have hB := fun W (hW : Below w.heap.size w W) => sameBytes_any pb qb nb cb nb db m.bs m.bs W h.lb h.lb (by have := h.kb; have := h.mb; omega) (h.below hW).rb (h'.below hW).rb
  have hK := fun W (hW : Below w.heap.size w W) => sameTexts_self pk qk nk ck dk m.ks W (by have := h.mc; omega) h.lk (h.below hW).rk (h'.below hW).rk
  have hS := fun W (hW : Below w.heap.size w W) => sameSites_any ps qs ns cs ns ds m.si m.si W h.ls h.ls (by have := h.ms; omega) (by have := h.ms; omega) (h.below hW).rs (h'.below hW).rs
  have hU := fun W (hW : Below w.heap.size w W) => sameInts_self pu qu nu cu du m.un W (by have := h.mu; omega) h.lu (h.below hW).ru (h'.below hW).ru
  simp only [sameB_self] at hB
  have HA0 : Hid (Blk ((w.alloc (.cells (imA pb pk ps pu nb cb nk ck ns cs nu cu) 27)).alloc (.cells (imA qb qk qs qu nb db nk dk ns ds nu du) 27)) w.heap.size 27 (imA pb pk ps pu nb cb nk ck ns cs nu cu)) := (Blk.new w 27 _).grow (new_alloc _ _)
  have HB0 : Hid (Blk ((w.alloc (.cells (imA pb pk ps pu nb cb nk ck ns cs nu cu) 27)).alloc (.cells (imA qb qk qs qu nb db nk dk ns ds nu du) 27)) (w.heap.size + 1) 27 (imA qb qk qs qu nb db nk dk ns ds nu du)) := by
    have := Blk.new (w.alloc (.cells (imA pb pk ps pu nb cb nk ck ns cs nu cu) 27)) 27 (imA qb qk qs qu nb db nk dk ns ds nu du)
    rw [size_one] at this
    exact this
  have HW0 : Hid (Below w.heap.size w ((w.alloc (.cells (imA pb pk ps pu nb cb nk ck ns cs nu cu) 27)).alloc (.cells (imA qb qk qs qu nb db nk dk ns ds nu du) 27))) := below_alloc (new_alloc w _) _
  obtain ⟨a0, a1, a2, a3⟩ := HA0.out.cells4
  obtain ⟨b0, b1, b2, b3⟩ := HB0.out.cells4
  clear h h'
  go_enter Tryz.func22, Tryz.ntmps22
  go_wp2_with (first
    | (go_at_call 47; refine (hB _ HW0.out).mono ?_; rintro e w1 ⟨rfl, z1, hz1⟩; have HW1 : Hid (Below w.heap.size w w1) := (by rw [hz1]; exact below_draws HW0.out z1); have HA1 : Hid (Blk w1 w.heap.size 27 (imA pb pk ps pu nb cb nk ck ns cs nu cu)) := (by rw [hz1]; exact HA0.out); have HB1 : Hid (Blk w1 (w.heap.size + 1) 27 (imA qb qk qs qu nb db nk dk ns ds nu du)) := (by rw [hz1]; exact HB0.out); obtain ⟨a0, a1, a2, a3⟩ := HA1.out.cells4; obtain ⟨b0, b1, b2, b3⟩ := HB1.out.cells4; clear hz1 hB)
    | (go_at_call 48; refine (hK _ HW1.out).mono ?_; rintro e w2 ⟨rfl, z1, hz1⟩; have HW2 : Hid (Below w.heap.size w w2) := (by rw [hz1]; exact below_draws HW1.out z1); have HA2 : Hid (Blk w2 w.heap.size 27 (imA pb pk ps pu nb cb nk ck ns cs nu cu)) := (by rw [hz1]; exact HA1.out); have HB2 : Hid (Blk w2 (w.heap.size + 1) 27 (imA qb qk qs qu nb db nk dk ns ds nu du)) := (by rw [hz1]; exact HB1.out); obtain ⟨a0, a1, a2, a3⟩ := HA2.out.cells4; obtain ⟨b0, b1, b2, b3⟩ := HB2.out.cells4; clear hz1 hK)
    | (go_at_call 49; refine (hS _ HW2.out).mono ?_; rintro e w3 ⟨⟨t, rfl, ht⟩, z1, hz1⟩; obtain rfl : t = true := ht.2 (by trivial); have HW3 : Hid (Below w.heap.size w w3) := (by rw [hz1]; exact below_draws HW2.out z1); have HA3 : Hid (Blk w3 w.heap.size 27 (imA pb pk ps pu nb cb nk ck ns cs nu cu)) := (by rw [hz1]; exact HA2.out); have HB3 : Hid (Blk w3 (w.heap.size + 1) 27 (imA qb qk qs qu nb db nk dk ns ds nu du)) := (by rw [hz1]; exact HB2.out); obtain ⟨a0, a1, a2, a3⟩ := HA3.out.cells4; obtain ⟨b0, b1, b2, b3⟩ := HB3.out.cells4; clear hz1 hS ht)
    | (go_at_call 50; refine (hU _ HW3.out).mono ?_; rintro e w4 ⟨rfl, z1, hz1⟩; have HW4 : Hid (Below w.heap.size w w4) := (by rw [hz1]; exact below_draws HW3.out z1); clear hz1 hU))
  go_ret
  exact ⟨rfl, HW4.out⟩
end Go.Proofs.YtgblohjdiheemaaGreat

/- Ours: the walk of WatchTells. -/
namespace Go.Proofs.YtgblohjdiheemaaGreat
open Go.RowKit Go.Maps

set_option maxRecDepth 20000 in
set_option maxHeartbeats 8000000 in
theorem tells_walk (m : IM) (pb pk ps pu : Option Addr) (nb cb nk ck ns cs nu cu : Nat) (p : Option Addr) (n c : Nat) (L : List Fv) (hart site frm to_ : Int) (w : World) (hI : ImIn w m pb pk ps pu nb cb nk ck ns cs nu cu) (h1 : nb ≤ 140737488355328) (h2 : nk * 16 ≤ 140737488355328) (h3 : ns * 24 ≤ 140737488355328) (h4 : nu * 8 ≤ 140737488355328) (hn : L.length = n) (hn6 : n ≤ 9223372036854775807) (hr : KRow fE w p L) (hok : ∀ x ∈ L, FvOk x) :
    Calls Tryz.prog 4 #[.agg (imA pb pk ps pu nb cb nk ck ns cs nu cu), .slice p n c, .int .i64 hart, .int .i64 site, .int .i64 frm, .int .i64 to_] w fun e w' => e = .returned (.bool true) ∧ Below w.heap.size w w' := by
  have HI := Hid.in hI
  have HN := Hid.in hn
  have HR := Hid.in hr
  have HOK := Hid.in hok
  have HAW : Hid (∀ W : World, Calls Tryz.prog 15 #[] W _) := fun W => awake_any W
  have HA0 := Hid.in (Blk.new w 27 (imA pb pk ps pu nb cb nk ck ns cs nu cu))
  have HB0 := Hid.in (new_alloc w (.cells (imA pb pk ps pu nb cb nk ck ns cs nu cu) 27))
  clear hI hn hr hok
  go_enter Tryz.func4, Tryz.ntmps4
  go_upto_region 1 with fail
  generalize w.alloc (.cells (imA pb pk ps pu nb cb nk ck ns cs nu cu) 27) = w0 at *
  have a0 : w0.cell? ⟨w.heap.size, 0, none⟩ = some (.slice pb nb cb) := HA0.out.cell 0
  have a1 : w0.cell? ⟨w.heap.size, 1, none⟩ = some (.slice pk nk ck) := HA0.out.cell 1
  have a2 : w0.cell? ⟨w.heap.size, 2, none⟩ = some (.slice ps ns cs) := HA0.out.cell 2
  have a3 : w0.cell? ⟨w.heap.size, 3, none⟩ = some (.slice pu nu cu) := HA0.out.cell 3
  by_cases hbig : (400 : Int) < (n : Int)
  · have g0 : decide ((400 : Int) < (n : Int)) = true := decide_eq_true hbig
    go_wp2_with (first | (go_at_call 15; (with_reducible refine (HAW.out _).mono ?_); rintro e w2 ⟨rfl, hb⟩; have HB := Hid.in (below_step HB0.out hb); clear hb))
    go_ret
    exact ⟨rfl, HB.out⟩
  have g0 : decide ((400 : Int) < (n : Int)) = false := decide_eq_false hbig
  by_cases hbs : (60 : Int) < (ns : Int)
  · have g1 : decide ((60 : Int) < (ns : Int)) = true := decide_eq_true hbs
    go_wp2_with (first | (go_at_call 15; (with_reducible refine (HAW.out _).mono ?_); rintro e w2 ⟨rfl, hb⟩; have HB := Hid.in (below_step HB0.out hb); clear hb))
    go_ret
    exact ⟨rfl, HB.out⟩
  have g1 : decide ((60 : Int) < (ns : Int)) = false := decide_eq_false hbs
  have hn4 : n ≤ 400 := by omega
  have hs6 : ns ≤ 60 := by omega
  have hcp := copyImage_any m pb pk ps pu nb cb nk ck ns cs nu cu w0 (HI.out.below HB0.out) h1 h2 (by omega) h4
  go_wp2_with (go_at_call 10; refine Hid.out ?_)
  refine Lib.hid ?_
  (with_reducible refine hcp.mono ?_)
  rintro e w1 ⟨vb, vk, vs, vu, rfl, ho, hb⟩
  obtain ⟨qb, qk, qs, qu, db, dk, ds, du, rfl, rfl, rfl, rfl, hin, -⟩ := ho.like HI.out
  have HJ1 := Hid.in hin
  have HB1 := Hid.in (below_step HB0.out hb)
  have HA1 := Hid.in (HA0.out.grow hb)
  clear hcp ho hin hb a0 a1 a2 a3 HB0 HA0 g0 g1
  have hce := copyEvents_any p n c L w1 HN.out (by omega) (HR.out.below HB1.out)
  go_wp2_with (go_at_call 16; refine Hid.out ?_)
  refine Lib.hid ?_
  (with_reducible refine hce.mono ?_)
  rintro e w2 ⟨vq, rfl, hq, hb⟩
  obtain ⟨q, d, rfl, -, hrq⟩ := hq.row6
  rw [HN.out]
  have HQ2 := Hid.in hrq
  have HB2 := Hid.in (below_step HB1.out hb)
  have HA2 := Hid.in (HA1.out.grow hb)
  have HJ2 := Hid.in (HJ1.out.below hb)
  clear hce hq hrq hb HB1 HA1 HJ1
  go_upto_region 4 with fail
  have hal := new_alloc w2 (.cells (imA qb qk qs qu nb db nk dk ns ds nu du) 27)
  have HM3 := Hid.in (Blk.new w2 27 (imA qb qk qs qu nb db nk dk ns ds nu du))
  have HB3 := Hid.in (below_step HB2.out hal)
  have HA3 := Hid.in (HA2.out.grow hal)
  have HJ3 := Hid.in (HJ2.out.below hal)
  have HQ3 := Hid.in (HQ2.out.below hal)
  clear hal HB2 HA2 HJ2 HQ2
  generalize w2.alloc (.cells (imA qb qk qs qu nb db nk dk ns ds nu du) 27) = w3 at *
  generalize w2.heap.size = M at *
  have hbt := between_any q n d L hart site frm to_ w3 HN.out (by omega) HQ3.out
  have HRB : Hid (∀ W : World, KRow fE W p L → Calls Tryz.prog 17 #[.slice p n c, .int .i64 hart, .int .i64 site, .int .i64 frm, .int .i64 to_] W _) := fun W hW => rbetween_any p n c L hart site frm to_ W HN.out (by omega) hW
  generalize btwL hart site (partL L frm to_) = bt at *
  obtain ⟨bq, bf⟩ := bt
  dsimp only at *
  go_wp2_with (go_at_call 11; refine Hid.out ?_)
  refine Lib.hid ?_
  (with_reducible refine hbt.mono ?_)
  rintro e w4 ⟨rfl, hb⟩
  have HM4 := Hid.in (HM3.out.grow hb)
  have HB4 := Hid.in (below_step HB3.out hb)
  have HA4 := Hid.in (HA3.out.grow hb)
  have HJ4 := Hid.in (HJ3.out.below hb)
  have HQ4 := Hid.in (HQ3.out.below hb)
  have hrb := HRB.out w4 (HR.out.below HB4.out)
  clear hbt hb HM3 HB3 HA3 HJ3 HQ3 HRB
  go_wp2_with (go_at_call 17; refine Hid.out ?_)
  refine Lib.hid ?_
  (with_reducible refine hrb.mono ?_)
  rintro e w5 ⟨rfl, hb⟩
  have HM5 := Hid.in (HM4.out.grow hb)
  have HB5 := Hid.in (below_step HB4.out hb)
  have HA5 := Hid.in (HA4.out.grow hb)
  have HJ5 := Hid.in (HJ4.out.below hb)
  have HQ5 := Hid.in (HQ4.out.below hb)
  clear hrb hb HM4 HB4 HA4 HJ4 HQ4
  go_upto_region 6 with fail
  have HI5 := Hid.in (HI.out.below HB5.out)
  have HR5 := Hid.in (HR.out.below HB5.out)
  have a0 : w5.cell? ⟨w.heap.size, 0, none⟩ = some (.slice pb nb cb) := HA5.out.cell 0
  have a1 : w5.cell? ⟨w.heap.size, 1, none⟩ = some (.slice pk nk ck) := HA5.out.cell 1
  have a2 : w5.cell? ⟨w.heap.size, 2, none⟩ = some (.slice ps ns cs) := HA5.out.cell 2
  have a3 : w5.cell? ⟨w.heap.size, 3, none⟩ = some (.slice pu nu cu) := HA5.out.cell 3
  have b0 : w5.cell? ⟨M, 0, none⟩ = some (.slice qb nb db) := HM5.out.cell 0
  have b1 : w5.cell? ⟨M, 1, none⟩ = some (.slice qk nk dk) := HM5.out.cell 1
  have b2 : w5.cell? ⟨M, 2, none⟩ = some (.slice qs ns ds) := HM5.out.cell 2
  have b3 : w5.cell? ⟨M, 3, none⟩ = some (.slice qu nu du) := HM5.out.cell 3
  have HVW := Hid.in (fun (W : World) (hB : Below w5.heap.size w5 W) => views_any m qb qk qs qu nb db nk dk ns ds nu du q n d L W (HJ5.out.below hB) HN.out (by omega) (HQ5.out.below hB) HOK.out)
  have HRV := Hid.in (fun (W : World) (hB : Below w5.heap.size w5 W) => rviews_any m pb pk ps pu nb cb nk ck ns cs nu cu p n c L W (HI5.out.below hB) HN.out hn4 hs6 (HR5.out.below hB))
  have HOU := Hid.in (fun (W : World) (hB : Below w5.heap.size w5 W) => outs_any q n d L hart W HN.out (by omega) (HQ5.out.below hB))
  have HRO := Hid.in (fun (W : World) (hB : Below w5.heap.size w5 W) => routs_any p n c L hart W HN.out (by omega) (HR5.out.below hB))
  have HSK : Hid (∀ W W' : World, (W.cell? ⟨w.heap.size, 0, none⟩ = some (.slice pb nb cb) ∧ W.cell? ⟨w.heap.size, 1, none⟩ = some (.slice pk nk ck) ∧ W.cell? ⟨w.heap.size, 2, none⟩ = some (.slice ps ns cs) ∧ W.cell? ⟨w.heap.size, 3, none⟩ = some (.slice pu nu cu) ∧ W.cell? ⟨M, 0, none⟩ = some (.slice qb nb db) ∧ W.cell? ⟨M, 1, none⟩ = some (.slice qk nk dk) ∧ W.cell? ⟨M, 2, none⟩ = some (.slice qs ns ds) ∧ W.cell? ⟨M, 3, none⟩ = some (.slice qu nu du) ∧ Below w5.heap.size w5 W) → Below W.heap.size W W' → (W'.cell? ⟨w.heap.size, 0, none⟩ = some (.slice pb nb cb) ∧ W'.cell? ⟨w.heap.size, 1, none⟩ = some (.slice pk nk ck) ∧ W'.cell? ⟨w.heap.size, 2, none⟩ = some (.slice ps ns cs) ∧ W'.cell? ⟨w.heap.size, 3, none⟩ = some (.slice pu nu cu) ∧ W'.cell? ⟨M, 0, none⟩ = some (.slice qb nb db) ∧ W'.cell? ⟨M, 1, none⟩ = some (.slice qk nk dk) ∧ W'.cell? ⟨M, 2, none⟩ = some (.slice qs ns ds) ∧ W'.cell? ⟨M, 3, none⟩ = some (.slice qu nu du) ∧ Below w5.heap.size w5 W')) := by
    intro W W' ⟨h0, h1, h2, h3, k0, k1, k2, k3, hB⟩ hb
    exact ⟨(hb.cell (cell_lt h0)).trans h0, (hb.cell (cell_lt h1)).trans h1, (hb.cell (cell_lt h2)).trans h2, (hb.cell (cell_lt h3)).trans h3, (hb.cell (cell_lt k0)).trans k0, (hb.cell (cell_lt k1)).trans k1, (hb.cell (cell_lt k2)).trans k2, (hb.cell (cell_lt k3)).trans k3, below_step hB hb⟩
  have hI0 : Below w5.heap.size w5 w5.drew := below_draws (Below.refl _ _) 1
  have t1 : ((bq : Int) == (bq : Int)) = true := by simp
  have t2 : ((bf : Int) == (bf : Int)) = true := by simp
  go_region_held3 (fun W => (W.cell? ⟨w.heap.size, 0, none⟩ = some (.slice pb nb cb) ∧ W.cell? ⟨w.heap.size, 1, none⟩ = some (.slice pk nk ck) ∧ W.cell? ⟨w.heap.size, 2, none⟩ = some (.slice ps ns cs) ∧ W.cell? ⟨w.heap.size, 3, none⟩ = some (.slice pu nu cu) ∧ W.cell? ⟨M, 0, none⟩ = some (.slice qb nb db) ∧ W.cell? ⟨M, 1, none⟩ = some (.slice qk nk dk) ∧ W.cell? ⟨M, 2, none⟩ = some (.slice qs ns ds) ∧ W.cell? ⟨M, 3, none⟩ = some (.slice qu nu du) ∧ Below w5.heap.size w5 W))
    (first | assumption | (exact HSK.out _ _ (by assumption) (new_alloc _ _)) | (exact HSK.out _ _ (by assumption) (below_draws (below_self _) _)) | (refine ⟨?_, ?_, ?_, ?_, ?_, ?_, ?_, ?_, ?_⟩ <;> assumption) | go_keep)
    (first
      | (go_at_call 9; refine (HVW.out _ (And.right (And.right (And.right (And.right (And.right (And.right (And.right (And.right (by assumption)))))))))).mono ?_; rintro e w9 ⟨v9, rfl, ho9, hb9⟩; have hk9 := HSK.out _ _ (by assumption) hb9; obtain ⟨p9, c9, rfl, hl9, hr9⟩ := ho9.row6; clear ho9)
      | (go_at_call 18; refine (HRV.out _ (And.right (And.right (And.right (And.right (And.right (And.right (And.right (And.right (by assumption)))))))))).mono ?_; rintro e w18 ⟨v18, rfl, ho18, hb18⟩; have hk18 := HSK.out _ _ (by assumption) hb18; obtain ⟨p18, c18, rfl, -, hr18⟩ := ho18.row6; clear ho18)
      | (go_at_call 8; refine (sameViews_self p9 p18 _ c9 c18 _ _ rfl hl9 (hr9.below hb18) hr18).mono ?_; rintro e w8 ⟨rfl, m8, rfl⟩; have hk8 := HSK.out _ _ (by assumption) (below_draws (below_self _) m8))
      | (go_at_call 12; refine (HOU.out _ (And.right (And.right (And.right (And.right (And.right (And.right (And.right (And.right (by assumption)))))))))).mono ?_; rintro e wo ⟨vo, rfl, hoo, hbo⟩; have hko := HSK.out _ _ (by assumption) hbo; obtain ⟨po, co, rfl, hlo, hro⟩ := hoo.row6; clear hoo)
      | (go_at_call 20; refine (HRO.out _ (And.right (And.right (And.right (And.right (And.right (And.right (And.right (And.right (by assumption)))))))))).mono ?_; rintro e wp ⟨vp, rfl, hop, hbp⟩; have hkp := HSK.out _ _ (by assumption) hbp; obtain ⟨pp, cp, rfl, -, hrp⟩ := hop.row6; clear hop)
      | (go_at_call 19; refine (samePlaces_self po pp _ co cp _ _ rfl hlo (hro.below hbp) hrp).mono ?_; rintro e wl ⟨rfl, ml, rfl⟩; have hkl := HSK.out _ _ (by assumption) (below_draws (below_self _) ml)))
  all_goals
    obtain ⟨-, -, -, -, -, -, -, -, hBL⟩ := hkl
    clear hk9 hk18 hk8 hko hkp HVW HRV HOU HRO HSK hI0 a0 a1 a2 a3 b0 b1 b2 b3 hr9 hr18 hro hrp hb9 hb18 hbo hbp
    go_upto_region 8 with fail
    generalize World.drewN wp ml = wl at *
    have HBL := Hid.in hBL
    have hsw := switches_any q n d L wl HN.out (by omega) (HQ5.out.below hBL)
    clear hBL
    go_wp2_with (go_at_call 14; refine Hid.out ?_)
    refine Lib.hid ?_
    (with_reducible refine hsw.mono ?_)
    rintro e wx ⟨vx, rfl, hox, hb⟩
    obtain ⟨px, cx, rfl, hlx, hrx⟩ := hox.row6
    have HBX := Hid.in (below_step HBL.out hb)
    have HRX := Hid.in hrx
    have hrs := rswitches_any p n c L wx HN.out (by omega) (HR5.out.below HBX.out)
    clear hsw hb hox hrx HBL
    go_wp2_with (go_at_call 21; refine Hid.out ?_)
    refine Lib.hid ?_
    (with_reducible refine hrs.mono ?_)
    rintro e wz ⟨vz, rfl, hoz, hb⟩
    obtain ⟨pz, cz, rfl, -, hrz⟩ := hoz.row6
    have HBZ := Hid.in (below_step HBX.out hb)
    have hsc := sameCounts_self px pz _ cx cz _ wz rfl hlx (HRX.out.below hb) hrz
    clear hrs hb hoz hrz HBX HRX
    go_wp2_with (go_at_call 13; refine Hid.out ?_)
    refine Lib.hid ?_
    (with_reducible refine hsc.mono ?_)
    rintro e wy ⟨rfl, my, rfl⟩
    have HBY := Hid.in (below_draws HBZ.out my)
    generalize World.drewN wz my = wy at *
    have HAY := Hid.in (HA5.out.grow HBY.out)
    have HMY := Hid.in (HM5.out.grow HBY.out)
    have a0 : wy.cell? ⟨w.heap.size, 0, none⟩ = some (.slice pb nb cb) := HAY.out.cell 0
    have a1 : wy.cell? ⟨w.heap.size, 1, none⟩ = some (.slice pk nk ck) := HAY.out.cell 1
    have a2 : wy.cell? ⟨w.heap.size, 2, none⟩ = some (.slice ps ns cs) := HAY.out.cell 2
    have a3 : wy.cell? ⟨w.heap.size, 3, none⟩ = some (.slice pu nu cu) := HAY.out.cell 3
    have b0 : wy.cell? ⟨M, 0, none⟩ = some (.slice qb nb db) := HMY.out.cell 0
    have b1 : wy.cell? ⟨M, 1, none⟩ = some (.slice qk nk dk) := HMY.out.cell 1
    have b2 : wy.cell? ⟨M, 2, none⟩ = some (.slice qs ns ds) := HMY.out.cell 2
    have b3 : wy.cell? ⟨M, 3, none⟩ = some (.slice qu nu du) := HMY.out.cell 3
    have hsi := sameImage_yes m qb qk qs qu pb pk ps pu nb db nk dk ns ds nu du cb ck cs cu wy (HJ5.out.below HBY.out) (HI5.out.below HBY.out)
    clear hsc HBZ
    go_wp2_with (go_at_call 22; refine Hid.out ?_)
    refine Lib.hid ?_
    (with_reducible refine hsi.mono ?_)
    rintro e wv ⟨rfl, hb⟩
    have HBV := Hid.in (below_step HBY.out hb)
    have hse := sameEvents_self q p n d c L wv HN.out hn6 (HQ5.out.below HBV.out) (HR5.out.below HBV.out)
    clear hsi hb a0 a1 a2 a3 b0 b1 b2 b3 HAY HMY HBY
    go_wp2_with (go_at_call 23; refine Hid.out ?_)
    refine Lib.hid ?_
    (with_reducible refine hse.mono ?_)
    rintro e wu ⟨rfl, mu, rfl⟩
    have HBU := Hid.in (below_draws HBV.out mu)
    generalize World.drewN wv mu = wu at *
    have haw := HAW.out wu
    clear hse HBV
    go_wp2_with (go_at_call 15; refine Hid.out ?_)
    refine Lib.hid ?_
    (with_reducible refine haw.mono ?_)
    rintro e wt ⟨rfl, hb⟩
    have HBT := Hid.in (below_step HB5.out (below_step HBU.out hb))
    clear haw hb
    go_wp2_with fail
    go_ret
    exact ⟨rfl, HBT.out⟩
end Go.Proofs.YtgblohjdiheemaaGreat
