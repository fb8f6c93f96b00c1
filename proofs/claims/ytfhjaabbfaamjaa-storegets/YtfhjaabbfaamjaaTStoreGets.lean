/-
  Proved here: the law StoreGets (switchyardlaw10) answers true for every input, and each argument reads afterwards as it read before. No condition of ours: the row's own reach alone (each slice and text takes at most 2^47 - 4096 bytes).
-/
import Derived.Test.YtfhjaabbfaamjaaGe
import Derived.Test.YtfhjaabbfaamjaaOpen
import Derived.SizedLaws
import Derived.Test.YtfhjaabbfaamjaaGi

/- How an image (api.Image) that came in by value is opened, of every size that an argument may have. -/
namespace Go.Proofs.Ytfhjaabbfaamjaa
open Go.ChangeShapes Go.WideShapes Go.ChangeAt Go.RowKit

theorem Try.cells3 : Try.prog.cellsOf 3 = 1 := by kernel_rfl
theorem Try.cells9 : Try.prog.cellsOf 9 = 1 := by kernel_rfl
theorem Try.cells22 : Try.prog.cellsOf 22 = 1 := by kernel_rfl
theorem Try.cells23 : Try.prog.cellsOf 23 = 1 := by kernel_rfl
theorem Try.cells24 : Try.prog.cellsOf 24 = 1 := by kernel_rfl
theorem Try.cells25 : Try.prog.cellsOf 25 = 1 := by kernel_rfl
theorem Try.cells27 : Try.prog.cellsOf 27 = 4 := by kernel_rfl
theorem Try.cells52 : Try.prog.cellsOf 52 = 3 := by kernel_rfl
theorem Try.bytes3 : Try.prog.bytesOf 3 = 8 := by kernel_rfl
theorem Try.bytes9 : Try.prog.bytesOf 9 = 16 := by kernel_rfl
theorem Try.bytes52 : Try.prog.bytesOf 52 = 24 := by kernel_rfl

theorem list_three {X : Type} {l : List X} (h : l.length = 3) : ∃ a b c, l = [a, b, c] := by
  match l, h with
  | [a, b, c], _ => exact ⟨a, b, c, rfl⟩
theorem list_four {X : Type} {l : List X} (h : l.length = 4) : ∃ a b c d, l = [a, b, c, d] := by
  match l, h with
  | [a, b, c, d], _ => exact ⟨a, b, c, d, rfl⟩
theorem list_ofG {X : Type} {P : Nat → X → Prop} : ∀ n, (∀ i, i < n → ∃ x, P i x) → ∃ xs : List X, xs.length = n ∧ ∀ i (h : i < xs.length), P i xs[i]
  | 0, _ => ⟨[], rfl, fun i h => absurd h (by simp)⟩
  | n + 1, h => by
    obtain ⟨xs, hl, hx⟩ := list_ofG n fun i hi => h i (by omega)
    obtain ⟨x, hp⟩ := h n (by omega)
    refine ⟨xs ++ [x], by simp [hl], fun i hi => ?_⟩
    by_cases hin : i < xs.length
    · rw [List.getElem_append_left hin]; exact hx i hin
    · have : i = n := by simp at hi; omega
      subst this
      rw [List.getElem_append_right (by omega)]
      simp [hl]
      exact hp

theorem opened3 {H : Type} {enc : TypeId × Value → H} {W : World} {fuel : Nat} {v : Value} {x : DataW H × List MemPlace} {ST ET : TypeId} {X : Type} (V : X → V3) (P : X → Prop) (hu : Try.prog.underlying ST = some (.slice ET)) (hc3 : Try.prog.cellsOf ET = 3)
    (hone : ∀ (fuel : Nat) (cs : List Value) (x : DataW H × List MemPlace), DataW.trod enc Try.prog W 0 (fun _ => true) true fuel ET cs = some x → ∃ y, cs = l3 (V y) ∧ P y)
    (h : DataW.trod enc Try.prog W 0 (fun _ => true) true fuel ST [v] = some x) (hw : ∀ m ∈ x.1.weights Try.prog ST, m ≤ reachBytes) :
    ∃ (q : Option Addr) (e : Nat) (L : List X), v = .slice q L.length e ∧ L.length ≤ e ∧ e ≤ maxLen ∧ L.length * Try.prog.bytesOf ET ≤ reachBytes ∧ Row3 W q (L.map V) ∧ ∀ y ∈ L, P y := by
  rcases DataW.trod_slice hu h with ⟨hcs, hx⟩ | ⟨ad, l, cc, elems, rest, f, hfu, hcs, hx, _, hl, hm, hlen, hel, hsp, _⟩
  · simp only [List.cons.injEq, and_true] at hcs
    exact ⟨none, 0, [], by rw [hcs]; rfl, Nat.le_refl _, Nat.zero_le _, by simp, Row3.nil W none, fun y hy => by cases hy⟩
  · simp only [List.cons.injEq, and_true] at hcs
    have hwt : l * Try.prog.bytesOf ET ≤ reachBytes := by
      have := hw ((elems.length + rest.length) * Try.prog.bytesOf ET) (by rw [hx]; simp [DataW.weights, hu])
      exact Nat.le_trans (Nat.mul_le_mul_right _ (by omega)) this
    obtain ⟨L, hL, hP⟩ := list_ofG (P := fun i y => (∀ j u, (l3 (V y))[j]? = some u → W.cell? ((ad.add (i * 3)).add j) = some u) ∧ P y) l fun i hi => by
      have he := hel i hi
      rw [hc3, List.getElem?_eq_getElem (by omega), Option.bind_eq_some_iff] at he
      obtain ⟨cs, hcs, htr⟩ := he
      obtain ⟨_, hcl, hcc⟩ := World.cells?_some hcs
      obtain ⟨y, hy, hp⟩ := hone _ _ _ htr
      refine ⟨y, fun j u hu => ?_, hp⟩
      rw [← hy] at hu
      have hj : j < 3 := by rw [← hcl]; exact (List.getElem?_eq_some_iff.1 hu).1
      rw [hcc j hj]; exact hu
    refine ⟨some ad, cc, L, by rw [hcs, hL], by rw [hL]; exact hl, hm, by rw [hL]; exact hwt, fun h0 => ?_, fun y hy => ?_⟩
    · rw [List.length_map] at h0
      obtain ⟨b, o, s⟩ := ad
      obtain rfl : s = none := by
        have := (hP 0 h0).1 0 _ rfl
        simpa [Addr.add] using World.cell?_spot this
      refine ⟨b, o, rfl, fun i hi j hj => ?_⟩
      rw [List.length_map] at hi
      rw [List.getElem_map]
      have hl3 : j < (l3 (V L[i])).length := hj
      have := (hP i hi).1 j _ (List.getElem?_eq_getElem hl3)
      rw [Addr.add_mid, Addr.add_mid] at this
      rw [this, List.getElem?_eq_getElem hl3]
    · obtain ⟨i, hi, rfl⟩ := List.getElem_of_mem hy
      exact (hP i hi).2

/-- the same, of elements of one cell -/
theorem opened1 {H : Type} {enc : TypeId × Value → H} {W : World} {fuel : Nat} {v : Value} {x : DataW H × List MemPlace} {ST ET : TypeId} {X : Type} (V : X → Value) (P : X → Prop) (hu : Try.prog.underlying ST = some (.slice ET)) (hc1 : Try.prog.cellsOf ET = 1)
    (hone : ∀ (fuel : Nat) (cs : List Value) (x : DataW H × List MemPlace), DataW.trod enc Try.prog W 0 (fun _ => true) true fuel ET cs = some x → ∃ y, cs = [V y] ∧ P y)
    (h : DataW.trod enc Try.prog W 0 (fun _ => true) true fuel ST [v] = some x) (hw : ∀ m ∈ x.1.weights Try.prog ST, m ≤ reachBytes) :
    ∃ (q : Option Addr) (e : Nat) (L : List X), v = .slice q L.length e ∧ L.length ≤ e ∧ e ≤ maxLen ∧ L.length * Try.prog.bytesOf ET ≤ reachBytes ∧ GRow W q (L.map V) ∧ ∀ y ∈ L, P y := by
  rcases DataW.trod_slice hu h with ⟨hcs, hx⟩ | ⟨ad, l, cc, elems, rest, f, hfu, hcs, hx, _, hl, hm, hlen, hel, hsp, _⟩
  · simp only [List.cons.injEq, and_true] at hcs
    exact ⟨none, 0, [], by rw [hcs]; rfl, Nat.le_refl _, Nat.zero_le _, by simp, GRow.nil W none, fun y hy => by cases hy⟩
  · simp only [List.cons.injEq, and_true] at hcs
    have hwt : l * Try.prog.bytesOf ET ≤ reachBytes := by
      have := hw ((elems.length + rest.length) * Try.prog.bytesOf ET) (by rw [hx]; simp [DataW.weights, hu])
      exact Nat.le_trans (Nat.mul_le_mul_right _ (by omega)) this
    obtain ⟨L, hL, hP⟩ := list_ofG (P := fun i y => (∀ j u, ([V y])[j]? = some u → W.cell? ((ad.add (i * 1)).add j) = some u) ∧ P y) l fun i hi => by
      have he := hel i hi
      rw [hc1, List.getElem?_eq_getElem (by omega), Option.bind_eq_some_iff] at he
      obtain ⟨cs, hcs, htr⟩ := he
      obtain ⟨_, hcl, hcc⟩ := World.cells?_some hcs
      obtain ⟨y, hy, hp⟩ := hone _ _ _ htr
      refine ⟨y, fun j u hu => ?_, hp⟩
      rw [← hy] at hu
      have hj : j < 1 := by rw [← hcl]; exact (List.getElem?_eq_some_iff.1 hu).1
      rw [hcc j hj]; exact hu
    refine ⟨some ad, cc, L, by rw [hcs, hL], by rw [hL]; exact hl, hm, by rw [hL]; exact hwt, fun h0 => ?_, fun y hy => ?_⟩
    · rw [List.length_map] at h0
      obtain ⟨b, o, s⟩ := ad
      obtain rfl : s = none := by
        have := (hP 0 h0).1 0 _ rfl
        simpa [Addr.add] using World.cell?_spot this
      refine ⟨b, o, rfl, fun i hi => ?_⟩
      rw [List.length_map] at hi
      have := (hP i hi).1 0 (V L[i]) rfl
      rw [Addr.add_mid, Addr.add_mid] at this
      simp only [Nat.mul_one, Nat.add_zero] at this
      rw [this, List.getElem?_map, List.getElem?_eq_getElem hi]
      rfl
    · obtain ⟨i, hi, rfl⟩ := List.getElem_of_mem hy
      exact (hP i hi).2

/-- a slice of bytes within a unit -/
theorem open_data {H : Type} {enc : TypeId × Value → H} {W : World} {fuel : Nat} {v : Value} {x : DataW H × List MemPlace} (h : DataW.trod enc Try.prog W 0 (fun _ => true) true fuel 22 [v] = some x) (hw : ∀ m ∈ x.1.weights Try.prog 22, m ≤ reachBytes) :
    ∃ (q : Option Addr) (e : Nat) (xs : List Int), v = .slice q xs.length e ∧ Row W q xs ∧ Byt xs ∧ xs.length ≤ e ∧ e ≤ maxLen ∧ xs.length ≤ reachBytes := by
  have hr : ∀ q n c, v = .slice q n c → n * 1 ≤ reachBytes := by
    intro q n c hv
    rcases DataW.trod_slice Try.underlying22 h with ⟨hcs, hx⟩ | ⟨ad, l, cc, elems, rest, f, hfu, hcs, hx, _, hl, hm, hlen, hel, hsp, _⟩
    · simp only [List.cons.injEq, and_true] at hcs
      rw [hv] at hcs
      simp only [Value.slice.injEq] at hcs
      rw [hcs.2.1]; exact Nat.zero_le _
    · simp only [List.cons.injEq, and_true] at hcs
      rw [hv] at hcs
      simp only [Value.slice.injEq] at hcs
      have := hw ((elems.length + rest.length) * Try.prog.bytesOf 5) (by rw [hx]; simp [DataW.weights, Try.underlying22])
      rw [Try.bytes5] at this
      rw [hcs.2.1]
      omega
  rcases open_ints Try.underlying22 Try.underlying5 Try.cells5 h with ⟨hcs, hx⟩ | ⟨ad, l, cc, zs, hcs, _, hl, hm, hz, hx, hcell, hwz⟩
  · simp only [List.cons.injEq, and_true] at hcs
    exact ⟨none, 0, [], by rw [hcs]; rfl, fun h => absurd h (Nat.lt_irrefl 0), fun i => by simp, Nat.le_refl _, Nat.zero_le _, Nat.zero_le _⟩
  · simp only [List.cons.injEq, and_true] at hcs
    simp only [if_true] at hz
    have hlen : (zs.take l).length = l := by rw [List.length_take]; omega
    have hrr := hr _ _ _ hcs
    refine ⟨some ad, cc, zs.take l, by rw [hcs, hlen], fun h0 => ?_, fun i => getD_of_mem (P := fun x => 0 ≤ x ∧ x ≤ 255) (by decide) (fun x hx' => wf_u8 (hwz x (List.mem_of_mem_take hx'))) i, by omega, hm, by omega⟩
    obtain ⟨b, o, s⟩ := ad
    rw [hlen] at h0
    obtain rfl : s = none := by simpa [Addr.add] using World.cell?_spot (hcell 0 (by omega))
    exact ⟨b, o, rfl, fun i hi => by rw [hlen] at hi; rw [← Go.WideShapes.add_plain, hcell i (by omega)]; simp [List.getD, show i < l by omega]⟩

def SiF (s : Si) : Prop := i64P s.key ∧ i64P s.at_ ∧ i64P s.to_
theorem open_site {H : Type} {enc : TypeId × Value → H} {W : World} (fuel : Nat) (cs : List Value) (x : DataW H × List MemPlace) (h : DataW.trod enc Try.prog W 0 (fun _ => true) true fuel 52 cs = some x) : ∃ y, cs = l3 (siV y) ∧ SiF y := by
  obtain ⟨xs, n, rfl, hx, hlen, hxl, hf⟩ := DataW.trod_struct Try.underlying52 h
  rw [Try.cells52] at hlen
  obtain ⟨a, b, c, rfl⟩ := list_three hlen
  have f0 := hf 0
  have f1 := hf 1
  have f2 := hf 2
  simp [Try.cells3] at f0 f1 f2
  obtain ⟨x0, x1, x2, rfl⟩ := list_three (show xs.length = 3 from hxl)
  simp only [List.getElem?_cons_zero, List.getElem?_cons_succ] at f0 f1 f2
  obtain ⟨k, e0, y0, w0⟩ := DataW.trod_int Try.underlying3 f0
  obtain ⟨m, e1, y1, w1⟩ := DataW.trod_int Try.underlying3 f1
  obtain ⟨g, e2, y2, w2⟩ := DataW.trod_int Try.underlying3 f2
  simp only [List.cons.injEq, and_true] at e0 e1 e2
  subst e0 e1 e2
  exact ⟨⟨k, m, g⟩, rfl, wf_i64 w0, wf_i64 w1, wf_i64 w2⟩
theorem open_num {H : Type} {enc : TypeId × Value → H} {W : World} (fuel : Nat) (cs : List Value) (x : DataW H × List MemPlace) (h : DataW.trod enc Try.prog W 0 (fun _ => true) true fuel 3 cs = some x) : ∃ y, cs = [Value.int .i64 y] ∧ i64P y := by
  obtain ⟨k, e0, y0, w0⟩ := DataW.trod_int Try.underlying3 h
  exact ⟨k, e0, wf_i64 w0⟩
theorem open_txt {H : Type} {enc : TypeId × Value → H} {W : World} (fuel : Nat) (cs : List Value) (x : DataW H × List MemPlace) (h : DataW.trod enc Try.prog W 0 (fun _ => true) true fuel 9 cs = some x) : ∃ y, cs = [Value.string y] ∧ y.size ≤ maxLen := by
  obtain ⟨k, e0, y0, w0⟩ := DataW.trod_string Try.underlying9 h
  exact ⟨k, e0, w0⟩

theorem open_image {H : Type} {enc : TypeId × Value → H} {W : World} {fuel : Nat} {cs : List Value} {x : DataW H × List MemPlace} (h : DataW.trod enc Try.prog W 0 (fun _ => true) true fuel 27 cs = some x) (hw : ∀ m ∈ x.1.weights Try.prog 27, m ≤ reachBytes) :
    ∃ (m : IM) (pb pk ps pu : Option Addr) (cb ck cs' cu : Nat), cs = [.slice pb m.bs.length cb, .slice pk m.ks.length ck, .slice ps m.si.length cs', .slice pu m.un.length cu] ∧ ImIn W m pb pk ps pu m.bs.length cb m.ks.length ck m.si.length cs' m.un.length cu ∧
      m.bs.length ≤ reachBytes ∧ m.ks.length * 16 ≤ reachBytes ∧ m.si.length * 24 ≤ reachBytes ∧ m.un.length * 8 ≤ reachBytes := by
  obtain ⟨xs, n, rfl, hx, hlen, hxl, hf⟩ := DataW.trod_struct Try.underlying27 h
  rw [Try.cells27] at hlen
  obtain ⟨a, b, c, d, rfl⟩ := list_four hlen
  have f0 := hf 0
  have f1 := hf 1
  have f2 := hf 2
  have f3 := hf 3
  simp [Try.cells22, Try.cells23, Try.cells24, Try.cells25] at f0 f1 f2 f3
  obtain ⟨x0, x1, x2, x3, rfl⟩ := list_four (show xs.length = 4 from hxl)
  simp only [List.getElem?_cons_zero, List.getElem?_cons_succ] at f0 f1 f2 f3
  have hin : ∀ m ∈ DataW.weightsEach Try.prog [22, 23, 24, 25] [x0.1, x1.1, x2.1, x3.1], m ≤ reachBytes := by
    intro m hm
    have hd' : x.1 = .agg [x0.1, x1.1, x2.1, x3.1] := by rw [hx]; rfl
    refine hw m ?_
    rw [hd']
    simp only [DataW.weights, Try.underlying27]
    exact hm
  obtain ⟨qb, eb, bs, rfl, hb1, hb2, hb4, hb5, k1⟩ := open_data f0 fun m hm => hin m (DataW.weights_mem_each (j := 0) rfl rfl m hm)
  obtain ⟨qk, ek, K, rfl, hk0, hk1, k2, hk2, hk3⟩ := opened1 Value.string (fun s : ByteArray => s.size ≤ maxLen) Try.underlying23 Try.cells9 open_txt f1 fun m hm => hin m (DataW.weights_mem_each (j := 1) rfl rfl m hm)
  obtain ⟨qs, es, S, rfl, hs0, hs1, k3, hs2, hs3⟩ := opened3 siV SiF Try.underlying24 Try.cells52 open_site f2 fun m hm => hin m (DataW.weights_mem_each (j := 2) rfl rfl m hm)
  obtain ⟨qu, eu, U, rfl, hu0, hu1, k4, hu2, hu3⟩ := opened1 (Value.int .i64) i64P Try.underlying25 Try.cells3 open_num f3 fun m hm => hin m (DataW.weights_mem_each (j := 3) rfl rfl m hm)
  rw [Try.bytes9] at k2
  rw [Try.bytes52] at k3
  rw [Try.bytes3] at k4
  have r2 := k2
  have r3 := k3
  have r4 := k4
  simp only [reachBytes] at r2 r3 r4
  refine ⟨⟨bs, K, S, U⟩, qb, qk, qs, qu, eb, ek, es, eu, rfl, ⟨rfl, rfl, rfl, rfl, hb4, ?_, ?_, ?_, ?_, hb1, hk2, hs2, hu2, hb2, hk3, hu3⟩, k1, k2, k3, k4⟩
  · unfold maxLen at hb5; omega
  · show K.length ≤ _; omega
  · show S.length ≤ _; omega
  · show U.length ≤ _; omega

theorem weights_of {H : Type} {P : Program} {ts : List TypeId} {ds : List (DataW H)} (hsz : (DataW.weightsEach P ts ds).all (· ≤ reachBytes) = true) {j : Nat} {t : TypeId} {d : DataW H} (ht : ts[j]? = some t) (hd : ds[j]? = some d) : ∀ m ∈ d.weights P t, m ≤ reachBytes := by
  intro m hm
  have := List.all_eq_true.1 hsz m (DataW.weights_mem_each ht hd m hm)
  simpa using this


set_option maxRecDepth 20000 in
theorem open_image_val {H : Type} {enc : TypeId × Value → H} {W : World} {base : Nat} {v : Value} {d : DataW H} {p : List MemPlace} (hv : Value.okWide Try.prog W .any base 27 v)
    (h : DataW.Trod enc Try.prog W 0 (fun _ => true) true 27 v d p) {ts : List TypeId} {ds : List (DataW H)} (hsz : (DataW.weightsEach Try.prog ts ds).all (· ≤ reachBytes) = true) {j : Nat} (ht : ts[j]? = some 27) (hd : ds[j]? = some d) :
    ∃ (m : IM) (pb pk ps pu : Option Addr) (cb ck cs' cu : Nat), v = .agg (imA pb pk ps pu m.bs.length cb m.ks.length ck m.si.length cs' m.un.length cu) ∧ ImIn W m pb pk ps pu m.bs.length cb m.ks.length ck m.si.length cs' m.un.length cu ∧
      m.bs.length ≤ reachBytes ∧ m.ks.length * 16 ≤ reachBytes ∧ m.si.length * 24 ≤ reachBytes ∧ m.un.length * 8 ≤ reachBytes := by
  obtain ⟨fuel, hf⟩ := h
  simp only [Value.okWide, Try.underlying27] at hv
  obtain ⟨cs, rfl, _, _⟩ := hv
  obtain ⟨m, pb, pk, ps, pu, cb, ck, cs', cu, hc, hr⟩ := open_image hf (weights_of hsz ht hd)
  refine ⟨m, pb, pk, ps, pu, cb, ck, cs', cu, ?_, hr⟩
  have h2 : cs.toList = (imA pb pk ps pu m.bs.length cb m.ks.length ck m.si.length cs' m.un.length cu).toList := hc
  rw [Array.toList_inj.1 h2]

set_option maxRecDepth 20000 in
theorem open_bytes_val {H : Type} {enc : TypeId × Value → H} {W : World} {base : Nat} {v : Value} {d : DataW H} {p : List MemPlace} (hv : Value.okWide Try.prog W .any base 22 v)
    (h : DataW.Trod enc Try.prog W 0 (fun _ => true) true 22 v d p) {ts : List TypeId} {ds : List (DataW H)} (hsz : (DataW.weightsEach Try.prog ts ds).all (· ≤ reachBytes) = true) {j : Nat} (ht : ts[j]? = some 22) (hd : ds[j]? = some d) :
    ∃ (q : Option Addr) (e : Nat) (xs : List Int), v = .slice q xs.length e ∧ Row W q xs ∧ Byt xs ∧ xs.length ≤ e ∧ e ≤ maxLen ∧ xs.length ≤ reachBytes := by
  obtain ⟨fuel, hf⟩ := h
  have hcs : v.cells.toList = [v] := by
    obtain ⟨_, _, _, rfl⟩ := Go.WideShapes.okWide_slice Try.underlying22 hv
    rfl
  rw [hcs] at hf
  exact open_data hf (weights_of hsz ht hd)

end Go.Proofs.Ytfhjaabbfaamjaa

/- StoreGets, walked: any bytes are read as P10.2 says; they stay; what is answered shares no memory with them. -/
namespace Go.Proofs.Ytfhjaabbfaamjaa
open Go.RowKit

theorem getL_ok {bs : List Int} (hb : Byt bs) : okI (getL bs).1 = true ∧ Byt (getL bs).1.bs := by
  by_cases h : (getL bs).2 = 0
  · have := getL_back hb h
    exact ⟨this.1, byt_part hb this.2⟩
  · rw [getL_bad h]
    exact ⟨okI_none, fun i => by simp [noIM]⟩
theorem ImOwn.inSl {w : World} {B : Nat} {m : IM} {qb qk qs qu : Option Addr} {db dk ds du : Nat} (h : ImOwn w B m (.slice qb m.bs.length db) (.slice qk m.ks.length dk) (.slice qs m.si.length ds) (.slice qu m.un.length du)) (hok : okI m = true) (hbyt : Byt m.bs) :
    ImIn w m qb qk qs qu m.bs.length db m.ks.length dk m.si.length ds m.un.length du := by
  obtain ⟨pb, pk, ps, pu, cb, ck, cs, cu, e1, e2, e3, e4, hin, -⟩ := h.inOk hok hbyt
  injection e1 with a1 _ a2
  injection e2 with b1 _ b2
  injection e3 with c1 _ c2
  injection e4 with d1 _ d2
  subst a1 a2 b1 b2 c1 c2 d1 d2
  exact hin

/-- where the law stands while it writes into what it handed in -/
structure GL (w : World) (g cap n X Y : Nat) (mm : IM) (v0 v1 v2 v3 u0 u1 u2 u3 : Value) (wr : World) : Prop where
  own : ∃ ya : List Int, ya.length = n + 2 ∧ Own wr w.heap.size g cap ya
  a : ImOwn wr (g + 1) mm v0 v1 v2 v3
  b : ImOwn wr (g + 1) mm u0 u1 u2 u3
  x : Blk wr X 27 #[v0, v1, v2, v3]
  y : Blk wr Y 27 #[u0, u1, u2, u3]
  nx : X ≠ g
  ny : Y ≠ g
  bel : Below w.heap.size w wr
theorem GL.store {w : World} {g cap n X Y : Nat} {mm : IM} {v0 v1 v2 v3 u0 u1 u2 u3 : Value} {wr : World} (h : GL w g cap n X Y mm v0 v1 v2 v3 u0 u1 u2 u3 wr) (k : Nat) (z : Int) :
    GL w g cap n X Y mm v0 v1 v2 v3 u0 u1 u2 u3 (wr.setCell ⟨g, k, none⟩ (.int .u8 z)) := by
  obtain ⟨ya, hl, ho⟩ := h.own
  exact ⟨⟨ya.set k z, by simp [hl], ho.store k z⟩, h.a.set (Nat.lt_succ_self g) _, h.b.set (Nat.lt_succ_self g) _, h.x.other h.nx _ _, h.y.other h.ny _ _, h.nx, h.ny, h.bel.setCell ho.base _⟩
theorem GL.at_ {w : World} {g cap n X Y : Nat} {mm : IM} {v0 v1 v2 v3 u0 u1 u2 u3 : Value} {wr : World} (h : GL w g cap n X Y mm v0 v1 v2 v3 u0 u1 u2 u3 wr) (k : Nat) (hk : k < n) :
    ∃ z, wr.cell? ⟨g, k, none⟩ = some (.int .u8 z) ∧ wr.frozen? ⟨g, k, none⟩ = false := by
  obtain ⟨ya, hl, ho⟩ := h.own
  exact ⟨_, ho.cell k (by omega), ho.free k⟩

set_option maxRecDepth 20000 in
set_option maxHeartbeats 4000000 in
theorem gets_walk (q : Option Addr) (n d : Nat) (ys : List Int) (w : World) (hy : ys.length = n) (hn : n ≤ 140737488351232) (hr : Row w q ys) (hnil : q = none → n = 0 ∧ d = 0) (hby : Byt ys) :
    Calls Try.prog 4 #[.slice q n d] w fun E w' => E = .returned (.bool true) ∧ Below w.heap.size w w' := by
  have hl := lent_any q n d ys w hy hn hr
  have HY := Hid.in hy
  have HR := Hid.in hr
  have HOK := Hid.in (getL_ok hby)
  have HGET : Hid (∀ g c W, n ≤ c → c ≤ 9223372036854775807 → Row W (some ⟨g, 0, none⟩) ys → g < W.heap.size → Calls Try.prog 14 #[.slice (some ⟨g, 0, none⟩) n c] W fun E w' => ∃ vb vk vs vu, E = .returned (.tuple #[.agg #[vb, vk, vs, vu], .int .i64 (getL ys).2]) ∧ ImOwn w' W.heap.size (getL ys).1 vb vk vs vu ∧ Below W.heap.size W w') := fun g c W h1 h2 h3 h4 => get_any _ n c ys W hy h1 h2 h3 (fun a e => by cases e; exact h4) hby
  have HRGT : Hid (∀ W, Below w.heap.size w W → Calls Try.prog 15 #[.slice q n d] W fun E w' => ∃ vb vk vs vu, E = .returned (.tuple #[.agg #[vb, vk, vs, vu], .int .i64 (getL ys).2]) ∧ ImOwn w' W.heap.size (getL ys).1 vb vk vs vu ∧ Below W.heap.size W w') := fun W hW => rget_any q n d ys W hy hn (hr.below hW) hnil hby
  generalize (getL ys).1 = mm at HOK HGET HRGT
  generalize (getL ys).2 = er at HGET HRGT
  clear hr hy hnil hby
  go_enter Try.func4, Try.ntmps4
  go_wp2_with (go_at_call 13; refine Hid.out ?_)
  refine Lib.hid ?_
  with_reducible refine hl.mono ?_
  rintro e w1 ⟨g, cap, rfl, ho1, hb1⟩
  have hg1 : g < w1.heap.size := ho1.lt
  have hgw : w.heap.size ≤ g := ho1.base
  have hcap : n + 2 ≤ cap := by
    have := ho1.cap
    rw [List.length_append, HY.out] at this
    simpa using this
  have hcm : cap ≤ 9223372036854775807 := by
    obtain ⟨_, _, _, _, h4, _⟩ := ho1.parts
    simp only [maxLen] at h4
    omega
  have HO1 := Hid.in ho1
  have HB1 := Hid.in hb1
  have hget := HGET.out g cap w1 (by omega) hcm ho1.front.row hg1
  clear ho1 hb1 hl HGET
  go_wp2_with (go_at_call 14; refine Hid.out ?_)
  refine Lib.hid ?_
  with_reducible refine hget.mono ?_
  rintro e w2 ⟨vb, vk, vs, vu, rfl, hi2, hb2⟩
  obtain ⟨qb, qk, qs, qu, db, dk, ds, du, rfl, rfl, rfl, rfl, -, -⟩ := hi2.inOk HOK.out.1 HOK.out.2
  have HM2 := Hid.in (Blk.new w2 27 (imA qb qk qs qu mm.bs.length db mm.ks.length dk mm.si.length ds mm.un.length du))
  have HN2 := Hid.in (new_alloc w2 (.cells (imA qb qk qs qu mm.bs.length db mm.ks.length dk mm.si.length ds mm.un.length du) 27))
  have HB2 := Hid.in (below_step (below_step HB1.out hb2) HN2.out)
  have HO2 := Hid.in ((HO1.out.below hb2).below HN2.out)
  have HI2 := Hid.in ((hi2.below HN2.out).lower (show g + 1 ≤ w1.heap.size by omega))
  have hX2 : w1.heap.size ≤ w2.heap.size := hb2.size
  have hrg := HRGT.out _ HB2.out
  clear hi2 hb2 hget HN2 HO1 HB1 HRGT
  go_wp2_with (go_at_call 15; refine Hid.out ?_)
  refine Lib.hid ?_
  with_reducible refine hrg.mono ?_
  rintro e w3 ⟨ub, uk, us, uu, rfl, hi3, hb3⟩
  obtain ⟨tb, tk, ts, tu, fb, fk, fs, fu, rfl, rfl, rfl, rfl, -, -⟩ := hi3.inOk HOK.out.1 HOK.out.2
  have HT3 := Hid.in (Blk.new w3 27 (imA tb tk ts tu mm.bs.length fb mm.ks.length fk mm.si.length fs mm.un.length fu))
  have HN3 := Hid.in (new_alloc w3 (.cells (imA tb tk ts tu mm.bs.length fb mm.ks.length fk mm.si.length fs mm.un.length fu) 27))
  have hX3 : w2.heap.size + 1 ≤ w3.heap.size := by
    have := hb3.size
    rwa [size_one] at this
  have HM3 := Hid.in ((HM2.out.grow hb3).grow HN3.out)
  have HB3 := Hid.in (below_step (below_step HB2.out hb3) HN3.out)
  have HO3 := Hid.in ((HO2.out.below hb3).below HN3.out)
  have HI3 := Hid.in ((HI2.out.below hb3).below HN3.out)
  have HJ3 := Hid.in ((hi3.below HN3.out).lower (show g + 1 ≤ (w2.alloc (.cells (imA qb qk qs qu mm.bs.length db mm.ks.length dk mm.si.length ds mm.un.length du) 27)).heap.size by rw [size_one]; omega))
  have HS := Hid.in (fun W (h1 : ImOwn W (g + 1) mm (.slice qb mm.bs.length db) (.slice qk mm.ks.length dk) (.slice qs mm.si.length ds) (.slice qu mm.un.length du)) (h2 : ImOwn W (g + 1) mm (.slice tb mm.bs.length fb) (.slice tk mm.ks.length fk) (.slice ts mm.si.length fs) (.slice tu mm.un.length fu)) => sameImage_yes mm qb qk qs qu tb tk ts tu _ db _ dk _ ds _ du fb fk fs fu W (h1.inSl HOK.out.1 HOK.out.2) (h2.inSl HOK.out.1 HOK.out.2))
  have hs := HS.out _ HI3.out HJ3.out
  have q0 : (er != er) = false := by simp
  clear hi3 hb3 hrg HN3 HM2 HB2 HO2 HI2
  generalize mm.bs.length = lb at *
  generalize mm.ks.length = lk at *
  generalize mm.si.length = ls at *
  generalize mm.un.length = lu at *
  obtain ⟨k0, k1, k2, k3⟩ := HM3.out.cells4
  obtain ⟨l0, l1, l2, l3⟩ := HT3.out.cells4
  go_wp2_with (go_at_call 11; refine Hid.out ?_)
  refine Lib.hid ?_
  with_reducible refine hs.mono ?_
  rintro e w4 ⟨rfl, hb4⟩
  have HM4 := Hid.in (HM3.out.grow hb4)
  have HT4 := Hid.in (HT3.out.grow hb4)
  have HB4 := Hid.in (below_step HB3.out hb4)
  have HO4 := Hid.in (HO3.out.below hb4)
  have HI4 := Hid.in (HI3.out.below hb4)
  have HJ4 := Hid.in (HJ3.out.below hb4)
  have hk := kept_any q g n cap d _ ys w4 HY.out hn HO4.out (HR.out.below HB4.out)
  clear hb4 hs HM3 HT3 HB3 HO3 HI3 HJ3 k0 k1 k2 k3 l0 l1 l2 l3
  go_wp2_with (go_at_call 16; refine Hid.out ?_)
  refine Lib.hid ?_
  with_reducible refine hk.mono ?_
  rintro e w5 ⟨rfl, mq, hw5⟩
  have hb5 : Below w4.heap.size w4 w5 := by rw [hw5]; exact below_draws (below_self w4) mq
  have HGL : Hid (GL w g cap n w2.heap.size w3.heap.size mm (.slice qb lb db) (.slice qk lk dk) (.slice qs ls ds) (.slice qu lu du) (.slice tb lb fb) (.slice tk lk fk) (.slice ts ls fs) (.slice tu lu fu) w5) :=
    ⟨⟨ys ++ [77, 78], by simp [HY.out], HO4.out.below hb5⟩, HI4.out.below hb5, HJ4.out.below hb5, HM4.out.grow hb5, HT4.out.grow hb5, by omega, by omega, below_step HB4.out hb5⟩
  clear hw5 hb5 hk HM4 HT4 HB4 HO4 HI4 HJ4 HR HY
  go_wp2_with fail
  go_loopw [8] (fun i wr => ∃ (k : Nat), k ≤ n ∧ i = .int .i64 k ∧ GL w g cap n w2.heap.size w3.heap.size mm (.slice qb lb db) (.slice qk lk dk) (.slice qs ls ds) (.slice qu lu du) (.slice tb lb fb) (.slice tk lk fk) (.slice ts ls fs) (.slice tu lu fu) wr) (fun i _ => n - (intOf i).toNat)
  case atStart => exact ⟨0, Nat.zero_le _, rfl, HGL.out⟩
  case round =>
    obtain ⟨k, hk, rfl, hgl⟩ := hrel
    have HG := Hid.in hgl
    clear hgl HGL
    by_cases hlt : k < n
    · obtain ⟨z1, c1, f1⟩ := HG.out.at_ k hlt
      have HGN := Hid.in (HG.out.store k 99)
      go_wp2
      go_roundw
      case rel => exact ⟨k + 1, by omega, by go_num, HGN.out⟩
      case measure => simp [intOf]; omega
    · obtain ⟨k0, k1, k2, k3⟩ := HG.out.x.cells4
      obtain ⟨l0, l1, l2, l3⟩ := HG.out.y.cells4
      have hs := HS.out _ HG.out.a HG.out.b
      go_wp2_with (go_at_call 11; refine Hid.out ?_)
      refine Lib.hid ?_
      refine hs.mono ?_
      rintro e y1 ⟨rfl, hb9⟩
      have HB9 := Hid.in (below_step HG.out.bel hb9)
      clear hb9 hs k0 k1 k2 k3 l0 l1 l2 l3 HG
      go_wp2_with (go_at_call 12; refine Hid.out ?_)
      refine Lib.hid ?_
      refine (awake_any _).mono ?_
      rintro e y2 ⟨rfl, hb10⟩
      go_wp2_with fail
      go_ret
      exact ⟨rfl, below_step HB9.out hb10⟩

/-- a nil slice of bytes that came in has neither length nor capacity -/
theorem bytes_nil {H : Type} {enc : TypeId × Value → H} {W : World} {d : DataW H} {p : List MemPlace} {q : Option Addr} {n c : Nat}
    (h : DataW.Trod enc Try.prog W 0 (fun _ => true) true 22 (.slice q n c) d p) : q = none → n = 0 ∧ c = 0 := by
  obtain ⟨fuel, hf⟩ := h
  rintro rfl
  rcases DataW.trod_slice Try.underlying22 (show DataW.trod enc Try.prog W 0 (fun _ => true) true fuel 22 [.slice none n c] = some (d, p) from hf) with ⟨hcs, -⟩ | ⟨ad, l, cc, elems, rest, f, hfu, hcs, -⟩
  · simp only [List.cons.injEq, and_true, Value.slice.injEq, true_and] at hcs
    exact hcs
  · simp at hcs
end Go.Proofs.Ytfhjaabbfaamjaa

namespace Go.Proofs.Ytfhjaabbfaamjaa
open Go.ChangeShapes Go.WideShapes Go.ChangeAt Go.RowKit
open Go.ChangeMaps (open_string shut_string)

set_option maxRecDepth 100000 in
theorem storeGets_lifted (os : Os) (started : os.Started) (H : Type) (enc : TypeId × Value → H) :
    ReturnsInHanded {} Try.checked os 4 .any (Rows.storeGetsSpec.pre6 enc Try.prog Try.f4 Rows.storeGetsRow.domain false) (Rows.storeGetsSpec.post enc Try.prog Try.f4 false true false false) := by
  refine returnsInHanded_of_change_sized (C := Try.checked) Try.own started (by kernel_rfl) Try.func4
    (ChangeSpec.witness6 (enc := enc) (C := Try.checked) false ⟨#[], #[.slice none 0 0], []⟩ 8 (by kernel_rfl) (by kernel_rfl) (by kernel_rfl) (by kernel_rfl)) ?_
  intro W base args ds gs before hval0 hW hcnd hsz0 _
  have hW' := hW
  obtain ⟨p, q, hA0, hV, rfl, hfz, hnd⟩ := hW
  have hA : DataW.TrodAll enc Try.prog W 0 (fun _ => true) true Try.f4.params.toList args.toList ds p := hA0
  have hval : ∀ (j : Nat) t v, Try.f4.params[j]? = some t → args[j]? = some v → Value.okWide Try.prog W .any base t v := hval0
  have hsz : (DataW.weightsEach Try.prog (Try.f4.params.toList ++ Rows.storeGetsSpec.plain.varTypes Try.prog) (ds ++ gs)).all (· ≤ reachBytes) = true := hsz0
  rw [Try.params4] at hA hval hsz
  obtain ⟨v0, vs0, d0, ds0, p0, q0_, hargs, rfl, rfl, h0, r0⟩ := trodAll_cons hA
  obtain ⟨rfl, rfl, rfl⟩ := trodAll_nil r0
  obtain rfl : args = #[v0] := by cases args; simp_all
  obtain ⟨rfl, rfl⟩ := trodVars_none hV
  have k0 := h0
  have lt0 : ∀ x ∈ p0, x.block < W.heap.size := by obtain ⟨m, hm⟩ := k0; exact DataW.trod_lt m _ _ _ hm
  obtain ⟨q0, e0, ys0, rfl, hr0, hby0, hl0, hm0, hb0⟩ := open_bytes_val (hval 0 22 v0 rfl rfl) h0 hsz (j := 0) rfl rfl
  refine (gets_walk q0 ys0.length e0 ys0 W rfl (by simp only [reachBytes] at hb0; omega) hr0 (bytes_nil k0) hby0).mono fun e W' ⟨he, bel⟩ => ?_
  subst he
  exact ⟨_, rfl, _, _, _, [], _, [], hW', trodAll_mk1 (shut_bool Try.underlying4 _), (trodAll_cons_mk (Below.trod Try.laidOut (by kernel_rfl) (of_decide_eq_true (by kernel_rfl)) k0 bel lt0) trodAll_mk0), rfl, bel.frame _, fun h => by cases h⟩

theorem storeGets_holds : Rows.StoreGetsSaid :=
  OpenClaim.holds_of_wide 4 Try.f4 rfl rfl rfl rfl rfl rfl rfl ⟨rfl, rfl, rfl, rfl, rfl⟩ rfl rfl rfl rfl rfl (by kernel_rfl) Try.func4 (by kernel_rfl)
    (of_decide_eq_true (by kernel_rfl)) (by unfold Func.isWrapper; first | (rw [if_pos (by decide +kernel)]; kernel_rfl) | (rw [if_neg (by decide +kernel)]; exact ⟨rfl, rfl⟩))
    (fun os started H enc _ => storeGets_lifted os started H enc)
#print axioms storeGets_holds

end Go.Proofs.Ytfhjaabbfaamjaa
