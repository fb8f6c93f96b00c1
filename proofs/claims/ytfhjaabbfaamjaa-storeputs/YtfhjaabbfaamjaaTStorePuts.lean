/-
  Proved here: the law StorePuts (switchyardlaw10) answers true for every input, and each argument reads afterwards as it read before. No condition of ours: the row's own reach alone (each slice and text takes at most 2^47 - 4096 bytes).
-/
import Derived.Test.YtfhjaabbfaamjaaGe
import Derived.Test.YtfhjaabbfaamjaaOpen
import Derived.SizedLaws
import Derived.Test.YtfhjaabbfaamjaaGh
import Derived.Test.YtfhjaabbfaamjaaApartA
import Derived.Test.YtfhjaabbfaamjaaGf

/- How an image (api.Image) that came in by value is opened, of every size that an argument may have. -/
namespace Go.Proofs.Ytfhjaabbfaamjaa
open Go.ChangeShapes Go.WideShapes Go.ChangeAt Go.RowKit

theorem Try.cells3 : Try.prog.cellsOf 3 = 1 := by kernel_rfl
theorem Try.cells9 : Try.prog.cellsOf 9 = 1 := by kernel_rfl
theorem Try.cells22 : Try.prog.cellsOf 22 = 1 := by kernel_rfl
theorem Try.cells23 : Try.prog.cellsOf 23 = 1 := by kernel_rfl
theorem Try.cells24 : Try.prog.cellsOf 24 = 1 := by kernel_rfl
theorem Try.cells25 : Try.prog.cellsOf 25 = 1 := by kernel_rfl
theorem Try.cells27 : Try.prog.cellsOf 27 = 4 := by kernel_rfl
theorem Try.cells52 : Try.prog.cellsOf 52 = 3 := by kernel_rfl
theorem Try.bytes3 : Try.prog.bytesOf 3 = 8 := by kernel_rfl
theorem Try.bytes9 : Try.prog.bytesOf 9 = 16 := by kernel_rfl
theorem Try.bytes52 : Try.prog.bytesOf 52 = 24 := by kernel_rfl

theorem list_three {X : Type} {l : List X} (h : l.length = 3) : ∃ a b c, l = [a, b, c] := by
  match l, h with
  | [a, b, c], _ => exact ⟨a, b, c, rfl⟩
theorem list_four {X : Type} {l : List X} (h : l.length = 4) : ∃ a b c d, l = [a, b, c, d] := by
  match l, h with
  | [a, b, c, d], _ => exact ⟨a, b, c, d, rfl⟩
theorem list_ofG {X : Type} {P : Nat → X → Prop} : ∀ n, (∀ i, i < n → ∃ x, P i x) → ∃ xs : List X, xs.length = n ∧ ∀ i (h : i < xs.length), P i xs[i]
  | 0, _ => ⟨[], rfl, fun i h => absurd h (by simp)⟩
  | n + 1, h => by
    obtain ⟨xs, hl, hx⟩ := list_ofG n fun i hi => h i (by omega)
    obtain ⟨x, hp⟩ := h n (by omega)
    refine ⟨xs ++ [x], by simp [hl], fun i hi => ?_⟩
    by_cases hin : i < xs.length
    · rw [List.getElem_append_left hin]; exact hx i hin
    · have : i = n := by simp at hi; omega
      subst this
      rw [List.getElem_append_right (by omega)]
      simp [hl]
      exact hp

theorem opened3 {H : Type} {enc : TypeId × Value → H} {W : World} {fuel : Nat} {v : Value} {x : DataW H × List MemPlace} {ST ET : TypeId} {X : Type} (V : X → V3) (P : X → Prop) (hu : Try.prog.underlying ST = some (.slice ET)) (hc3 : Try.prog.cellsOf ET = 3)
    (hone : ∀ (fuel : Nat) (cs : List Value) (x : DataW H × List MemPlace), DataW.trod enc Try.prog W 0 (fun _ => true) true fuel ET cs = some x → ∃ y, cs = l3 (V y) ∧ P y)
    (h : DataW.trod enc Try.prog W 0 (fun _ => true) true fuel ST [v] = some x) (hw : ∀ m ∈ x.1.weights Try.prog ST, m ≤ reachBytes) :
    ∃ (q : Option Addr) (e : Nat) (L : List X), v = .slice q L.length e ∧ L.length ≤ e ∧ e ≤ maxLen ∧ L.length * Try.prog.bytesOf ET ≤ reachBytes ∧ Row3 W q (L.map V) ∧ ∀ y ∈ L, P y := by
  rcases DataW.trod_slice hu h with ⟨hcs, hx⟩ | ⟨ad, l, cc, elems, rest, f, hfu, hcs, hx, _, hl, hm, hlen, hel, hsp, _⟩
  · simp only [List.cons.injEq, and_true] at hcs
    exact ⟨none, 0, [], by rw [hcs]; rfl, Nat.le_refl _, Nat.zero_le _, by simp, Row3.nil W none, fun y hy => by cases hy⟩
  · simp only [List.cons.injEq, and_true] at hcs
    have hwt : l * Try.prog.bytesOf ET ≤ reachBytes := by
      have := hw ((elems.length + rest.length) * Try.prog.bytesOf ET) (by rw [hx]; simp [DataW.weights, hu])
      exact Nat.le_trans (Nat.mul_le_mul_right _ (by omega)) this
    obtain ⟨L, hL, hP⟩ := list_ofG (P := fun i y => (∀ j u, (l3 (V y))[j]? = some u → W.cell? ((ad.add (i * 3)).add j) = some u) ∧ P y) l fun i hi => by
      have he := hel i hi
      rw [hc3, List.getElem?_eq_getElem (by omega), Option.bind_eq_some_iff] at he
      obtain ⟨cs, hcs, htr⟩ := he
      obtain ⟨_, hcl, hcc⟩ := World.cells?_some hcs
      obtain ⟨y, hy, hp⟩ := hone _ _ _ htr
      refine ⟨y, fun j u hu => ?_, hp⟩
      rw [← hy] at hu
      have hj : j < 3 := by rw [← hcl]; exact (List.getElem?_eq_some_iff.1 hu).1
      rw [hcc j hj]; exact hu
    refine ⟨some ad, cc, L, by rw [hcs, hL], by rw [hL]; exact hl, hm, by rw [hL]; exact hwt, fun h0 => ?_, fun y hy => ?_⟩
    · rw [List.length_map] at h0
      obtain ⟨b, o, s⟩ := ad
      obtain rfl : s = none := by
        have := (hP 0 h0).1 0 _ rfl
        simpa [Addr.add] using World.cell?_spot this
      refine ⟨b, o, rfl, fun i hi j hj => ?_⟩
      rw [List.length_map] at hi
      rw [List.getElem_map]
      have hl3 : j < (l3 (V L[i])).length := hj
      have := (hP i hi).1 j _ (List.getElem?_eq_getElem hl3)
      rw [Addr.add_mid, Addr.add_mid] at this
      rw [this, List.getElem?_eq_getElem hl3]
    · obtain ⟨i, hi, rfl⟩ := List.getElem_of_mem hy
      exact (hP i hi).2

/-- the same, of elements of one cell -/
theorem opened1 {H : Type} {enc : TypeId × Value → H} {W : World} {fuel : Nat} {v : Value} {x : DataW H × List MemPlace} {ST ET : TypeId} {X : Type} (V : X → Value) (P : X → Prop) (hu : Try.prog.underlying ST = some (.slice ET)) (hc1 : Try.prog.cellsOf ET = 1)
    (hone : ∀ (fuel : Nat) (cs : List Value) (x : DataW H × List MemPlace), DataW.trod enc Try.prog W 0 (fun _ => true) true fuel ET cs = some x → ∃ y, cs = [V y] ∧ P y)
    (h : DataW.trod enc Try.prog W 0 (fun _ => true) true fuel ST [v] = some x) (hw : ∀ m ∈ x.1.weights Try.prog ST, m ≤ reachBytes) :
    ∃ (q : Option Addr) (e : Nat) (L : List X), v = .slice q L.length e ∧ L.length ≤ e ∧ e ≤ maxLen ∧ L.length * Try.prog.bytesOf ET ≤ reachBytes ∧ GRow W q (L.map V) ∧ ∀ y ∈ L, P y := by
  rcases DataW.trod_slice hu h with ⟨hcs, hx⟩ | ⟨ad, l, cc, elems, rest, f, hfu, hcs, hx, _, hl, hm, hlen, hel, hsp, _⟩
  · simp only [List.cons.injEq, and_true] at hcs
    exact ⟨none, 0, [], by rw [hcs]; rfl, Nat.le_refl _, Nat.zero_le _, by simp, GRow.nil W none, fun y hy => by cases hy⟩
  · simp only [List.cons.injEq, and_true] at hcs
    have hwt : l * Try.prog.bytesOf ET ≤ reachBytes := by
      have := hw ((elems.length + rest.length) * Try.prog.bytesOf ET) (by rw [hx]; simp [DataW.weights, hu])
      exact Nat.le_trans (Nat.mul_le_mul_right _ (by omega)) this
    obtain ⟨L, hL, hP⟩ := list_ofG (P := fun i y => (∀ j u, ([V y])[j]? = some u → W.cell? ((ad.add (i * 1)).add j) = some u) ∧ P y) l fun i hi => by
      have he := hel i hi
      rw [hc1, List.getElem?_eq_getElem (by omega), Option.bind_eq_some_iff] at he
      obtain ⟨cs, hcs, htr⟩ := he
      obtain ⟨_, hcl, hcc⟩ := World.cells?_some hcs
      obtain ⟨y, hy, hp⟩ := hone _ _ _ htr
      refine ⟨y, fun j u hu => ?_, hp⟩
      rw [← hy] at hu
      have hj : j < 1 := by rw [← hcl]; exact (List.getElem?_eq_some_iff.1 hu).1
      rw [hcc j hj]; exact hu
    refine ⟨some ad, cc, L, by rw [hcs, hL], by rw [hL]; exact hl, hm, by rw [hL]; exact hwt, fun h0 => ?_, fun y hy => ?_⟩
    · rw [List.length_map] at h0
      obtain ⟨b, o, s⟩ := ad
      obtain rfl : s = none := by
        have := (hP 0 h0).1 0 _ rfl
        simpa [Addr.add] using World.cell?_spot this
      refine ⟨b, o, rfl, fun i hi => ?_⟩
      rw [List.length_map] at hi
      have := (hP i hi).1 0 (V L[i]) rfl
      rw [Addr.add_mid, Addr.add_mid] at this
      simp only [Nat.mul_one, Nat.add_zero] at this
      rw [this, List.getElem?_map, List.getElem?_eq_getElem hi]
      rfl
    · obtain ⟨i, hi, rfl⟩ := List.getElem_of_mem hy
      exact (hP i hi).2

/-- a slice of bytes within a unit -/
theorem open_data {H : Type} {enc : TypeId × Value → H} {W : World} {fuel : Nat} {v : Value} {x : DataW H × List MemPlace} (h : DataW.trod enc Try.prog W 0 (fun _ => true) true fuel 22 [v] = some x) (hw : ∀ m ∈ x.1.weights Try.prog 22, m ≤ reachBytes) :
    ∃ (q : Option Addr) (e : Nat) (xs : List Int), v = .slice q xs.length e ∧ Row W q xs ∧ Byt xs ∧ xs.length ≤ e ∧ e ≤ maxLen ∧ xs.length ≤ reachBytes := by
  have hr : ∀ q n c, v = .slice q n c → n * 1 ≤ reachBytes := by
    intro q n c hv
    rcases DataW.trod_slice Try.underlying22 h with ⟨hcs, hx⟩ | ⟨ad, l, cc, elems, rest, f, hfu, hcs, hx, _, hl, hm, hlen, hel, hsp, _⟩
    · simp only [List.cons.injEq, and_true] at hcs
      rw [hv] at hcs
      simp only [Value.slice.injEq] at hcs
      rw [hcs.2.1]; exact Nat.zero_le _
    · simp only [List.cons.injEq, and_true] at hcs
      rw [hv] at hcs
      simp only [Value.slice.injEq] at hcs
      have := hw ((elems.length + rest.length) * Try.prog.bytesOf 5) (by rw [hx]; simp [DataW.weights, Try.underlying22])
      rw [Try.bytes5] at this
      rw [hcs.2.1]
      omega
  rcases open_ints Try.underlying22 Try.underlying5 Try.cells5 h with ⟨hcs, hx⟩ | ⟨ad, l, cc, zs, hcs, _, hl, hm, hz, hx, hcell, hwz⟩
  · simp only [List.cons.injEq, and_true] at hcs
    exact ⟨none, 0, [], by rw [hcs]; rfl, fun h => absurd h (Nat.lt_irrefl 0), fun i => by simp, Nat.le_refl _, Nat.zero_le _, Nat.zero_le _⟩
  · simp only [List.cons.injEq, and_true] at hcs
    simp only [if_true] at hz
    have hlen : (zs.take l).length = l := by rw [List.length_take]; omega
    have hrr := hr _ _ _ hcs
    refine ⟨some ad, cc, zs.take l, by rw [hcs, hlen], fun h0 => ?_, fun i => getD_of_mem (P := fun x => 0 ≤ x ∧ x ≤ 255) (by decide) (fun x hx' => wf_u8 (hwz x (List.mem_of_mem_take hx'))) i, by omega, hm, by omega⟩
    obtain ⟨b, o, s⟩ := ad
    rw [hlen] at h0
    obtain rfl : s = none := by simpa [Addr.add] using World.cell?_spot (hcell 0 (by omega))
    exact ⟨b, o, rfl, fun i hi => by rw [hlen] at hi; rw [← Go.WideShapes.add_plain, hcell i (by omega)]; simp [List.getD, show i < l by omega]⟩

def SiF (s : Si) : Prop := i64P s.key ∧ i64P s.at_ ∧ i64P s.to_
theorem open_site {H : Type} {enc : TypeId × Value → H} {W : World} (fuel : Nat) (cs : List Value) (x : DataW H × List MemPlace) (h : DataW.trod enc Try.prog W 0 (fun _ => true) true fuel 52 cs = some x) : ∃ y, cs = l3 (siV y) ∧ SiF y := by
  obtain ⟨xs, n, rfl, hx, hlen, hxl, hf⟩ := DataW.trod_struct Try.underlying52 h
  rw [Try.cells52] at hlen
  obtain ⟨a, b, c, rfl⟩ := list_three hlen
  have f0 := hf 0
  have f1 := hf 1
  have f2 := hf 2
  simp [Try.cells3] at f0 f1 f2
  obtain ⟨x0, x1, x2, rfl⟩ := list_three (show xs.length = 3 from hxl)
  simp only [List.getElem?_cons_zero, List.getElem?_cons_succ] at f0 f1 f2
  obtain ⟨k, e0, y0, w0⟩ := DataW.trod_int Try.underlying3 f0
  obtain ⟨m, e1, y1, w1⟩ := DataW.trod_int Try.underlying3 f1
  obtain ⟨g, e2, y2, w2⟩ := DataW.trod_int Try.underlying3 f2
  simp only [List.cons.injEq, and_true] at e0 e1 e2
  subst e0 e1 e2
  exact ⟨⟨k, m, g⟩, rfl, wf_i64 w0, wf_i64 w1, wf_i64 w2⟩
theorem open_num {H : Type} {enc : TypeId × Value → H} {W : World} (fuel : Nat) (cs : List Value) (x : DataW H × List MemPlace) (h : DataW.trod enc Try.prog W 0 (fun _ => true) true fuel 3 cs = some x) : ∃ y, cs = [Value.int .i64 y] ∧ i64P y := by
  obtain ⟨k, e0, y0, w0⟩ := DataW.trod_int Try.underlying3 h
  exact ⟨k, e0, wf_i64 w0⟩
theorem open_txt {H : Type} {enc : TypeId × Value → H} {W : World} (fuel : Nat) (cs : List Value) (x : DataW H × List MemPlace) (h : DataW.trod enc Try.prog W 0 (fun _ => true) true fuel 9 cs = some x) : ∃ y, cs = [Value.string y] ∧ y.size ≤ maxLen := by
  obtain ⟨k, e0, y0, w0⟩ := DataW.trod_string Try.underlying9 h
  exact ⟨k, e0, w0⟩

theorem open_image {H : Type} {enc : TypeId × Value → H} {W : World} {fuel : Nat} {cs : List Value} {x : DataW H × List MemPlace} (h : DataW.trod enc Try.prog W 0 (fun _ => true) true fuel 27 cs = some x) (hw : ∀ m ∈ x.1.weights Try.prog 27, m ≤ reachBytes) :
    ∃ (m : IM) (pb pk ps pu : Option Addr) (cb ck cs' cu : Nat), cs = [.slice pb m.bs.length cb, .slice pk m.ks.length ck, .slice ps m.si.length cs', .slice pu m.un.length cu] ∧ ImIn W m pb pk ps pu m.bs.length cb m.ks.length ck m.si.length cs' m.un.length cu ∧
      m.bs.length ≤ reachBytes ∧ m.ks.length * 16 ≤ reachBytes ∧ m.si.length * 24 ≤ reachBytes ∧ m.un.length * 8 ≤ reachBytes := by
  obtain ⟨xs, n, rfl, hx, hlen, hxl, hf⟩ := DataW.trod_struct Try.underlying27 h
  rw [Try.cells27] at hlen
  obtain ⟨a, b, c, d, rfl⟩ := list_four hlen
  have f0 := hf 0
  have f1 := hf 1
  have f2 := hf 2
  have f3 := hf 3
  simp [Try.cells22, Try.cells23, Try.cells24, Try.cells25] at f0 f1 f2 f3
  obtain ⟨x0, x1, x2, x3, rfl⟩ := list_four (show xs.length = 4 from hxl)
  simp only [List.getElem?_cons_zero, List.getElem?_cons_succ] at f0 f1 f2 f3
  have hin : ∀ m ∈ DataW.weightsEach Try.prog [22, 23, 24, 25] [x0.1, x1.1, x2.1, x3.1], m ≤ reachBytes := by
    intro m hm
    have hd' : x.1 = .agg [x0.1, x1.1, x2.1, x3.1] := by rw [hx]; rfl
    refine hw m ?_
    rw [hd']
    simp only [DataW.weights, Try.underlying27]
    exact hm
  obtain ⟨qb, eb, bs, rfl, hb1, hb2, hb4, hb5, k1⟩ := open_data f0 fun m hm => hin m (DataW.weights_mem_each (j := 0) rfl rfl m hm)
  obtain ⟨qk, ek, K, rfl, hk0, hk1, k2, hk2, hk3⟩ := opened1 Value.string (fun s : ByteArray => s.size ≤ maxLen) Try.underlying23 Try.cells9 open_txt f1 fun m hm => hin m (DataW.weights_mem_each (j := 1) rfl rfl m hm)
  obtain ⟨qs, es, S, rfl, hs0, hs1, k3, hs2, hs3⟩ := opened3 siV SiF Try.underlying24 Try.cells52 open_site f2 fun m hm => hin m (DataW.weights_mem_each (j := 2) rfl rfl m hm)
  obtain ⟨qu, eu, U, rfl, hu0, hu1, k4, hu2, hu3⟩ := opened1 (Value.int .i64) i64P Try.underlying25 Try.cells3 open_num f3 fun m hm => hin m (DataW.weights_mem_each (j := 3) rfl rfl m hm)
  rw [Try.bytes9] at k2
  rw [Try.bytes52] at k3
  rw [Try.bytes3] at k4
  have r2 := k2
  have r3 := k3
  have r4 := k4
  simp only [reachBytes] at r2 r3 r4
  refine ⟨⟨bs, K, S, U⟩, qb, qk, qs, qu, eb, ek, es, eu, rfl, ⟨rfl, rfl, rfl, rfl, hb4, ?_, ?_, ?_, ?_, hb1, hk2, hs2, hu2, hb2, hk3, hu3⟩, k1, k2, k3, k4⟩
  · unfold maxLen at hb5; omega
  · show K.length ≤ _; omega
  · show S.length ≤ _; omega
  · show U.length ≤ _; omega

theorem weights_of {H : Type} {P : Program} {ts : List TypeId} {ds : List (DataW H)} (hsz : (DataW.weightsEach P ts ds).all (· ≤ reachBytes) = true) {j : Nat} {t : TypeId} {d : DataW H} (ht : ts[j]? = some t) (hd : ds[j]? = some d) : ∀ m ∈ d.weights P t, m ≤ reachBytes := by
  intro m hm
  have := List.all_eq_true.1 hsz m (DataW.weights_mem_each ht hd m hm)
  simpa using this


set_option maxRecDepth 20000 in
theorem open_image_val {H : Type} {enc : TypeId × Value → H} {W : World} {base : Nat} {v : Value} {d : DataW H} {p : List MemPlace} (hv : Value.okWide Try.prog W .any base 27 v)
    (h : DataW.Trod enc Try.prog W 0 (fun _ => true) true 27 v d p) {ts : List TypeId} {ds : List (DataW H)} (hsz : (DataW.weightsEach Try.prog ts ds).all (· ≤ reachBytes) = true) {j : Nat} (ht : ts[j]? = some 27) (hd : ds[j]? = some d) :
    ∃ (m : IM) (pb pk ps pu : Option Addr) (cb ck cs' cu : Nat), v = .agg (imA pb pk ps pu m.bs.length cb m.ks.length ck m.si.length cs' m.un.length cu) ∧ ImIn W m pb pk ps pu m.bs.length cb m.ks.length ck m.si.length cs' m.un.length cu ∧
      m.bs.length ≤ reachBytes ∧ m.ks.length * 16 ≤ reachBytes ∧ m.si.length * 24 ≤ reachBytes ∧ m.un.length * 8 ≤ reachBytes := by
  obtain ⟨fuel, hf⟩ := h
  simp only [Value.okWide, Try.underlying27] at hv
  obtain ⟨cs, rfl, _, _⟩ := hv
  obtain ⟨m, pb, pk, ps, pu, cb, ck, cs', cu, hc, hr⟩ := open_image hf (weights_of hsz ht hd)
  refine ⟨m, pb, pk, ps, pu, cb, ck, cs', cu, ?_, hr⟩
  have h2 : cs.toList = (imA pb pk ps pu m.bs.length cb m.ks.length ck m.si.length cs' m.un.length cu).toList := hc
  rw [Array.toList_inj.1 h2]

set_option maxRecDepth 20000 in
theorem open_bytes_val {H : Type} {enc : TypeId × Value → H} {W : World} {base : Nat} {v : Value} {d : DataW H} {p : List MemPlace} (hv : Value.okWide Try.prog W .any base 22 v)
    (h : DataW.Trod enc Try.prog W 0 (fun _ => true) true 22 v d p) {ts : List TypeId} {ds : List (DataW H)} (hsz : (DataW.weightsEach Try.prog ts ds).all (· ≤ reachBytes) = true) {j : Nat} (ht : ts[j]? = some 22) (hd : ds[j]? = some d) :
    ∃ (q : Option Addr) (e : Nat) (xs : List Int), v = .slice q xs.length e ∧ Row W q xs ∧ Byt xs ∧ xs.length ≤ e ∧ e ≤ maxLen ∧ xs.length ≤ reachBytes := by
  obtain ⟨fuel, hf⟩ := h
  have hcs : v.cells.toList = [v] := by
    obtain ⟨_, _, _, rfl⟩ := Go.WideShapes.okWide_slice Try.underlying22 hv
    rfl
  rw [hcs] at hf
  exact open_data hf (weights_of hsz ht hd)

end Go.Proofs.Ytfhjaabbfaamjaa

/- StorePuts, walked: Put answers as the reference, and its bytes are its own. -/
namespace Go.Proofs.Ytfhjaabbfaamjaa
open Go.RowKit

theorem OwnV.ownS {w : World} {B : Nat} {v : Value} {xs : List Int} (h : OwnV w B v xs) (h0 : 0 < xs.length) : ∃ g cap, v = .slice (some ⟨g, 0, none⟩) xs.length cap ∧ Own w B g cap xs ∧ B ≤ g ∧ g < w.heap.size := by
  rcases h.shape with ⟨_, rfl⟩ | ⟨g, cap, e, ho⟩
  · exact absurd h0 (by simp)
  · obtain ⟨cur, _, h2, _⟩ := ho.parts
    refine ⟨g, cap, e, ho, ho.base, ?_⟩
    rcases Nat.lt_or_ge g w.heap.size with h | h
    · exact h
    · rw [Array.getElem?_eq_none h] at h2; cases h2

set_option maxRecDepth 20000 in
set_option maxHeartbeats 4000000 in
theorem pts_yes (m : IM) (pb pk ps pu : Option Addr) (nb cb nk ck ns cs nu cu : Nat) (w : World) (h : ImIn w m pb pk ps pu nb cb nk ck ns cs nu cu) (h1 : nb ≤ 140737488355328) (h2 : nk * 16 ≤ 140737488355328) (h3 : ns ≤ 5864062014634) (h4 : nu * 8 ≤ 140737488355328) (hpb : pb = none → nb = 0 ∧ cb = 0)
    (hR : ∀ W, ImIn W m pb pk ps pu nb cb nk ck ns cs nu cu → Calls Try.prog 26 #[.agg (imA pb pk ps pu nb cb nk ck ns cs nu cu)] W fun E w' => E = .returned (.bool (okI m)) ∧ Below W.heap.size W w') (hok : okI m = true) :
    Calls Try.prog 3 #[.agg (imA pb pk ps pu nb cb nk ck ns cs nu cu)] w fun E w' => E = .returned (.bool true) ∧ Below w.heap.size w w' := by
  have HK0 : Hid (Blk (w.alloc (.cells (imA pb pk ps pu nb cb nk ck ns cs nu cu) 27)) w.heap.size 27 (imA pb pk ps pu nb cb nk ck ns cs nu cu)) := Blk.new _ _ _
  have HB0 : Hid (Below w.heap.size w (w.alloc (.cells (imA pb pk ps pu nb cb nk ck ns cs nu cu) 27))) := new_alloc _ _
  have hc := copyImage_any m pb pk ps pu nb cb nk ck ns cs nu cu _ (h.below HB0.out) h1 h2 h3 h4
  have H := Hid.in h
  have HR := Hid.in hR
  have HPB := Hid.in hpb
  have hlen := putI_len hok
  have hpos := putI_pos m
  have HRP : Hid (∀ W, Below w.heap.size w W → Calls Try.prog 9 #[.agg (imA pb pk ps pu nb cb nk ck ns cs nu cu)] W fun E w' => ∃ v, E = .returned (.tuple #[v, .int .i64 0]) ∧ OwnV w' W.heap.size v (putI m.im) ∧ Below W.heap.size W w') := fun W hW =>
    rput_yes m pb pk ps pu nb cb nk ck ns cs nu cu W (h.below hW) (fun W' hW' => hR W' ((h.below hW).below hW')) hok hpb
  obtain ⟨k0, k1, k2, k3⟩ := HK0.out.cells4
  clear h hpb hR
  go_enter Try.func3, Try.ntmps3
  go_wp2_with (go_at_call 7; refine Hid.out ?_)
  refine Lib.hid ?_
  with_reducible refine hc.mono ?_
  rintro e w1 ⟨vb, vk, vs, vu, rfl, hi, hb1⟩
  obtain ⟨qb, qk, qs, qu, db, dk, ds, du, rfl, rfl, rfl, rfl, hin, hz⟩ := hi.like H.out
  have HN1 := Hid.in (new_alloc w1 (.cells (imA qb qk qs qu nb db nk dk ns ds nu du) 27))
  have HB1 := Hid.in (below_step (below_step HB0.out hb1) HN1.out)
  have HK1 := Hid.in ((HK0.out.grow hb1).grow HN1.out)
  have HM1 := Hid.in (Blk.new w1 27 (imA qb qk qs qu nb db nk dk ns ds nu du))
  have HI1 := Hid.in (hin.below HN1.out)
  have hp := put_yes m qb qk qs qu nb db nk dk ns ds nu du (w1.alloc (.cells (imA qb qk qs qu nb db nk dk ns ds nu du) 27)) HI1.out hok hz
  have HP2 : Hid (∀ W, Below (w1.alloc (.cells (imA qb qk qs qu nb db nk dk ns ds nu du) 27)).heap.size (w1.alloc (.cells (imA qb qk qs qu nb db nk dk ns ds nu du) 27)) W → Calls Try.prog 8 #[.agg (imA qb qk qs qu nb db nk dk ns ds nu du)] W fun E w' => ∃ v, E = .returned (.tuple #[v, .int .i64 0]) ∧ OwnV w' W.heap.size v (putI m.im) ∧ Below W.heap.size W w') := fun W hW =>
    put_yes m qb qk qs qu nb db nk dk ns ds nu du W (HI1.out.below hW) hok hz
  clear hi hb1 hin hz HK0 k0 k1 k2 k3 HN1 hc
  generalize putI m.im = P at *
  obtain ⟨l0, l1, l2, l3⟩ := HM1.out.cells4
  go_wp2_with (go_at_call 8; refine Hid.out ?_)
  refine Lib.hid ?_
  with_reducible refine hp.mono ?_
  rintro e w2 ⟨v2, rfl, ho2, hb2⟩
  obtain ⟨g2, c2, rfl, ho2', hge2, hlt2⟩ := ho2.ownS hpos
  have HO2 := Hid.in ho2'
  have HC2 := Hid.in hb2
  have HB2 := Hid.in (below_step HB1.out hb2)
  have HM2 := Hid.in (HM1.out.grow hb2)
  have HK2 := Hid.in (HK1.out.grow hb2)
  have hp3 := HP2.out w2 hb2
  clear ho2 ho2' hb2 hp l0 l1 l2 l3
  obtain ⟨l0, l1, l2, l3⟩ := HM2.out.cells4
  go_wp2_with (go_at_call 8; refine Hid.out ?_)
  refine Lib.hid ?_
  with_reducible refine hp3.mono ?_
  rintro e w3 ⟨v3, rfl, ho3, hb3⟩
  obtain ⟨g3, c3, rfl, ho3', hge3, hlt3⟩ := ho3.ownS hpos
  have HO3 := Hid.in ho3'
  have HA3 := Hid.in (HO2.out.below hb3)
  have HC3 := Hid.in (below_step HC2.out hb3)
  have HB3 := Hid.in (below_step HB2.out hb3)
  have HM3 := Hid.in (HM2.out.grow hb3)
  have HK3 := Hid.in (HK2.out.grow hb3)
  have hp4 := HRP.out w3 HB3.out
  clear ho3 ho3' hb3 hp3 l0 l1 l2 l3 HO2
  obtain ⟨k0, k1, k2, k3⟩ := HK3.out.cells4
  go_wp2_with (go_at_call 9; refine Hid.out ?_)
  refine Lib.hid ?_
  with_reducible refine hp4.mono ?_
  rintro e w4 ⟨v4, rfl, ho4, hb4⟩
  obtain ⟨g4, c4, rfl, ho4', hge4, hlt4⟩ := ho4.ownS hpos
  have HO4 := Hid.in ho4'
  have HA4 := Hid.in (HA3.out.below hb4)
  have HD4 := Hid.in (HO3.out.below hb4)
  have HC4 := Hid.in (below_step HC3.out hb4)
  have HB4 := Hid.in (below_step HB3.out hb4)
  have HM4 := Hid.in (HM3.out.grow hb4)
  have HK4 := Hid.in (HK3.out.grow hb4)
  clear ho4 ho4' hb4 hp4 k0 k1 k2 k3 HA3 HO3
  generalize hNN : P.length = N at *
  have HNN := Hid.in hNN
  clear hNN
  have hsb := sameBytes_any (some ⟨g2, 0, none⟩) (some ⟨g4, 0, none⟩) N c2 N c4 P P w4 HNN.out HNN.out (by omega) HA4.out.row HO4.out.row
  rw [sameB_self] at hsb
  go_wp2_with (go_at_call 10; refine Hid.out ?_)
  refine Lib.hid ?_
  with_reducible refine hsb.mono ?_
  rintro e w5 ⟨rfl, mq, hw5⟩
  have hb5 : Below w4.heap.size w4 w5 := by rw [hw5]; exact below_draws (below_self w4) mq
  clear hw5 hsb
  have HC5 := Hid.in (below_step HC4.out hb5)
  have HB5 := Hid.in (below_step HB4.out hb5)
  have HM5 := Hid.in (HM4.out.grow hb5)
  have HK5 := Hid.in (HK4.out.grow hb5)
  obtain ⟨k0, k1, k2, k3⟩ := HK5.out.cells4
  obtain ⟨l0, l1, l2, l3⟩ := HM5.out.cells4
  have hs := sameImage_yes m qb qk qs qu pb pk ps pu nb db nk dk ns ds nu du cb ck cs cu w5 (HI1.out.below HC5.out) (H.out.below HB5.out)
  go_wp2_with (go_at_call 11; refine Hid.out ?_)
  refine Lib.hid ?_
  with_reducible refine hs.mono ?_
  rintro e w6 ⟨rfl, hb6⟩
  have HB6 := Hid.in (below_step HB5.out hb6)
  have hb46 := below_step hb5 hb6
  have HA6 := Hid.in (HA4.out.below hb46)
  have HD6 := Hid.in (HD4.out.below hb46)
  have HO6 := Hid.in (HO4.out.below hb46)
  have hsz1 := HB1.out.size
  clear hb5 hb6 hb46 hs k0 k1 k2 k3 l0 l1 l2 l3 HM5 HK5 HC5 HB5 HM4 HK4 HC4 HB4 HA4 HD4 HO4 HM3 HK3 HC3 HB3 HM2 HK2 HC2 HB2 HM1 HK1 HI1 HP2 HRP HR H HPB
  have hlt23 : g2 < w3.heap.size := by omega
  have hne3 : g2 ≠ g3 := by omega
  have hne4 : g2 ≠ g4 := by omega
  have hgw : w.heap.size ≤ g2 := by omega
  go_wp2_with fail
  go_loopw [10] (fun i wr => ∃ (k : Nat) (ya : List Int), k ≤ N ∧ i = .int .i64 k ∧ ya.length = N ∧ (∃ B, B ≤ g2 ∧ w.heap.size ≤ B ∧ Own wr B g2 c2 ya) ∧ (∃ B, g2 < B ∧ Own wr B g3 c3 P) ∧ (∃ B, g2 < B ∧ Own wr B g4 c4 P) ∧ Below w.heap.size w wr) (fun i _ => N - (intOf i).toNat)
  case atStart => exact ⟨0, P, Nat.zero_le _, rfl, HNN.out, ⟨_, hge2, hsz1, HA6.out⟩, ⟨_, hlt2, HD6.out⟩, ⟨_, hlt23, HO6.out⟩, HB6.out⟩
  case round =>
    obtain ⟨k, ya, hk, rfl, la, ⟨B2, hB2, hBw, oa⟩, ⟨B3, hB3, oc⟩, ⟨B4, hB4, ow⟩, hbr⟩ := hrel
    by_cases hlt : k < N
    · have c1 := oa.cell k (by omega)
      have f1 := oa.free k
      generalize ya.getD k 0 = z1 at *
      go_wp2
      go_roundw
      case rel => exact ⟨k + 1, ya.set k 1, by omega, by go_num, by simp [la], ⟨B2, hB2, hBw, oa.store k 1⟩, ⟨B3, hB3, oc.store_other _ _ _ (Ne.symm hne3)⟩, ⟨B4, hB4, ow.store_other _ _ _ (Ne.symm hne4)⟩, hbr.setCell hgw _⟩
      case measure => simp [intOf]; omega
    · have hown := oa.val
      rw [la] at hown
      have HLA : Hid (ya.length = N) := la
      have oc' := oc.below (new_alloc wr (.cells #[.int .u8 2, .int .u8 3, .int .u8 4] 5))
      have ow' := ow.below (new_alloc wr (.cells #[.int .u8 2, .int .u8 3, .int .u8 4] 5))
      have hbr' := below_alloc hbr (.cells #[.int .u8 2, .int .u8 3, .int .u8 4] 5)
      clear oa oc ow hbr la
      go_wp2_with (at_builtin; refine wp_push _ rfl _ _ rfl w.heap.size _ ya rfl ((OwnV.lower hown hBw).alloc _) ⟨wr.heap.size, 0, none⟩ 3 3 [2, 3, 4] rfl rfl (World.news_of_block (cs := #[.int .u8 2, .int .u8 3, .int .u8 4]) (t := 5) (fr := (0, 0)) (heap_alloc_new wr _)) (by rw [HLA.out]; omega) (by have := hbr'.size; exact this) ?_; intro v1 x1 hown1 hgrow hbel1 _; have hX1 := hbel1 w hbr'; have oc1 : Own x1 B3 g3 c3 P := own_kept oc' hgrow hB3; have ow1 : Own x1 B4 g4 c4 P := own_kept ow' hgrow hB4; obtain ⟨p1, n1, k1, rfl, hn1, -, -⟩ := hown1.sl; rw [List.length_append, HLA.out] at hn1; clear hown1 hgrow hbel1 oc' ow' hbr')
      have hn2 : 2 < n1 := by simp at hn1; omega
      have hn3 : decide ((2 : Int) < (n1 : Int)) = true := decide_eq_true (by omega)
      clear hn1
      go_wp2_with (go_at_call 10; refine Hid.out ?_)
      refine Lib.hid ?_
      refine (sameBytes_any _ _ N c3 N c4 P P _ HNN.out HNN.out (by omega) oc1.row ow1.row).mono ?_
      rw [sameB_self]
      rintro e y1 ⟨rfl, m1, hy1⟩
      have hb9 : Below w.heap.size w y1 := by rw [hy1]; exact below_draws hX1 m1
      clear hy1 oc1 ow1 hX1
      go_wp2_with (go_at_call 12; refine Hid.out ?_)
      refine Lib.hid ?_
      refine (awake_any _).mono ?_
      rintro e y2 ⟨rfl, hb10⟩
      go_wp2_with fail
      go_ret
      exact ⟨rfl, below_step hb9 hb10⟩
end Go.Proofs.Ytfhjaabbfaamjaa

/- StorePuts, walked, whatever image. -/
namespace Go.Proofs.Ytfhjaabbfaamjaa
open Go.RowKit

set_option maxRecDepth 20000 in
set_option maxHeartbeats 4000000 in
theorem pts_no (m : IM) (pb pk ps pu : Option Addr) (nb cb nk ck ns cs nu cu : Nat) (w : World) (h : ImIn w m pb pk ps pu nb cb nk ck ns cs nu cu) (h1 : nb ≤ 140737488355328) (h2 : nk * 16 ≤ 140737488355328) (h3 : ns ≤ 5864062014634) (h4 : nu * 8 ≤ 140737488355328) (hok : okI m = false) :
    Calls Try.prog 3 #[.agg (imA pb pk ps pu nb cb nk ck ns cs nu cu)] w fun E w' => E = .returned (.bool true) ∧ Below w.heap.size w w' := by
  have HK0 : Hid (Blk (w.alloc (.cells (imA pb pk ps pu nb cb nk ck ns cs nu cu) 27)) w.heap.size 27 (imA pb pk ps pu nb cb nk ck ns cs nu cu)) := Blk.new _ _ _
  have HB0 : Hid (Below w.heap.size w (w.alloc (.cells (imA pb pk ps pu nb cb nk ck ns cs nu cu) 27))) := new_alloc _ _
  have hc := copyImage_any m pb pk ps pu nb cb nk ck ns cs nu cu _ (h.below HB0.out) h1 h2 h3 h4
  have H := Hid.in h
  have HRP : Hid (∀ W, Below w.heap.size w W → Calls Try.prog 9 #[.agg (imA pb pk ps pu nb cb nk ck ns cs nu cu)] W fun E w' => E = .returned (.tuple #[.slice none 0 0, .int .i64 2]) ∧ Below W.heap.size W w') := fun W hW =>
    rput_no m pb pk ps pu nb cb nk ck ns cs nu cu W (fun W' hW' => rightR_any m pb pk ps pu nb cb nk ck ns cs nu cu W' ((h.below hW).below hW')) hok
  obtain ⟨k0, k1, k2, k3⟩ := HK0.out.cells4
  clear h
  go_enter Try.func3, Try.ntmps3
  go_wp2_with (go_at_call 7; refine Hid.out ?_)
  refine Lib.hid ?_
  with_reducible refine hc.mono ?_
  rintro e w1 ⟨vb, vk, vs, vu, rfl, hi, hb1⟩
  obtain ⟨qb, qk, qs, qu, db, dk, ds, du, rfl, rfl, rfl, rfl, hin, hz⟩ := hi.like H.out
  have HN1 := Hid.in (new_alloc w1 (.cells (imA qb qk qs qu nb db nk dk ns ds nu du) 27))
  have HB1 := Hid.in (below_step (below_step HB0.out hb1) HN1.out)
  have HK1 := Hid.in ((HK0.out.grow hb1).grow HN1.out)
  have HM1 := Hid.in (Blk.new w1 27 (imA qb qk qs qu nb db nk dk ns ds nu du))
  have HI1 := Hid.in (hin.below HN1.out)
  have hp := put_no m qb qk qs qu nb db nk dk ns ds nu du (w1.alloc (.cells (imA qb qk qs qu nb db nk dk ns ds nu du) 27)) HI1.out hok
  have HP2 : Hid (∀ W, Below (w1.alloc (.cells (imA qb qk qs qu nb db nk dk ns ds nu du) 27)).heap.size (w1.alloc (.cells (imA qb qk qs qu nb db nk dk ns ds nu du) 27)) W → Calls Try.prog 8 #[.agg (imA qb qk qs qu nb db nk dk ns ds nu du)] W fun E w' => E = .returned (.tuple #[.slice none 0 0, .int .i64 2]) ∧ Below W.heap.size W w') := fun W hW =>
    put_no m qb qk qs qu nb db nk dk ns ds nu du W (HI1.out.below hW) hok
  clear hi hb1 hin hz HK0 k0 k1 k2 k3 HN1 hc
  obtain ⟨l0, l1, l2, l3⟩ := HM1.out.cells4
  go_wp2_with (go_at_call 8; refine Hid.out ?_)
  refine Lib.hid ?_
  with_reducible refine hp.mono ?_
  rintro e w2 ⟨rfl, hb2⟩
  have HC2 := Hid.in hb2
  have HB2 := Hid.in (below_step HB1.out hb2)
  have HM2 := Hid.in (HM1.out.grow hb2)
  have HK2 := Hid.in (HK1.out.grow hb2)
  have hp3 := HP2.out w2 hb2
  clear hb2 hp l0 l1 l2 l3
  obtain ⟨l0, l1, l2, l3⟩ := HM2.out.cells4
  go_wp2_with (go_at_call 8; refine Hid.out ?_)
  refine Lib.hid ?_
  with_reducible refine hp3.mono ?_
  rintro e w3 ⟨rfl, hb3⟩
  have HC3 := Hid.in (below_step HC2.out hb3)
  have HB3 := Hid.in (below_step HB2.out hb3)
  have HM3 := Hid.in (HM2.out.grow hb3)
  have HK3 := Hid.in (HK2.out.grow hb3)
  have hp4 := HRP.out w3 HB3.out
  clear hb3 hp3 l0 l1 l2 l3
  obtain ⟨k0, k1, k2, k3⟩ := HK3.out.cells4
  go_wp2_with (go_at_call 9; refine Hid.out ?_)
  refine Lib.hid ?_
  with_reducible refine hp4.mono ?_
  rintro e w4 ⟨rfl, hb4⟩
  have HC4 := Hid.in (below_step HC3.out hb4)
  have HB4 := Hid.in (below_step HB3.out hb4)
  have HM4 := Hid.in (HM3.out.grow hb4)
  have HK4 := Hid.in (HK3.out.grow hb4)
  clear hb4 hp4 k0 k1 k2 k3
  have HSB : Hid (∀ W, Calls Try.prog 10 #[.slice none 0 0, .slice none 0 0] W fun e w' => e = .returned (.bool true) ∧ ∃ m, w' = W.drewN m) := fun W => by
    have := sameBytes_any none none 0 0 0 0 [] [] W rfl rfl (by omega) (fun h => absurd h (by simp)) (fun h => absurd h (by simp))
    rw [sameB_self] at this
    exact this
  go_wp2_with (go_at_call 10; refine Hid.out ?_)
  refine Lib.hid ?_
  with_reducible refine (HSB.out w4).mono ?_
  rintro e w5 ⟨rfl, mq, hw5⟩
  have hb5 : Below w4.heap.size w4 w5 := by rw [hw5]; exact below_draws (below_self w4) mq
  clear hw5
  have HC5 := Hid.in (below_step HC4.out hb5)
  have HB5 := Hid.in (below_step HB4.out hb5)
  have HM5 := Hid.in (HM4.out.grow hb5)
  have HK5 := Hid.in (HK4.out.grow hb5)
  obtain ⟨k0, k1, k2, k3⟩ := HK5.out.cells4
  obtain ⟨l0, l1, l2, l3⟩ := HM5.out.cells4
  have hs := sameImage_yes m qb qk qs qu pb pk ps pu nb db nk dk ns ds nu du cb ck cs cu w5 (HI1.out.below HC5.out) (H.out.below HB5.out)
  go_wp2_with (go_at_call 11; refine Hid.out ?_)
  refine Lib.hid ?_
  with_reducible refine hs.mono ?_
  rintro e w6 ⟨rfl, hb6⟩
  have HB6 := Hid.in (below_step HB5.out hb6)
  clear hb5 hb6 hs k0 k1 k2 k3 l0 l1 l2 l3 HM5 HK5 HC5 HB5 HM4 HK4 HC4 HB4 HM3 HK3 HC3 HB3 HM2 HK2 HC2 HB2 HM1 HK1 HI1 HP2 HRP H
  go_wp2_with fail
  go_loopw [10] (fun i wr => i = .int .i64 0 ∧ Below w.heap.size w wr) (fun _ _ => 0)
  case atStart => exact ⟨rfl, HB6.out⟩
  case round =>
    obtain ⟨rfl, hbr⟩ := hrel
    have hbr' := below_alloc hbr (.cells #[.int .u8 2, .int .u8 3, .int .u8 4] 5)
    clear hbr
    go_wp2_with (at_builtin; refine wp_push _ rfl _ _ rfl w.heap.size _ [] rfl (OwnV.nil _ _) ⟨wr.heap.size, 0, none⟩ 3 3 [2, 3, 4] rfl rfl (World.news_of_block (cs := #[.int .u8 2, .int .u8 3, .int .u8 4]) (t := 5) (fr := (0, 0)) (heap_alloc_new wr _)) (by decide) (by have := hbr'.size; exact this) ?_; intro v1 x1 hown1 hgrow hbel1 _; have hX1 := hbel1 w hbr'; obtain ⟨p1, n1, k1, rfl, hn1, -, -⟩ := hown1.sl; clear hown1 hgrow hbel1 hbr')
    have hn2 : 2 < n1 := by simp at hn1; omega
    have hn3 : decide ((2 : Int) < (n1 : Int)) = true := decide_eq_true (by omega)
    clear hn1
    go_wp2_with (go_at_call 10; refine Hid.out ?_)
    refine Lib.hid ?_
    refine (HSB.out _).mono ?_
    rintro e y1 ⟨rfl, m1, hy1⟩
    have hb9 : Below w.heap.size w y1 := by rw [hy1]; exact below_draws hX1 m1
    clear hy1 hX1
    go_wp2_with (go_at_call 12; refine Hid.out ?_)
    refine Lib.hid ?_
    refine (awake_any _).mono ?_
    rintro e y2 ⟨rfl, hb10⟩
    go_wp2_with fail
    go_ret
    exact ⟨rfl, below_step hb9 hb10⟩

theorem puts_walk (m : IM) (pb pk ps pu : Option Addr) (nb cb nk ck ns cs nu cu : Nat) (w : World) (h : ImIn w m pb pk ps pu nb cb nk ck ns cs nu cu) (h1 : nb ≤ 140737488355328) (h2 : nk * 16 ≤ 140737488355328) (h3 : ns ≤ 5864062014634) (h4 : nu * 8 ≤ 140737488355328) (hpb : pb = none → nb = 0 ∧ cb = 0) :
    Calls Try.prog 3 #[.agg (imA pb pk ps pu nb cb nk ck ns cs nu cu)] w fun E w' => E = .returned (.bool true) ∧ Below w.heap.size w w' := by
  cases hok : okI m
  · exact pts_no m pb pk ps pu nb cb nk ck ns cs nu cu w h h1 h2 h3 h4 hok
  · exact pts_yes m pb pk ps pu nb cb nk ck ns cs nu cu w h h1 h2 h3 h4 hpb (fun W hW => rightR_any m pb pk ps pu nb cb nk ck ns cs nu cu W hW) hok

/-- a nil slice of bytes in an image that came in has neither length nor capacity -/
theorem image_nil {H : Type} {enc : TypeId × Value → H} {W : World} {d : DataW H} {p : List MemPlace} {pb pk ps pu : Option Addr} {nb cb nk ck ns cs nu cu : Nat}
    (h : DataW.Trod enc Try.prog W 0 (fun _ => true) true 27 (.agg (imA pb pk ps pu nb cb nk ck ns cs nu cu)) d p) : pb = none → nb = 0 ∧ cb = 0 := by
  obtain ⟨fuel, hf⟩ := h
  have hf' : DataW.trod enc Try.prog W 0 (fun _ => true) true fuel 27 [.slice pb nb cb, .slice pk nk ck, .slice ps ns cs, .slice pu nu cu] = some (d, p) := hf
  obtain ⟨xs, n, rfl, hx, hlen, hxl, hg⟩ := DataW.trod_struct Try.underlying27 hf'
  have f0 := hg 0
  simp [Try.cells22] at f0
  obtain ⟨x0, x1, x2, x3, rfl⟩ := list_four (show xs.length = 4 from hxl)
  simp only [List.getElem?_cons_zero] at f0
  rintro rfl
  rcases DataW.trod_slice Try.underlying22 f0 with ⟨hcs, -⟩ | ⟨ad, l, cc, elems, rest, f, hfu, hcs, -⟩
  · simp only [List.cons.injEq, and_true, Value.slice.injEq, true_and] at hcs
    exact hcs
  · simp at hcs
end Go.Proofs.Ytfhjaabbfaamjaa

namespace Go.Proofs.Ytfhjaabbfaamjaa
open Go.ChangeShapes Go.WideShapes Go.ChangeAt Go.RowKit
open Go.ChangeMaps (open_string shut_string)

set_option maxRecDepth 100000 in
theorem storePuts_lifted (os : Os) (started : os.Started) (H : Type) (enc : TypeId × Value → H) :
    ReturnsInHanded {} Try.checked os 3 .any (Rows.storePutsSpec.pre6 enc Try.prog Try.f3 Rows.storePutsRow.domain false) (Rows.storePutsSpec.post enc Try.prog Try.f3 false true false false) := by
  refine returnsInHanded_of_change_sized (C := Try.checked) Try.own started (by kernel_rfl) Try.func3
    (ChangeSpec.witness6 (enc := enc) (C := Try.checked) false ⟨#[], #[.agg nil4], []⟩ 8 (by kernel_rfl) (by kernel_rfl) (by kernel_rfl) (by kernel_rfl)) ?_
  intro W base args ds gs before hval0 hW hcnd hsz0 _
  have hW' := hW
  obtain ⟨p, q, hA0, hV, rfl, hfz, hnd⟩ := hW
  have hA : DataW.TrodAll enc Try.prog W 0 (fun _ => true) true Try.f3.params.toList args.toList ds p := hA0
  have hval : ∀ (j : Nat) t v, Try.f3.params[j]? = some t → args[j]? = some v → Value.okWide Try.prog W .any base t v := hval0
  have hsz : (DataW.weightsEach Try.prog (Try.f3.params.toList ++ Rows.storePutsSpec.plain.varTypes Try.prog) (ds ++ gs)).all (· ≤ reachBytes) = true := hsz0
  rw [Try.params3] at hA hval hsz
  obtain ⟨v0, vs0, d0, ds0, p0, q0_, hargs, rfl, rfl, h0, r0⟩ := trodAll_cons hA
  obtain ⟨rfl, rfl, rfl⟩ := trodAll_nil r0
  obtain rfl : args = #[v0] := by cases args; simp_all
  obtain ⟨rfl, rfl⟩ := trodVars_none hV
  have k0 := h0
  have lt0 : ∀ x ∈ p0, x.block < W.heap.size := by obtain ⟨m, hm⟩ := k0; exact DataW.trod_lt m _ _ _ hm
  obtain ⟨m0, pb0, pk0, ps0, pu0, cb0, ck0, cs0, cu0, rfl, hin0, h10, h20, h30, h40⟩ := open_image_val (hval 0 27 v0 rfl rfl) h0 hsz (j := 0) rfl rfl
  refine (puts_walk m0 pb0 pk0 ps0 pu0 m0.bs.length cb0 m0.ks.length ck0 m0.si.length cs0 m0.un.length cu0 W hin0 (by simp only [reachBytes] at h10; omega) (by simp only [reachBytes] at h20; omega) (by simp only [reachBytes] at h30; omega) (by simp only [reachBytes] at h40; omega) (image_nil k0)).mono fun e W' ⟨he, bel⟩ => ?_
  subst he
  exact ⟨_, rfl, _, _, _, [], _, [], hW', trodAll_mk1 (shut_bool Try.underlying4 _), (trodAll_cons_mk (Below.trod Try.laidOut (by kernel_rfl) (of_decide_eq_true (by kernel_rfl)) k0 bel lt0) trodAll_mk0), rfl, bel.frame _, fun h => by cases h⟩

theorem storePuts_holds : Rows.StorePutsSaid :=
  OpenClaim.holds_of_wide 3 Try.f3 rfl rfl rfl rfl rfl rfl rfl ⟨rfl, rfl, rfl, rfl, rfl⟩ rfl rfl rfl rfl rfl (by kernel_rfl) Try.func3 (by kernel_rfl)
    (of_decide_eq_true (by kernel_rfl)) (by unfold Func.isWrapper; first | (rw [if_pos (by decide +kernel)]; kernel_rfl) | (rw [if_neg (by decide +kernel)]; exact ⟨rfl, rfl⟩))
    (fun os started H enc _ => storePuts_lifted os started H enc)
#print axioms storePuts_holds

end Go.Proofs.Ytfhjaabbfaamjaa
