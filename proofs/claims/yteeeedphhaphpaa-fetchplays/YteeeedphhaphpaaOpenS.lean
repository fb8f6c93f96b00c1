/- How slices of bytes and a script that came in are opened, of every size that an argument may have. -/
import Derived.Test.YteeeedphhaphpaaLinL
import Derived.Test.YteeeedphhaphpaaBlk
import Derived.Test.YteeeedphhaphpaaOpen
import Derived.Test.YteeeedphhaphpaaWhoL
import Derived.Deep.Grids
import Derived.SizedLaws
namespace Go.Proofs.Yteeeedphhaphpaa
open Go.ChangeShapes Go.WideShapes Go.ChangeAt Go.RowKit

theorem Try.cells3 : Try.prog.cellsOf 3 = 1 := by kernel_rfl
theorem Try.cells4 : Try.prog.cellsOf 4 = 1 := by kernel_rfl
theorem Try.cells24 : Try.prog.cellsOf 24 = 1 := by kernel_rfl
theorem Try.cells30 : Try.prog.cellsOf 30 = 1 := by kernel_rfl
theorem Try.cells48 : Try.prog.cellsOf 48 = 4 := by kernel_rfl
theorem Try.bytes4 : Try.prog.bytesOf 4 = 1 := by kernel_rfl
theorem Try.bytes48 : Try.prog.bytesOf 48 = 40 := by kernel_rfl

theorem list_four {X : Type} {l : List X} (h : l.length = 4) : ∃ a b c d, l = [a, b, c, d] := by
  match l, h with
  | [a, b, c, d], _ => exact ⟨a, b, c, d, rfl⟩
theorem list_ofG {X : Type} {P : Nat → X → Prop} : ∀ n, (∀ i, i < n → ∃ x, P i x) → ∃ xs : List X, xs.length = n ∧ ∀ i (h : i < xs.length), P i xs[i]
  | 0, _ => ⟨[], rfl, fun i h => absurd h (by simp)⟩
  | n + 1, h => by
    obtain ⟨xs, hl, hx⟩ := list_ofG n fun i hi => h i (by omega)
    obtain ⟨x, hp⟩ := h n (by omega)
    refine ⟨xs ++ [x], by simp [hl], fun i hi => ?_⟩
    by_cases hin : i < xs.length
    · rw [List.getElem_append_left hin]; exact hx i hin
    · have : i = n := by simp at hi; omega
      subst this
      rw [List.getElem_append_right (by omega)]
      simp [hl]
      exact hp

/-- a slice of bytes that came in -/
structure Sl (w : World) (p : Option Addr) (c : Nat) (xs : List Int) : Prop where
  row : Row w p xs
  le : xs.length ≤ c
  cm : c ≤ 9223372036854775807
  nil : p = none → c = 0
/-- a slice of bytes -/
theorem open_data {H : Type} {enc : TypeId × Value → H} {W : World} {fuel : Nat} {v : Value} {x : DataW H × List MemPlace} (h : DataW.trod enc Try.prog W 0 (fun _ => true) true fuel 24 [v] = some x) (hw : ∀ m ∈ x.1.weights Try.prog 24, m ≤ reachBytes) :
    ∃ (q : Option Addr) (e : Nat) (xs : List Int), v = .slice q xs.length e ∧ Sl W q e xs ∧ Byt xs ∧ xs.length ≤ 140737488351232 := by
  have hr : ∀ q n c, v = .slice q n c → n * 1 ≤ reachBytes := by
    intro q n c hv
    rcases DataW.trod_slice Try.underlying24 h with ⟨hcs, hx⟩ | ⟨ad, l, cc, elems, rest, f, hfu, hcs, hx, _, hl, hm, hlen, hel, hsp, _⟩
    · simp only [List.cons.injEq, and_true] at hcs
      rw [hv] at hcs
      simp only [Value.slice.injEq] at hcs
      rw [hcs.2.1]; exact Nat.zero_le _
    · simp only [List.cons.injEq, and_true] at hcs
      rw [hv] at hcs
      simp only [Value.slice.injEq] at hcs
      have := hw ((elems.length + rest.length) * Try.prog.bytesOf 5) (by rw [hx]; simp [DataW.weights, Try.underlying24])
      rw [Try.bytes5] at this
      rw [hcs.2.1]
      omega
  rcases open_ints Try.underlying24 Try.underlying5 Try.cells5 h with ⟨hcs, hx⟩ | ⟨ad, l, cc, zs, hcs, _, hl, hm, hz, hx, hcell, hwz⟩
  · simp only [List.cons.injEq, and_true] at hcs
    exact ⟨none, 0, [], by rw [hcs]; rfl, ⟨fun h => absurd h (Nat.lt_irrefl 0), Nat.le_refl _, by decide, fun _ => rfl⟩, fun i => by simp, by decide⟩
  · simp only [List.cons.injEq, and_true] at hcs
    simp only [if_true] at hz
    have hlen : (zs.take l).length = l := by rw [List.length_take]; omega
    have hrr := hr _ _ _ hcs
    simp only [reachBytes] at hrr
    unfold maxLen at hm
    refine ⟨some ad, cc, zs.take l, by rw [hcs, hlen], ⟨fun h0 => ?_, by omega, by omega, fun e => by cases e⟩, fun i => getD_of_mem (P := fun x => 0 ≤ x ∧ x ≤ 255) (by decide) (fun x hx' => wf_u8 (hwz x (List.mem_of_mem_take hx'))) i, by omega⟩
    obtain ⟨b, o, s⟩ := ad
    rw [hlen] at h0
    obtain rfl : s = none := by simpa [Addr.add] using World.cell?_spot (hcell 0 (by omega))
    exact ⟨b, o, rfl, fun i hi => by rw [hlen] at hi; rw [← Go.WideShapes.add_plain, hcell i (by omega)]; simp [List.getD, show i < l by omega]⟩

/-- a row of a script -/
structure OpD where
  kind : Int
  pc : Nat
  hold : Bool
  r : Option Addr
  d : Nat
  ys : List Int
abbrev opL (x : OpD) : List Value := [.int .i64 x.kind, .int .u32 x.pc, .bool x.hold, .slice x.r x.ys.length x.d]
structure OpW (W : World) (x : OpD) : Prop where
  row : Row W x.r x.ys
  byt : Byt x.ys
  len : x.ys.length ≤ 140737488351232
  le : x.ys.length ≤ x.d
  dm : x.d ≤ 9223372036854775807
  pm : x.pc ≤ 4294967295
/-- a script in memory -/
def Scr (w : World) (p : Option Addr) (L : List OpD) : Prop := 0 < L.length → ∃ b o, p = some ⟨b, o, none⟩ ∧ ∀ i y, L[i]? = some y → (w.cell? ⟨b, o + i * 4, none⟩ = some (.int .i64 y.kind) ∧ w.cell? ⟨b, o + i * 4 + 1, none⟩ = some (.int .u32 y.pc) ∧ w.cell? ⟨b, o + i * 4 + 2, none⟩ = some (.bool y.hold) ∧ w.cell? ⟨b, o + i * 4 + 3, none⟩ = some (.slice y.r y.ys.length y.d)) ∧ OpW w y

theorem open_op {H : Type} {enc : TypeId × Value → H} {W : World} {fuel : Nat} {cs : List Value} {x : DataW H × List MemPlace} (h : DataW.trod enc Try.prog W 0 (fun _ => true) true fuel 48 cs = some x) (hw : ∀ m ∈ x.1.weights Try.prog 48, m ≤ reachBytes) :
    ∃ y : OpD, cs = opL y ∧ OpW W y := by
  obtain ⟨xs, n, rfl, hx, hlen, hxl, hf⟩ := DataW.trod_struct Try.underlying48 h
  rw [Try.cells48] at hlen
  obtain ⟨a, b, c, d, rfl⟩ := list_four hlen
  have f0 := hf 0
  have f1 := hf 1
  have f2 := hf 2
  have f3 := hf 3
  simp [Try.cells3, Try.cells4, Try.cells24, Try.cells30] at f0 f1 f2 f3
  obtain ⟨x0, x1, x2, x3, rfl⟩ := list_four (show xs.length = 4 from hxl)
  simp only [List.getElem?_cons_zero, List.getElem?_cons_succ] at f0 f1 f2 f3
  have hin : ∀ m ∈ DataW.weightsEach Try.prog [3, 30, 4, 24] [x0.1, x1.1, x2.1, x3.1], m ≤ reachBytes := by
    intro m hm
    have hd' : x.1 = .agg [x0.1, x1.1, x2.1, x3.1] := by rw [hx]; rfl
    refine hw m ?_
    rw [hd']
    simp only [DataW.weights, Try.underlying48]
    exact hm
  obtain ⟨k0, e0, y0, w0⟩ := DataW.trod_int Try.underlying3 f0
  obtain ⟨k1, e1, y1, w1⟩ := DataW.trod_int Try.underlying30 f1
  obtain ⟨k2, e2, y2⟩ := DataW.trod_bool Try.underlying4 f2
  obtain ⟨qb, eb, bs, rfl, hs, hb, hl⟩ := open_data f3 fun m hm => hin m (DataW.weights_mem_each (j := 3) rfl rfl m hm)
  simp only [List.cons.injEq, and_true] at e0 e1 e2
  subst e0 e1 e2
  have hu := wf_u32 w1
  obtain ⟨n1, rfl⟩ := Int.eq_ofNat_of_zero_le hu.1
  exact ⟨⟨k0, n1, k2, qb, eb, bs⟩, rfl, hs.row, hb, hl, hs.le, hs.cm, by show n1 ≤ 4294967295; omega⟩

theorem weights_all {H : Type} {P : Program} {e : TypeId} : ∀ {l : List (DataW H)} {i : Nat} {d : DataW H} {m : Nat}, l[i]? = some d → m ∈ d.weights P e → m ∈ DataW.weightsAll P e l
  | c :: l, 0, d, m, h, hm => by
    simp only [List.getElem?_cons_zero, Option.some.injEq] at h
    subst h
    simp only [DataW.weightsAll]
    exact List.mem_append_left _ hm
  | c :: l, i + 1, d, m, h, hm => by
    simp only [List.getElem?_cons_succ] at h
    simp only [DataW.weightsAll]
    exact List.mem_append_right _ (weights_all h hm)

/-- a script -/
theorem open_script {H : Type} {enc : TypeId × Value → H} {W : World} {fuel : Nat} {v : Value} {x : DataW H × List MemPlace} (h : DataW.trod enc Try.prog W 0 (fun _ => true) true fuel 46 [v] = some x) (hw : ∀ m ∈ x.1.weights Try.prog 46, m ≤ reachBytes) :
    ∃ (q : Option Addr) (e : Nat) (L : List OpD), v = .slice q L.length e ∧ L.length ≤ 9223372036854775807 ∧ Scr W q L := by
  rcases DataW.trod_slice Try.underlying46 h with ⟨hcs, hx⟩ | ⟨ad, l, cc, elems, rest, f, hfu, hcs, hx, _, hl, hm, hlen, hel, hsp, _⟩
  · simp only [List.cons.injEq, and_true] at hcs
    exact ⟨none, 0, [], by rw [hcs]; rfl, by decide, fun h => absurd h (by simp)⟩
  · simp only [List.cons.injEq, and_true] at hcs
    have hwi : ∀ i (hi : i < elems.length), ∀ m ∈ elems[i].1.weights Try.prog 48, m ≤ reachBytes := by
      intro i hi m hm
      refine hw m ?_
      rw [hx]
      simp only [DataW.weights, Try.underlying46]
      refine List.mem_cons_of_mem _ (List.mem_append_left _ (weights_all (i := i) ?_ hm))
      rw [List.getElem?_map, List.getElem?_eq_getElem hi]; rfl
    obtain ⟨L, hL, hP⟩ := list_ofG (P := fun i (y : OpD) => (∀ j u, (opL y)[j]? = some u → W.cell? ((ad.add (i * 4)).add j) = some u) ∧ OpW W y) l fun i hi => by
      have he := hel i hi
      rw [Try.cells48, List.getElem?_eq_getElem (by omega), Option.bind_eq_some_iff] at he
      obtain ⟨cs, hcs, htr⟩ := he
      obtain ⟨_, hcl, hcc⟩ := World.cells?_some hcs
      obtain ⟨y, hy, hp⟩ := open_op htr (hwi i (by omega))
      refine ⟨y, fun j u hu => ?_, hp⟩
      rw [← hy] at hu
      have hj : j < 4 := by rw [← hcl]; exact (List.getElem?_eq_some_iff.1 hu).1
      rw [hcc j hj]; exact hu
    unfold maxLen at hm
    refine ⟨some ad, cc, L, by rw [hcs, hL], by omega, fun h0 => ?_⟩
    obtain ⟨b, o, s⟩ := ad
    obtain rfl : s = none := by
      have := (hP 0 h0).1 0 _ rfl
      simpa [Addr.add] using World.cell?_spot this
    refine ⟨b, o, rfl, fun i y hy => ?_⟩
    obtain ⟨hi, rfl⟩ := List.getElem?_eq_some_iff.1 hy
    obtain ⟨hc, hW⟩ := hP i hi
    have g0 := hc 0 _ rfl
    have g1 := hc 1 _ rfl
    have g2 := hc 2 _ rfl
    have g3 := hc 3 _ rfl
    rw [Addr.add_mid, Addr.add_mid] at g0 g1 g2 g3
    exact ⟨⟨g0, g1, g2, g3⟩, hW⟩

theorem weights_of {H : Type} {P : Program} {ts : List TypeId} {ds : List (DataW H)} (hsz : (DataW.weightsEach P ts ds).all (· ≤ reachBytes) = true) {j : Nat} {t : TypeId} {d : DataW H} (ht : ts[j]? = some t) (hd : ds[j]? = some d) : ∀ m ∈ d.weights P t, m ≤ reachBytes := by
  intro m hm
  have := List.all_eq_true.1 hsz m (DataW.weights_mem_each ht hd m hm)
  simpa using this

set_option maxRecDepth 20000 in
theorem open_bytes_val {H : Type} {enc : TypeId × Value → H} {W : World} {base : Nat} {v : Value} {d : DataW H} {p : List MemPlace} (hv : Value.okWide Try.prog W .any base 24 v)
    (h : DataW.Trod enc Try.prog W 0 (fun _ => true) true 24 v d p) {ts : List TypeId} {ds : List (DataW H)} (hsz : (DataW.weightsEach Try.prog ts ds).all (· ≤ reachBytes) = true) {j : Nat} (ht : ts[j]? = some 24) (hd : ds[j]? = some d) :
    ∃ (q : Option Addr) (e : Nat) (xs : List Int), v = .slice q xs.length e ∧ Sl W q e xs ∧ Byt xs ∧ xs.length ≤ 140737488351232 := by
  obtain ⟨fuel, hf⟩ := h
  have hcs : v.cells.toList = [v] := by
    obtain ⟨_, _, _, rfl⟩ := Go.WideShapes.okWide_slice Try.underlying24 hv
    rfl
  rw [hcs] at hf
  exact open_data hf (weights_of hsz ht hd)

set_option maxRecDepth 20000 in
theorem open_script_val {H : Type} {enc : TypeId × Value → H} {W : World} {base : Nat} {v : Value} {d : DataW H} {p : List MemPlace} (hv : Value.okWide Try.prog W .any base 46 v)
    (h : DataW.Trod enc Try.prog W 0 (fun _ => true) true 46 v d p) {ts : List TypeId} {ds : List (DataW H)} (hsz : (DataW.weightsEach Try.prog ts ds).all (· ≤ reachBytes) = true) {j : Nat} (ht : ts[j]? = some 46) (hd : ds[j]? = some d) :
    ∃ (q : Option Addr) (e : Nat) (L : List OpD), v = .slice q L.length e ∧ L.length ≤ 9223372036854775807 ∧ Scr W q L := by
  obtain ⟨fuel, hf⟩ := h
  have hcs : v.cells.toList = [v] := by
    obtain ⟨_, _, _, rfl⟩ := Go.WideShapes.okWide_slice Try.underlying46 hv
    rfl
  rw [hcs] at hf
  exact open_script hf (weights_of hsz ht hd)

set_option maxRecDepth 20000 in
/-- a list of flags -/
theorem open_flags_val {H : Type} {enc : TypeId × Value → H} {W : World} {base : Nat} {v : Value} {d : DataW H} {p : List MemPlace} (hv : Value.okWide Try.prog W .any base 56 v)
    (h : DataW.Trod enc Try.prog W 0 (fun _ => true) true 56 v d p) {ts : List TypeId} {ds : List (DataW H)} (hsz : (DataW.weightsEach Try.prog ts ds).all (· ≤ reachBytes) = true) {j : Nat} (ht : ts[j]? = some 56) (hd : ds[j]? = some d) :
    ∃ (q : Option Addr) (e : Nat) (hs : List Bool), v = .slice q hs.length e ∧ hs.length ≤ 140737488351232 ∧ BRow W q hs := by
  obtain ⟨fuel, hf⟩ := h
  have hcs : v.cells.toList = [v] := by
    obtain ⟨_, _, _, rfl⟩ := Go.WideShapes.okWide_slice Try.underlying56 hv
    rfl
  rw [hcs] at hf
  have hw := weights_of hsz ht hd
  have hr : ∀ q n c, v = .slice q n c → n * 1 ≤ reachBytes := by
    intro q n c hv
    rcases DataW.trod_slice Try.underlying56 hf with ⟨hcs, hx⟩ | ⟨ad, l, cc, elems, rest, f, hfu, hcs, hx, _, hl, hm, hlen, hel, hsp, _⟩
    · simp only [List.cons.injEq, and_true] at hcs
      rw [hv] at hcs
      simp only [Value.slice.injEq] at hcs
      rw [hcs.2.1]; exact Nat.zero_le _
    · simp only [List.cons.injEq, and_true] at hcs
      rw [hv] at hcs
      simp only [Value.slice.injEq] at hcs
      have := hw ((elems.length + rest.length) * Try.prog.bytesOf 4) (by
        have hx1 : d = _ := congrArg Prod.fst hx
        rw [hx1]; simp [DataW.weights, Try.underlying56])
      rw [Try.bytes4] at this
      rw [hcs.2.1]
      omega
  rcases Go.Deep.open_bools Try.underlying56 Try.underlying4 Try.cells4 hf with ⟨hcs, hx⟩ | ⟨ad, l, cc, B, hcs, _, hl, hm, hx, hcell⟩
  · simp only [List.cons.injEq, and_true] at hcs
    exact ⟨none, 0, [], by rw [hcs]; rfl, by decide, fun h => absurd h (Nat.lt_irrefl 0)⟩
  · simp only [List.cons.injEq, and_true] at hcs
    have hrr := hr _ _ _ hcs
    simp only [reachBytes] at hrr
    have hlen : ((List.range l).map B).length = l := by simp
    refine ⟨some ad, cc, (List.range l).map B, by rw [hcs, hlen], by rw [hlen]; omega, fun h0 => ?_⟩
    obtain ⟨b, o, s⟩ := ad
    rw [hlen] at h0
    obtain rfl : s = none := by simpa [Addr.add] using World.cell?_spot (hcell 0 (by omega))
    exact ⟨b, o, rfl, fun i hi => by rw [hlen] at hi; rw [← Go.WideShapes.add_plain, hcell i (by omega)]; simp [List.getD, hi]⟩

end Go.Proofs.Yteeeedphhaphpaa
