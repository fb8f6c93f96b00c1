/- How the law's Case (an instruction, a place, bytes) that came in by value is opened. -/
import Derived.Test.YtdbpeigcnhhpmaaOpenR
namespace Go.Proofs.Ytdbpeigcnhhpmaa
open Go.ChangeShapes Go.WideShapes Go.ChangeAt Go.RowKit

theorem Try.cells24 : Try.prog.cellsOf 24 = 4 := by kernel_rfl
theorem Try.cells22 : Try.prog.cellsOf 22 = 1 := by kernel_rfl
theorem Try.cells21 : Try.prog.cellsOf 21 = 1 := by kernel_rfl
theorem Try.cells26 : Try.prog.cellsOf 26 = 1 := by kernel_rfl
theorem Try.cells28 : Try.prog.cellsOf 28 = 6 := by kernel_rfl

theorem list_three {X : Type} {l : List X} (h : l.length = 3) : ∃ a b c, l = [a, b, c] := by
  match l, h with
  | [a, b, c], _ => exact ⟨a, b, c, rfl⟩
theorem list_four {X : Type} {l : List X} (h : l.length = 4) : ∃ a b c d, l = [a, b, c, d] := by
  match l, h with
  | [a, b, c, d], _ => exact ⟨a, b, c, d, rfl⟩
theorem list_six {X : Type} {l : List X} (h : l.length = 6) : ∃ a b c d e f, l = [a, b, c, d, e, f] := by
  match l, h with
  | [a, b, c, d, e, f], _ => exact ⟨a, b, c, d, e, f, rfl⟩

/-- a slice of bytes within it -/
theorem open_data {H : Type} {enc : TypeId × Value → H} {W : World} {fuel : Nat} {v : Value} {x : DataW H × List MemPlace} (h : DataW.trod enc Try.prog W 0 (fun _ => true) true fuel 26 [v] = some x) (hw : ∀ m ∈ x.1.weights Try.prog 26, m ≤ reachBytes) :
    ∃ (q : Option Addr) (e : Nat) (xs : List Int), v = .slice q xs.length e ∧ Row W q xs ∧ Byt xs ∧ xs.length ≤ e ∧ e ≤ maxLen ∧ xs.length ≤ reachBytes := by
  have hr : ∀ q n c, v = .slice q n c → n * 1 ≤ reachBytes := by
    intro q n c hv
    rcases DataW.trod_slice Try.underlying26 h with ⟨hcs, hx⟩ | ⟨ad, l, cc, elems, rest, f, hfu, hcs, hx, _, hl, hm, hlen, hel, hsp, _⟩
    · simp only [List.cons.injEq, and_true] at hcs
      rw [hv] at hcs
      simp only [Value.slice.injEq] at hcs
      rw [hcs.2.1]; exact Nat.zero_le _
    · simp only [List.cons.injEq, and_true] at hcs
      rw [hv] at hcs
      simp only [Value.slice.injEq] at hcs
      have := hw ((elems.length + rest.length) * Try.prog.bytesOf 5) (by rw [hx]; simp [DataW.weights, Try.underlying26])
      rw [Try.bytes5] at this
      rw [hcs.2.1]
      omega
  rcases open_ints Try.underlying26 Try.underlying5 Try.cells5 h with ⟨hcs, hx⟩ | ⟨ad, l, cc, zs, hcs, _, hl, hm, hz, hx, hcell, hwz⟩
  · simp only [List.cons.injEq, and_true] at hcs
    exact ⟨none, 0, [], by rw [hcs]; rfl, fun h => absurd h (Nat.lt_irrefl 0), fun i => by simp, Nat.le_refl _, Nat.zero_le _, Nat.zero_le _⟩
  · simp only [List.cons.injEq, and_true] at hcs
    simp only [if_true] at hz
    have hlen : (zs.take l).length = l := by rw [List.length_take]; omega
    have hrr := hr _ _ _ hcs
    refine ⟨some ad, cc, zs.take l, by rw [hcs, hlen], fun h0 => ?_, fun i => getD_of_mem (P := fun x => 0 ≤ x ∧ x ≤ 255) (by decide) (fun x hx' => wf_u8 (hwz x (List.mem_of_mem_take hx'))) i, by omega, hm, by omega⟩
    obtain ⟨b, o, s⟩ := ad
    rw [hlen] at h0
    obtain rfl : s = none := by simpa [Addr.add] using World.cell?_spot (hcell 0 (by omega))
    exact ⟨b, o, rfl, fun i hi => by rw [hlen] at hi; rw [← Go.WideShapes.add_plain, hcell i (by omega)]; simp [List.getD, show i < l by omega]⟩

set_option maxRecDepth 20000 in
theorem open_case {H : Type} {enc : TypeId × Value → H} {W : World} {fuel : Nat} {cs : List Value} {x : DataW H × List MemPlace} (h : DataW.trod enc Try.prog W 0 (fun _ => true) true fuel 28 cs = some x) (hw : ∀ m ∈ x.1.weights Try.prog 28, m ≤ reachBytes) :
    ∃ (o a b : Nat) (n pc : Int) (q : Option Addr) (e : Nat) (D : List Int), cs = [.int .u8 o, .int .u8 a, .int .u8 b, .int .i32 n, .int .u32 pc, .slice q D.length e] ∧ (o ≤ 255 ∧ a ≤ 255 ∧ b ≤ 255) ∧ (-2147483648 ≤ n ∧ n ≤ 2147483647) ∧ (0 ≤ pc ∧ pc ≤ 4294967295) ∧ Row W q D ∧ Byt D ∧ D.length ≤ e ∧ e ≤ maxLen ∧ D.length ≤ reachBytes := by
  obtain ⟨xs, n, rfl, hx, hlen, hxl, hf⟩ := DataW.trod_struct Try.underlying28 h
  rw [Try.cells28] at hlen
  obtain ⟨a0, a1, a2, a3, a4, a5, rfl⟩ := list_six hlen
  have f0 := hf 0
  have f1 := hf 1
  have f2 := hf 2
  simp [Try.cells24, Try.cells25, Try.cells26] at f0 f1 f2
  obtain ⟨x0, x1, x2, rfl⟩ := list_three (show xs.length = 3 from hxl)
  simp only [List.getElem?_cons_zero, List.getElem?_cons_succ] at f0 f1 f2
  have hin : ∀ m ∈ DataW.weightsEach Try.prog [24, 25, 26] [x0.1, x1.1, x2.1], m ≤ reachBytes := by
    intro m hm
    have hd' : x.1 = .agg [x0.1, x1.1, x2.1] := by rw [hx]; rfl
    refine hw m ?_
    rw [hd']
    simp only [DataW.weights, Try.underlying28]
    exact hm
  obtain ⟨q, e, D, rfl, k1, k2, k3, k4, k5⟩ := open_data f2 fun m hm => hin m (DataW.weights_mem_each (j := 2) rfl rfl m hm)
  obtain ⟨pc, e1, _, w1⟩ := DataW.trod_int Try.underlying25 f1
  obtain ⟨ys, m', rfl, _, _, hyl, hg⟩ := DataW.trod_struct Try.underlying24 f0
  have g0 := hg 0
  have g1 := hg 1
  have g2 := hg 2
  have g3 := hg 3
  simp [Try.cells22, Try.cells5, Try.cells21] at g0 g1 g2 g3
  obtain ⟨y0, y1, y2, y3, rfl⟩ := list_four (show ys.length = 4 from hyl)
  simp only [List.getElem?_cons_zero, List.getElem?_cons_succ] at g0 g1 g2 g3
  obtain ⟨o, i0, _, v0⟩ := DataW.trod_int Try.underlying22 g0
  obtain ⟨a, i1, _, v1⟩ := DataW.trod_int Try.underlying5 g1
  obtain ⟨b, i2, _, v2⟩ := DataW.trod_int Try.underlying5 g2
  obtain ⟨nn, i3, _, v3⟩ := DataW.trod_int Try.underlying21 g3
  simp only [List.cons.injEq, and_true] at e1 i0 i1 i2 i3
  subst e1 i0 i1 i2 i3
  have b0 := wf_u8 v0
  have b1 := wf_u8 v1
  have b2 := wf_u8 v2
  obtain ⟨o', rfl⟩ := Int.eq_ofNat_of_zero_le b0.1
  obtain ⟨a', rfl⟩ := Int.eq_ofNat_of_zero_le b1.1
  obtain ⟨b', rfl⟩ := Int.eq_ofNat_of_zero_le b2.1
  exact ⟨o', a', b', nn, pc, q, e, D, rfl, ⟨by omega, by omega, by omega⟩, wf_i32 v3, wf_u32 w1, k1, k2, k3, k4, k5⟩

theorem open_case_val {H : Type} {enc : TypeId × Value → H} {W : World} {base : Nat} {v : Value} {d : DataW H} {p : List MemPlace} (hv : Value.okWide Try.prog W .any base 28 v)
    (h : DataW.Trod enc Try.prog W 0 (fun _ => true) true 28 v d p) {ts : List TypeId} {ds : List (DataW H)} (hsz : (DataW.weightsEach Try.prog ts ds).all (· ≤ reachBytes) = true) {j : Nat} (ht : ts[j]? = some 28) (hd : ds[j]? = some d) :
    ∃ (o a b : Nat) (n pc : Int) (q : Option Addr) (e : Nat) (D : List Int), v = .agg #[.int .u8 o, .int .u8 a, .int .u8 b, .int .i32 n, .int .u32 pc, .slice q D.length e] ∧ (o ≤ 255 ∧ a ≤ 255 ∧ b ≤ 255) ∧ (-2147483648 ≤ n ∧ n ≤ 2147483647) ∧ (0 ≤ pc ∧ pc ≤ 4294967295) ∧ Row W q D ∧ Byt D ∧ D.length ≤ e ∧ e ≤ maxLen ∧ D.length ≤ reachBytes := by
  obtain ⟨fuel, hf⟩ := h
  simp only [Value.okWide, Try.underlying28] at hv
  obtain ⟨cs, rfl, _, _⟩ := hv
  obtain ⟨o, a, b, n, pc, q, e, D, hc, hr⟩ := open_case hf (weights_of hsz ht hd)
  refine ⟨o, a, b, n, pc, q, e, D, ?_, hr⟩
  have h2 : cs.toList = (#[.int .u8 o, .int .u8 a, .int .u8 b, .int .i32 n, .int .u32 pc, .slice q D.length e] : Array Value).toList := hc
  rw [Array.toList_inj.1 h2]

end Go.Proofs.Ytdbpeigcnhhpmaa
