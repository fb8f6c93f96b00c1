/-
  Proved here: the law PokeBounded (switchyardlaw19) answers true for every input, and each argument reads afterwards as it read before. No condition of ours: the row's own reach alone (each slice and text takes at most 2^47 - 4096 bytes).
-/
import Derived.Test.YtekggimgobeggaaOpen
import Derived.Test.YtekggimgobeggaaFlg
import Derived.Test.YtekggimgobeggaaGp
import Derived.Deep.Grids
import Derived.SizedLaws
import Derived.Test.YtekggimgobeggaaGq
import Derived.Test.YtekggimgobeggaaGe
import Derived.Test.YtekggimgobeggaaGd
import Derived.Test.YtekggimgobeggaaGc
import Derived.Test.YtekggimgobeggaaGb
import Derived.Test.YtekggimgobeggaaQPick
import Derived.Deep.DeepCutAuto

/- How a list of numbers and one of flags that came in are opened, of every size that an argument may have. -/
namespace Go.Proofs.Ytekggimgobeggaa
open Go.ChangeShapes Go.WideShapes Go.ChangeAt Go.RowKit

theorem Try.cells3qb : Try.prog.cellsOf 3 = 1 := by kernel_rfl
theorem Try.cells4b : Try.prog.cellsOf 4 = 1 := by kernel_rfl
theorem Try.bytes4b : Try.prog.bytesOf 4 = 1 := by kernel_rfl
theorem Try.bytes3b : Try.prog.bytesOf 3 = 8 := by kernel_rfl
theorem list_ofGb {X : Type} {P : Nat → X → Prop} : ∀ n, (∀ i, i < n → ∃ x, P i x) → ∃ xs : List X, xs.length = n ∧ ∀ i (h : i < xs.length), P i xs[i]
  | 0, _ => ⟨[], rfl, fun i h => absurd h (by simp)⟩
  | n + 1, h => by
    obtain ⟨xs, hl, hx⟩ := list_ofGb n fun i hi => h i (by omega)
    obtain ⟨x, hp⟩ := h n (by omega)
    refine ⟨xs ++ [x], by simp [hl], fun i hi => ?_⟩
    by_cases hin : i < xs.length
    · rw [List.getElem_append_left hin]; exact hx i hin
    · have : i = n := by simp at hi; omega
      subst this
      rw [List.getElem_append_right (by omega)]
      simp [hl]
      exact hp

theorem weights_ofb {H : Type} {P : Program} {ts : List TypeId} {ds : List (DataW H)} (hsz : (DataW.weightsEach P ts ds).all (· ≤ reachBytes) = true) {j : Nat} {t : TypeId} {d : DataW H} (ht : ts[j]? = some t) (hd : ds[j]? = some d) : ∀ m ∈ d.weights P t, m ≤ reachBytes := by
  intro m hm
  have := List.all_eq_true.1 hsz m (DataW.weights_mem_each ht hd m hm)
  simpa using this
/-- a list of flags -/
theorem open_flagsb {H : Type} {enc : TypeId × Value → H} {W : World} {fuel : Nat} {v : Value} {x : DataW H × List MemPlace} (hf : DataW.trod enc Try.prog W 0 (fun _ => true) true fuel 39 [v] = some x) (hw : ∀ m ∈ x.1.weights Try.prog 39, m ≤ reachBytes) :
    ∃ (q : Option Addr) (e : Nat) (hs : List Bool), v = .slice q hs.length e ∧ hs.length ≤ 140737488351232 ∧ hs.length ≤ e ∧ e ≤ 9223372036854775807 ∧ BRow W q hs ∧ (q = none → e = 0) := by
  have hr : ∀ q n c, v = .slice q n c → n * 1 ≤ reachBytes := by
    intro q n c hv
    rcases DataW.trod_slice Try.underlying39 hf with ⟨hcs, hx⟩ | ⟨ad, l, cc, elems, rest, f, hfu, hcs, hx, _, hl, hm, hlen, hel, hsp, _⟩
    · simp only [List.cons.injEq, and_true] at hcs
      rw [hv] at hcs
      simp only [Value.slice.injEq] at hcs
      rw [hcs.2.1]; exact Nat.zero_le _
    · simp only [List.cons.injEq, and_true] at hcs
      rw [hv] at hcs
      simp only [Value.slice.injEq] at hcs
      have := hw ((elems.length + rest.length) * Try.prog.bytesOf 4) (by
        have hx1 : x.1 = _ := congrArg Prod.fst hx
        rw [hx1]; simp [DataW.weights, Try.underlying39])
      rw [Try.bytes4b] at this
      rw [hcs.2.1]
      omega
  rcases Go.Deep.open_bools Try.underlying39 Try.underlying4 Try.cells4b hf with ⟨hcs, hx⟩ | ⟨ad, l, cc, B, hcs, _, hl, hm, hx, hcell⟩
  · simp only [List.cons.injEq, and_true] at hcs
    exact ⟨none, 0, [], by rw [hcs]; rfl, by decide, Nat.le_refl _, by decide, fun h => absurd h (Nat.lt_irrefl 0), fun _ => rfl⟩
  · simp only [List.cons.injEq, and_true] at hcs
    have hrr := hr _ _ _ hcs
    simp only [reachBytes] at hrr
    unfold maxLen at hm
    have hlen : ((List.range l).map B).length = l := by simp
    refine ⟨some ad, cc, (List.range l).map B, by rw [hcs, hlen], by rw [hlen]; omega, by rw [hlen]; omega, by omega, fun h0 => ?_, fun h => by cases h⟩
    obtain ⟨b, o, s⟩ := ad
    rw [hlen] at h0
    obtain rfl : s = none := by simpa [Addr.add] using World.cell?_spot (hcell 0 (by omega))
    exact ⟨b, o, rfl, fun i hi => by rw [hlen] at hi; rw [← Go.WideShapes.add_plain, hcell i (by omega)]; simp [List.getD, hi]⟩
/-- a slice of elements of one cell -/
theorem opened1 {H : Type} {enc : TypeId × Value → H} {W : World} {fuel : Nat} {v : Value} {x : DataW H × List MemPlace} {ST ET : TypeId} {X : Type} (V : X → Value) (P : X → Prop) (hu : Try.prog.underlying ST = some (.slice ET)) (hc1 : Try.prog.cellsOf ET = 1)
    (hone : ∀ (fuel : Nat) (cs : List Value) (x : DataW H × List MemPlace), DataW.trod enc Try.prog W 0 (fun _ => true) true fuel ET cs = some x → ∃ y, cs = [V y] ∧ P y)
    (h : DataW.trod enc Try.prog W 0 (fun _ => true) true fuel ST [v] = some x) (hw : ∀ m ∈ x.1.weights Try.prog ST, m ≤ reachBytes) :
    ∃ (q : Option Addr) (e : Nat) (L : List X), v = .slice q L.length e ∧ L.length ≤ e ∧ e ≤ maxLen ∧ L.length * Try.prog.bytesOf ET ≤ reachBytes ∧ GRow W q (L.map V) ∧ ∀ y ∈ L, P y := by
  rcases DataW.trod_slice hu h with ⟨hcs, hx⟩ | ⟨ad, l, cc, elems, rest, f, hfu, hcs, hx, _, hl, hm, hlen, hel, hsp, _⟩
  · simp only [List.cons.injEq, and_true] at hcs
    exact ⟨none, 0, [], by rw [hcs]; rfl, Nat.le_refl _, Nat.zero_le _, by simp, GRow.nil W none, fun y hy => by cases hy⟩
  · simp only [List.cons.injEq, and_true] at hcs
    have hwt : l * Try.prog.bytesOf ET ≤ reachBytes := by
      have := hw ((elems.length + rest.length) * Try.prog.bytesOf ET) (by rw [hx]; simp [DataW.weights, hu])
      exact Nat.le_trans (Nat.mul_le_mul_right _ (by omega)) this
    obtain ⟨L, hL, hP⟩ := list_ofGb (P := fun i y => (∀ j u, ([V y])[j]? = some u → W.cell? ((ad.add (i * 1)).add j) = some u) ∧ P y) l fun i hi => by
      have he := hel i hi
      rw [hc1, List.getElem?_eq_getElem (by omega), Option.bind_eq_some_iff] at he
      obtain ⟨cs, hcs, htr⟩ := he
      obtain ⟨_, hcl, hcc⟩ := World.cells?_some hcs
      obtain ⟨y, hy, hp⟩ := hone _ _ _ htr
      refine ⟨y, fun j u hu => ?_, hp⟩
      rw [← hy] at hu
      have hj : j < 1 := by rw [← hcl]; exact (List.getElem?_eq_some_iff.1 hu).1
      rw [hcc j hj]; exact hu
    refine ⟨some ad, cc, L, by rw [hcs, hL], by rw [hL]; exact hl, hm, by rw [hL]; exact hwt, fun h0 => ?_, fun y hy => ?_⟩
    · rw [List.length_map] at h0
      obtain ⟨b, o, s⟩ := ad
      obtain rfl : s = none := by
        have := (hP 0 h0).1 0 _ rfl
        simpa [Addr.add] using World.cell?_spot this
      refine ⟨b, o, rfl, fun i hi => ?_⟩
      rw [List.length_map] at hi
      have := (hP i hi).1 0 (V L[i]) rfl
      rw [Addr.add_mid, Addr.add_mid] at this
      simp only [Nat.mul_one, Nat.add_zero] at this
      rw [this, List.getElem?_map, List.getElem?_eq_getElem hi]
      rfl
    · obtain ⟨i, hi, rfl⟩ := List.getElem_of_mem hy
      exact (hP i hi).2

theorem open_numb {H : Type} {enc : TypeId × Value → H} {W : World} (fuel : Nat) (cs : List Value) (x : DataW H × List MemPlace) (h : DataW.trod enc Try.prog W 0 (fun _ => true) true fuel 3 cs = some x) : ∃ y, cs = [Value.int .i64 y] ∧ True := by
  obtain ⟨k, e0, y0, w0⟩ := DataW.trod_int Try.underlying3 h
  exact ⟨k, e0, trivial⟩
set_option maxRecDepth 20000 in
theorem open_ints_val {H : Type} {enc : TypeId × Value → H} {W : World} {base : Nat} {v : Value} {d : DataW H} {p : List MemPlace} (hv : Value.okWide Try.prog W .any base 102 v)
    (h : DataW.Trod enc Try.prog W 0 (fun _ => true) true 102 v d p) {ts : List TypeId} {ds : List (DataW H)} (hsz : (DataW.weightsEach Try.prog ts ds).all (· ≤ reachBytes) = true) {j : Nat} (ht : ts[j]? = some 102) (hd : ds[j]? = some d) :
    ∃ (q : Option Addr) (n e : Nat) (zs : List Int), v = .slice q n e ∧ zs.length = n ∧ n ≤ 140737488355328 ∧ n ≤ e ∧ GRow W q (numZ zs) := by
  obtain ⟨fuel, hf⟩ := h
  have hcs : v.cells.toList = [v] := by
    obtain ⟨_, _, _, rfl⟩ := Go.WideShapes.okWide_slice Try.underlying102 hv
    rfl
  rw [hcs] at hf
  obtain ⟨q, e, L, hv', hl, hm, hb, hr, -⟩ := opened1 (Value.int .i64) (fun _ => True) Try.underlying102 Try.cells3qb open_numb hf (weights_ofb hsz ht hd)
  rw [Try.bytes3b] at hb
  simp only [reachBytes] at hb
  exact ⟨q, L.length, e, L, hv', rfl, by omega, hl, hr⟩
set_option maxRecDepth 20000 in
theorem open_flags_val {H : Type} {enc : TypeId × Value → H} {W : World} {base : Nat} {v : Value} {d : DataW H} {p : List MemPlace} (hv : Value.okWide Try.prog W .any base 39 v)
    (h : DataW.Trod enc Try.prog W 0 (fun _ => true) true 39 v d p) {ts : List TypeId} {ds : List (DataW H)} (hsz : (DataW.weightsEach Try.prog ts ds).all (· ≤ reachBytes) = true) {j : Nat} (ht : ts[j]? = some 39) (hd : ds[j]? = some d) :
    ∃ (q : Option Addr) (e : Nat) (hs : List Bool), v = .slice q hs.length e ∧ hs.length ≤ 9223372036854775807 ∧ hs.length ≤ e ∧ BRow W q hs := by
  obtain ⟨fuel, hf⟩ := h
  have hcs : v.cells.toList = [v] := by
    obtain ⟨_, _, _, rfl⟩ := Go.WideShapes.okWide_slice Try.underlying39 hv
    rfl
  rw [hcs] at hf
  obtain ⟨q, e, L, hv', hl, hle, -, hr, -⟩ := open_flagsb hf (weights_ofb hsz ht hd)
  exact ⟨q, e, L, hv', by omega, hle, hr⟩
end Go.Proofs.Ytekggimgobeggaa

/- PokeBounded: the walk. -/
namespace Go.Proofs.Ytekggimgobeggaa
open Go.RowKit Go.Sort

abbrev stZ2 : Array Value := #[.slice none 0 0, .int .i64 0, .slice none 0 0, .int .u8 0, .int .u8 0, .slice none 0 0, .slice none 0 0, .int .i64 0, .bool false, .int .i64 0, .int .i64 0, .int .i64 0, .int .i64 0, .int .i64 0]
theorem blk_second2 (w : World) (T U : TypeId) (c d : Array Value) : Blk ((w.alloc (.cells c T)).alloc (.cells d U)) (w.heap.size + 1) U d := by
  have hb := Blk.new (w.alloc (.cells c T)) U d
  rw [size_one] at hb
  exact hb
theorem pkN_small (k : Nat) (h : k < 9) : pkN (k : Int) 9 = k := by
  unfold pkN
  rcases (by omega : k = 0 ∨ k = 1 ∨ k = 2 ∨ k = 3 ∨ k = 4 ∨ k = 5 ∨ k = 6 ∨ k = 7 ∨ k = 8) with rfl | rfl | rfl | rfl | rfl | rfl | rfl | rfl | rfl <;> rfl
theorem BRow.take8 {w : World} {p : Option Addr} {RS : List Bool} (h : BRow w p RS) : BRow w p (RS.take 8) := fun h0 => by
  rw [List.length_take] at h0
  obtain ⟨b, o, e, hc⟩ := h (by omega)
  refine ⟨b, o, e, fun i hi => ?_⟩
  rw [List.length_take] at hi
  rw [hc i (by omega)]
  congr 2
  simp only [List.getD_eq_getElem?_getD, List.getElem?_take]
  rw [if_pos (by omega)]
structure OU (b : List Int) (T : List Si) (nR u : Nat) (s : PS) : Prop where
  ph : s.ph = 0
  bt : s.bt = []
  fl : s.fs.length = nR
  ov : ovr s.fs = true
  wr : s.wr = 0
  ok : POk s ((u * 2001 : Nat) : Int)
  xl : s.xs.length = b.length
  off : ∀ i, (∀ j (hj : j < T.length), i < T[j].at_.toNat ∨ T[j].at_.toNat + 5 ≤ i) → s.xs[i]? = b[i]?
theorem wp_region_sinkL {P : Program} {Q : Exit → Act → World → Prop} (is ex : List Nat) (m : Nat) (ps : List Oper) {id : Nat} {a : Act} {w : World} {l : List Oper} (hm : P.follows .mixedOrders = true) (hs : Region.noSelect l.toArray = true)
    (hn : (l.length == ps.length + m) = true) (hi : is.length = ps.length) (hps : ps.map some = is.map fun i => l[i]?) (hp : ps.all plainOp = true)
    (hB : pickUp .any l.toArray ex is (Array.replicate l.length false) = true) (hQ : ∀ c a d v w, Q (.panic c) (Act.put a d v) w → Q (.panic c) a w)
    (h : wpQuiet P l.toArray (fun w' => ∃ p : Regrown, w' = grow (redrawn w p.d) p.os) (fun a' => ∀ w', (∃ p : Regrown, w' = grow (redrawn w p.d) p.os) → wpAnyG P .any l.toArray Q (fun w' => ∃ p : Regrown, w' = grow (redrawn w p.d) p.os) ex m (picked is (Array.replicate l.length false)) a' w') ps a) :
    (Code.region id l.toArray true).wp P Q a w := by
  refine wp_region_pick (fun w' => ∃ p : Regrown, w' = grow (redrawn w p.d) p.os) is ex m ps hm hs hn hi (fun j hj => ?_) hp hB hQ ⟨⟨w.drawn + 1, #[]⟩, by rw [grow_empty]; rfl⟩ h
  have e := congrArg (fun z => z[j]?) hps
  simp only [List.getElem?_map] at e
  rw [List.getElem?_eq_getElem hj] at e ⊢
  simp only [Option.map_some] at e
  have hj' : j < is.length := by omega
  rw [List.getElem?_eq_getElem hj'] at e ⊢
  simp only [Option.map_some, Option.some.injEq] at e
  simp only [Option.bind_some, List.getElem?_toArray]
  exact e
/-- the same, the operations read off the region -/
theorem wp_region_sinkF {P : Program} {Q : Exit → Act → World → Prop} (is ex : List Nat) (m : Nat) {id : Nat} {a : Act} {w : World} {l : List Oper} (hm : P.follows .mixedOrders = true) (hs : Region.noSelect l.toArray = true)
    (hn : (l.length == (is.filterMap fun i => l[i]?).length + m) = true) (hi : is.length = (is.filterMap fun i => l[i]?).length) (hps : (is.filterMap fun i => l[i]?).map some = is.map fun i => l[i]?) (hp : (is.filterMap fun i => l[i]?).all plainOp = true)
    (hB : pickUp .any l.toArray ex is (Array.replicate l.length false) = true) (hQ : ∀ c a d v w, Q (.panic c) (Act.put a d v) w → Q (.panic c) a w)
    (h : wpQuiet P l.toArray (fun w' => ∃ p : Regrown, w' = grow (redrawn w p.d) p.os) (fun a' => ∀ w', (∃ p : Regrown, w' = grow (redrawn w p.d) p.os) → wpAnyG P .any l.toArray Q (fun w' => ∃ p : Regrown, w' = grow (redrawn w p.d) p.os) ex m (picked is (Array.replicate l.length false)) a' w') (is.filterMap fun i => l[i]?) a) :
    (Code.region id l.toArray true).wp P Q a w := wp_region_sinkL is ex m _ hm hs hn hi hps hp hB hQ h
theorem Row.at0 {w : World} {g : Nat} {xs : List Int} (h : Row w (some ⟨g, 0, none⟩) xs) (i : Nat) (hi : i < xs.length) : w.cell? ⟨g, i, none⟩ = some (.int .u8 (xs.getD i 0)) := by
  obtain ⟨b, o, e, hc⟩ := h (by omega)
  injection e with e
  injection e with e1 e2
  subst e1 e2
  have := hc i hi
  rwa [Nat.zero_add] at this
theorem POk.flags {s : PS} {M : Int} (h : POk s M) (fs : List Bool) : POk { s with fs := fs } M := ⟨h.ph, h.nx, h.w1, h.w2, h.c1, h.c2, h.c3, h.c4, h.n, h.xl⟩
theorem OU.new (b : List Int) (T : List Si) (nR : Nat) (h : b.length ≤ 248) : OU b T nR 0 (newP b (List.replicate nR false) 0) :=
  ⟨rfl, rfl, by show (List.replicate nR false).length = nR; simp, by show ovr (List.replicate nR false) = true; unfold ovr; simp, rfl, ⟨Nat.zero_le 6, Nat.zero_le 6, Nat.zero_le 0, fun _ => rfl, ⟨Int.le_refl 0, Int.le_refl 0⟩, ⟨Int.le_refl 0, Int.le_refl 0⟩, ⟨Int.le_refl 0, Int.le_refl 0⟩, ⟨Int.le_refl 0, Int.le_refl 0⟩, ⟨Int.le_refl 0, Int.le_refl 0⟩, by show b.length ≤ 65536; omega⟩, rfl, fun _ _ => rfl⟩
set_option maxRecDepth 20000 in
set_option maxHeartbeats 16000000 in
theorem bounded_walk (p : Option Addr) (n c : Nat) (Z : List Int) (rp : Option Addr) (rc : Nat) (RS : List Bool) (lp : Option Addr) (ln lc : Nat) (LZ : List Int) (w : World) (hZ : Z.length = n) (hn : n ≤ 140737488355328) (hnc : n ≤ c) (hr : GRow w p (numZ Z)) (hrc : RS.length ≤ rc) (hrm : RS.length ≤ 9223372036854775807) (hrr : BRow w rp RS) (hL : LZ.length = ln) (hlm : ln ≤ 9223372036854775807) (hlr : GRow w lp (numZ LZ)) :
    Calls Try.prog 6 #[.slice p n c, .slice rp RS.length rc, .slice lp ln lc] w fun E w' => E = .returned (.bool true) ∧ Below w.heap.size w w' := by
  have HI := Hid.in (ima_any p n c Z w hZ hn hnc hr)
  have HR := Hid.in hrr
  have HL := Hid.in hL
  have HLR := Hid.in hlr
  clear hZ hn hnc hr hrr hL hlr
  go_enter Try.func6, Try.ntmps6
  go_wp2_with (go_at_call 35; refine Hid.out ?_)
  refine Lib.hid ?_
  (with_reducible refine HI.out.mono ?_)
  rintro e w1 ⟨pb, cb, ps, cs, b, T, rfl, hcb, hrb, hby, hrs, hps, hT, hb1⟩
  have HRB := Hid.in hrb
  have HRS := Hid.in hrs
  have HT := Hid.in hT
  have HPS := Hid.in hps
  have HB1 := Hid.in hb1
  have HR1 := Hid.in (HR.out.below hb1)
  have HBY := Hid.in hby
  clear hrb hrs hT hps hb1 hby HI
  have HRR := Hid.in (BRow.take8 HR1.out)
  have HN8 : Hid ((RS.take 8).length ≤ 8) := by show _ ≤ _; rw [List.length_take]; omega
  have hR8 : (RS.length ≤ 8 → (RS.take 8).length = RS.length) ∧ (8 < RS.length → (RS.take 8).length = 8) := by rw [List.length_take]; omega
  generalize RS.take 8 = R at *
  obtain ⟨nR, hnR⟩ : ∃ nR, R.length = nR := ⟨_, rfl⟩
  have HNR := Hid.in hnR
  rw [hnR] at hR8 HN8
  clear hnR HR HR1
  go_upto_region 2 with fail
  go_upto_if 38 with fail
  go_cut [1] (fun v wx => v = .slice rp nR rc ∧ wx = w1)
  case first =>
    by_cases h8 : (8 : Int) < (RS.length : Int)
    · have g0 : decide ((8 : Int) < (RS.length : Int)) = true := decide_eq_true h8
      have g1 : (8 : Int) ≤ (rc : Int) := by omega
      have e8 : nR = 8 := hR8.2 (by omega)
      subst e8
      go_wp2_with fail
      go_meet
      case rel => exact ⟨rfl, rfl⟩
    · have g0 : decide ((8 : Int) < (RS.length : Int)) = false := decide_eq_false h8
      have e8 : nR = RS.length := hR8.1 (by omega)
      subst e8
      go_wp2_with fail
      go_meet
      case rel => exact ⟨rfl, rfl⟩
  case rest =>
    obtain ⟨rfl, rfl⟩ := hcut
    clear hR8 hrc hrm
    generalize wc = W0 at *
    have hb248 := HT.out.nb
    have hmk := made_any pb b.length cb b nR W0 rfl (by omega) hcb HRB.out
    go_wp2_with (go_at_call 20; refine Hid.out ?_)
    refine Lib.hid ?_
    (with_reducible refine hmk.mono ?_)
    rintro e w2 ⟨k, mq, mg, rq, pq, bq, bv, g, hk, hk9, rfl, hpa, hbv, -, hb⟩
    rw [pkN_small nR (by have := HN8.out; omega)] at hk
    subst k
    rw [List.take_of_length_le (by omega)] at hpa
    obtain ⟨vp, vc, rfl, -, -, -⟩ := hbv.sliceC
    have HPA := Hid.in hpa
    have HB2 := Hid.in hb
    clear hmk hpa hbv hb
    have HZ1 : Hid (Blk ((w2.alloc (.cells #[.pointer none, .pointer none, .pointer none] 26)).alloc (.cells stZ2 66)) w2.heap.size 26 #[.pointer none, .pointer none, .pointer none]) := (Blk.new _ _ _).grow (new_alloc _ _)
    have HZ2 : Hid (Blk ((w2.alloc (.cells #[.pointer none, .pointer none, .pointer none] 26)).alloc (.cells stZ2 66)) (w2.heap.size + 1) 66 stZ2) := blk_second2 _ _ _ _ _
    have HZL : Hid (Below w2.heap.size w2 ((w2.alloc (.cells #[.pointer none, .pointer none, .pointer none] 26)).alloc (.cells stZ2 66))) := below_alloc (new_alloc _ _) _
    generalize (b.take 2000).length = bl at *
    go_wp2_with (first | (refine step_store_blk HZ1.out rfl 26 _ _ rfl rfl rfl (wA mq rq pq) rfl (by kernel_rfl) rfl (by kernel_rfl) ?_; intro w3 hb2 hk2; have HY1 := Hid.in hb2; have HY2 := Hid.in (HZ2.out.kept hk2 (by simp)); have HYL := Hid.in (HZL.out.trans (below_grown hk2 (Nat.le_refl _) HZL.out.size)); clear hb2 hk2) | (refine step_store_blk HY2.out rfl 66 _ _ rfl rfl rfl (stA (.slice vp bl vc) (.slice (some ⟨g, 0, none⟩) nR nR) 0 0 0 (.slice none 0 0) (.slice none 0 0) 0 false ⟨0, 0, 0, 0, 0⟩) rfl (by kernel_rfl) rfl (by kernel_rfl) ?_; intro w4 hb3 hk3; refine Hid.out ?_))
    refine Lib.hid ?_
    have HBW : Hid (BS W0 (w4.alloc (.cells #[.bool true, .bool false] 4)) w2.heap.size w4.heap.size pq mq mg rq bq (newP b (List.replicate nR false) 0)) := by
      have hl := HYL.out.trans (below_grown hk3 (Nat.le_succ _) HYL.out.size)
      exact ⟨⟨_, _, (HPA.out.below hl).below (new_alloc _ _)⟩, (HY1.out.kept hk3 (by simp)).grow (new_alloc _ _), Blk.new _ _ _, below_step (below_step HB2.out hl) (new_alloc _ _)⟩
    have HOU0 := Hid.in (OU.new b T nR hb248)
    clear hb3 hk3 HZ1 HZ2 HZL HY1 HY2 HYL HPA HB2
    generalize w2.heap.size = gw at *
    go_wp2_with fail
    generalize w4.alloc (.cells #[.bool true, .bool false] 4) = w5 at *
    generalize w4.heap.size = gl at *
    go_loopw [53] (fun v wr => ∃ (u : Nat) (s : PS), v = .int .i64 u ∧ u ≤ 2 ∧ BS W0 wr gw gl pq mq mg rq bq s ∧ OU b T nR u s) (fun v _ => 2 - (intOf v).toNat)
    case atStart => exact ⟨0, _, rfl, by decide, HBW.out, HOU0.out⟩
    case round =>
      obtain ⟨u, s, rfl, hu, hbs, hou⟩ := hrel
      have HBS := Hid.in hbs
      have HOU := Hid.in hou
      clear HBW HOU0 hbs hou
      have w53 : IntKind.i64.wrap ((u : Int) + 1) = (u : Int) + 1 := by rw [IntKind.wrap_i64]; omega
      by_cases hu2 : u < 2
      · have g1 : decide ((u : Int) < 2) = true := decide_eq_true (by omega)
        have g2 : (0 : Int) ≤ (u : Int) := by omega
        have g3 : (u : Int) < 2 := by omega
        have cu : wr.cell? ⟨gl, u, none⟩ = some (.bool (decide (u = 0))) := by
          rcases (by omega : u = 0 ∨ u = 1) with rfl | rfl
          · exact HBS.out.li.cell 0
          · exact HBS.out.li.cell 1
        have c2 : wr.cell? ⟨gw, 2, none⟩ = some (.pointer (some ⟨pq, 0, none⟩)) := HBS.out.st.cell 2
        generalize decide (u = 0) = up at *
        obtain ⟨lp0, lc0, hp0⟩ := HBS.out.pa
        have hst := pstart_any W0.heap.size pq mq mg rq bq lp0 lc0 s ps cs T up wr hp0 HBS.out.bl.size (by rw [HOU.out.xl]; have := hb248; omega) (by have := HT.out.m20; omega) HPS.out (HRS.out.below HBS.out.bl)
        rw [strP_ok HT.out.ok HT.out.rel HOU.out.ph HOU.out.xl] at hst
        clear hp0
        go_wp2_with (go_at_call 13; refine Hid.out ?_)
        refine Lib.hid ?_
        (with_reducible refine hst.mono ?_)
        rintro e w6 ⟨lp1, lc1, rfl, hp6, hk6⟩
        have HBS6 := Hid.in (HBS.out.turn hp6 hk6)
        have HIN0 : Hid (IN s.xs T up nR (u * 2001 + 1) 0 (begP s T up) 0 0 0 1 false) := IN.beg HOU.out.bt HOU.out.fl HOU.out.ov HOU.out.wr HOU.out.ok HT.out.m20
        have HTX := Hid.in (HT.out.ok.len HOU.out.xl)
        clear hst hp6 hk6 HBS cu c2
        go_wp2_with fail
        go_loopw [14, 15, 16, 17, 18, 19] (fun v14 v15 v16 v17 v18 v19 wx => ∃ (k wN rN wa st : Nat) (bk : Bool) (s2 : PS), v14 = .int .i64 wN ∧ v15 = .int .i64 rN ∧ v16 = .int .i64 wa ∧ v17 = .int .i64 st ∧ v18 = .bool bk ∧ v19 = .int .i64 k ∧ k ≤ 2000 ∧ BS W0 wx gw gl pq mq mg rq bq s2 ∧ IN s.xs T up nR (u * 2001 + 1) k s2 wN rN wa st bk) (fun _ _ _ _ _ v19 _ => 2000 - (intOf v19).toNat)
        case atStart => exact ⟨0, 0, 0, 0, 1, false, _, rfl, rfl, rfl, rfl, rfl, rfl, by decide, HBS6.out, HIN0.out⟩
        case round =>
          clear HBS6 HIN0
          obtain ⟨k, wN, rN, wa, st, bk, s2, rfl, rfl, rfl, rfl, rfl, rfl, hk, hbs, hin⟩ := hrel
          have HBS := Hid.in hbs
          have HIN := Hid.in hin
          have hk2 := hin.ends hk
          have g4 : decide ((k : Int) < 2000) = true := decide_eq_true (by omega)
          clear hbs hin
          cases bk
          · as_aux_lemma =>
              have HLB := Hid.in (HLR.out.below (below_step HB1.out HBS.out.bl))
              have w19 : IntKind.i64.wrap ((k : Int) + 1) = (k : Int) + 1 := by rw [IntKind.wrap_i64]; omega
              have HFL : Hid (s2.fs.length = nR) := by obtain ⟨d, hi⟩ := HIN.out.inv; exact hi.fl
              go_upto_region 16 with fail
              go_cut [89] (fun v wx => ∃ t : Bool, v = .bool t ∧ wx = wr ∧ (k % 5 = 4 → t = true))
              case first =>
                as_aux_lemma =>
                by_cases hl0 : ln = 0
                · have q0 : ((ln : Int) == 0) = true := by rw [beq_iff_eq]; omega
                  go_wp2_with fail
                  go_meet
                  case rel => exact ⟨_, rfl, rfl, fun _ => rfl⟩
                · have q0 : ((ln : Int) == 0) = false := by rw [beq_eq_false_iff_ne]; omega
                  have hm1 : ¬ (ln : Int) = 0 := by omega
                  have e1 : (k : Int).tmod (ln : Int) = ((k % ln : Nat) : Int) := by rw [Int.tmod_eq_emod_of_nonneg (by omega)]; omega
                  have hr1 : k % ln < ln := Nat.mod_lt _ (by omega)
                  have e2 : (k : Int).tmod 5 = ((k % 5 : Nat) : Int) := by rw [Int.tmod_eq_emod_of_nonneg (by omega)]; omega
                  have w1 : IntKind.i64.wrap ((k % ln : Nat) : Int) = ((k % ln : Nat) : Int) := by rw [IntKind.wrap_i64]; omega
                  have w2 : IntKind.i64.wrap ((k % 5 : Nat) : Int) = ((k % 5 : Nat) : Int) := by rw [IntKind.wrap_i64]; omega
                  obtain ⟨b0, o0, rfl, hc⟩ := HLB.out.num (by rw [HL.out]; omega)
                  have cz := hc (k % ln) (by rw [HL.out]; exact hr1)
                  clear hc
                  generalize LZ.getD (k % ln) 0 = z at *
                  have g5 : (0 : Int) ≤ ((k % ln : Nat) : Int) := by omega
                  have g6 : ((k % ln : Nat) : Int) < (ln : Int) := by omega
                  generalize k % ln = r at *
                  go_wp2_with (go_at_call 36; refine Hid.out ?_)
                  refine Lib.hid ?_
                  refine (pick_is z 3 (by decide) (by decide) _).mono ?_
                  rintro e wq ⟨rfl, hw⟩
                  rw [hw]
                  clear hw wq
                  generalize pkN z 3 = pk at *
                  by_cases hpk : pk = 0
                  · have q1 : ((pk : Int) == 0) = true := by rw [beq_iff_eq]; omega
                    go_wp2_with fail
                    go_meet
                    case rel => exact ⟨_, rfl, rfl, fun _ => rfl⟩
                  · have q1 : ((pk : Int) == 0) = false := by rw [beq_eq_false_iff_ne]; omega
                    by_cases h5 : k % 5 = 4
                    · have q2 : (((k % 5 : Nat) : Int) == 4) = true := by rw [beq_iff_eq]; omega
                      go_wp2_with fail
                      go_meet
                      case rel => exact ⟨_, rfl, rfl, fun _ => rfl⟩
                    · have q2 : (((k % 5 : Nat) : Int) == 4) = false := by rw [beq_eq_false_iff_ne]; omega
                      go_wp2_with fail
                      go_meet
                      case rel => exact ⟨_, rfl, rfl, fun h => absurd h h5⟩
              case rest =>
                obtain ⟨t, rfl, hw, ht⟩ := hcut
                rw [hw]
                clear hw wc HLB
                go_upto_if 89 with fail
                go_cut [] (fun wx => ∃ fs', BS W0 wx gw gl pq mq mg rq bq { s2 with fs := fs' } ∧ fs'.length = nR ∧ (ovr s2.fs = true → ovr fs' = true) ∧ (k % 5 = 4 → ovr fs' = true))
                case first =>
                  as_aux_lemma =>
                  cases t
                  · go_wp2_with fail
                    go_meet
                    case rel => exact ⟨s2.fs, HBS.out, HFL.out, id, fun h => by cases ht h⟩
                  · go_wp2_with fail
                    go_loopw [20] (fun v wx => ∃ j : Nat, v = .int .i64 j ∧ j ≤ nR ∧ BS W0 wx gw gl pq mq mg rq bq { s2 with fs := dwn s2.fs j }) (fun v _ => nR - (intOf v).toNat)
                    case atStart => exact ⟨0, rfl, Nat.zero_le _, by rw [dwn_zero]; exact HBS.out⟩
                    case round =>
                      obtain ⟨j, rfl, hj, hbs⟩ := hrel
                      have HBX := Hid.in hbs
                      clear hbs HBS
                      have w20 : IntKind.i64.wrap ((j : Int) + 1) = (j : Int) + 1 := by rw [IntKind.wrap_i64]; omega
                      by_cases hjn : j < nR
                      · have g6 : decide ((j : Int) < (nR : Int)) = true := decide_eq_true (by omega)
                        have c1 : wr.cell? ⟨gw, 1, none⟩ = some (.pointer (some ⟨rq, 0, none⟩)) := HBX.out.st.cell 1
                        obtain ⟨lp2, lc2, hp2⟩ := HBX.out.pa
                        have htk := rtake_any rq (dwn s2.fs j) s2.n j wr hp2.rnd
                        rw [dwn_succ _ _ (by rw [HFL.out]; exact hjn)] at htk
                        clear hp2
                        go_wp2_with (go_at_call 10; refine Hid.out ?_)
                        refine Lib.hid ?_
                        refine htk.mono ?_
                        rintro e w7 ⟨rfl, hr7, hg7⟩
                        have HB7 := Hid.in (HBX.out.rnd hr7 hg7)
                        clear htk hr7 hg7 HBX c1
                        go_wp2_with fail
                        go_roundw
                        case rel => exact ⟨j + 1, by go_num, by omega, HB7.out⟩
                        case measure => simp [intOf]; omega
                      · have g6 : decide ((j : Int) < (nR : Int)) = false := decide_eq_false (by omega)
                        have hjs : j = nR := by omega
                        go_wp2_with fail
                        go_meet
                        case rel => exact ⟨dwn s2.fs j, HBX.out, by rw [dwn_len]; exact HFL.out, fun h => dwn_ovr _ _ h, fun _ => by rw [hjs, ← HFL.out]; exact dwn_all _⟩
                case rest =>
                  obtain ⟨fs, hbs, hl, ho, h4⟩ := hcut
                  obtain ⟨he, hnx⟩ := HIN.out.next HTX.out rfl R HNR.out fs hl ho h4
                  have HOK : Hid (POk { s2 with fs := fs } 1000000) := (HIN.out.ok.mono (by omega)).flags fs
                  have HBT : Hid (BtOk ({ s2 with fs := fs } : PS).bt) := HIN.out.bt
                  have HBX := Hid.in hbs
                  have HNX := Hid.in hnx
                  have HE := Hid.in he
                  have hw3 := HIN.out.w3
                  have hr3 := HIN.out.r3
                  have hs3 := HIN.out.s3
                  have hwk := HIN.out.wk
                  have hm20 := HT.out.m20
                  clear hbs hl ho h4 he hnx HIN HBS HFL
                  generalize ({ s2 with fs := fs } : PS) = s3 at *
                  generalize wc = W7 at *
                  go_upto_region 21 with fail
                  go_cut [21] (fun v wx => v = .bool (wtg s3) ∧ wx = W7)
                  case first =>
                    as_aux_lemma =>
                    have c1 : W7.cell? ⟨gw, 1, none⟩ = some (.pointer (some ⟨rq, 0, none⟩)) := HBX.out.st.cell 1
                    have c2 : W7.cell? ⟨gw, 2, none⟩ = some (.pointer (some ⟨pq, 0, none⟩)) := HBX.out.st.cell 2
                    obtain ⟨lp3, lc3, hp3⟩ := HBX.out.pa
                    have hph := pphase_any hp3
                    have hov := over_any rq s3.fs s3.n W7 hp3.rnd
                    clear hp3
                    by_cases h5 : s3.ph = 5
                    · have HW : Hid (wtg s3 = !ovr s3.fs) := by show _ = _; unfold wtg; rw [decide_eq_true h5]; rfl
                      generalize ovr s3.fs = ov at *
                      have q1 : ((s3.ph : Int) == 5) = true := by rw [beq_iff_eq]; omega
                      go_wp2_with (go_at_call 9; refine Hid.out ?_)
                      refine Lib.hid ?_
                      refine hph.mono ?_
                      rintro e wq ⟨rfl, hw⟩
                      rw [hw]
                      clear hw wq
                      go_wp2_with (go_at_call 37; refine Hid.out ?_)
                      refine Lib.hid ?_
                      refine hov.mono ?_
                      rintro e wq ⟨rfl, hw⟩
                      rw [hw]
                      clear hw wq
                      go_wp2_with fail
                      go_meet
                      case rel => exact ⟨by rw [HW.out], rfl⟩
                    · have HW : Hid (wtg s3 = false) := by show _ = _; unfold wtg; rw [decide_eq_false h5]; rfl
                      have q1 : ((s3.ph : Int) == 5) = false := by rw [beq_eq_false_iff_ne]; omega
                      go_wp2_with (go_at_call 9; refine Hid.out ?_)
                      refine Lib.hid ?_
                      refine hph.mono ?_
                      rintro e wq ⟨rfl, hw⟩
                      rw [hw]
                      clear hw wq
                      go_wp2_with fail
                      go_meet
                      case rel => exact ⟨by rw [HW.out], rfl⟩
                  case rest =>
                    as_aux_lemma =>
                    obtain ⟨rfl, hw⟩ := hcut
                    rw [hw]
                    clear hw wc
                    have c2 : W7.cell? ⟨gw, 2, none⟩ = some (.pointer (some ⟨pq, 0, none⟩)) := HBX.out.st.cell 2
                    obtain ⟨lp3, lc3, hp3⟩ := HBX.out.pa
                    have hps := pstep_any W0.heap.size pq mq mg rq bq lp3 lc3 s3 rp rc R W7 hp3 (HRR.out.below HBX.out.bl) HOK.out HBT.out
                    rw [HNR.out] at hps
                    clear hp3
                    go_wp2_with (go_at_call 11; refine Hid.out ?_)
                    refine Lib.hid ?_
                    refine hps.mono ?_
                    rintro e w8 ⟨v8, lp4, lc4, rfl, hev, hpa, hk8⟩
                    have HBS8 := Hid.in (HBX.out.turn hpa hk8)
                    obtain ⟨pe, ce, rfl, hce1, hce2, hcell⟩ := hev.shape
                    have HCE := Hid.in hcell
                    clear hps hev hpa hk8 hcell HBX c2 HOK HBT
                    rw [HE.out]
                    generalize stpP s3 R = A at *
                    have hev2 : A.ev.length ≤ 200 := by
                      have h1 := HNX.out.w3
                      have h2 := HNX.out.r3
                      have h3 := nWr_le A.ev
                      omega
                    clear hce2
                    go_wp2_with fail
                    go_loopw [14, 15, 25] (fun v14 v15 v25 wx => ∃ i : Nat, v14 = .int .i64 ((wN + nWr (A.ev.take i) : Nat) : Int) ∧ v15 = .int .i64 ((rN + (i - nWr (A.ev.take i)) : Nat) : Int) ∧ v25 = .int .i64 i ∧ i ≤ A.ev.length ∧ wx = w8) (fun _ _ v25 _ => A.ev.length - (intOf v25).toNat)
                    case atStart => exact ⟨0, rfl, rfl, rfl, Nat.zero_le _, rfl⟩
                    case round =>
                      obtain ⟨i, rfl, rfl, rfl, hi, hw⟩ := hrel
                      rw [hw]
                      clear hw wr
                      have w25 : IntKind.i64.wrap ((i : Int) + 1) = (i : Int) + 1 := by rw [IntKind.wrap_i64]; omega
                      have hle := nWr_le (A.ev.take i)
                      rw [List.length_take] at hle
                      by_cases hin : i < A.ev.length
                      · have g7 : decide ((i : Int) < (A.ev.length : Int)) = true := decide_eq_true (by omega)
                        have g8 : (0 : Int) ≤ (i : Int) := by omega
                        have g9 : (i : Int) < (A.ev.length : Int) := by omega
                        obtain ⟨g7', rfl, -, -, hc⟩ := HCE.out (by omega)
                        have e0 : w8.cell? ⟨g7', i * 7, none⟩ = some (.int .u8 A.ev[i].k) := hc i hin 0 (by decide)
                        have HS := Hid.in (nWr_succ A.ev i hin)
                        clear hc
                        generalize A.ev[i].k = ek at *
                        generalize nWr (A.ev.take i) = nw at *
                        by_cases h10 : ek = 10
                        · have q1 : (ek == 10) = true := by simpa using h10
                          have w14 : IntKind.i64.wrap (((wN + nw : Nat) : Int) + 1) = ((wN + (nw + 1) : Nat) : Int) := by rw [IntKind.wrap_i64]; omega
                          go_wp2_with fail
                          go_roundw
                          case rel => exact ⟨i + 1, by rw [HS.out, if_pos h10]; congr 1 <;> omega, by rw [HS.out, if_pos h10]; congr 1 <;> omega, by go_num, by omega, by trivial⟩
                          case measure => simp [intOf]; omega
                        · have q1 : (ek == 10) = false := by simpa using h10
                          have w15 : IntKind.i64.wrap (((rN + (i - nw) : Nat) : Int) + 1) = ((rN + (i + 1 - nw) : Nat) : Int) := by rw [IntKind.wrap_i64]; omega
                          go_wp2_with fail
                          go_roundw
                          case rel => exact ⟨i + 1, by rw [HS.out, if_neg h10]; congr 1 <;> omega, by rw [HS.out, if_neg h10]; congr 1 <;> omega, by go_num, by omega, by trivial⟩
                          case measure => simp [intOf]; omega
                      · have g7 : decide ((i : Int) < (A.ev.length : Int)) = false := decide_eq_false (by omega)
                        have hil : i = A.ev.length := by omega
                        subst hil
                        rw [List.take_length]
                        have hnx := HNX.out
                        cases hwt : wtg s3
                        · rw [hwt] at hnx
                          have HNY := Hid.in hnx
                          have w17 : IntKind.i64.wrap ((st : Int) + 1) = ((st + 1 : Nat) : Int) := by rw [IntKind.wrap_i64]; omega
                          clear hnx HNX
                          go_wp2_with fail
                          go_roundw
                          case rel => exact ⟨k + 1, _, _, _, _, _, _, rfl, rfl, rfl, rfl, rfl, by go_num, by omega, HBS8.out, HNY.out⟩
                          case measure => simp [intOf]; omega
                        · rw [hwt] at hnx
                          have HNY := Hid.in hnx
                          have w16 : IntKind.i64.wrap ((wa : Int) + 1) = ((wa + 1 : Nat) : Int) := by rw [IntKind.wrap_i64]; omega
                          clear hnx HNX
                          go_wp2_with fail
                          go_roundw
                          case rel => exact ⟨k + 1, _, _, _, _, _, _, rfl, rfl, rfl, rfl, rfl, by go_num, by omega, HBS8.out, HNY.out⟩
                          case measure => simp [intOf]; omega
          · as_aux_lemma =>
              obtain ⟨d0, dw, dr, ds, dbt, dwr, dfl, dov⟩ := HIN.out.done rfl
              have hct := HIN.out.ct
              have hok9 := HIN.out.ok.mono (show ((u * 2001 + 1 : Nat) : Int) + k ≤ (((u + 1) * 2001 : Nat) : Int) by omega)
              obtain ⟨dd, hiv⟩ := HIN.out.inv
              obtain ⟨x1, x2, x3⟩ := inv_end HT.out.ok hiv d0 HOU.out.xl HOU.out.off
              have HOU2 : Hid (OU b T nR (u + 1) s2) := ⟨d0, dbt, dfl, dov, dwr, hok9, x1, x2⟩
              have HXS := Hid.in x3
              have hwk := HIN.out.wk
              have hm20 := HT.out.m20
              have c2 : wr.cell? ⟨gw, 2, none⟩ = some (.pointer (some ⟨pq, 0, none⟩)) := HBS.out.st.cell 2
              obtain ⟨lp3, lc3, hp3⟩ := HBS.out.pa
              have hpc := pcounts_any hp3
              have HPH := Hid.in (fun (W : World) (hB : Below wr.heap.size wr W) => pphase_any (hp3.below hB))
              rw [hct] at hpc
              have hxl : s2.xs.length = b.length := x1
              clear hp3 HIN hok9 hiv x1 x2 x3 dbt dfl dov dwr hct
              obtain ⟨m, hm⟩ : ∃ m, T.length = m := ⟨_, rfl⟩
              have HM := Hid.in hm
              rw [hm] at dw dr ds hm20 hpc ⊢
              clear hm
              subst dw dr
              obtain ⟨z, hz⟩ : ∃ z, (m + 3) / 4 = z := ⟨_, rfl⟩
              have hz6 : z ≤ 6 := by omega
              have hz2 : ((m : Int) + 3).tdiv 4 = (z : Int) := by rw [Int.tdiv_eq_ediv_of_nonneg (by omega)]; omega
              rw [hz] at hpc ⊢
              have m1 : IntKind.i64.wrap (3 * (m : Int)) = 3 * (m : Int) := by rw [IntKind.wrap_i64]; omega
              have m2 : IntKind.i64.wrap ((m : Int) + 3) = (m : Int) + 3 := by rw [IntKind.wrap_i64]; omega
              have m3 : IntKind.i64.wrap (z : Int) = (z : Int) := by rw [IntKind.wrap_i64]; omega
              have m4 : IntKind.i64.wrap (3 * (z : Int)) = 3 * (z : Int) := by rw [IntKind.wrap_i64]; omega
              have m5 : IntKind.i64.wrap (11 * (m : Int)) = 11 * (m : Int) := by rw [IntKind.wrap_i64]; omega
              have m6 : IntKind.i64.wrap (11 * (m : Int) + 2) = 11 * (m : Int) + 2 := by rw [IntKind.wrap_i64]; omega
              have q1 : (((3 * m : Nat) : Int) == 3 * (m : Int)) = true := by rw [beq_iff_eq]; omega
              have q2 : (((3 * z : Nat) : Int) == 3 * (z : Int)) = true := by rw [beq_iff_eq]; omega
              have q3 : decide (11 * (m : Int) + 2 < (st : Int)) = false := decide_eq_false (by omega)
              have q4 : ((s2.ph : Int) == 0) = true := by rw [d0]; rfl
              clear hz
              go_wp2_with (go_at_call 12; refine Hid.out ?_)
              refine Lib.hid ?_
              (with_reducible refine hpc.mono ?_)
              rintro e w7 ⟨rfl, hb7⟩
              have HB7 := Hid.in hb7
              have HBS7 := Hid.in (HBS.out.below hb7)
              have hph := HPH.out w7 hb7
              have c2 : w7.cell? ⟨gw, 2, none⟩ = some (.pointer (some ⟨pq, 0, none⟩)) := HBS7.out.st.cell 2
              clear hpc hb7 HPH
              go_wp2_with (go_at_call 9; refine Hid.out ?_)
              refine Lib.hid ?_
              refine hph.mono ?_
              rintro e wq ⟨rfl, hw⟩
              rw [hw]
              clear hw wq hph
              obtain ⟨lp3, lc3, hp3⟩ := HBS7.out.pa
              have hmb := mbytes_any mq mg W0.heap.size s2.xs w7 hp3.mem (by omega)
              have c0 : w7.cell? ⟨gw, 0, none⟩ = some (.pointer (some ⟨mq, 0, none⟩)) := HBS7.out.st.cell 0
              clear hp3 c2 q1 q2 q3 q4 m1 m2 m3 m4 m5 m6
              go_wp2_with (go_at_call 34; refine Hid.out ?_)
              refine Lib.hid ?_
              (with_reducible refine hmb.mono ?_)
              rintro e w9 ⟨h9, rfl, ho9, hb9⟩
              have HR9 := Hid.in ho9.row
              have HBS9 := Hid.in (HBS7.out.below hb9)
              rw [hxl]
              obtain ⟨nb, hnb⟩ : ∃ nb, b.length = nb := ⟨_, rfl⟩
              have HNB := Hid.in hnb
              rw [hnb] at hb248 hxl ⊢
              clear hmb ho9 hb9 c0 HBS7 HB7 HBS hnb
              go_wp2_with fail
              go_loopw [28] (fun vi wx => ∃ i : Nat, vi = .int .i64 i ∧ i ≤ nb ∧ Below w9.heap.size w9 wx) (fun vi _ => nb - (intOf vi).toNat)
              case atStart => exact ⟨0, rfl, Nat.zero_le _, Below.refl _ _⟩
              case round =>
                obtain ⟨i, rfl, hi, hB⟩ := hrel
                have HBx := Hid.in hB
                clear hB
                have w28 : IntKind.i64.wrap ((i : Int) + 1) = (i : Int) + 1 := by rw [IntKind.wrap_i64]; omega
                by_cases hin : i < nb
                · have g1 : decide ((i : Int) < (nb : Int)) = true := decide_eq_true (by omega)
                  have g2 : (0 : Int) ≤ (i : Int) := by omega
                  have g3 : (i : Int) < (nb : Int) := by omega
                  obtain ⟨bb, bo, rfl, hcb2⟩ := (HRB.out.below (HBS9.out.bl)).below HBx.out (by rw [HNB.out]; omega)
                  have cbi := hcb2 i (by rw [HNB.out]; omega)
                  clear hcb2
                  go_wp2_with fail
                  go_loopw [29, 30] (fun v29 v30 wy => ∃ k : Nat, v29 = .int .u8 (wantF b T up i k) ∧ v30 = .int .i64 k ∧ k ≤ m ∧ Below w9.heap.size w9 wy) (fun _ v30 _ => m - (intOf v30).toNat)
                  case atStart => exact ⟨0, rfl, rfl, Nat.zero_le _, HBx.out⟩
                  case round =>
                    clear cbi
                    obtain ⟨k, rfl, rfl, hk, hB⟩ := hrel
                    have HBy := Hid.in hB
                    clear hB HBx
                    have w30 : IntKind.i64.wrap ((k : Int) + 1) = (k : Int) + 1 := by rw [IntKind.wrap_i64]; omega
                    by_cases hkm : k < m
                    · as_aux_lemma =>
                      have hkT : k < T.length := by rw [HM.out]; exact hkm
                      obtain ⟨bS, oS, rfl, hS⟩ := at3 ((HRS.out.below HBS9.out.bl).below HBy.out) (by omega)
                      obtain ⟨s0, s1, s2'⟩ := hS k hkT
                      have hfit := HT.out.ok.fit k hkT
                      have hlo := HT.out.ok.srt.lo k hkT
                      have hto := HT.out.ok.to_ k hkT
                      have HWF := Hid.in (wantF_succ (b := b) (up := up) k hkT i)
                      rw [HNB.out] at hfit
                      clear hS
                      generalize T[k] = x at *
                      obtain ⟨xk, xa, xt⟩ := x
                      dsimp only at *
                      have g4 : decide ((k : Int) < (m : Int)) = true := decide_eq_true (by omega)
                      have g5 : (0 : Int) ≤ (k : Int) := by omega
                      have g6 : (k : Int) < (m : Int) := by omega
                      have w5 : IntKind.i64.wrap (xa + 5) = xa + 5 := by rw [IntKind.wrap_i64]; omega
                      by_cases ha : xa ≤ (i : Int)
                      · have q1 : decide (xa ≤ (i : Int)) = true := decide_eq_true ha
                        by_cases hb5 : (i : Int) < xa + 5
                        · have q2 : decide ((i : Int) < xa + 5) = true := decide_eq_true hb5
                          obtain ⟨j, hj⟩ : ∃ j : Nat, (i : Int) - xa = (j : Int) := ⟨((i : Int) - xa).toNat, by omega⟩
                          have w6 : IntKind.i64.wrap ((i : Int) - xa) = (j : Int) := by rw [IntKind.wrap_i64]; omega
                          have hj5 : j < 5 := by omega
                          have g7 : (0 : Int) ≤ (j : Int) := by omega
                          have g8 : (j : Int) < 5 := by omega
                          have HW2 : Hid (wantF b T up i (k + 1) = (newB (bx up ⟨xk, xa, xt⟩)).getD j 0) := by
                            show _ = _
                            rw [HWF.out, if_pos ⟨ha, hb5⟩, hj]
                            rfl
                          have HFR : Hid (∀ W, Calls Try.prog 38 #[.agg #[.int .i64 xk, .int .i64 xa, .int .i64 xt], .bool up] W _) := fun W => fresh_any ⟨xk, xa, xt⟩ up W ⟨hlo, by show xa ≤ 65531; omega⟩ hto
                          have HNL : Hid (j < (newB (bx up ⟨xk, xa, xt⟩)).length) := by show _ < _; rw [nB_len]; exact hj5
                          generalize newB (bx up ⟨xk, xa, xt⟩) = NB at *
                          clear hj
                          have x0r := fun d os => cell_regrown s0 d os
                          have x1r := fun d os => cell_regrown s1 d os
                          have x2r := fun d os => cell_regrown s2' d os
                          go_upto_region 47 with fail
                          refine wp_region_noPanic ?_
                          refine wp_region_sinkL [0, 1, 2, 3, 4, 6, 7, 8, 9, 10, 11, 12] [13, 14, 15] 4 [_, _, _, _, _, _, _, _, _, _, _, _] (by kernel_rfl) (by kernel_rfl) (by kernel_rfl) rfl rfl (by kernel_rfl) (by kernel_rfl) (fun _ _ _ _ _ h => h) ?_
                          iterate 12 (go_big_quiet_step (fail))
                          refine wpQuiet_nil ?_
                          rintro _ ⟨⟨dq, osq⟩, rfl⟩
                          have HQ := Hid.in (below_regrown wr dq osq)
                          generalize Go.Sort.grow (redrawn wr dq) osq = w4x at HQ ⊢
                          clear x0r x1r x2r
                          refine wpAnyG_one (i := 5) (by kernel_rfl) rfl (fun K hK => ?_)
                          go_simp
                          go_at_call 38
                          refine (HFR.out _).mono ?_
                          rintro e w38 ⟨g38, cap38, rfl, ho38, hb38⟩
                          have cg := Row.at0 ho38.row j HNL.out
                          have HQ3 := Hid.in (below_step HQ.out hb38)
                          refine hK.out _ _ (regrown_of_below HQ3.out) (fun _ => ?_)
                          clear hK K hb38 ho38
                          refine wpAnyG_one (i := 13) (by kernel_rfl) rfl (fun K hK => ?_)
                          go_simp
                          refine hK.out _ _ (regrown_of_below HQ3.out) (fun _ => ?_)
                          clear hK K
                          refine wpAnyG_one (i := 14) (by kernel_rfl) rfl (fun K hK => ?_)
                          go_simp
                          refine hK.out _ _ (regrown_of_below HQ3.out) (fun _ => ?_)
                          clear hK K
                          refine wpAnyG_one (i := 15) (by kernel_rfl) rfl (fun K hK => ?_)
                          go_simp
                          refine hK.out _ _ (regrown_of_below HQ3.out) (fun _ => ?_)
                          clear hK K
                          refine wpAnyG_done (by kernel_rfl) ?_ _
                          refine NoPanic.normal ?_
                          have HBz := Hid.in (below_step HBy.out HQ3.out)
                          clear cg
                          go_wp2_with fail
                          go_roundw
                          case rel => exact ⟨k + 1, by rw [HW2.out]; rfl, by go_num, by omega, HBz.out⟩
                          case measure => simp [intOf]; omega
                        · have q2 : decide ((i : Int) < xa + 5) = false := decide_eq_false hb5
                          go_wp2_with fail
                          go_roundw
                          case rel => exact ⟨k + 1, by rw [HWF.out, if_neg (by omega)], by go_num, by omega, HBy.out⟩
                          case measure => simp [intOf]; omega
                      · have q1 : decide (xa ≤ (i : Int)) = false := decide_eq_false ha
                        go_wp2_with fail
                        go_roundw
                        case rel => exact ⟨k + 1, by rw [HWF.out, if_neg (by omega)], by go_num, by omega, HBy.out⟩
                        case measure => simp [intOf]; omega
                    · as_aux_lemma =>
                      have g4 : decide ((k : Int) < (m : Int)) = false := decide_eq_false (by omega)
                      have hkm2 : k = m := by omega
                      have hxi := HXS.out i (by rw [HNB.out]; exact hin)
                      have ch : wr.cell? ⟨h9, i, none⟩ = some (.int .u8 (wantF b T up i m)) := by
                        have h1 := (HR9.out.below HBy.out).at0 i (by rw [hxl]; exact hin)
                        rw [h1, List.getD, hxi, HM.out]
                        rfl
                      subst hkm2
                      clear hxi
                      generalize wantF b T up i k = wv at *
                      go_wp2_with fail
                      go_roundw
                      case rel => exact ⟨i + 1, by go_num, by omega, HBy.out⟩
                      case measure => simp [intOf]; omega
                · as_aux_lemma =>
                  have g1 : decide ((i : Int) < (nb : Int)) = false := decide_eq_false (by omega)
                  have HBE := Hid.in (HBS9.out.below HBx.out)
                  have hm := HM.out
                  have hnb := HNB.out
                  subst hm hnb
                  go_wp2_with fail
                  go_roundw
                  case rel => exact ⟨u + 1, s2, by go_num, by omega, HBE.out, HOU2.out⟩
                  case measure => simp [intOf]; omega
      · as_aux_lemma =>
          have g1 : decide ((u : Int) < 2) = false := decide_eq_false (by omega)
          go_wp2_with (go_at_call 21; refine Hid.out ?_)
          refine Lib.hid ?_
          refine (awake_any _).mono ?_
          rintro E w7 ⟨rfl, hb⟩
          have HL7 := Hid.in (below_step HB1.out (below_step HBS.out.bl hb))
          clear hb
          go_wp2_with fail
          go_ret
          exact ⟨rfl, HL7.out⟩
end Go.Proofs.Ytekggimgobeggaa

namespace Go.Proofs.Ytekggimgobeggaa
open Go.ChangeShapes Go.WideShapes Go.ChangeAt Go.RowKit
open Go.ChangeMaps (open_string shut_string)

set_option maxRecDepth 100000 in
theorem pokeBounded_lifted (os : Os) (started : os.Started) (H : Type) (enc : TypeId × Value → H) :
    ReturnsInHanded {} Try.checked os 6 .any (Rows.pokeBoundedSpec.pre6 enc Try.prog Try.f6 Rows.pokeBoundedRow.domain false) (Rows.pokeBoundedSpec.post enc Try.prog Try.f6 false true false false) := by
  refine returnsInHanded_of_change_sized (C := Try.checked) Try.own started (by kernel_rfl) Try.func6
    (ChangeSpec.witness6 (enc := enc) (C := Try.checked) false ⟨#[], #[.slice none 0 0, .slice none 0 0, .slice none 0 0], []⟩ 8 (by kernel_rfl) (by kernel_rfl) (by kernel_rfl) (by kernel_rfl)) ?_
  intro W base args ds gs before hval0 hW hcnd hsz0 _
  have hW' := hW
  obtain ⟨p, q, hA0, hV, rfl, hfz, hnd⟩ := hW
  have hA : DataW.TrodAll enc Try.prog W 0 (fun _ => true) true Try.f6.params.toList args.toList ds p := hA0
  have hval : ∀ (j : Nat) t v, Try.f6.params[j]? = some t → args[j]? = some v → Value.okWide Try.prog W .any base t v := hval0
  have hsz : (DataW.weightsEach Try.prog (Try.f6.params.toList ++ Rows.pokeBoundedSpec.plain.varTypes Try.prog) (ds ++ gs)).all (· ≤ reachBytes) = true := hsz0
  rw [Try.params6] at hA hval hsz
  obtain ⟨v0, vs0, d0, ds0, p0, q0_, hargs, rfl, rfl, h0, r0⟩ := trodAll_cons hA
  obtain ⟨v1, vs1, d1, ds1, p1, q1_, rfl, rfl, rfl, h1, r1⟩ := trodAll_cons r0
  obtain ⟨v2, vs2, d2, ds2, p2, q2_, rfl, rfl, rfl, h2, r2⟩ := trodAll_cons r1
  obtain ⟨rfl, rfl, rfl⟩ := trodAll_nil r2
  obtain rfl : args = #[v0, v1, v2] := by cases args; simp_all
  obtain ⟨rfl, rfl⟩ := trodVars_none hV
  have k0 := h0
  have lt0 : ∀ x ∈ p0, x.block < W.heap.size := by obtain ⟨m, hm⟩ := k0; exact DataW.trod_lt m _ _ _ hm
  obtain ⟨q0, n0, e0, Z0, rfl, hz0, hn0, hc0, hr0⟩ := open_ints_val (hval 0 102 v0 rfl rfl) h0 hsz (j := 0) rfl rfl
  have k1 := h1
  have lt1 : ∀ x ∈ p1, x.block < W.heap.size := by obtain ⟨m, hm⟩ := k1; exact DataW.trod_lt m _ _ _ hm
  obtain ⟨q1, e1, R1, rfl, hm1, he1, hr1⟩ := open_flags_val (hval 1 39 v1 rfl rfl) h1 hsz (j := 1) rfl rfl
  have k2 := h2
  have lt2 : ∀ x ∈ p2, x.block < W.heap.size := by obtain ⟨m, hm⟩ := k2; exact DataW.trod_lt m _ _ _ hm
  obtain ⟨q2, n2, e2, Z2, rfl, hz2, hn2, hc2, hr2⟩ := open_ints_val (hval 2 102 v2 rfl rfl) h2 hsz (j := 2) rfl rfl
  refine (bounded_walk q0 n0 e0 Z0 q1 e1 R1 q2 n2 e2 Z2 W hz0 hn0 hc0 hr0 he1 hm1 hr1 hz2 (by omega) hr2).mono fun e W' ⟨he, bel⟩ => ?_
  subst he
  exact ⟨_, rfl, _, _, _, [], _, [], hW', trodAll_mk1 (shut_bool Try.underlying4 _), (trodAll_cons_mk (Below.trod Try.laidOut (by kernel_rfl) (of_decide_eq_true (by kernel_rfl)) k0 bel lt0) (trodAll_cons_mk (Below.trod Try.laidOut (by kernel_rfl) (of_decide_eq_true (by kernel_rfl)) k1 bel lt1) (trodAll_cons_mk (Below.trod Try.laidOut (by kernel_rfl) (of_decide_eq_true (by kernel_rfl)) k2 bel lt2) trodAll_mk0))), rfl, bel.frame _, fun h => by cases h⟩

theorem pokeBounded_holds : Rows.PokeBoundedSaid :=
  OpenClaim.holds_of_wide 6 Try.f6 rfl rfl rfl rfl rfl rfl rfl ⟨rfl, rfl, rfl, rfl, rfl⟩ rfl rfl rfl rfl rfl (by kernel_rfl) Try.func6 (by kernel_rfl)
    (of_decide_eq_true (by kernel_rfl)) (by unfold Func.isWrapper; first | (rw [if_pos (by decide +kernel)]; kernel_rfl) | (rw [if_neg (by decide +kernel)]; exact ⟨rfl, rfl⟩))
    (fun os started H enc _ => pokeBounded_lifted os started H enc)
#print axioms pokeBounded_holds

end Go.Proofs.Ytekggimgobeggaa
