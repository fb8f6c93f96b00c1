/-
  Proved here: the law PokeOrder (switchyardlaw19) answers true for every input, and each argument reads afterwards as it read before. No condition of ours: the row's own reach alone (each slice and text takes at most 2^47 - 4096 bytes).
-/
import Derived.Test.YtekggimgobeggaaOpen
import Derived.Test.YtekggimgobeggaaFlg
import Derived.Test.YtekggimgobeggaaGr
import Derived.Deep.Grids
import Derived.SizedLaws
import Derived.Test.YtekggimgobeggaaGs
import Derived.Test.YtekggimgobeggaaGe
import Derived.Test.YtekggimgobeggaaGd
import Derived.Test.YtekggimgobeggaaGc
import Derived.Test.YtekggimgobeggaaGb
import Derived.Test.YtekggimgobeggaaQPick
import Derived.Deep.DeepCutAuto

/- How a list of numbers and one of flags that came in are opened, of every size that an argument may have. -/
namespace Go.Proofs.Ytekggimgobeggaa
open Go.ChangeShapes Go.WideShapes Go.ChangeAt Go.RowKit

theorem Try.cells3qb : Try.prog.cellsOf 3 = 1 := by kernel_rfl
theorem Try.cells4b : Try.prog.cellsOf 4 = 1 := by kernel_rfl
theorem Try.bytes4b : Try.prog.bytesOf 4 = 1 := by kernel_rfl
theorem Try.bytes3b : Try.prog.bytesOf 3 = 8 := by kernel_rfl
theorem list_ofGb {X : Type} {P : Nat → X → Prop} : ∀ n, (∀ i, i < n → ∃ x, P i x) → ∃ xs : List X, xs.length = n ∧ ∀ i (h : i < xs.length), P i xs[i]
  | 0, _ => ⟨[], rfl, fun i h => absurd h (by simp)⟩
  | n + 1, h => by
    obtain ⟨xs, hl, hx⟩ := list_ofGb n fun i hi => h i (by omega)
    obtain ⟨x, hp⟩ := h n (by omega)
    refine ⟨xs ++ [x], by simp [hl], fun i hi => ?_⟩
    by_cases hin : i < xs.length
    · rw [List.getElem_append_left hin]; exact hx i hin
    · have : i = n := by simp at hi; omega
      subst this
      rw [List.getElem_append_right (by omega)]
      simp [hl]
      exact hp

theorem weights_ofb {H : Type} {P : Program} {ts : List TypeId} {ds : List (DataW H)} (hsz : (DataW.weightsEach P ts ds).all (· ≤ reachBytes) = true) {j : Nat} {t : TypeId} {d : DataW H} (ht : ts[j]? = some t) (hd : ds[j]? = some d) : ∀ m ∈ d.weights P t, m ≤ reachBytes := by
  intro m hm
  have := List.all_eq_true.1 hsz m (DataW.weights_mem_each ht hd m hm)
  simpa using this
/-- a list of flags -/
theorem open_flagsb {H : Type} {enc : TypeId × Value → H} {W : World} {fuel : Nat} {v : Value} {x : DataW H × List MemPlace} (hf : DataW.trod enc Try.prog W 0 (fun _ => true) true fuel 39 [v] = some x) (hw : ∀ m ∈ x.1.weights Try.prog 39, m ≤ reachBytes) :
    ∃ (q : Option Addr) (e : Nat) (hs : List Bool), v = .slice q hs.length e ∧ hs.length ≤ 140737488351232 ∧ hs.length ≤ e ∧ e ≤ 9223372036854775807 ∧ BRow W q hs ∧ (q = none → e = 0) := by
  have hr : ∀ q n c, v = .slice q n c → n * 1 ≤ reachBytes := by
    intro q n c hv
    rcases DataW.trod_slice Try.underlying39 hf with ⟨hcs, hx⟩ | ⟨ad, l, cc, elems, rest, f, hfu, hcs, hx, _, hl, hm, hlen, hel, hsp, _⟩
    · simp only [List.cons.injEq, and_true] at hcs
      rw [hv] at hcs
      simp only [Value.slice.injEq] at hcs
      rw [hcs.2.1]; exact Nat.zero_le _
    · simp only [List.cons.injEq, and_true] at hcs
      rw [hv] at hcs
      simp only [Value.slice.injEq] at hcs
      have := hw ((elems.length + rest.length) * Try.prog.bytesOf 4) (by
        have hx1 : x.1 = _ := congrArg Prod.fst hx
        rw [hx1]; simp [DataW.weights, Try.underlying39])
      rw [Try.bytes4b] at this
      rw [hcs.2.1]
      omega
  rcases Go.Deep.open_bools Try.underlying39 Try.underlying4 Try.cells4b hf with ⟨hcs, hx⟩ | ⟨ad, l, cc, B, hcs, _, hl, hm, hx, hcell⟩
  · simp only [List.cons.injEq, and_true] at hcs
    exact ⟨none, 0, [], by rw [hcs]; rfl, by decide, Nat.le_refl _, by decide, fun h => absurd h (Nat.lt_irrefl 0), fun _ => rfl⟩
  · simp only [List.cons.injEq, and_true] at hcs
    have hrr := hr _ _ _ hcs
    simp only [reachBytes] at hrr
    unfold maxLen at hm
    have hlen : ((List.range l).map B).length = l := by simp
    refine ⟨some ad, cc, (List.range l).map B, by rw [hcs, hlen], by rw [hlen]; omega, by rw [hlen]; omega, by omega, fun h0 => ?_, fun h => by cases h⟩
    obtain ⟨b, o, s⟩ := ad
    rw [hlen] at h0
    obtain rfl : s = none := by simpa [Addr.add] using World.cell?_spot (hcell 0 (by omega))
    exact ⟨b, o, rfl, fun i hi => by rw [hlen] at hi; rw [← Go.WideShapes.add_plain, hcell i (by omega)]; simp [List.getD, hi]⟩
/-- a slice of elements of one cell -/
theorem opened1 {H : Type} {enc : TypeId × Value → H} {W : World} {fuel : Nat} {v : Value} {x : DataW H × List MemPlace} {ST ET : TypeId} {X : Type} (V : X → Value) (P : X → Prop) (hu : Try.prog.underlying ST = some (.slice ET)) (hc1 : Try.prog.cellsOf ET = 1)
    (hone : ∀ (fuel : Nat) (cs : List Value) (x : DataW H × List MemPlace), DataW.trod enc Try.prog W 0 (fun _ => true) true fuel ET cs = some x → ∃ y, cs = [V y] ∧ P y)
    (h : DataW.trod enc Try.prog W 0 (fun _ => true) true fuel ST [v] = some x) (hw : ∀ m ∈ x.1.weights Try.prog ST, m ≤ reachBytes) :
    ∃ (q : Option Addr) (e : Nat) (L : List X), v = .slice q L.length e ∧ L.length ≤ e ∧ e ≤ maxLen ∧ L.length * Try.prog.bytesOf ET ≤ reachBytes ∧ GRow W q (L.map V) ∧ ∀ y ∈ L, P y := by
  rcases DataW.trod_slice hu h with ⟨hcs, hx⟩ | ⟨ad, l, cc, elems, rest, f, hfu, hcs, hx, _, hl, hm, hlen, hel, hsp, _⟩
  · simp only [List.cons.injEq, and_true] at hcs
    exact ⟨none, 0, [], by rw [hcs]; rfl, Nat.le_refl _, Nat.zero_le _, by simp, GRow.nil W none, fun y hy => by cases hy⟩
  · simp only [List.cons.injEq, and_true] at hcs
    have hwt : l * Try.prog.bytesOf ET ≤ reachBytes := by
      have := hw ((elems.length + rest.length) * Try.prog.bytesOf ET) (by rw [hx]; simp [DataW.weights, hu])
      exact Nat.le_trans (Nat.mul_le_mul_right _ (by omega)) this
    obtain ⟨L, hL, hP⟩ := list_ofGb (P := fun i y => (∀ j u, ([V y])[j]? = some u → W.cell? ((ad.add (i * 1)).add j) = some u) ∧ P y) l fun i hi => by
      have he := hel i hi
      rw [hc1, List.getElem?_eq_getElem (by omega), Option.bind_eq_some_iff] at he
      obtain ⟨cs, hcs, htr⟩ := he
      obtain ⟨_, hcl, hcc⟩ := World.cells?_some hcs
      obtain ⟨y, hy, hp⟩ := hone _ _ _ htr
      refine ⟨y, fun j u hu => ?_, hp⟩
      rw [← hy] at hu
      have hj : j < 1 := by rw [← hcl]; exact (List.getElem?_eq_some_iff.1 hu).1
      rw [hcc j hj]; exact hu
    refine ⟨some ad, cc, L, by rw [hcs, hL], by rw [hL]; exact hl, hm, by rw [hL]; exact hwt, fun h0 => ?_, fun y hy => ?_⟩
    · rw [List.length_map] at h0
      obtain ⟨b, o, s⟩ := ad
      obtain rfl : s = none := by
        have := (hP 0 h0).1 0 _ rfl
        simpa [Addr.add] using World.cell?_spot this
      refine ⟨b, o, rfl, fun i hi => ?_⟩
      rw [List.length_map] at hi
      have := (hP i hi).1 0 (V L[i]) rfl
      rw [Addr.add_mid, Addr.add_mid] at this
      simp only [Nat.mul_one, Nat.add_zero] at this
      rw [this, List.getElem?_map, List.getElem?_eq_getElem hi]
      rfl
    · obtain ⟨i, hi, rfl⟩ := List.getElem_of_mem hy
      exact (hP i hi).2

theorem open_numb {H : Type} {enc : TypeId × Value → H} {W : World} (fuel : Nat) (cs : List Value) (x : DataW H × List MemPlace) (h : DataW.trod enc Try.prog W 0 (fun _ => true) true fuel 3 cs = some x) : ∃ y, cs = [Value.int .i64 y] ∧ True := by
  obtain ⟨k, e0, y0, w0⟩ := DataW.trod_int Try.underlying3 h
  exact ⟨k, e0, trivial⟩
set_option maxRecDepth 20000 in
theorem open_ints_val {H : Type} {enc : TypeId × Value → H} {W : World} {base : Nat} {v : Value} {d : DataW H} {p : List MemPlace} (hv : Value.okWide Try.prog W .any base 102 v)
    (h : DataW.Trod enc Try.prog W 0 (fun _ => true) true 102 v d p) {ts : List TypeId} {ds : List (DataW H)} (hsz : (DataW.weightsEach Try.prog ts ds).all (· ≤ reachBytes) = true) {j : Nat} (ht : ts[j]? = some 102) (hd : ds[j]? = some d) :
    ∃ (q : Option Addr) (n e : Nat) (zs : List Int), v = .slice q n e ∧ zs.length = n ∧ n ≤ 140737488355328 ∧ n ≤ e ∧ GRow W q (numZ zs) := by
  obtain ⟨fuel, hf⟩ := h
  have hcs : v.cells.toList = [v] := by
    obtain ⟨_, _, _, rfl⟩ := Go.WideShapes.okWide_slice Try.underlying102 hv
    rfl
  rw [hcs] at hf
  obtain ⟨q, e, L, hv', hl, hm, hb, hr, -⟩ := opened1 (Value.int .i64) (fun _ => True) Try.underlying102 Try.cells3qb open_numb hf (weights_ofb hsz ht hd)
  rw [Try.bytes3b] at hb
  simp only [reachBytes] at hb
  exact ⟨q, L.length, e, L, hv', rfl, by omega, hl, hr⟩
set_option maxRecDepth 20000 in
theorem open_flags_val {H : Type} {enc : TypeId × Value → H} {W : World} {base : Nat} {v : Value} {d : DataW H} {p : List MemPlace} (hv : Value.okWide Try.prog W .any base 39 v)
    (h : DataW.Trod enc Try.prog W 0 (fun _ => true) true 39 v d p) {ts : List TypeId} {ds : List (DataW H)} (hsz : (DataW.weightsEach Try.prog ts ds).all (· ≤ reachBytes) = true) {j : Nat} (ht : ts[j]? = some 39) (hd : ds[j]? = some d) :
    ∃ (q : Option Addr) (e : Nat) (hs : List Bool), v = .slice q hs.length e ∧ hs.length ≤ 9223372036854775807 ∧ hs.length ≤ e ∧ BRow W q hs := by
  obtain ⟨fuel, hf⟩ := h
  have hcs : v.cells.toList = [v] := by
    obtain ⟨_, _, _, rfl⟩ := Go.WideShapes.okWide_slice Try.underlying39 hv
    rfl
  rw [hcs] at hf
  obtain ⟨q, e, L, hv', hl, hle, -, hr, -⟩ := open_flagsb hf (weights_ofb hsz ht hd)
  exact ⟨q, e, L, hv', by omega, hle, hr⟩
end Go.Proofs.Ytekggimgobeggaa

/- What the walks of PokeBounded and PokeOrder share (BndW's head, as a text of its own for PokeOrder's claim). -/
namespace Go.Proofs.Ytekggimgobeggaa
open Go.RowKit Go.Sort

abbrev stZ2 : Array Value := #[.slice none 0 0, .int .i64 0, .slice none 0 0, .int .u8 0, .int .u8 0, .slice none 0 0, .slice none 0 0, .int .i64 0, .bool false, .int .i64 0, .int .i64 0, .int .i64 0, .int .i64 0, .int .i64 0]
theorem blk_second2 (w : World) (T U : TypeId) (c d : Array Value) : Blk ((w.alloc (.cells c T)).alloc (.cells d U)) (w.heap.size + 1) U d := by
  have hb := Blk.new (w.alloc (.cells c T)) U d
  rw [size_one] at hb
  exact hb
theorem pkN_small (k : Nat) (h : k < 9) : pkN (k : Int) 9 = k := by
  unfold pkN
  rcases (by omega : k = 0 ∨ k = 1 ∨ k = 2 ∨ k = 3 ∨ k = 4 ∨ k = 5 ∨ k = 6 ∨ k = 7 ∨ k = 8) with rfl | rfl | rfl | rfl | rfl | rfl | rfl | rfl | rfl <;> rfl
theorem BRow.take8 {w : World} {p : Option Addr} {RS : List Bool} (h : BRow w p RS) : BRow w p (RS.take 8) := fun h0 => by
  rw [List.length_take] at h0
  obtain ⟨b, o, e, hc⟩ := h (by omega)
  refine ⟨b, o, e, fun i hi => ?_⟩
  rw [List.length_take] at hi
  rw [hc i (by omega)]
  congr 2
  simp only [List.getD_eq_getElem?_getD, List.getElem?_take]
  rw [if_pos (by omega)]
structure OU (b : List Int) (T : List Si) (nR u : Nat) (s : PS) : Prop where
  ph : s.ph = 0
  bt : s.bt = []
  fl : s.fs.length = nR
  ov : ovr s.fs = true
  wr : s.wr = 0
  ok : POk s ((u * 2001 : Nat) : Int)
  xl : s.xs.length = b.length
  off : ∀ i, (∀ j (hj : j < T.length), i < T[j].at_.toNat ∨ T[j].at_.toNat + 5 ≤ i) → s.xs[i]? = b[i]?
theorem wp_region_sinkL {P : Program} {Q : Exit → Act → World → Prop} (is ex : List Nat) (m : Nat) (ps : List Oper) {id : Nat} {a : Act} {w : World} {l : List Oper} (hm : P.follows .mixedOrders = true) (hs : Region.noSelect l.toArray = true)
    (hn : (l.length == ps.length + m) = true) (hi : is.length = ps.length) (hps : ps.map some = is.map fun i => l[i]?) (hp : ps.all plainOp = true)
    (hB : pickUp .any l.toArray ex is (Array.replicate l.length false) = true) (hQ : ∀ c a d v w, Q (.panic c) (Act.put a d v) w → Q (.panic c) a w)
    (h : wpQuiet P l.toArray (fun w' => ∃ p : Regrown, w' = grow (redrawn w p.d) p.os) (fun a' => ∀ w', (∃ p : Regrown, w' = grow (redrawn w p.d) p.os) → wpAnyG P .any l.toArray Q (fun w' => ∃ p : Regrown, w' = grow (redrawn w p.d) p.os) ex m (picked is (Array.replicate l.length false)) a' w') ps a) :
    (Code.region id l.toArray true).wp P Q a w := by
  refine wp_region_pick (fun w' => ∃ p : Regrown, w' = grow (redrawn w p.d) p.os) is ex m ps hm hs hn hi (fun j hj => ?_) hp hB hQ ⟨⟨w.drawn + 1, #[]⟩, by rw [grow_empty]; rfl⟩ h
  have e := congrArg (fun z => z[j]?) hps
  simp only [List.getElem?_map] at e
  rw [List.getElem?_eq_getElem hj] at e ⊢
  simp only [Option.map_some] at e
  have hj' : j < is.length := by omega
  rw [List.getElem?_eq_getElem hj'] at e ⊢
  simp only [Option.map_some, Option.some.injEq] at e
  simp only [Option.bind_some, List.getElem?_toArray]
  exact e
/-- the same, the operations read off the region -/
theorem wp_region_sinkF {P : Program} {Q : Exit → Act → World → Prop} (is ex : List Nat) (m : Nat) {id : Nat} {a : Act} {w : World} {l : List Oper} (hm : P.follows .mixedOrders = true) (hs : Region.noSelect l.toArray = true)
    (hn : (l.length == (is.filterMap fun i => l[i]?).length + m) = true) (hi : is.length = (is.filterMap fun i => l[i]?).length) (hps : (is.filterMap fun i => l[i]?).map some = is.map fun i => l[i]?) (hp : (is.filterMap fun i => l[i]?).all plainOp = true)
    (hB : pickUp .any l.toArray ex is (Array.replicate l.length false) = true) (hQ : ∀ c a d v w, Q (.panic c) (Act.put a d v) w → Q (.panic c) a w)
    (h : wpQuiet P l.toArray (fun w' => ∃ p : Regrown, w' = grow (redrawn w p.d) p.os) (fun a' => ∀ w', (∃ p : Regrown, w' = grow (redrawn w p.d) p.os) → wpAnyG P .any l.toArray Q (fun w' => ∃ p : Regrown, w' = grow (redrawn w p.d) p.os) ex m (picked is (Array.replicate l.length false)) a' w') (is.filterMap fun i => l[i]?) a) :
    (Code.region id l.toArray true).wp P Q a w := wp_region_sinkL is ex m _ hm hs hn hi hps hp hB hQ h
theorem Row.at0 {w : World} {g : Nat} {xs : List Int} (h : Row w (some ⟨g, 0, none⟩) xs) (i : Nat) (hi : i < xs.length) : w.cell? ⟨g, i, none⟩ = some (.int .u8 (xs.getD i 0)) := by
  obtain ⟨b, o, e, hc⟩ := h (by omega)
  injection e with e
  injection e with e1 e2
  subst e1 e2
  have := hc i hi
  rwa [Nat.zero_add] at this
theorem POk.flags {s : PS} {M : Int} (h : POk s M) (fs : List Bool) : POk { s with fs := fs } M := ⟨h.ph, h.nx, h.w1, h.w2, h.c1, h.c2, h.c3, h.c4, h.n, h.xl⟩
theorem OU.new (b : List Int) (T : List Si) (nR : Nat) (h : b.length ≤ 248) : OU b T nR 0 (newP b (List.replicate nR false) 0) :=
  ⟨rfl, rfl, by show (List.replicate nR false).length = nR; simp, by show ovr (List.replicate nR false) = true; unfold ovr; simp, rfl, ⟨Nat.zero_le 6, Nat.zero_le 6, Nat.zero_le 0, fun _ => rfl, ⟨Int.le_refl 0, Int.le_refl 0⟩, ⟨Int.le_refl 0, Int.le_refl 0⟩, ⟨Int.le_refl 0, Int.le_refl 0⟩, ⟨Int.le_refl 0, Int.le_refl 0⟩, ⟨Int.le_refl 0, Int.le_refl 0⟩, by show b.length ≤ 65536; omega⟩, rfl, fun _ _ => rfl⟩
end Go.Proofs.Ytekggimgobeggaa

/- PokeOrder: what stands in memory while the second switch goes on. -/
namespace Go.Proofs.Ytekggimgobeggaa
open Go.RowKit Go.Sort

/-- what stands while a switch goes on: the patcher, the law's struct of it, the list of flags -/
structure BO (w0 wr : World) (gw gr pq mq mg rq bq nR : Nat) (s : PS) : Prop where
  pa : ∃ lp lc, PA wr w0.heap.size pq mq mg rq bq lp lc s
  st : Blk wr gw 26 (wA mq rq pq)
  al : Blk wr gr 4 (flgs (List.replicate nR true)).toArray
  bl : Below w0.heap.size w0 wr
section
variable {w0 wr w' : World} {gw gr pq mq mg rq bq nR : Nat} {s : PS}
theorem BO.below (h : BO w0 wr gw gr pq mq mg rq bq nR s) (hb : Below wr.heap.size wr w') : BO w0 w' gw gr pq mq mg rq bq nR s := by
  obtain ⟨lp, lc, hp⟩ := h.pa
  exact ⟨⟨lp, lc, hp.below hb⟩, h.st.grow hb, h.al.grow hb, below_step h.bl hb⟩
theorem BO.turn (h : BO w0 wr gw gr pq mq mg rq bq nR s) {s' : PS} {lp : Option Addr} {lc : Nat} (hp : PA w' w0.heap.size pq mq mg rq bq lp lc s') (hk : Keeps (GP pq mg rq bq) wr w') : BO w0 w' gw gr pq mq mg rq bq nR s' := by
  obtain ⟨lp0, lc0, hp0⟩ := h.pa
  exact ⟨⟨lp, lc, hp⟩, hp0.keepsT h.st (by decide) hk, hp0.keepsT h.al (by decide) hk, h.bl.trans (hk.below h.bl.size (GPge hp0))⟩
theorem BO.rnd (h : BO w0 wr gw gr pq mq mg rq bq nR s) {fs : List Bool} (hr : Rnd w' rq fs s.n) (hg : wr.grownBy w' (some rq)) : BO w0 w' gw gr pq mq mg rq bq nR { s with fs := fs } := by
  obtain ⟨lp0, lc0, hp0⟩ := h.pa
  exact h.turn (hp0.setR hr hg) ((keeps_grown hg).wider (fun _ e => .inr (.inr (.inl e))))
theorem BO.row (h : BO w0 wr gw gr pq mq mg rq bq nR s) : BRow wr (some ⟨gr, 0, none⟩) (List.replicate nR true) := fun _ =>
  ⟨gr, 0, rfl, fun i hi => by
    rw [Nat.zero_add, h.al.cell, List.getElem?_toArray]
    unfold flgs
    rw [List.getElem?_map, List.getElem?_eq_getElem hi, List.getD, List.getElem?_eq_getElem hi]
    rfl⟩
end
theorem Own.keepsG {w w' : World} {B g cap : Nat} {xs : List Int} {G : Nat → Prop} (h : Own w B g cap xs) (hk : Keeps G w w') (hG : ∀ j, G j → j < B) : Own w' B g cap xs := by
  rcases h.2 with h2 | ⟨g', cap', cur, h1, h2, h3, h4⟩
  · exact ⟨h.1, .inl h2⟩
  · have hb : Blk w g' 5 cur := h3
    exact ⟨h.1, .inr ⟨g', cap', cur, h1, h2, hb.keeps hk (fun hj => absurd (hG _ hj) (by omega)), h4⟩⟩
theorem GP_ltO {w : World} {B pq mq mg rq bq : Nat} {lp : Option Addr} {lc : Nat} {s : PS} (h : PA w B pq mq mg rq bq lp lc s) : ∀ j, GP pq mg rq bq j → j < w.heap.size := fun j hj => by
  obtain ⟨cg, hcg⟩ := h.mem.blkg
  rcases hj with e | e | e | e
  · subst e; exact h.pat.lt
  · subst e; exact hcg.lt
  · subst e; exact h.rnd.blk.lt
  · subst e; exact h.bat.blk.lt
theorem PA.off3 {w w' : World} {B pq mq mg rq bq : Nat} {lp : Option Addr} {lc : Nat} {s : PS} (h : PA w B pq mq mg rq bq lp lc s) {g : Nat} {c : Array Value} (hj : Blk w g 3 c) (hg : w.grownBy w' (some g)) : PA w' B pq mq mg rq bq lp lc s := by
  have hk := keeps_grown hg
  obtain ⟨cg, hcg⟩ := h.mem.blkg
  exact ⟨h.pat.keeps hk (blk_ne h.pat hj (by decide)), h.row.keeps hk (fun j e => ⟨3, _, e ▸ hj, by decide⟩), h.lcl, h.lcm, h.mem.keeps hk (blk_ne h.mem.blk2 hj (by decide)) (blk_ne hcg hj (by decide)), ⟨h.rnd.le, h.rnd.blk.keeps hk (blk_ne h.rnd.blk hj (by decide))⟩, ⟨h.bat.le, h.bat.srt, h.bat.blk.keeps hk (blk_ne h.bat.blk hj (by decide))⟩, h.gp, h.gr, h.gb⟩
theorem Own.off3 {w w' : World} {B g cap q : Nat} {xs : List Int} {c : Array Value} (h : Own w B g cap xs) (hj : Blk w q 3 c) (hg : w.grownBy w' (some q)) : Own w' B g cap xs := by
  obtain ⟨cur, h1, h2, h3, h4, h5, h6⟩ := h.parts
  have hb : Blk w g 5 cur := h2
  exact Own.mk h1 (hb.keeps (keeps_grown hg) (blk_ne hb hj (by decide))) h3 h4 h5 h6
/-- .. with the list of what was told of each site, and memory as it was ahead of the switch -/
structure MO (w0 wr : World) (gw gr gt h6 A pq mq mg rq bq nR cap : Nat) (X : List Int) (s : PS) (L : List Int) : Prop where
  bo : BO w0 wr gw gr pq mq mg rq bq nR s
  la : Blk wr gt 3 (numZ L).toArray
  be : Own wr A h6 cap X
  lo : w0.heap.size ≤ gt
  gp : ∀ j, GP pq mg rq bq j → j < A
section
variable {w0 wr w' : World} {gw gr gt h6 A pq mq mg rq bq nR cap : Nat} {X : List Int} {s : PS} {L : List Int}
theorem MO.below (h : MO w0 wr gw gr gt h6 A pq mq mg rq bq nR cap X s L) (hb : Below wr.heap.size wr w') : MO w0 w' gw gr gt h6 A pq mq mg rq bq nR cap X s L :=
  ⟨h.bo.below hb, h.la.grow hb, h.be.below hb, h.lo, h.gp⟩
theorem MO.turn (h : MO w0 wr gw gr gt h6 A pq mq mg rq bq nR cap X s L) {s' : PS} {lp : Option Addr} {lc : Nat} (hp : PA w' w0.heap.size pq mq mg rq bq lp lc s') (hk : Keeps (GP pq mg rq bq) wr w') : MO w0 w' gw gr gt h6 A pq mq mg rq bq nR cap X s' L := by
  obtain ⟨lp0, lc0, hp0⟩ := h.bo.pa
  exact ⟨h.bo.turn hp hk, hp0.keepsT h.la (by decide) hk, h.be.keepsG hk h.gp, h.lo, h.gp⟩
theorem MO.rnd (h : MO w0 wr gw gr gt h6 A pq mq mg rq bq nR cap X s L) {fs : List Bool} (hr : Rnd w' rq fs s.n) (hg : wr.grownBy w' (some rq)) : MO w0 w' gw gr gt h6 A pq mq mg rq bq nR cap X { s with fs := fs } L := by
  obtain ⟨lp0, lc0, hp0⟩ := h.bo.pa
  exact h.turn (hp0.setR hr hg) ((keeps_grown hg).wider (fun _ e => .inr (.inr (.inl e))))
theorem MO.own (h : MO w0 wr gw gr gt h6 A pq mq mg rq bq nR cap X s L) {g c : Nat} {xs : List Int} (ho : Own w' wr.heap.size g c xs) : Own w' A g c xs :=
  ho.lower (Nat.le_trans h.be.base (Nat.le_of_lt h.be.lt))
theorem MO.put (h : MO w0 wr gw gr gt h6 A pq mq mg rq bq nR cap X s L) (i : Nat) (v : Int) : MO w0 (wr.setCell ⟨gt, i, none⟩ (.int .i64 v)) gw gr gt h6 A pq mq mg rq bq nR cap X s (L.set i v) := by
  have hg := grown_setCell wr gt i (.int .i64 v)
  have hk := keeps_grown hg
  obtain ⟨lp0, lc0, hp0⟩ := h.bo.pa
  refine ⟨⟨⟨lp0, lc0, hp0.off3 h.la hg⟩, h.bo.st.keeps hk (blk_ne h.bo.st h.la (by decide)), h.bo.al.keeps hk (blk_ne h.bo.al h.la (by decide)), below_kept h.bo.bl hg h.lo⟩, ?_, h.be.off3 h.la hg, h.lo, h.gp⟩
  have e : (numZ (L.set i v)).toArray = (numZ L).toArray.setIfInBounds i (.int .i64 v) := by
    rw [List.setIfInBounds_toArray]
    unfold numZ
    rw [List.map_set]
  rw [e]
  exact h.la.set i _
theorem MO.at_ (h : MO w0 wr gw gr gt h6 A pq mq mg rq bq nR cap X s L) (i : Nat) (hi : i < L.length) : wr.cell? ⟨gt, i, none⟩ = some (.int .i64 (L.getD i 0)) := by
  rw [h.la.cell, List.getElem?_toArray]
  unfold numZ
  rw [List.getElem?_map, List.getElem?_eq_getElem hi, List.getD, List.getElem?_eq_getElem hi]
  rfl
end
theorem drp_ovr (fs : List Bool) (z : Int) (h : ovr fs = true) : ovr (drp fs z) = true := by
  unfold drp
  split
  · unfold ovr at *
    rw [List.all_eq_true] at h ⊢
    intro x hx
    rcases List.mem_or_eq_of_mem_set hx with hx | hx
    · exact h x hx
    · subst hx; rfl
  · exact h
end Go.Proofs.Ytekggimgobeggaa

/- PokeOrder: the walk. -/
namespace Go.Proofs.Ytekggimgobeggaa
open Go.RowKit Go.Sort

theorem Try.info3o : (Try.prog.info? 3).map (fun i => (i.zero, i.size, i.bytes)) = some (some (.int .i64 0), 1, 8) := by kernel_rfl
theorem wp_makeI {ops : Array Oper} {rest : List Oper} {o : Oper} {a : Act} {w : World} {Q : Exit → Act → World → Prop} (hg : o.guard = none) (s1 s2 : Operand) (ho : o.op = .makeSlice 102 s1 s2) (n : Nat) (x y : Int) (h1 : a.eval s1 = .int .i64 x) (h2 : a.eval s2 = .int .i64 y) (hx : x = n) (hy : y = n) (hn : n ≤ 1048576)
    (h : ∀ w1, Hid (Blk w1 w.heap.size 3 (numZ (List.replicate n 0)).toArray) → Hid (Below w.heap.size w w1) → wpList Try.prog ops Q rest (a.put o.dst (.slice (some ⟨w.heap.size, 0, none⟩) n n)) w1) : wpList Try.prog ops Q (o :: rest) a w := by
  obtain ⟨i0, hi, hz0, hz1, hz2⟩ := info_parts Try.info3o
  refine wpList_make_full _ hg s1 s2 102 ho _ 3 i0 (.int .i64 0) 1 Try.underlying102 hi hz0 hz1 _ _ _ _ n h1 h2 hx hy (by rw [hz2]; omega) (by unfold maxLen; omega) (Nat.le_refl _) ?_
  intro w1 hown hgrow
  refine h w1 ?_ ((Below.refl w.heap.size w).grown hgrow (Nat.le_refl _) (by simp))
  rw [show (Value.int .i64 0).cells = #[Value.int .i64 0] from rfl, toList_madeCells_one] at hown
  rcases hown.2 with ⟨e1, _⟩ | ⟨g, cap, cur, e1, e2, e3, e4, e5, e6, e7⟩
  · exact absurd e1 (fun e => slice_noI e)
  · obtain ⟨e1, e1'⟩ := slice_inj e1
    subst e1 e1'
    show Blk _ _ _ _
    unfold Blk
    rw [e3]
    have e : cur = (numZ (List.replicate n 0)).toArray := by
      apply Array.toList_inj.1
      rw [← List.take_of_length_le (l := cur.toList) (i := n * 1) (by rw [Array.length_toList]; omega), e7]
      simp [numZ]
    rw [e]
/-- a patcher between switches -/
structure OP (b : List Int) (T : List Si) (nR : Nat) (up : Bool) (s : PS) : Prop where
  ph : s.ph = 0
  bt : s.bt = []
  fl : s.fs.length = nR
  ov : ovr s.fs = true
  wr : s.wr = 0
  ok : POk s ((3000 : Nat) : Int)
  xl : s.xs.length = b.length
  bef : Bef s.xs T up
theorem getD_set_at (L : List Int) (i j : Nat) (v : Int) (hi : i < L.length) : (L.set i v).getD j 0 = if j = i then v else L.getD j 0 := by
  simp only [List.getD_eq_getElem?_getD, List.getElem?_set]
  by_cases h : j = i
  · subst h; simp [hi]
  · rw [if_neg (fun e => h e.symm), if_neg h]
def fillB (n i : Nat) : List Bool := List.replicate i true ++ List.replicate (n - i) false
theorem fillB_set (n i : Nat) (h : i < n) : (flgs (fillB n i)).toArray.setIfInBounds i (.bool true) = (flgs (fillB n (i + 1))).toArray := by
  rw [List.setIfInBounds_toArray]
  unfold flgs fillB
  rw [← List.map_set]
  congr 2
  rw [List.set_append_right _ _ (by simp), List.length_replicate, Nat.sub_self, show n - i = n - (i + 1) + 1 by omega, List.replicate_succ, List.set_cons_zero, List.replicate_succ', List.append_assoc]
  rfl
theorem fillB_at (n i : Nat) (h : i < n) : (flgs (fillB n i)).toArray[i]? = some (.bool false) := by
  unfold flgs fillB
  rw [List.getElem?_toArray, List.getElem?_map, List.getElem?_append_right (by simp), List.length_replicate, Nat.sub_self, List.getElem?_replicate, if_pos (by omega)]
  rfl
theorem GOwn.blkB {w : World} {B g : Nat} {hs : List Bool} (h : GOwn 4 w B g hs.length (flgs hs)) : Blk w g 4 (flgs hs).toArray := by
  obtain ⟨cur, -, h2, -, -, h5, h6⟩ := h.parts
  have e : cur = (flgs hs).toArray := by
    rw [List.take_of_length_le (by rw [Array.length_toList, h5]; simp)] at h6
    rw [← h6]
  rw [e] at h2
  exact h2
set_option maxRecDepth 20000 in
set_option maxHeartbeats 16000000 in
theorem order_walk (p : Option Addr) (n c : Nat) (Z : List Int) (harts : Int) (lp : Option Addr) (ln lc : Nat) (LZ : List Int) (up : Bool) (w : World) (hZ : Z.length = n) (hn : n ≤ 140737488355328) (hnc : n ≤ c) (hr : GRow w p (numZ Z)) (hL : LZ.length = ln) (hlm : ln ≤ 9223372036854775807) (hlr : GRow w lp (numZ LZ)) :
    Calls Try.prog 7 #[.slice p n c, .int .i64 harts, .slice lp ln lc, .bool up] w fun E w' => E = .returned (.bool true) ∧ Below w.heap.size w w' := by
  have HI := Hid.in (ima_any p n c Z w hZ hn hnc hr)
  have HL := Hid.in hL
  have HLR := Hid.in hlr
  clear hZ hn hnc hr hL hlr
  go_enter Try.func7, Try.ntmps7
  go_wp2_with (go_at_call 35; refine Hid.out ?_)
  refine Lib.hid ?_
  (with_reducible refine HI.out.mono ?_)
  rintro e W0 ⟨pb, cb, ps, cs, b, T, rfl, hcb, hrb, hby, hrs, hps, hT, hb1⟩
  have HRB := Hid.in hrb
  have HRS := Hid.in hrs
  have HT := Hid.in hT
  have HPS := Hid.in hps
  have HB1 := Hid.in hb1
  have hb248 := HT.out.nb
  have hmk := made_any pb b.length cb b harts W0 rfl (by omega) hcb HRB.out
  clear hrb hrs hT hps hb1 hby HI
  go_wp2_with (go_at_call 20; refine Hid.out ?_)
  refine Lib.hid ?_
  (with_reducible refine hmk.mono ?_)
  rintro e w2 ⟨nR, mq, mg, rq, pq, bq, bv, g, hk, hk9, rfl, hpa, hbv, -, hb⟩
  rw [List.take_of_length_le (by omega)] at hpa
  obtain ⟨vp, vc, rfl, -, -, -⟩ := hbv.sliceC
  have HPA := Hid.in hpa
  have HB2 := Hid.in hb
  have HK := Hid.in hk
  clear hmk hpa hbv hb hk
  have HZ1 : Hid (Blk ((w2.alloc (.cells #[.pointer none, .pointer none, .pointer none] 26)).alloc (.cells stZ2 66)) w2.heap.size 26 #[.pointer none, .pointer none, .pointer none]) := (Blk.new _ _ _).grow (new_alloc _ _)
  have HZ2 : Hid (Blk ((w2.alloc (.cells #[.pointer none, .pointer none, .pointer none] 26)).alloc (.cells stZ2 66)) (w2.heap.size + 1) 66 stZ2) := blk_second2 _ _ _ _ _
  have HZL : Hid (Below w2.heap.size w2 ((w2.alloc (.cells #[.pointer none, .pointer none, .pointer none] 26)).alloc (.cells stZ2 66))) := below_alloc (new_alloc _ _) _
  generalize (b.take 2000).length = bl at *
  go_wp2_with (first | (refine step_store_blk HZ1.out rfl 26 _ _ rfl rfl rfl (wA mq rq pq) rfl (by kernel_rfl) rfl (by kernel_rfl) ?_; intro w3 hb2 hk2; have HY1 := Hid.in hb2; have HY2 := Hid.in (HZ2.out.kept hk2 (by simp)); have HYL := Hid.in (HZL.out.trans (below_grown hk2 (Nat.le_refl _) HZL.out.size)); clear hb2 hk2) | (refine step_store_blk HY2.out rfl 66 _ _ rfl rfl rfl (stA (.slice vp bl vc) (.slice (some ⟨g, 0, none⟩) nR nR) 0 0 0 (.slice none 0 0) (.slice none 0 0) 0 false ⟨0, 0, 0, 0, 0⟩) rfl (by kernel_rfl) rfl (by kernel_rfl) ?_; intro w4 hb3 hk3; refine Hid.out ?_))
  refine Lib.hid ?_
  have HL4 := Hid.in (HYL.out.trans (below_grown hk3 (Nat.le_succ _) HYL.out.size))
  have HPA4 := Hid.in (HPA.out.below HL4.out)
  have HST4 := Hid.in (HY1.out.kept hk3 (by simp))
  have HB4 := Hid.in (below_step HB2.out HL4.out)
  have HOU0 := Hid.in (OU.new b T nR hb248)
  clear hb3 hk3 HZ1 HZ2 HZL HY1 HY2 HYL HPA HB2 HL4
  generalize w2.heap.size = gw at *
  go_wp2_with (go_at_call 36; refine Hid.out ?_)
  refine Lib.hid ?_
  refine (pick_is harts 9 (by decide) (by decide) w4).mono ?_
  rintro e wq ⟨rfl, hw⟩
  rw [hw]
  clear hw wq
  rw [← HK.out]
  go_wp2_with (refine wp_makeB rfl _ _ rfl nR _ _ rfl rfl rfl rfl (by omega) ?_; intro w5 HO5 HL5; refine Hid.out ?_)
  refine Lib.hid ?_
  have HG5 : Hid (Blk w5 w4.heap.size 4 (flgs (fillB nR 0)).toArray) := by
    have h := HO5.out
    have e : fillB nR 0 = List.replicate nR false := by unfold fillB; simp
    rw [e]
    exact GOwn.blkB (hs := List.replicate nR false) (by rw [List.length_replicate]; exact h)
  clear HO5
  go_wp2_with fail
  go_loopw [16] (fun v wx => ∃ i : Nat, v = .int .i64 i ∧ i ≤ nR ∧ Blk wx w4.heap.size 4 (flgs (fillB nR i)).toArray ∧ Below w4.heap.size w4 wx) (fun v _ => nR - (intOf v).toNat)
  case atStart => exact ⟨0, rfl, Nat.zero_le _, HG5.out, HL5.out⟩
  case round =>
    clear HG5 HL5
    obtain ⟨i, rfl, hi, hg, hb⟩ := hrel
    have HG := Hid.in hg
    have HB := Hid.in hb
    clear hg hb
    have w16 : IntKind.i64.wrap ((i : Int) + 1) = (i : Int) + 1 := by rw [IntKind.wrap_i64]; omega
    by_cases hin : i < nR
    · have g1 : decide ((i : Int) < (nR : Int)) = true := decide_eq_true (by omega)
      have g2 : (0 : Int) ≤ (i : Int) := by omega
      have g3 : (i : Int) < (nR : Int) := by omega
      have ci : wr.cell? ⟨w4.heap.size, i, none⟩ = some (.bool false) := by rw [HG.out.cell]; exact fillB_at nR i hin
      have fi := HG.out.free i
      go_wp2_with fail
      go_roundw
      case rel => exact ⟨i + 1, by go_num, by omega, by rw [← fillB_set nR i hin]; exact HG.out.set i _, HB.out.trans (below_grown (grown_setCell _ _ _ _) (Nat.le_refl _) HB.out.size)⟩
      case measure => simp [intOf]; omega
    · have g1 : decide ((i : Int) < (nR : Int)) = false := decide_eq_false (by omega)
      have hin2 : i = nR := by omega
      have hfn : fillB nR i = List.replicate nR true := by unfold fillB; rw [hin2, Nat.sub_self]; simp
      have hg := HG.out
      rw [hfn] at hg
      have HBO : Hid (BO W0 wr gw w4.heap.size pq mq mg rq bq nR (newP b (List.replicate nR false) 0)) := ⟨⟨_, _, HPA4.out.below HB.out⟩, HST4.out.grow HB.out, hg, below_step HB4.out HB.out⟩
      clear hg hfn hin2 HG HB HPA4 HST4 HB4
      generalize w4.heap.size = gr at *
      go_upto_region 11 with fail
      go_upto_if 58 with fail
      go_cut [] (fun wx => ∃ s, BO W0 wx gw gr pq mq mg rq bq nR s ∧ OP b T nR up s)
      case first =>
        as_aux_lemma =>
        cases up
        · have c2 : wr.cell? ⟨gw, 2, none⟩ = some (.pointer (some ⟨pq, 0, none⟩)) := HBO.out.st.cell 2
          obtain ⟨lp0, lc0, hp0⟩ := HBO.out.pa
          have hst := pstart_any W0.heap.size pq mq mg rq bq lp0 lc0 _ ps cs T true wr hp0 HBO.out.bl.size (by rw [HOU0.out.xl]; have := hb248; omega) (by have := HT.out.m20; omega) HPS.out (HRS.out.below HBO.out.bl)
          rw [strP_ok HT.out.ok HT.out.rel HOU0.out.ph HOU0.out.xl] at hst
          clear hp0
          go_wp2_with (go_at_call 13; refine Hid.out ?_)
          refine Lib.hid ?_
          (with_reducible refine hst.mono ?_)
          rintro e w6 ⟨lp1, lc1, rfl, hp6, hk6⟩
          have HBS6 := Hid.in (HBO.out.turn hp6 hk6)
          have HIF0 : Hid (IF b T true nR (0 + 1) 0 (begP (newP b (List.replicate nR false) 0) T true)) := IF.beg HOU0.out.bt HOU0.out.fl HOU0.out.ov HOU0.out.wr HOU0.out.ok HT.out.m20
          clear hst hp6 hk6 HBO c2 HOU0
          go_wp2_with fail
          go_loopw [17] (fun v wx => ∃ (k : Nat) (s : PS), v = .int .i64 k ∧ k ≤ 222 ∧ BO W0 wx gw gr pq mq mg rq bq nR s ∧ IF b T true nR (0 + 1) k s) (fun v _ => 222 - (intOf v).toNat)
          case atStart => exact ⟨0, _, rfl, by decide, HBS6.out, HIF0.out⟩
          case round =>
            clear HBS6 HIF0
            obtain ⟨k, s, rfl, hk, hbs, hif⟩ := hrel
            have HBS := Hid.in hbs
            have HIF := Hid.in hif
            have hk2 : k < 222 := Nat.lt_of_not_le hif.ends
            have g4 : decide ((k : Int) < 2000) = true := decide_eq_true (by omega)
            have w17 : IntKind.i64.wrap ((k : Int) + 1) = (k : Int) + 1 := by rw [IntKind.wrap_i64]; omega
            clear hbs hif
            have c2 : wr.cell? ⟨gw, 2, none⟩ = some (.pointer (some ⟨pq, 0, none⟩)) := HBS.out.st.cell 2
            obtain ⟨lp0, lc0, hp0⟩ := HBS.out.pa
            have hph := pphase_any hp0
            clear hp0
            by_cases h0 : s.ph = 0
            · have q1 : ((s.ph : Int) != 0) = false := by rw [h0]; rfl
              obtain ⟨o1, o2, o3, o4, o5, o6⟩ := HIF.out.done HT.out.ok h0
              have HOP : Hid (OP b T nR false s) := ⟨h0, o1, o3, o4, o2, HIF.out.ok.mono (by omega), o5, o6⟩
              clear o1 o2 o3 o4 o5 o6 HIF
              go_wp2_with (go_at_call 9; refine Hid.out ?_)
              refine Lib.hid ?_
              refine hph.mono ?_
              rintro e wq ⟨rfl, hw⟩
              rw [hw]
              clear hw wq hph
              go_wp2_with fail
              go_meet
              case rel => exact ⟨s, HBS.out, HOP.out⟩
            · have q1 : ((s.ph : Int) != 0) = true := by rw [bne_iff_ne]; omega
              go_wp2_with (go_at_call 9; refine Hid.out ?_)
              refine Lib.hid ?_
              refine hph.mono ?_
              rintro e wq ⟨rfl, hw⟩
              rw [hw]
              clear hw wq hph c2
              have HFL : Hid (s.fs.length = nR) := by obtain ⟨d, hi⟩ := HIF.out.inv; exact hi.fl
              go_upto_block 4 with fail
              go_cut [] (fun wx => BO W0 wx gw gr pq mq mg rq bq nR { s with fs := dwn s.fs nR })
              case first =>
                as_aux_lemma =>
                go_wp2_with fail
                go_loopw [18] (fun v wx => ∃ j : Nat, v = .int .i64 j ∧ j ≤ nR ∧ BO W0 wx gw gr pq mq mg rq bq nR { s with fs := dwn s.fs j }) (fun v _ => nR - (intOf v).toNat)
                case atStart => exact ⟨0, rfl, Nat.zero_le _, by rw [dwn_zero]; exact HBS.out⟩
                case round =>
                  obtain ⟨j, rfl, hj, hbs⟩ := hrel
                  have HBX := Hid.in hbs
                  clear hbs HBS
                  have w18 : IntKind.i64.wrap ((j : Int) + 1) = (j : Int) + 1 := by rw [IntKind.wrap_i64]; omega
                  by_cases hjn : j < nR
                  · have g6 : decide ((j : Int) < (nR : Int)) = true := decide_eq_true (by omega)
                    have c1 : wr.cell? ⟨gw, 1, none⟩ = some (.pointer (some ⟨rq, 0, none⟩)) := HBX.out.st.cell 1
                    obtain ⟨lp2, lc2, hp2⟩ := HBX.out.pa
                    have htk := rtake_any rq (dwn s.fs j) s.n j wr hp2.rnd
                    rw [dwn_succ _ _ (by rw [HFL.out]; exact hjn)] at htk
                    clear hp2
                    go_wp2_with (go_at_call 10; refine Hid.out ?_)
                    refine Lib.hid ?_
                    refine htk.mono ?_
                    rintro e w7 ⟨rfl, hr7, hg7⟩
                    have HB7 := Hid.in (HBX.out.rnd hr7 hg7)
                    clear htk hr7 hg7 HBX c1
                    go_wp2_with fail
                    go_roundw
                    case rel => exact ⟨j + 1, by go_num, by omega, HB7.out⟩
                    case measure => simp [intOf]; omega
                  · have g6 : decide ((j : Int) < (nR : Int)) = false := decide_eq_false (by omega)
                    have hjs : j = nR := by omega
                    have HBY := HBX.out
                    rw [hjs] at HBY
                    have HBY := Hid.in HBY
                    go_wp2_with fail
                    go_meet
                    case rel => exact HBY.out
              case rest =>
                as_aux_lemma =>
                have HBX := Hid.in hcut
                clear hcut HBS
                generalize wc = W7 at *
                have hov : ovr (dwn s.fs nR) = true := by have h := dwn_all s.fs; rw [HFL.out] at h; exact h
                have hnx := HIF.out.next HT.out.ok h0 (List.replicate nR true) (by simp) (dwn s.fs nR) (by rw [dwn_len]; exact HFL.out) hov
                have HNX := Hid.in hnx
                have c2 : W7.cell? ⟨gw, 2, none⟩ = some (.pointer (some ⟨pq, 0, none⟩)) := HBX.out.st.cell 2
                obtain ⟨lp3, lc3, hp3⟩ := HBX.out.pa
                have hps := pstep_any W0.heap.size pq mq mg rq bq lp3 lc3 { s with fs := dwn s.fs nR } (some ⟨gr, 0, none⟩) nR (List.replicate nR true) W7 hp3 HBX.out.row ((pok_flags HIF.out.ok _).mono (by omega)) HIF.out.bt
                rw [List.length_replicate] at hps
                clear hp3 hnx
                go_wp2_with (go_at_call 11; refine Hid.out ?_)
                refine Lib.hid ?_
                refine hps.mono ?_
                rintro e w8 ⟨v8, lp4, lc4, rfl, hev, hpa, hk8⟩
                have HBS8 := Hid.in (HBX.out.turn hpa hk8)
                clear hps hev hpa hk8 HBX c2
                go_wp2_with fail
                go_roundw
                case rel => exact ⟨k + 1, _, by go_num, by omega, HBS8.out, HNX.out⟩
                case measure => simp [intOf]; omega
        · have HOP : Hid (OP b T nR true (newP b (List.replicate nR false) 0)) := ⟨HOU0.out.ph, HOU0.out.bt, HOU0.out.fl, HOU0.out.ov, HOU0.out.wr, HOU0.out.ok.mono (by omega), HOU0.out.xl, bef_up HT.out.quiet⟩
          clear HOU0
          go_wp2_with fail
          go_meet
          case rel => exact ⟨_, HBO.out, HOP.out⟩
      case rest =>
        obtain ⟨s, hbs, hop⟩ := hcut
        have HBS := Hid.in hbs
        have HOP := Hid.in hop
        clear hbs hop HBO HOU0
        generalize wc = W1 at *
        have c0 : W1.cell? ⟨gw, 0, none⟩ = some (.pointer (some ⟨mq, 0, none⟩)) := HBS.out.st.cell 0
        obtain ⟨lp3, lc3, hp3⟩ := HBS.out.pa
        have hmb := mbytes_any mq mg W0.heap.size s.xs W1 hp3.mem (by rw [HOP.out.xl]; omega)
        rw [HOP.out.xl] at hmb
        have hm20 := HT.out.m20
        go_wp2_with (go_at_call 34; refine Hid.out ?_)
        refine Lib.hid ?_
        (with_reducible refine hmb.mono ?_)
        rintro e w6 ⟨h6, rfl, ho6, hb6⟩
        have HR6 := Hid.in ho6
        have HGP := Hid.in (GP_ltO hp3)
        have HBS6 := Hid.in (HBS.out.below hb6)
        clear hmb ho6 hb6 c0 HBS hp3
        go_wp2_with (refine wp_makeI rfl _ _ rfl T.length _ _ rfl rfl rfl rfl (by omega) ?_; intro w7 HG7 HL7; refine Hid.out ?_)
        refine Lib.hid ?_
        have HBS7 := Hid.in (HBS6.out.below HL7.out)
        have HR7 := Hid.in (HR6.out.below HL7.out)
        have HLB : Hid (W0.heap.size ≤ w6.heap.size) := HBS6.out.bl.size
        clear HBS6 HR6 HL7
        generalize w6.heap.size = gt at *
        have c2 : w7.cell? ⟨gw, 2, none⟩ = some (.pointer (some ⟨pq, 0, none⟩)) := HBS7.out.st.cell 2
        obtain ⟨lp0, lc0, hp0⟩ := HBS7.out.pa
        have hst := pstart_any W0.heap.size pq mq mg rq bq lp0 lc0 s ps cs T up w7 hp0 HBS7.out.bl.size (by rw [HOP.out.xl]; omega) (by omega) HPS.out (HRS.out.below HBS7.out.bl)
        rw [strP_ok HT.out.ok HT.out.rel HOP.out.ph HOP.out.xl] at hst
        have HGK : Hid (∀ w', Keeps (GP pq mg rq bq) w7 w' → Blk w' gt 3 (numZ (List.replicate T.length 0)).toArray) := fun w' hk => hp0.keepsT HG7.out (by decide) hk
        clear hp0
        go_wp2_with (go_at_call 13; refine Hid.out ?_)
        refine Lib.hid ?_
        (with_reducible refine hst.mono ?_)
        rintro e w8 ⟨lp1, lc1, rfl, hp8, hk8⟩
        have HBS8 := Hid.in (HBS7.out.turn hp8 hk8)
        have HG8 := Hid.in (HGK.out _ hk8)
        have HR8 := Hid.in (HR7.out.keepsG hk8 HGP.out)
        have HIO0 : Hid (IO s.xs T up nR (3000 + 1) 0 (begP s T up) (fun _ => 0)) := IO.beg HOP.out.bt HOP.out.fl HOP.out.ov HOP.out.wr HOP.out.ok hm20
        have HTX := Hid.in (HT.out.ok.len HOP.out.xl)
        clear hst hp8 hk8 HBS7 c2 HGK HG7 HR7
        have HMO8 : Hid (MO W0 w8 gw gr gt h6 W1.heap.size pq mq mg rq bq nR b.length s.xs (begP s T up) (List.replicate T.length 0)) := ⟨HBS8.out, HG8.out, HR8.out, HLB.out, HGP.out⟩
        have HXB : Hid (s.xs.length = b.length) := HOP.out.xl
        clear HBS8 HG8 HR8 HLB HGP
        go_wp2_with fail
        go_loopw [21] (fun v wx => ∃ (k : Nat) (s2 : PS) (L : List Int), v = .int .i64 k ∧ k ≤ 600 ∧ MO W0 wx gw gr gt h6 W1.heap.size pq mq mg rq bq nR b.length s.xs s2 L ∧ IO s.xs T up nR (3000 + 1) k s2 (fun j => L.getD j 0) ∧ L.length = T.length) (fun v _ => 600 - (intOf v).toNat)
        case atStart => exact ⟨0, _, List.replicate T.length 0, rfl, by decide, HMO8.out, ⟨HIO0.out.ok, HIO0.out.bt, HIO0.out.inv, fun j hj => by rw [← HIO0.out.at_ j hj]; simp [List.getD, hj]⟩, by simp⟩
        case round =>
          clear HMO8 HIO0
          obtain ⟨k, s2, L, rfl, hk, hmo, hio, hLL⟩ := hrel
          have HMO := Hid.in hmo
          have HIO := Hid.in hio
          have HLL := Hid.in hLL
          clear hmo hio hLL
          generalize W1.heap.size = A at *
          have w21 : IntKind.i64.wrap ((k : Int) + 1) = (k : Int) + 1 := by rw [IntKind.wrap_i64]; omega
          by_cases hk6 : k < 600
          · have g4 : decide ((k : Int) < 600) = true := decide_eq_true (by omega)
            have c2 : wr.cell? ⟨gw, 2, none⟩ = some (.pointer (some ⟨pq, 0, none⟩)) := HMO.out.bo.st.cell 2
            obtain ⟨lp0, lc0, hp0⟩ := HMO.out.bo.pa
            have hph := pphase_any hp0
            clear hp0
            by_cases h0 : s2.ph = 0
            · as_aux_lemma =>
              have q1 : ((s2.ph : Int) != 0) = false := by rw [h0]; rfl
              go_wp2_with (go_at_call 9; refine Hid.out ?_)
              refine Lib.hid ?_
              refine hph.mono ?_
              rintro e wq ⟨rfl, hw⟩
              rw [hw]
              clear hw wq hph
              go_wp2_with (go_at_call 21; refine Hid.out ?_)
              refine Lib.hid ?_
              refine (awake_any _).mono ?_
              rintro E w9 ⟨rfl, hb⟩
              have HL9 := Hid.in (below_step HB1.out (below_step HMO.out.bo.bl hb))
              clear hb
              go_wp2_with fail
              go_ret
              exact ⟨rfl, HL9.out⟩
            · have q1 : ((s2.ph : Int) != 0) = true := by rw [bne_iff_ne]; omega
              go_wp2_with (go_at_call 9; refine Hid.out ?_)
              refine Lib.hid ?_
              refine hph.mono ?_
              rintro e wq ⟨rfl, hw⟩
              rw [hw]
              clear hw wq hph c2
              have HFL : Hid (s2.fs.length = nR) := by obtain ⟨d, hi⟩ := HIO.out.inv; exact hi.fl
              go_upto_region 29 with fail
              go_cut [115] (fun v wx => ∃ t : Bool, v = .bool t ∧ wx = wr ∧ (t = true → 0 < nR ∧ 0 < ln))
              case first =>
                as_aux_lemma =>
                by_cases hn0 : 0 < nR
                · have q2 : decide ((0 : Int) < (nR : Int)) = true := decide_eq_true (by omega)
                  by_cases hl0 : 0 < ln
                  · have q3 : decide ((0 : Int) < (ln : Int)) = true := decide_eq_true (by omega)
                    go_wp2_with fail
                    go_meet
                    case rel => exact ⟨_, rfl, rfl, fun _ => ⟨hn0, hl0⟩⟩
                  · have q3 : decide ((0 : Int) < (ln : Int)) = false := decide_eq_false (by omega)
                    go_wp2_with fail
                    go_meet
                    case rel => exact ⟨_, rfl, rfl, fun h => by cases h⟩
                · have q2 : decide ((0 : Int) < (nR : Int)) = false := decide_eq_false (by omega)
                  go_wp2_with fail
                  go_meet
                  case rel => exact ⟨_, rfl, rfl, fun h => by cases h⟩
              case rest =>
              obtain ⟨t, rfl, hw, ht⟩ := hcut
              rw [hw]
              clear hw wc
              go_upto_if 115 with fail
              go_cut [] (fun wx => ∃ fs', MO W0 wx gw gr gt h6 A pq mq mg rq bq nR b.length s.xs { s2 with fs := fs' } L ∧ fs'.length = nR ∧ (ovr s2.fs = true → ovr fs' = true))
              case first =>
                as_aux_lemma =>
                cases t
                · go_wp2_with fail
                  go_meet
                  case rel => exact ⟨s2.fs, HMO.out, HFL.out, id⟩
                · obtain ⟨hn0, hl0⟩ := ht rfl
                  have y1 : wr.cell? ⟨gw, 1, none⟩ = some (.pointer (some ⟨rq, 0, none⟩)) := HMO.out.bo.st.cell 1
                  have hm1 : ¬ (ln : Int) = 0 := by omega
                  have e1 : (k : Int).tmod (ln : Int) = ((k % ln : Nat) : Int) := by rw [Int.tmod_eq_emod_of_nonneg (by omega)]; omega
                  have hr1 : k % ln < ln := Nat.mod_lt _ (by omega)
                  have w1 : IntKind.i64.wrap ((k % ln : Nat) : Int) = ((k % ln : Nat) : Int) := by rw [IntKind.wrap_i64]; omega
                  obtain ⟨b0, o0, rfl, hc⟩ := (HLR.out.below (below_step HB1.out HMO.out.bo.bl)).num (by rw [HL.out]; omega)
                  have cz := hc (k % ln) (by rw [HL.out]; exact hr1)
                  clear hc
                  generalize LZ.getD (k % ln) 0 = z at *
                  have g5 : (0 : Int) ≤ ((k % ln : Nat) : Int) := by omega
                  have g6 : ((k % ln : Nat) : Int) < (ln : Int) := by omega
                  generalize k % ln = r at *
                  have x1r := fun d os => cell_regrown y1 d os
                  have czr := fun d os => cell_regrown cz d os
                  have HPK : Hid (nR ≤ 9223372036854775807) := by show _ ≤ _; rw [HK.out]; have := pkN_lt harts 9 (by decide); omega
                  clear HK
                  go_upto_region 30 with fail
                  refine wp_region_noPanic ?_
                  refine wp_region_sinkL [0, 1, 2, 3, 4, 5, 6, 7, 8, 9] [11] 2 [_, _, _, _, _, _, _, _, _, _] (by kernel_rfl) (by kernel_rfl) (by kernel_rfl) rfl rfl (by kernel_rfl) (by kernel_rfl) (fun _ _ _ _ _ h => h) ?_
                  iterate 10 (go_big_quiet_step (fail))
                  refine wpQuiet_nil ?_
                  rintro _ ⟨⟨dq, osq⟩, rfl⟩
                  have HQ := Hid.in (below_regrown wr dq osq)
                  generalize Go.Sort.grow (redrawn wr dq) osq = w4x at HQ ⊢
                  clear x1r czr y1 cz
                  have HMx := Hid.in (HMO.out.below HQ.out)
                  obtain ⟨lp2, lc2, hp2⟩ := HMx.out.bo.pa
                  have htk := rtake_any rq s2.fs s2.n (pkN z nR) w4x hp2.rnd
                  clear hp2
                  refine wpAnyG_one (i := 10) (by kernel_rfl) rfl (fun K hK => ?_)
                  go_simp
                  go_at_call 36
                  refine (pick_is z nR (by omega) HPK.out _).mono ?_
                  rintro e wq ⟨rfl, hw⟩
                  rw [hw]
                  clear hw wq
                  refine hK.out _ _ (regrown_of_below HQ.out) (fun _ => ?_)
                  clear hK K
                  refine wpAnyG_last (i := 11) (by kernel_rfl) rfl rfl (fun K hK => ?_)
                  go_simp
                  go_at_call 10
                  refine htk.mono ?_
                  rintro e w7 ⟨rfl, hr7, hg7⟩
                  have HM7 := Hid.in (HMx.out.rnd hr7 hg7)
                  refine hK.out _ _ ?_
                  clear hK K htk hr7 hg7
                  refine wpAnyG_done (by kernel_rfl) ?_ _
                  refine NoPanic.normal ?_
                  go_wp2_with fail
                  go_meet
                  case rel => exact ⟨_, HM7.out, by rw [drp_len]; exact HFL.out, fun h => drp_ovr _ _ h⟩
              case rest =>
                obtain ⟨fs, hmo, hfl, hov⟩ := hcut
                have HM7 := Hid.in hmo
                obtain ⟨hnx, hstay, hup⟩ := HIO.out.next HTX.out h0 (List.replicate nR true) (by simp) fs hfl hov
                have HOK : Hid (POk { s2 with fs := fs } 1000000) := (pok_flags HIO.out.ok fs).mono (by omega)
                have HBT : Hid (BtOk ({ s2 with fs := fs } : PS).bt) := HIO.out.bt
                have HXL : Hid (({ s2 with fs := fs } : PS).xs.length = b.length) := by obtain ⟨d, hi⟩ := HIO.out.inv; show s2.xs.length = b.length; rw [hi.mem.len]; exact HXB.out
                have HNX := Hid.in hnx
                have HSTAY : Hid ((({ s2 with fs := fs } : PS).ph = 5 ∨ ({ s2 with fs := fs } : PS).ph = 1 ∨ ({ s2 with fs := fs } : PS).ph = 6 ∨ ovr ({ s2 with fs := fs } : PS).fs = false) → (stpP { s2 with fs := fs } (List.replicate nR true)).s.xs = ({ s2 with fs := fs } : PS).xs) := hstay
                have HUP := Hid.in hup
                have hp6 : ({ s2 with fs := fs } : PS).ph ≤ 6 := HIO.out.ok.ph
                clear hmo hnx hstay hup hov hfl HMO HIO HFL
                generalize ({ s2 with fs := fs } : PS) = s3 at *
                generalize wc = W7 at *
                go_upto_region 31 with fail
                go_cut [22, 23, 24] (fun v22 v23 v24 wx => ∃ g1, v22 = .slice (some ⟨g1, 0, none⟩) b.length b.length ∧ v23 = .bool (ovr s3.fs) ∧ v24 = .int .u8 s3.ph ∧ Own wx A g1 b.length s3.xs ∧ MO W0 wx gw gr gt h6 A pq mq mg rq bq nR b.length s.xs s3 L)
                case first =>
                  as_aux_lemma =>
                  have HKC : Hid (∀ W, Below W7.heap.size W7 W → W.cell? ⟨gw, 0, none⟩ = some (.pointer (some ⟨mq, 0, none⟩)) ∧ W.cell? ⟨gw, 1, none⟩ = some (.pointer (some ⟨rq, 0, none⟩)) ∧ W.cell? ⟨gw, 2, none⟩ = some (.pointer (some ⟨pq, 0, none⟩))) := fun W hb => ⟨(HM7.out.bo.st.grow hb).cell 0, (HM7.out.bo.st.grow hb).cell 1, (HM7.out.bo.st.grow hb).cell 2⟩
                  obtain ⟨y0, y1, y2⟩ := HKC.out W7 (below_self _)
                  have HMd : Hid (MO W0 W7.drew gw gr gt h6 A pq mq mg rq bq nR b.length s.xs s3 L) := HM7.out.below (below_draws (below_self _) 1)
                  have HC34 : Hid (∀ W, MO W0 W gw gr gt h6 A pq mq mg rq bq nR b.length s.xs s3 L → Calls Try.prog 34 #[.pointer (some ⟨mq, 0, none⟩)] W fun e w' => ∃ h, e = .returned (.slice (some ⟨h, 0, none⟩) b.length b.length) ∧ Own w' W.heap.size h b.length s3.xs ∧ Below W.heap.size W w') := fun W hM => by
                    obtain ⟨lp5, lc5, hp5⟩ := hM.bo.pa
                    have h := mbytes_any mq mg W0.heap.size s3.xs W hp5.mem (by rw [HXL.out]; omega)
                    rw [HXL.out] at h
                    exact h
                  have HC37 : Hid (∀ W, MO W0 W gw gr gt h6 A pq mq mg rq bq nR b.length s.xs s3 L → Calls Try.prog 37 #[.pointer (some ⟨rq, 0, none⟩)] W fun e w' => e = .returned (.bool (ovr s3.fs)) ∧ w' = W) := fun W hM => by
                    obtain ⟨lp5, lc5, hp5⟩ := hM.bo.pa
                    exact over_any rq s3.fs s3.n W hp5.rnd
                  have HC9 : Hid (∀ W, MO W0 W gw gr gt h6 A pq mq mg rq bq nR b.length s.xs s3 L → Calls Try.prog 9 #[.pointer (some ⟨pq, 0, none⟩)] W fun e w' => e = .returned (.int .u8 s3.ph) ∧ w' = W) := fun W hM => by
                    obtain ⟨lp5, lc5, hp5⟩ := hM.bo.pa
                    exact pphase_any hp5
                  clear HM7
                  go_region_held3 (fun W => W.cell? ⟨gw, 0, none⟩ = some (.pointer (some ⟨mq, 0, none⟩)) ∧ W.cell? ⟨gw, 1, none⟩ = some (.pointer (some ⟨rq, 0, none⟩)) ∧ W.cell? ⟨gw, 2, none⟩ = some (.pointer (some ⟨pq, 0, none⟩))) (first | (with_reducible exact hk3) | go_keep)
                    (first
                      | (go_at_call 34; (with_reducible refine (HC34.out _ HMd.out).mono ?_); rintro E w3 ⟨g1, rfl, ho3, hb3⟩; have HB3 := Hid.in (below_step (below_draws (below_self W7) 1) hb3); have hk3 := HKC.out w3 HB3.out; have HO3 := Hid.in (HMd.out.own ho3); have HM3 := Hid.in (HMd.out.below hb3); clear ho3 hb3)
                      | (go_at_call 37; (with_reducible refine (HC37.out _ HM3.out).mono ?_); rintro E w4 ⟨rfl, hw4⟩; rw [hw4]; clear hw4 w4)
                      | (go_at_call 9; (with_reducible refine (HC9.out _ HM3.out).mono ?_); rintro E w5 ⟨rfl, hw5⟩; rw [hw5]; clear hw5 w5))
                  go_wp2_with fail
                  go_meet
                  case rel => exact ⟨g1, rfl, rfl, rfl, HO3.out, HM3.out⟩
                case rest =>
                  obtain ⟨g1, rfl, rfl, rfl, ho1, hmo⟩ := hcut
                  have HO1 := Hid.in ho1
                  have HM8 := Hid.in hmo
                  clear ho1 hmo HM7
                  generalize wc = W8 at *
                  have c2 : W8.cell? ⟨gw, 2, none⟩ = some (.pointer (some ⟨pq, 0, none⟩)) := HM8.out.bo.st.cell 2
                  obtain ⟨lp3, lc3, hp3⟩ := HM8.out.bo.pa
                  have hps := pstep_any W0.heap.size pq mq mg rq bq lp3 lc3 s3 (some ⟨gr, 0, none⟩) nR (List.replicate nR true) W8 hp3 HM8.out.bo.row HOK.out HBT.out
                  rw [List.length_replicate] at hps
                  clear hp3
                  go_wp2_with (go_at_call 11; refine Hid.out ?_)
                  refine Lib.hid ?_
                  refine hps.mono ?_
                  rintro e w9 ⟨v9, lp4, lc4, rfl, hev, hpa, hk9⟩
                  have HM9 := Hid.in (HM8.out.turn hpa hk9)
                  have HO9 := Hid.in (HO1.out.keepsG hk9 HM8.out.gp)
                  clear hps hev hpa hk9 HM8 HO1 c2 HOK HBT
                  generalize (stpP s3 (List.replicate nR true)).s = s9 at *
                  have HX9 : Hid (s9.xs.length = b.length) := by obtain ⟨d, hi⟩ := HNX.out.inv; show _ = _; rw [hi.mem.len]; exact HXB.out
                  have c0 : w9.cell? ⟨gw, 0, none⟩ = some (.pointer (some ⟨mq, 0, none⟩)) := HM9.out.bo.st.cell 0
                  obtain ⟨lp6, lc6, hp6'⟩ := HM9.out.bo.pa
                  have hmb9 := mbytes_any mq mg W0.heap.size s9.xs w9 hp6'.mem (by rw [HX9.out]; omega)
                  rw [HX9.out] at hmb9
                  clear hp6'
                  go_wp2_with (go_at_call 34; refine Hid.out ?_)
                  refine Lib.hid ?_
                  (with_reducible refine hmb9.mono ?_)
                  rintro e w10 ⟨g2, rfl, ho2, hb10⟩
                  have HO2 := Hid.in (HM9.out.own ho2)
                  have HM10 := Hid.in (HM9.out.below hb10)
                  have HO10 := Hid.in (HO9.out.below hb10)
                  clear hmb9 ho2 hb10 HM9 HO9 c0
                  have HC33 : Hid ((s3.ph = 5 ∨ s3.ph = 1 ∨ s3.ph = 6 ∨ ovr s3.fs = false) → Calls Try.prog 33 #[.slice (some ⟨g1, 0, none⟩) b.length b.length, .slice (some ⟨g2, 0, none⟩) b.length b.length] w10 fun e w' => e = .returned (.bool true) ∧ ∃ m, w' = w10.drewN m) := fun hp => by
                    have h := sameBytes_any (some ⟨g1, 0, none⟩) (some ⟨g2, 0, none⟩) b.length b.length b.length b.length s3.xs s9.xs w10 HXL.out HX9.out (by omega) HO10.out.row HO2.out.row
                    rw [HSTAY.out hp, sameB_self] at h
                    exact h
                  clear HSTAY HO10 HXL
                  generalize s3.ph = ph at *
                  generalize ovr s3.fs = ov at *
                  go_upto_region 34 with fail
                  go_cut [163] (fun v wx => v = .bool false ∧ Below w10.heap.size w10 wx)
                  case first =>
                    as_aux_lemma =>
                    clear HM10 HO2 HNX HUP HX9
                    by_cases e5 : ph = 5
                    · have q5 : ((ph : Int) == 5) = true := by rw [beq_iff_eq]; omega
                      have hC := HC33.out (.inl e5)
                      clear e5 HC33
                      go_wp2_with (go_at_call 33; refine Hid.out ?_)
                      refine Lib.hid ?_
                      refine hC.mono ?_
                      rintro e w11 ⟨rfl, m, rfl⟩
                      go_wp2_with fail
                      go_meet
                      case rel => exact ⟨rfl, below_draws (below_self _) m⟩
                    · have q5 : ((ph : Int) == 5) = false := by rw [beq_eq_false_iff_ne]; omega
                      by_cases e1 : ph = 1
                      · have q1 : ((ph : Int) == 1) = true := by rw [beq_iff_eq]; omega
                        have hC := HC33.out (.inr (.inl e1))
                        clear e1 HC33
                        go_wp2_with (go_at_call 33; refine Hid.out ?_)
                        refine Lib.hid ?_
                        refine hC.mono ?_
                        rintro e w11 ⟨rfl, m, rfl⟩
                        go_wp2_with fail
                        go_meet
                        case rel => exact ⟨rfl, below_draws (below_self _) m⟩
                      · have q1 : ((ph : Int) == 1) = false := by rw [beq_eq_false_iff_ne]; omega
                        by_cases e6 : ph = 6
                        · have q6 : ((ph : Int) == 6) = true := by rw [beq_iff_eq]; omega
                          have hC := HC33.out (.inr (.inr (.inl e6)))
                          clear e6 HC33
                          go_wp2_with (go_at_call 33; refine Hid.out ?_)
                          refine Lib.hid ?_
                          refine hC.mono ?_
                          rintro e w11 ⟨rfl, m, rfl⟩
                          go_wp2_with fail
                          go_meet
                          case rel => exact ⟨rfl, below_draws (below_self _) m⟩
                        · have q6 : ((ph : Int) == 6) = false := by rw [beq_eq_false_iff_ne]; omega
                          cases ov
                          · have hC := HC33.out (.inr (.inr (.inr rfl)))
                            clear HC33
                            go_wp2_with (go_at_call 33; refine Hid.out ?_)
                            refine Lib.hid ?_
                            refine hC.mono ?_
                            rintro e w11 ⟨rfl, m, rfl⟩
                            go_wp2_with fail
                            go_meet
                            case rel => exact ⟨rfl, below_draws (below_self _) m⟩
                          · go_wp2_with fail
                            go_meet
                            case rel => exact ⟨rfl, below_self _⟩
                  case rest =>
                    obtain ⟨rfl, hb⟩ := hcut
                    have HM11 := Hid.in (HM10.out.below hb)
                    have HO11 := Hid.in (HO2.out.below hb)
                    clear hb HM10 HO2 HC33
                    generalize wc = w11 at *
                    go_wp2_with fail
                    go_loopw [26] (fun v wx => ∃ (i : Nat) (L2 : List Int), v = .int .i64 i ∧ i ≤ T.length ∧ MO W0 wx gw gr gt h6 A pq mq mg rq bq nR b.length s.xs s9 L2 ∧ L2.length = T.length ∧ (∀ j, j < T.length → L2.getD j 0 = if j < i then atS (sgS T s9 j) else L.getD j 0) ∧ Own wx A g2 b.length s9.xs) (fun v _ => T.length - (intOf v).toNat)
                    case atStart => exact ⟨0, L, rfl, Nat.zero_le _, HM11.out, HLL.out, fun j _ => by rw [if_neg (by omega)], HO11.out⟩
                    case round =>
                      clear HM11 HO11
                      obtain ⟨i, L2, rfl, hi, hmo, hl2, hget, ho⟩ := hrel
                      have HMi := Hid.in hmo
                      have HL2 := Hid.in hl2
                      have HGET := Hid.in hget
                      have HOi := Hid.in ho
                      clear hmo hl2 hget ho
                      have w26 : IntKind.i64.wrap ((i : Int) + 1) = (i : Int) + 1 := by rw [IntKind.wrap_i64]; omega
                      by_cases hin : i < T.length
                      · as_aux_lemma =>
                        have g1 : decide ((i : Int) < (T.length : Int)) = true := decide_eq_true (by omega)
                        have g2' : (0 : Int) ≤ (i : Int) := by omega
                        have g3 : (i : Int) < (T.length : Int) := by omega
                        obtain ⟨bS, oS, rfl, hS⟩ := at3 (HRS.out.below HMi.out.bo.bl) (by omega)
                        have hSi := hS i hin
                        have hfit := HT.out.ok.fit i hin
                        have hlo := HT.out.ok.srt.lo i hin
                        have hto := HT.out.ok.to_ i hin
                        obtain ⟨d, hi9⟩ := HNX.out.inv
                        have h5 := site5 HTX.out hi9 i hin
                        have hst := stdF_of HOP.out.bef i hin (sgS T s9 i) (sgS_le T s9 i hi9)
                        rw [← h5] at hst
                        have hfs := find_site HTX.out hi9 i hin
                        have hge : L.getD i 0 ≤ atS (sgS T s9 i) := HUP.out i hin
                        have hli := HGET.out i hin
                        rw [if_neg (Nat.lt_irrefl _)] at hli
                        rw [← hli] at hge
                        obtain ⟨z, hz⟩ : ∃ z, z = atS (sgS T s9 i) := ⟨_, rfl⟩
                        rw [← hz] at hst hfs hge
                        have HZ := Hid.in hz
                        clear h5 hi9 hli hz hS HUP
                        generalize T[i] = x at *
                        obtain ⟨xk, xa, xt⟩ := x
                        dsimp only at *
                        obtain ⟨a, rfl⟩ : ∃ a : Nat, xa = (a : Int) := ⟨xa.toNat, by omega⟩
                        rw [Int.toNat_natCast] at hst
                        obtain ⟨z0, z1, z2⟩ := hSi
                        have hfa := fun (W : World) (hM : MO W0 W gw gr gt h6 A pq mq mg rq bq nR b.length s.xs s9 L2) => hM.bo.pa.elim fun lp5 h => h.elim fun lc5 hp5 => pfind_any hp5 HNX.out.bt (a : Int) (by omega) (by omega)
                        obtain ⟨fto, fnd, hfd⟩ : ∃ p q, fndP s9.bt (a : Int) = (p, q) := ⟨_, _, rfl⟩
                        rw [hfd] at hfs hfa
                        dsimp only at hfs hfa
                        have HFD := Hid.in hfa
                        have HSTD : Hid (∀ W, MO W0 W gw gr gt h6 A pq mq mg rq bq nR b.length s.xs s9 L2 → Own W A g2 b.length s9.xs → Calls Try.prog 39 #[.slice (some ⟨g2, 0, none⟩) b.length b.length, .slice (some ⟨h6, 0, none⟩) b.length b.length, .agg #[.int .i64 xk, .int .i64 (a : Nat), .int .i64 xt], .bool up] W fun e w' => e = .returned (.int .i64 z) ∧ Below W.heap.size W w') := fun W hM hO => by
                          have h := stands_any g2 h6 b.length a xk xt s9.xs s.xs up W HX9.out HXB.out (by omega) (by omega) hto hO.row hM.be.row
                          rw [hst] at h
                          exact h
                        obtain ⟨hf1, hf2⟩ := hfs
                        have HF1 := Hid.in hf1
                        have HF2 := Hid.in hf2
                        clear hst hfa hfd hf1 hf2
                        have ci0 := HMi.out.at_ i (by rw [HL2.out]; exact hin)
                        clear ci0
                        go_wp2_with (go_at_call 39; refine Hid.out ?_)
                        refine Lib.hid ?_
                        refine (HSTD.out _ HMi.out HOi.out).mono ?_
                        rintro e w12 ⟨rfl, hb12⟩
                        have HM12 := Hid.in (HMi.out.below hb12)
                        have HO12 := Hid.in (HOi.out.below hb12)
                        have x1 : w12.cell? ⟨bS, oS + i * 3 + 1, none⟩ = some (.int .i64 (a : Nat)) := by rw [hb12.cell (p := ⟨bS, oS + i * 3 + 1, none⟩) (cell_lt z1)]; exact z1
                        have x2 : w12.cell? ⟨bS, oS + i * 3 + 2, none⟩ = some (.int .i64 xt) := by rw [hb12.cell (p := ⟨bS, oS + i * 3 + 2, none⟩) (cell_lt z2)]; exact z2
                        clear z0 z1 z2 hb12 HMi HOi HSTD
                        have HKC : Hid (∀ W, Below w12.heap.size w12 W → W.cell? ⟨gw, 2, none⟩ = some (.pointer (some ⟨pq, 0, none⟩)) ∧ W.cell? ⟨bS, oS + i * 3 + 1, none⟩ = some (.int .i64 (a : Nat)) ∧ W.cell? ⟨bS, oS + i * 3 + 2, none⟩ = some (.int .i64 xt)) := fun W hb => ⟨(HM12.out.bo.st.grow hb).cell 2, by rw [hb.cell (p := ⟨bS, oS + i * 3 + 1, none⟩) (cell_lt x1)]; exact x1, by rw [hb.cell (p := ⟨bS, oS + i * 3 + 2, none⟩) (cell_lt x2)]; exact x2⟩
                        clear x1 x2
                        obtain ⟨y2, x1, x2⟩ := HKC.out w12 (below_self _)
                        have HMd : Hid (MO W0 w12.drew gw gr gt h6 A pq mq mg rq bq nR b.length s.xs s9 L2) := HM12.out.below (below_draws (below_self _) 1)
                        have HOd : Hid (Own w12.drew A g2 b.length s9.xs) := HO12.out.below (below_draws (below_self _) 1)
                        have wa : IntKind.u32.wrap (a : Int) = (a : Int) := by rw [IntKind.wrap_u32]; omega
                        have w5 : IntKind.i64.wrap ((a : Int) + 5) = (a : Int) + 5 := by rw [IntKind.wrap_i64]; omega
                        have HFT : Hid ((a : Int) + 5 ≤ 70000 ∧ 0 ≤ (a : Int) + 5) := by show _ ∧ _; omega
                        clear HM12 HO12 hfit
                        go_upto_region 40 with fail
                        go_region_held3 (fun W => W.cell? ⟨gw, 2, none⟩ = some (.pointer (some ⟨pq, 0, none⟩)) ∧ W.cell? ⟨bS, oS + i * 3 + 1, none⟩ = some (.int .i64 (a : Nat)) ∧ W.cell? ⟨bS, oS + i * 3 + 2, none⟩ = some (.int .i64 xt)) (first | (with_reducible exact hk3) | go_keep)
                          (first | (go_at_call 19; (with_reducible refine (HFD.out _ HMd.out).mono ?_); rintro E w13 ⟨rfl, hb13⟩; have HB13 := Hid.in (below_step (below_draws (below_self w12) 1) hb13); have hk3 := HKC.out w13 HB13.out; have HM13 := Hid.in (HMd.out.below hb13); have HO13 := Hid.in (HOd.out.below hb13); clear hb13))
                        obtain ⟨-, x1', x2'⟩ := hk3
                        have cl := HM13.out.at_ i (by rw [HL2.out]; exact hin)
                        have fl := HM13.out.la.free i
                        clear y2 x1 x2 HMd HOd HKC HFD HB13
                        go_upto_region 41 with fail
                        go_upto_if 196 with fail
                        go_cut [30] (fun v wx => v = .int .i64 (if up = true then xt else (a : Int) + 5) ∧ wx = w13)
                        case first =>
                          as_aux_lemma =>
                          clear HM13 HO13 HOP HTX HNX HT
                          cases up
                          · go_wp2_with fail
                            go_meet
                            case rel => exact ⟨rfl, rfl⟩
                          · go_wp2_with fail
                            go_meet
                            case rel => exact ⟨rfl, rfl⟩
                        case rest =>
                        obtain ⟨rfl, hw⟩ := hcut
                        rw [hw]
                        clear hw wc x1' x2'
                        have HW : Hid (0 ≤ (if up = true then xt else (a : Int) + 5) ∧ (if up = true then xt else (a : Int) + 5) ≤ 70000) := by have hft := HFT.out; show 0 ≤ _ ∧ _ ≤ _; split <;> omega
                        generalize (if up = true then xt else (a : Int) + 5) = want at *
                        generalize L2.getD i 0 = l0 at *
                        have q0 : decide (z < l0) = false := decide_eq_false (by omega)
                        go_upto_region 44 with fail
                        go_cut [224] (fun v wx => v = .bool false ∧ wx = w13)
                        case first =>
                          as_aux_lemma =>
                          clear HM13 HO13 HOP HTX HNX HT
                          cases fnd
                          · have hz1 : z ≠ 1 := fun h => by have h2 := HF1.out h; cases h2
                            have q1 : (z == 1) = false := by rw [beq_eq_false_iff_ne]; exact hz1
                            clear hz1
                            go_wp2_with fail
                            go_meet
                            case rel => exact ⟨rfl, rfl⟩
                          · have hto2 : fto = want := HF2.out rfl
                            have hW := HW.out
                            subst hto2
                            have q2 : IntKind.i64.wrap fto = fto := by rw [IntKind.wrap_i64]; omega
                            have q3 : (fto != fto) = false := by simp
                            by_cases hz1 : z = 1
                            · have q1 : (z == 1) = true := by rw [beq_iff_eq]; exact hz1
                              clear hz1
                              go_wp2_with fail
                              go_meet
                              case rel => exact ⟨rfl, rfl⟩
                            · have q1 : (z == 1) = false := by rw [beq_eq_false_iff_ne]; exact hz1
                              clear hz1
                              go_wp2_with fail
                              go_meet
                              case rel => exact ⟨rfl, rfl⟩
                        case rest =>
                        obtain ⟨rfl, hw⟩ := hcut
                        rw [hw]
                        clear hw wc q0 hge
                        have HMz := Hid.in (HM13.out.put i z)
                        have HOz := Hid.in (HO13.out.off3 HM13.out.la (grown_setCell w13 gt i (.int .i64 z)))
                        have hLL2 := HL2.out
                        go_wp2_with fail
                        go_roundw
                        case rel => exact ⟨i + 1, L2.set i z, by go_num, by omega, HMz.out, by rw [List.length_set]; exact hLL2, fun j hj => by
                          rw [getD_set_at L2 i j z (by omega), HGET.out j hj]
                          by_cases hji : j = i
                          · subst hji; rw [if_pos rfl, if_pos (by omega)]; exact HZ.out
                          · rw [if_neg hji]
                            by_cases h : j < i
                            · rw [if_pos h, if_pos (by omega)]
                            · rw [if_neg h, if_neg (by omega)], HOz.out⟩
                        case measure => simp [intOf]; omega
                      · as_aux_lemma =>
                        have g1 : decide ((i : Int) < (T.length : Int)) = false := decide_eq_false (by omega)
                        have hie : i = T.length := by omega
                        have HGT : Hid (∀ j, j < T.length → L2.getD j 0 = atS (sgS T s9 j)) := fun j hj => by rw [HGET.out j hj, if_pos (by omega)]
                        go_wp2_with fail
                        go_roundw
                        case rel => exact ⟨k + 1, s9, L2, by go_num, by omega, HMi.out, ⟨HNX.out.ok, HNX.out.bt, HNX.out.inv, fun j hj => HGT.out j hj⟩, HL2.out⟩
                        case measure => simp [intOf]; omega
          · as_aux_lemma =>
            have g4 : decide ((k : Int) < 600) = false := decide_eq_false (by omega)
            go_wp2_with (go_at_call 21; refine Hid.out ?_)
            refine Lib.hid ?_
            refine (awake_any _).mono ?_
            rintro E w9 ⟨rfl, hb⟩
            have HL9 := Hid.in (below_step HB1.out (below_step HMO.out.bo.bl hb))
            clear hb
            go_wp2_with fail
            go_ret
            exact ⟨rfl, HL9.out⟩
end Go.Proofs.Ytekggimgobeggaa

namespace Go.Proofs.Ytekggimgobeggaa
open Go.ChangeShapes Go.WideShapes Go.ChangeAt Go.RowKit
open Go.ChangeMaps (open_string shut_string)

set_option maxRecDepth 100000 in
theorem pokeOrder_lifted (os : Os) (started : os.Started) (H : Type) (enc : TypeId × Value → H) :
    ReturnsInHanded {} Try.checked os 7 .any (Rows.pokeOrderSpec.pre6 enc Try.prog Try.f7 Rows.pokeOrderRow.domain false) (Rows.pokeOrderSpec.post enc Try.prog Try.f7 false true false false) := by
  refine returnsInHanded_of_change_sized (C := Try.checked) Try.own started (by kernel_rfl) Try.func7
    (ChangeSpec.witness6 (enc := enc) (C := Try.checked) false ⟨#[], #[.slice none 0 0, .int .i64 0, .slice none 0 0, .bool false], []⟩ 8 (by kernel_rfl) (by kernel_rfl) (by kernel_rfl) (by kernel_rfl)) ?_
  intro W base args ds gs before hval0 hW hcnd hsz0 _
  have hW' := hW
  obtain ⟨p, q, hA0, hV, rfl, hfz, hnd⟩ := hW
  have hA : DataW.TrodAll enc Try.prog W 0 (fun _ => true) true Try.f7.params.toList args.toList ds p := hA0
  have hval : ∀ (j : Nat) t v, Try.f7.params[j]? = some t → args[j]? = some v → Value.okWide Try.prog W .any base t v := hval0
  have hsz : (DataW.weightsEach Try.prog (Try.f7.params.toList ++ Rows.pokeOrderSpec.plain.varTypes Try.prog) (ds ++ gs)).all (· ≤ reachBytes) = true := hsz0
  rw [Try.params7] at hA hval hsz
  obtain ⟨v0, vs0, d0, ds0, p0, q0_, hargs, rfl, rfl, h0, r0⟩ := trodAll_cons hA
  obtain ⟨v1, vs1, d1, ds1, p1, q1_, rfl, rfl, rfl, h1, r1⟩ := trodAll_cons r0
  obtain ⟨v2, vs2, d2, ds2, p2, q2_, rfl, rfl, rfl, h2, r2⟩ := trodAll_cons r1
  obtain ⟨v3, vs3, d3, ds3, p3, q3_, rfl, rfl, rfl, h3, r3⟩ := trodAll_cons r2
  obtain ⟨rfl, rfl, rfl⟩ := trodAll_nil r3
  obtain rfl : args = #[v0, v1, v2, v3] := by cases args; simp_all
  obtain ⟨rfl, rfl⟩ := trodVars_none hV
  have k0 := h0
  have lt0 : ∀ x ∈ p0, x.block < W.heap.size := by obtain ⟨m, hm⟩ := k0; exact DataW.trod_lt m _ _ _ hm
  obtain ⟨q0, n0, e0, Z0, rfl, hz0, hn0, hc0, hr0⟩ := open_ints_val (hval 0 102 v0 rfl rfl) h0 hsz (j := 0) rfl rfl
  obtain ⟨a1, rfl, rfl, rfl, w1⟩ := open_int Try.underlying3 (hval 1 3 v1 rfl rfl) h1
  have k2 := h2
  have lt2 : ∀ x ∈ p2, x.block < W.heap.size := by obtain ⟨m, hm⟩ := k2; exact DataW.trod_lt m _ _ _ hm
  obtain ⟨q2, n2, e2, Z2, rfl, hz2, hn2, hc2, hr2⟩ := open_ints_val (hval 2 102 v2 rfl rfl) h2 hsz (j := 2) rfl rfl
  obtain ⟨b3, rfl, rfl, rfl⟩ := open_bool Try.underlying4 (hval 3 4 v3 rfl rfl) h3
  refine (order_walk q0 n0 e0 Z0 a1 q2 n2 e2 Z2 b3 W hz0 hn0 hc0 hr0 hz2 (by omega) hr2).mono fun e W' ⟨he, bel⟩ => ?_
  subst he
  exact ⟨_, rfl, _, _, _, [], _, [], hW', trodAll_mk1 (shut_bool Try.underlying4 _), (trodAll_cons_mk (Below.trod Try.laidOut (by kernel_rfl) (of_decide_eq_true (by kernel_rfl)) k0 bel lt0) (trodAll_cons_mk (shut_int Try.underlying3 w1) (trodAll_cons_mk (Below.trod Try.laidOut (by kernel_rfl) (of_decide_eq_true (by kernel_rfl)) k2 bel lt2) (trodAll_cons_mk (shut_bool Try.underlying4 _) trodAll_mk0)))), rfl, bel.frame _, fun h => by cases h⟩

theorem pokeOrder_holds : Rows.PokeOrderSaid :=
  OpenClaim.holds_of_wide 7 Try.f7 rfl rfl rfl rfl rfl rfl rfl ⟨rfl, rfl, rfl, rfl, rfl⟩ rfl rfl rfl rfl rfl (by kernel_rfl) Try.func7 (by kernel_rfl)
    (of_decide_eq_true (by kernel_rfl)) (by unfold Func.isWrapper; first | (rw [if_pos (by decide +kernel)]; kernel_rfl) | (rw [if_neg (by decide +kernel)]; exact ⟨rfl, rfl⟩))
    (fun os started H enc _ => pokeOrder_lifted os started H enc)
#print axioms pokeOrder_holds

end Go.Proofs.Ytekggimgobeggaa
