/-
  Proved here: the law SourceParses (switchyardlaw04) answers true for every input, and each argument reads afterwards as it read before; the card: what the row lists of the library's variables is tied to the program's text. No condition of ours: the row's own reach alone.
-/
import Derived.Test.YtgfmmbbebodapaaGreatDoorRows
import Derived.Test.YtgfmmbbebodapaaGreatDoorKa
import Derived.WalkKit
import Derived.ProofKit
import Derived.OpenShut
import Derived.ShutString
import Derived.ChangeOld
import Derived.Below
import Derived.SizedLaws
import Derived.Test.YtgfmmbbebodapaaGreatDoorKt
import Derived.Test.YtgfmmbbebodapaaGreatDoorKq
import Derived.Test.YtgfmmbbebodapaaGreatDoorKzb
import Derived.Test.YtgfmmbbebodapaaGreatDoorKs
import Derived.Test.YtgfmmbbebodapaaGreatDoorKu
import Derived.Test.YtgfmmbbebodapaaGreatDoorCards
import Derived.Test.YtgfmmbbebodapaaGreatDoorTie
import Derived.SevenTiedAt

/- How the arguments of a law are opened: a slice of bytes, a text, numbers; and that they lie within the form's own reach. -/
namespace Go.Proofs.YtgfmmbbebodapaaGreatDoor
open Go.ChangeShapes Go.WideShapes Go.ChangeAt Go.RowKit

theorem Tryz.own : ownKnob Tryz.prog.godebug = none := by kernel_rfl
theorem Tryz.laidOut : laidOutB Tryz.prog = true := by kernel_rfl
theorem Tryz.cells5 : Tryz.prog.cellsOf 5 = 1 := by kernel_rfl
theorem Tryz.bytes5 : Tryz.prog.bytesOf 5 = 1 := by kernel_rfl

theorem wf_u8 {x : Int} (h : (Lit.int .u8 x).wf = true) : 0 ≤ x ∧ x ≤ 255 := by
  have h1 : IntKind.u8.min = 0 := rfl
  have h2 : IntKind.u8.max = 255 := rfl
  simp only [Lit.wf, Bool.and_eq_true, decide_eq_true_eq] at h
  omega
theorem wf_u32 {x : Int} (h : (Lit.int .u32 x).wf = true) : 0 ≤ x ∧ x ≤ 4294967295 := by
  have h1 : IntKind.u32.min = 0 := rfl
  have h2 : IntKind.u32.max = 4294967295 := rfl
  simp only [Lit.wf, Bool.and_eq_true, decide_eq_true_eq] at h
  omega
theorem wf_i32 {x : Int} (h : (Lit.int .i32 x).wf = true) : -2147483648 ≤ x ∧ x ≤ 2147483647 := by
  have h1 : IntKind.i32.min = -2147483648 := rfl
  have h2 : IntKind.i32.max = 2147483647 := rfl
  simp only [Lit.wf, Bool.and_eq_true, decide_eq_true_eq] at h
  omega
theorem wf_i64 {x : Int} (h : (Lit.int .i64 x).wf = true) : -9223372036854775808 ≤ x ∧ x ≤ 9223372036854775807 := by
  have h1 : IntKind.i64.min = -9223372036854775808 := rfl
  have h2 : IntKind.i64.max = 9223372036854775807 := rfl
  simp only [Lit.wf, Bool.and_eq_true, decide_eq_true_eq] at h
  omega

theorem getD_of_mem {P : Int → Prop} (h0 : P 0) {zs : List Int} (h : ∀ n ∈ zs, P n) (i : Nat) : P (zs.getD i 0) := by
  by_cases hi : i < zs.length
  · have := h zs[i] (List.getElem_mem hi)
    simpa [List.getD, hi] using this
  · simpa [List.getD, List.getElem?_eq_none (show zs.length ≤ i by omega)] using h0

/-- a slice of bytes that came in: its bytes, where they lie, and its datum -/
theorem opened {H : Type} {enc : TypeId × Value → H} {W : World} {a : Option Addr} {n c : Nat} {d : DataW H} {p : List MemPlace}
    (h : DataW.Trod enc Tryz.prog W 0 (fun _ => true) true 26 (.slice a n c) d p) :
    ∃ xs : List Int, xs.length = n ∧ n ≤ c ∧ Row W a xs ∧ Byt xs ∧ ((d = .nil ∧ c = 0) ∨ ∃ es sp, d = .slice es sp ∧ es.length + sp.length = c) := by
  obtain ⟨fuel, hf⟩ := h
  rcases open_ints Tryz.underlying26 Tryz.underlying5 Tryz.cells5 hf with ⟨hcs, hx⟩ | ⟨ad, l, cc, zs, hcs, _, hl, hm, hz, hx, hcell, hwz⟩
  · simp [Value.cells] at hcs
    obtain ⟨rfl, rfl, rfl⟩ := hcs
    simp only [Prod.mk.injEq] at hx
    exact ⟨[], rfl, Nat.le_refl _, fun h => absurd h (Nat.lt_irrefl 0), fun i => by simp, .inl ⟨hx.1, rfl⟩⟩
  · simp [Value.cells] at hcs
    obtain ⟨rfl, rfl, rfl⟩ := hcs
    simp only [Prod.mk.injEq] at hx
    simp only [if_true] at hz
    have hlen : (zs.take n).length = n := by rw [List.length_take]; omega
    refine ⟨zs.take n, hlen, hl, fun h0 => ?_, fun i => getD_of_mem (P := fun x => 0 ≤ x ∧ x ≤ 255) (by decide) (fun x hx' => wf_u8 (hwz x (List.mem_of_mem_take hx'))) i, .inr ⟨_, _, hx.1, ?_⟩⟩
    · obtain ⟨b, o, s⟩ := ad
      obtain rfl : s = none := by simpa [Addr.add] using World.cell?_spot (hcell 0 (by omega))
      exact ⟨b, o, rfl, fun i hi => by rw [← Go.WideShapes.add_plain, hcell i (by omega)]; simp [List.getD, show i < n by omega]⟩
    · simp [lits]; omega

theorem reach_slice {H : Type} {ts : List TypeId} {ds : List (DataW H)} (hsz : (DataW.weightsEach Tryz.prog ts ds).all (· ≤ reachBytes) = true) {j : Nat} {d : DataW H} {c : Nat} (ht : ts[j]? = some 26) (hd : ds[j]? = some d)
    (h : (d = .nil ∧ c = 0) ∨ ∃ es sp, d = .slice es sp ∧ es.length + sp.length = c) : c ≤ 140737488351232 := by
  rcases h with ⟨_, rfl⟩ | ⟨es, sp, rfl, hl⟩
  · omega
  · have := sized_slice hsz (j := j) (t := 26) (e := 5) ht hd Tryz.underlying26
    rw [Tryz.bytes5] at this
    simp only [reachBytes] at this
    omega

theorem reach_string {H : Type} {ts : List TypeId} {ds : List (DataW H)} (hsz : (DataW.weightsEach Tryz.prog ts ds).all (· ≤ reachBytes) = true) {j : Nat} {s : ByteArray} (ht : ts[j]? = some 9) (hd : ds[j]? = some (.lit (.string s.data.toList))) : s.size ≤ 140737488351232 := by
  have := sized_string hsz (j := j) (t := 9) ht hd
  simp only [reachBytes] at this
  simpa using this

end Go.Proofs.YtgfmmbbebodapaaGreatDoor

/- A list of items that a call has made is written over, cell by cell: what stays. -/
namespace Go.Proofs.YtgfmmbbebodapaaGreatDoor
open Go.RowKit

/-- a slice of bytes in a block of its own, whatever it holds -/
def Dat (w : World) (B S : Nat) (v : Value) (n : Nat) : Prop := (∃ ys, w.ownsRow B 5 1 v n ys) ∧ ∀ g, v.ownBlock = some g → g < S
/-- the list v of items, written over as far as i; blocks below B and from S on are as in W0 -/
structure Spl (W0 W : World) (B S : Nat) (v : Value) (L : List (Src × Value)) (i : Nat) : Prop where
  row : ∃ xs, W.ownsRow B 28 9 v L.length xs ∧ ∀ j (h : j < L.length), i ≤ j → xs[j * 9 + 8]? = some (L[j]).2
  blk : ∀ g, v.ownBlock = some g → g < S
  dat : ∀ q ∈ L, Dat W B S q.2 q.1.d.length
  lo : Below B W0 W
  hi : ∀ g, S ≤ g → W.heap[g]? = W0.heap[g]?
  bs : B ≤ S
theorem IOwn.spl {w W : World} {B : Nat} {v : Value} {L : List (Src × Value)} (h : IOwn w B v L) (hb : Below w.heap.size w W) (hB : B ≤ w.heap.size) : Spl W W B w.heap.size v L 0 := by
  refine ⟨⟨cells9 L, row_below h.row hb, fun j hj _ => ?_⟩, fun g hg => (h.row.lt g hg).2, fun q hq => ⟨⟨byts q.1.d, ?_⟩, fun g hg => ?_⟩, Below.refl _ _, fun _ _ => rfl, hB⟩
  · rw [cells9_at L j hj 8 (by decide)]; rfl
  · have := (h.dat q hq).below hb
    have hl : (byts q.1.d).length = q.1.d.length := List.length_map _
    have h2 : W.ownsRow B 5 1 q.2 (byts q.1.d).length (byts q.1.d) := this
    rw [hl] at h2; exact h2
  · have h2 : w.ownsRow B 5 1 q.2 (byts q.1.d).length (byts q.1.d) := h.dat q hq
    exact (h2.lt g hg).2
theorem rows_apart {w : World} {T T' : TypeId} {B B' z z' n n' : Nat} {v v' : Value} {xs xs' : List Value} (h : w.ownsRow B T z v n xs) (h' : w.ownsRow B' T' z' v' n' xs') (hne : T ≠ T') : v.ownBlock = none ∨ v.ownBlock ≠ v'.ownBlock := by
  rcases h.2 with ⟨e, _⟩ | ⟨g, cap, cur, e, _, e3, _⟩
  · exact .inl (by rw [e]; rfl)
  · refine .inr ?_
    rcases h'.2 with ⟨e', _⟩ | ⟨g2, cap2, cur2, e', _, e5, _⟩
    · rw [e, e']; simp [Value.ownBlock]
    · rw [e, e']
      simp only [Value.ownBlock]
      intro ee; injection ee with ee; subst ee
      rw [e3] at e5
      simp at e5
      exact hne e5.2
theorem low_of_set {W0 W : World} {B g j : Nat} {u : Value} (h : Below B W0 W) (hg : B ≤ g) (hl : B ≤ W.heap.size) : Below B W0 (W.setCell ⟨g, j, none⟩ u) := h.trans (below_grown (grown_setCell W g j u) hg hl)
/-- a byte of an item's data is written over -/
theorem Spl.byte {W0 W : World} {B S : Nat} {v : Value} {L : List (Src × Value)} {i : Nat} (h : Spl W0 W B S v L i) {q : Src × Value} (hq : q ∈ L) {g n cap : Nat} (hg : q.2 = .slice (some ⟨g, 0, none⟩) n cap) (k : Nat) (u : Value) :
    Spl W0 (W.setCell ⟨g, k, none⟩ u) B S v L i := by
  obtain ⟨⟨ys, hy⟩, hS⟩ := h.dat q hq
  obtain ⟨xs, hx, hxs⟩ := h.row
  have hgb : q.2.ownBlock = some g := by rw [hg]; rfl
  have hlt := hy.lt g hgb
  have hgS := hS g hgb
  have hgr := grown_setCell W g k u
  refine ⟨⟨xs, hx.kept hgr ?_, hxs⟩, h.blk, fun q' hq' => ?_, low_of_set h.lo hlt.1 (by omega), fun g' hg' => ?_, h.bs⟩
  · rw [← hgb]; exact rows_apart hx hy (by decide)
  · obtain ⟨⟨ys', hy'⟩, hS'⟩ := h.dat q' hq'
    refine ⟨?_, hS'⟩
    by_cases hb : q'.2.ownBlock = some g
    · have : ∃ n' cap', q'.2 = .slice (some ⟨g, 0, none⟩) n' cap' := by
        rcases hy'.2 with ⟨e, _⟩ | ⟨g2, cap2, cur2, e, _⟩
        · rw [e] at hb; cases hb
        · rw [e] at hb; simp only [Value.ownBlock] at hb; injection hb with hb; subst hb; exact ⟨_, _, e⟩
      obtain ⟨n', cap', e⟩ := this
      have hn' : n' = q'.1.d.length := by
        rcases hy'.2 with ⟨e2, _⟩ | ⟨g2, cap2, cur2, e2, _⟩
        · rw [e] at e2; cases e2
        · rw [e] at e2; injection e2
      rw [e] at hy' ⊢
      rw [hn'] at hy' ⊢
      exact ⟨_, (hy'.stored k u).1⟩
    · exact ⟨ys', hy'.kept hgr (.inr hb)⟩
  · rw [Below.heap_setCell W ⟨g, k, none⟩ u g' (fun e => by simp only at e; omega)]
    exact h.hi g' hg'
/-- a cell of the list's item i is written over -/
theorem Spl.cell {W0 W : World} {B S : Nat} {v : Value} {L : List (Src × Value)} {i : Nat} (h : Spl W0 W B S v L (i + 1)) {g n cap : Nat} (hv : v = .slice (some ⟨g, 0, none⟩) n cap) (c : Nat) (hc : c < 9) (u : Value) :
    Spl W0 (W.setCell ⟨g, i * 9 + c, none⟩ u) B S v L (i + 1) := by
  obtain ⟨xs, hx, hxs⟩ := h.row
  have hgb : v.ownBlock = some g := by rw [hv]; rfl
  have hlt := hx.lt g hgb
  have hgS := h.blk g hgb
  have hgr := grown_setCell W g (i * 9 + c) u
  have hn : n = L.length := by
    rcases hx.2 with ⟨e2, _⟩ | ⟨g2, cap2, cur2, e2, _⟩
    · rw [hv] at e2; cases e2
    · rw [hv] at e2; injection e2
  refine ⟨⟨xs.set (i * 9 + c) u, ?_, fun j hj hij => ?_⟩, h.blk, fun q' hq' => ?_, low_of_set h.lo hlt.1 (by omega), fun g' hg' => ?_, h.bs⟩
  · rw [hv] at hx ⊢
    rw [hn] at hx ⊢
    exact (hx.stored _ u).1
  · rw [List.getElem?_set_ne (by omega)]
    exact hxs j hj hij
  · obtain ⟨⟨ys', hy'⟩, hS'⟩ := h.dat q' hq'
    exact ⟨⟨ys', hy'.kept hgr (by rw [← hgb]; exact rows_apart hy' hx (by decide))⟩, hS'⟩
  · rw [Below.heap_setCell W ⟨g, i * 9 + c, none⟩ u g' (fun e => by simp only at e; omega)]
    exact h.hi g' hg'
theorem Spl.next {W0 W : World} {B S : Nat} {v : Value} {L : List (Src × Value)} {i : Nat} (h : Spl W0 W B S v L i) : Spl W0 W B S v L (i + 1) := by
  obtain ⟨xs, hx, hxs⟩ := h.row
  exact ⟨⟨xs, hx, fun j hj hij => hxs j hj (by omega)⟩, h.blk, h.dat, h.lo, h.hi, h.bs⟩
/-- a list of items that lies behind stays -/
theorem IOwn.behind {W0 W : World} {B' S : Nat} {v : Value} {L : List (Src × Value)} (h : IOwn W0 B' v L) (hi : ∀ g, S ≤ g → W.heap[g]? = W0.heap[g]?) (hS : S ≤ B') : IOwn W B' v L := by
  have key : ∀ {T : TypeId} {z : Nat} {v : Value} {n : Nat} {xs : List Value}, W0.ownsRow B' T z v n xs → W.ownsRow B' T z v n xs := fun {T z v n xs} h => by
    refine ⟨h.1, h.2.imp id ?_⟩
    rintro ⟨g, cap, cur, e1, e2, e3, e4⟩
    exact ⟨g, cap, cur, e1, e2, (hi g (Nat.le_trans hS e2)).trans e3, e4⟩
  exact ⟨key h.row, fun q hq => key (h.dat q hq)⟩

theorem Spl.cells {W0 : World} {B S : Nat} {v : Value} {L : List (Src × Value)} {i g n cap : Nat} (hv : v = .slice (some ⟨g, 0, none⟩) n cap) : ∀ (vs : List Value) (c : Nat) (W : World), c + vs.length ≤ 9 → Spl W0 W B S v L (i + 1) → Spl W0 (W.setCells g (i * 9 + c) vs) B S v L (i + 1)
  | [], _, _, _, h => h
  | u :: vs, c, W, hc, h => by
    rw [List.length_cons] at hc
    exact Spl.cells hv vs (c + 1) _ (by omega) (h.cell hv c (by omega) u)
/-- an item is written over -/
theorem Spl.item {W0 W : World} {B S : Nat} {v : Value} {L : List (Src × Value)} {i g n cap : Nat} (h : Spl W0 W B S v L i) (hv : v = .slice (some ⟨g, 0, none⟩) n cap) (c : Array Value) (hc : c.size = 9) : Spl W0 (W.setCells g (i * 9) c.toList) B S v L (i + 1) :=
  Spl.cells hv c.toList 0 W (by rw [Array.length_toList, hc]; exact Nat.le_refl _) h.next
theorem Spl.there {W0 W : World} {B S : Nat} {L : List (Src × Value)} {i g n cap : Nat} (h : Spl W0 W B S (.slice (some ⟨g, 0, none⟩) n cap) L i) (hn : n = L.length) (j : Nat) (hj : j < L.length) : W.there g (j * 9) 9 := fun c hc => by
  obtain ⟨xs, hx, _⟩ := h.row
  rw [hn] at hx
  refine ⟨?_, hx.frozenAt _⟩
  rw [hx.cellAt (j * 9 + c) (by omega), List.getElem?_eq_getElem (by rw [hx.1]; omega)]
  rfl
theorem Spl.look {W0 W : World} {B S : Nat} {L : List (Src × Value)} {i g n cap : Nat} (h : Spl W0 W B S (.slice (some ⟨g, 0, none⟩) n cap) L i) (hn : n = L.length) (hi : i < L.length) : W.cell? ⟨g, i * 9 + 8, none⟩ = some (L[i]).2 := by
  obtain ⟨xs, hx, hxs⟩ := h.row
  rw [hn] at hx
  rw [hx.cellAt (i * 9 + 8) (by omega)]
  exact hxs i hi (Nat.le_refl _)
theorem Dat.shape {w : World} {B S : Nat} {v : Value} {n : Nat} (h : Dat w B S v n) : ∃ p cap, v = .slice p n cap ∧ (0 < n → ∃ g, p = some ⟨g, 0, none⟩) := by
  obtain ⟨⟨ys, hy⟩, _⟩ := h
  rcases hy.2 with ⟨e, e2⟩ | ⟨g, cap, cur, e, _⟩
  · exact ⟨none, 0, by rw [e, e2], fun h0 => by omega⟩
  · exact ⟨_, cap, e, fun _ => ⟨g, rfl⟩⟩
theorem Dat.cell {w : World} {B S g n cap : Nat} (h : Dat w B S (.slice (some ⟨g, 0, none⟩) n cap) n) (k : Nat) (hk : k < n) : ∃ y, w.cell? ⟨g, k, none⟩ = some y ∧ w.frozen? ⟨g, k, none⟩ = false := by
  obtain ⟨⟨ys, hy⟩, _⟩ := h
  have hl := hy.1
  refine ⟨ys[k]'(by omega), ?_, hy.frozenAt k⟩
  rw [hy.cellAt k (by omega), List.getElem?_eq_getElem (by omega)]

end Go.Proofs.YtgfmmbbebodapaaGreatDoor

/- Two texts behind one another: what they say, as lists. -/
namespace Go.Proofs.YtgfmmbbebodapaaGreatDoor
open Go.RowKit

theorem lines_two (a b : List UInt8) : linesL (a ++ 10 :: b) = linesL (a ++ [10]) ++ linesL b := by
  induction a with
  | nil => simp [linesL]
  | cons c cs ih =>
    simp only [List.cons_append, linesL]
    split
    · rw [ih]; rfl
    · rw [ih]
      have hne : linesL (cs ++ [10]) ≠ [] := by
        cases cs with
        | nil => simp [linesL]
        | cons d ds =>
          simp only [List.cons_append, linesL]
          split
          · simp
          · split <;> simp
      cases h : linesL (cs ++ [10]) with
      | nil => exact absurd h hne
      | cons l ls => rfl
theorem lines_ten (a : List UInt8) : (linesL (a ++ [10])).length = a.count 10 + 1 := by
  induction a with
  | nil => rfl
  | cons c cs ih =>
    simp only [List.cons_append, linesL]
    split
    · rename_i h; subst h; rw [List.length_cons, ih, List.count_cons_self]
    · rename_i h
      rw [List.count_cons_of_ne h]
      cases hl : linesL (cs ++ [10]) with
      | nil => rw [hl] at ih; simp at ih
      | cons l ls => rw [hl] at ih; simpa using ih
theorem lines_more (a : List UInt8) : linesL (a ++ [10]) = linesL a ∨ linesL (a ++ [10]) = linesL a ++ [[]] := by
  induction a with
  | nil => exact .inr rfl
  | cons c cs ih =>
    simp only [List.cons_append, linesL]
    split
    · rcases ih with e | e
      · exact .inl (by rw [e])
      · exact .inr (by rw [e]; rfl)
    · cases hl : linesL cs with
      | nil =>
        have hcs : cs = [] := by
          cases cs with
          | nil => rfl
          | cons d ds =>
            exfalso
            simp only [linesL] at hl
            split at hl
            · cases hl
            · split at hl <;> cases hl
        subst hcs
        exact .inl (by simp [linesL])
      | cons l ls =>
        rw [hl] at ih
        rcases ih with e | e
        · exact .inl (by rw [e])
        · exact .inr (by rw [e]; rfl)

/-- what goes on behind some lines -/
def goOn (n : Nat) (B : List (List UInt8)) : (Int × Nat × Nat) ⊕ (List Src × List Nat) → (Int × Nat × Nat) ⊕ (List Src × List Nat)
  | .inl f => .inl f
  | .inr (xs, ln) => goP n xs ln B
theorem goP_append (A B : List (List UInt8)) : ∀ i acc ln, goP i acc ln (A ++ B) = goOn (i + A.length) B (goP i acc ln A) := by
  induction A with
  | nil => intro i acc ln; rfl
  | cons l A ih =>
    intro i acc ln
    rw [List.cons_append, goP, goP]
    split
    · split
      · split
        · rfl
        · rw [ih, List.length_cons, show i + 1 + A.length = i + (A.length + 1) by omega]
      · rw [ih, List.length_cons, show i + 1 + A.length = i + (A.length + 1) by omega]
    · rfl
theorem lineL_nil : lineL [] = (src0, false, 0, 0) := rfl
theorem goP_empty (i : Nat) (acc : List Src) (ln : List Nat) : goP i acc ln [[]] = .inr (acc, ln) := by
  simp [goP, lineL_nil]
theorem goP_ten (a : List UInt8) : goP 0 [] [] (linesL (a ++ [10])) = goP 0 [] [] (linesL a) := by
  rcases lines_more a with e | e
  · rw [e]
  · rw [e, goP_append]
    cases h : goP 0 [] [] (linesL a) with
    | inl f => rfl
    | inr q => obtain ⟨xs, ln⟩ := q; exact goP_empty _ _ _
theorem goP_inl (B : List (List UInt8)) : ∀ i acc ln f, goP i acc ln B = .inl f → i + 1 ≤ f.2.1 := by
  induction B with
  | nil => intro i acc ln f h; cases h
  | cons l B ih =>
    intro i acc ln f h
    rw [goP] at h
    split at h
    · split at h
      · split at h
        · injection h with h; subst h; exact Nat.le_refl _
        · have := ih _ _ _ _ h; omega
      · have := ih _ _ _ _ h; omega
    · injection h with h; subst h; exact Nat.le_refl _
theorem goP_inr (B : List (List UInt8)) : ∀ i acc ln xs l2, acc.length = ln.length → goP i acc ln B = .inr (xs, l2) → xs.length = l2.length ∧ xs.length ≤ acc.length + B.length := by
  induction B with
  | nil => intro i acc ln xs l2 he h; rw [goP] at h; injection h with h; injection h with h1 h2; subst h1 h2; exact ⟨he, by simp⟩
  | cons l B ih =>
    intro i acc ln xs l2 he h
    rw [goP] at h
    split at h
    · split at h
      · split at h
        · cases h
        · have := ih _ _ _ _ _ (by simp [he]) h
          simp only [List.length_append, List.length_cons, List.length_nil] at *
          exact ⟨this.1, by omega⟩
      · have := ih _ _ _ _ _ he h
        simp only [List.length_cons]
        exact ⟨this.1, by omega⟩
    · cases h
/-- further down, behind other items -/
def shiftP (n : Nat) (xs : List Src) (ln : List Nat) : (Int × Nat × Nat) ⊕ (List Src × List Nat) → (Int × Nat × Nat) ⊕ (List Src × List Nat)
  | .inl f => .inl (f.1, f.2.1 + n, f.2.2)
  | .inr (ys, l3) => .inr (xs ++ ys, ln ++ l3.map (· + n))
theorem goP_shift (n : Nat) (xs : List Src) (ln : List Nat) (B : List (List UInt8)) : ∀ i acc l2, xs.length + acc.length + B.length ≤ 4096 →
    goP (i + n) (xs ++ acc) (ln ++ l2.map (· + n)) B = shiftP n xs ln (goP i acc l2 B) := by
  induction B with
  | nil => intro i acc l2 _; rfl
  | cons l B ih =>
    intro i acc l2 h
    rw [List.length_cons] at h
    rw [goP, goP]
    split
    · split
      · rw [if_neg (by simp; omega), if_neg (by omega)]
        have := ih (i + 1) (acc ++ [(lineL l).1]) (l2 ++ [i + 1]) (by simp; omega)
        rw [← this]
        simp only [List.append_assoc, List.map_append, List.map_cons, List.map_nil]
        rw [show i + 1 + n = i + n + 1 by omega]
      · have := ih (i + 1) acc l2 (by omega)
        rw [← this, show i + 1 + n = i + n + 1 by omega]
    · simp only [shiftP]
      rw [show i + 1 + n = i + n + 1 by omega]
theorem chk_two (ys : List Src) : ∀ (xs : List Src) (i : Nat), (chkAt i xs).1 = 0 → chkAt i (xs ++ ys) = chkAt (i + xs.length) ys := by
  intro xs
  induction xs with
  | nil => intro i _; rfl
  | cons x xs ih =>
    intro i h
    rw [chkAt] at h
    rw [List.cons_append, chkAt]
    split at h
    · simp at h
    rename_i h1
    rw [if_neg h1]
    split at h
    · simp at h
    rename_i h2
    have h3 : ¬ (x.k = 3 ∧ takesB (xs ++ ys) = false) := by
      rintro ⟨e1, e2⟩
      cases xs with
      | nil => exact h2 ⟨e1, rfl⟩
      | cons y ys => exact h2 ⟨e1, e2⟩
    rw [if_neg h3, ih _ h, List.length_cons, show i + 1 + xs.length = i + (xs.length + 1) by omega]
theorem chk_far (n : Nat) : ∀ (ys : List Src) (i : Nat), chkAt (i + n) ys = if (chkAt i ys).1 = 0 then (0, 0) else ((chkAt i ys).1, (chkAt i ys).2 + n) := by
  intro ys
  induction ys with
  | nil => intro i; rfl
  | cons y ys ih =>
    intro i
    rw [chkAt, chkAt]
    split
    · simp
    · split
      · simp
      · rw [show i + n + 1 = i + 1 + n by omega, ih]
theorem chk_zero : ∀ (ys : List Src) (i : Nat), (chkAt i ys).1 = 0 → chkAt i ys = (0, 0) := by
  intro ys
  induction ys with
  | nil => intro i _; rfl
  | cons y ys ih =>
    intro i h
    rw [chkAt] at h ⊢
    split
    · rename_i h1; rw [if_pos h1] at h; simp at h
    · rename_i h1
      rw [if_neg h1] at h
      split
      · rename_i h2; rw [if_pos h2] at h; simp at h
      · rename_i h2; rw [if_neg h2] at h; exact ih _ h
/-- the same further down: what a text's answer becomes behind another text -/
def behind (xs : List Src) (n : Nat) (r : List Src × (Int × Nat × Nat)) : List Src × (Int × Nat × Nat) :=
  if r.2 = (0, 0, 0) then (xs ++ r.1, (0, 0, 0)) else ([], (r.2.1, r.2.2.1 + n, r.2.2.2))
theorem parse_two (a b : List UInt8) (xs : List Src) (hl : a.length + b.length ≤ 4000) (ha : parseL a = (xs, (0, 0, 0))) :
    parseL (a ++ 10 :: b) = behind xs (a.count 10 + 1) (parseL b) := by
  have hcb := linesL_length b
  have hca := linesL_length a
  unfold parseL at ha
  rw [if_neg (by omega)] at ha
  cases hga : goP 0 [] [] (linesL a) with
  | inl f =>
    have := goP_inl _ _ _ _ _ hga
    rw [hga] at ha
    simp only [Prod.mk.injEq] at ha
    rw [ha.2] at this
    simp at this
  | inr q =>
    obtain ⟨xs', ln⟩ := q
    rw [hga] at ha
    simp only at ha
    split at ha
    · rename_i hck
      simp only [Prod.mk.injEq, and_true] at ha
      subst ha
      obtain ⟨hlen, hle⟩ := goP_inr _ _ _ _ _ _ rfl hga
      simp only [List.length_nil, Nat.zero_add] at hle
      unfold checkL at hck
      rw [if_neg (by omega)] at hck
      unfold parseL
      rw [if_neg (by simp; omega), if_neg (by omega), lines_two, goP_append, goP_ten, hga, lines_ten]
      simp only [goOn]
      have hs := goP_shift (a.count 10 + 1) xs' ln (linesL b) 0 [] [] (by simp; omega)
      simp only [List.append_nil, List.map_nil] at hs
      rw [hs]
      cases hgb : goP 0 [] [] (linesL b) with
      | inl f =>
        have := goP_inl _ _ _ _ _ hgb
        simp only [shiftP, behind]
        rw [if_neg]
        intro e; rw [e] at this; simp at this
      | inr q =>
        obtain ⟨ys, l3⟩ := q
        obtain ⟨hlen3, hle3⟩ := goP_inr _ _ _ _ _ _ rfl hgb
        simp only [List.length_nil, Nat.zero_add] at hle3
        have h1 : checkL (xs' ++ ys) = if (checkL ys).1 = 0 then (0, 0) else ((checkL ys).1, (checkL ys).2 + xs'.length) := by
          have e1 : checkL (xs' ++ ys) = chkAt 0 (xs' ++ ys) := by unfold checkL; rw [if_neg (by simp; omega)]
          have e2 : checkL ys = chkAt 0 ys := by unfold checkL; rw [if_neg (by omega)]
          rw [e1, e2, chk_two _ _ _ hck, chk_far]
        simp only [shiftP]
        rw [h1]
        by_cases hz : (checkL ys).1 = 0
        · rw [if_pos hz, if_pos rfl, if_pos hz]; simp [behind]
        · have hix : (checkL ys).2 < ys.length := by
            have hc : checkL ys = chkAt 0 ys := by unfold checkL; rw [if_neg (by omega)]
            rw [hc] at hz ⊢
            have := (chk_idx ys 0 hz).2
            omega
          rw [if_neg hz, if_neg hz, if_neg (by exact hz)]
          simp only [behind]
          rw [if_neg (by intro e; injection e with e1 _; exact hz e1)]
          congr 3
          rw [List.getD_eq_getElem?_getD, List.getElem?_append_right (by omega), show (checkL ys).2 + xs'.length - ln.length = (checkL ys).2 by omega]
          simp [List.getD_eq_getElem?_getD, show (checkL ys).2 < l3.length by omega]
    · simp only [Prod.mk.injEq] at ha
      obtain ⟨_, h1, h2, h3⟩ := ha
      simp at h3

theorem goP_err (B : List (List UInt8)) : ∀ i acc ln f, goP i acc ln B = .inl f → f.1 ≠ 0 ∧ f.2.1 ≤ i + B.length := by
  induction B with
  | nil => intro i acc ln f h; cases h
  | cons l B ih =>
    intro i acc ln f h
    rw [goP] at h
    rw [List.length_cons]
    split at h
    · split at h
      · split at h
        · injection h with h; subst h; exact ⟨by show (3 : Int) ≠ 0; decide, by simp only; omega⟩
        · have := ih _ _ _ _ h; exact ⟨this.1, by omega⟩
      · have := ih _ _ _ _ h; exact ⟨this.1, by omega⟩
    · rename_i h1; injection h with h; subst h; exact ⟨h1, by simp only; omega⟩
theorem goP_lns (B : List (List UInt8)) : ∀ i acc ln xs l2, goP i acc ln B = .inr (xs, l2) → ∀ n ∈ l2, n ∈ ln ∨ n ≤ i + B.length := by
  induction B with
  | nil => intro i acc ln xs l2 h n hn; rw [goP] at h; injection h with h; injection h with h1 h2; subst h2; exact .inl hn
  | cons l B ih =>
    intro i acc ln xs l2 h n hn
    rw [goP] at h
    rw [List.length_cons]
    split at h
    · split at h
      · split at h
        · cases h
        · rcases ih _ _ _ _ _ h n hn with e | e
          · rcases List.mem_append.1 e with e | e
            · exact .inl e
            · rw [List.mem_singleton] at e; exact .inr (by omega)
          · exact .inr (by omega)
      · rcases ih _ _ _ _ _ h n hn with e | e
        · exact .inl e
        · exact .inr (by omega)
    · cases h
theorem parse_err (l : List UInt8) : ((parseL l).2 = (0, 0, 0) ∨ (parseL l).2.1 ≠ 0 ∧ (parseL l).1 = []) ∧ (parseL l).2.2.1 ≤ l.length := by
  have hc := linesL_length l
  unfold parseL
  split
  · exact ⟨.inr ⟨by decide, rfl⟩, Nat.zero_le _⟩
  · cases h : goP 0 [] [] (linesL l) with
    | inl f =>
      have := goP_err _ _ _ _ _ h
      exact ⟨.inr ⟨this.1, rfl⟩, by simp only; omega⟩
    | inr q =>
      obtain ⟨xs, ln⟩ := q
      simp only
      split
      · exact ⟨.inl rfl, Nat.zero_le _⟩
      · rename_i hne
        refine ⟨.inr ⟨hne, rfl⟩, ?_⟩
        simp only
        rw [List.getD_eq_getElem?_getD]
        cases hg : ln[(checkL xs).2]? with
        | none => exact Nat.zero_le _
        | some n =>
          rcases goP_lns _ _ _ _ _ _ h n (List.mem_of_getElem? hg) with e | e
          · simp at e
          · simp only [Option.getD_some]; omega

theorem parse_count (l : List UInt8) : (parseL l).1.length ≤ l.length := by
  have hc := linesL_length l
  unfold parseL
  split
  · exact Nat.zero_le _
  · cases h : goP 0 [] [] (linesL l) with
    | inl f => exact Nat.zero_le _
    | inr q =>
      obtain ⟨xs, ln⟩ := q
      have := (goP_inr _ _ _ _ _ _ rfl h).2
      simp only [List.length_nil, Nat.zero_add] at this
      simp only
      split
      · simp only; omega
      · exact Nat.zero_le _

end Go.Proofs.YtgfmmbbebodapaaGreatDoor

/- switchyardlaw04.SourceParses answers true. -/
namespace Go.Proofs.YtgfmmbbebodapaaGreatDoor
open Go.RowKit

theorem parse_few (l : List UInt8) : (parseL l).1.length ≤ 65536 := by
  by_cases h : 65536 < l.length
  · have : parseL l = ([], (3, 0, 0)) := if_pos h
    rw [this]; exact Nat.zero_le _
  · have := parse_count l
    omega
/-- two lists of the same items -/
theorem same_lists {W : World} {B B' : Nat} {v v' : Value} {L M : List (Src × Value)} (h : IOwn W B v L) (h' : IOwn W B' v' M) (hm : L.map Prod.fst = M.map Prod.fst) (hf : ∀ q ∈ L, Fit q.1) (hf' : ∀ q ∈ M, Fit q.1) (hl : L.length ≤ 4611686018427387904) :
    Calls Tryz.prog 14 #[v, v'] W fun E w' => E = .returned (.bool true) ∧ Below W.heap.size W w' := by
  obtain ⟨p, c, rfl, -, -, -⟩ := h.shape
  obtain ⟨p', c', rfl, -, -, -⟩ := h'.shape
  have hlen : M.length = L.length := by have := congrArg List.length hm; rw [List.length_map, List.length_map] at this; exact this.symm
  have hi1 := h.items hf rfl
  have hi2 := h'.items hf' rfl
  rw [← hm] at hi2
  rw [hlen]
  exact sameItems_yes p p' L.length c c' (L.map Prod.fst) W (List.length_map _) hl (fun x hx => Nat.le_trans (hi1.fit x hx).dz (by decide)) hi1 hi2
theorem step_store_at {ops : Array Oper} {rest : List Oper} {o : Oper} {a : Act} {w : World} {Q : Exit → Act → World → Prop} {g off : Nat} {c' : Array Value} (hT : w.there g off c'.size) (hg : o.guard = none) (t : TypeId) (p x : Operand) (ho : o.op = .store t p x) (hd : o.dst = none)
    (hp : a.eval p = .pointer (some ⟨g, off, none⟩)) (hx : a.eval x = .agg c') (hi : (Tryz.prog.info? t).map (·.size) = some c'.size) (h1 : c'.all (·.oneCell') = true)
    (h : wpList Tryz.prog ops Q rest a (w.setCells g off c'.toList)) : wpList Tryz.prog ops Q (o :: rest) a w := by
  refine wpList_store_mid hg t p x ho g off c' hp hx hT hi h1 ?_
  rw [hd]
  exact h
abbrev spoilt : Array Value := #[.int .u8 0, .string ⟨#[115, 112, 111, 105, 108, 116]⟩, .string ⟨#[]⟩, .int .u8 0, .int .u8 0, .int .u8 0, .int .i32 0, .int .i64 0, .slice none 0 0]
theorem spoilt_one : spoilt.all (·.oneCell') = true := cells_one { src0 with name := ⟨#[115, 112, 111, 105, 108, 116]⟩ } none 0 0
abbrev twoC : Array Value := #[.int .u8 0, .string ⟨#[]⟩, .string ⟨#[]⟩, .int .u8 0, .int .u8 0, .int .u8 0, .int .i32 0, .int .i64 0, .slice none 0 0, .int .u8 0, .string ⟨#[]⟩, .string ⟨#[]⟩, .int .u8 0, .int .u8 0, .int .u8 0, .int .i32 0, .int .i64 0, .slice none 0 0]
theorem row_succ {w : World} {B T z n : Nat} {v : Value} {xs : List Value} (h : w.ownsRow B T z v (n + 2) xs) : ∃ g cap, v = .slice (some ⟨g, 0, none⟩) (n + 2) cap := by
  rcases h.2 with ⟨_, e⟩ | ⟨g, cap, cur, e, _⟩
  · omega
  · exact ⟨g, cap, e⟩
theorem two_cells (w : World) : ∀ j u, twoC.toList[j]? = some u → (w.alloc (.cells twoC 28)).cell? ((⟨w.heap.size, 0, none⟩ : Addr).add j) = some u := fun j u hu => by
  rw [Addr.add_mid, Nat.zero_add, (Blk.new w 28 twoC).cell]
  rw [Array.getElem?_toList] at hu
  exact hu
theorem two_one : ∀ u ∈ twoC.toList, u.oneCell' = true := by simp [Value.oneCell']
/-- a list of items that lies behind what has grown -/
theorem IOwn.far {w w' : World} {S : Nat} {v : Value} {L : List (Src × Value)} {row : Option Nat} (h : IOwn w S v L) (hg : w.grownBy w' row) (hr : ∀ g, row = some g → g < S) : IOwn w' S v L := by
  have key : ∀ {T : TypeId} {z : Nat} {v : Value} {n : Nat} {xs : List Value}, w.ownsRow S T z v n xs → w'.ownsRow S T z v n xs := fun {T z v n xs} h => by
    refine ⟨h.1, h.2.imp id ?_⟩
    rintro ⟨g, cap, cur, e1, e2, e3, e4⟩
    exact ⟨g, cap, cur, e1, e2, (hg.block g (Array.getElem?_eq_some_iff.1 e3).1 (fun e => by have := hr g e.symm; omega)).trans e3, e4⟩
  exact ⟨key h.row, fun q hq => key (h.dat q hq)⟩

set_option maxRecDepth 20000 in
set_option maxHeartbeats 2000000 in
theorem sourceParses_any (s : ByteArray) (w : World) (he : Env w) (hs : s.size ≤ 9223372036854775807) :
    Calls Tryz.prog 4 #[.string s] w fun E w' => E = .returned (.bool true) ∧ Below w.heap.size w w' := by
  have hP := fun W h => parse_any s W h hs
  have hR := fun W h => refParse_any s W h hs
  have HCT : Hid ((parseL s.data.toList).1.length ≤ 65536) := parse_few s.data.toList
  have hA := fun W h => awake_any W h
  generalize parseL s.data.toList = r at *
  obtain ⟨xs, e, l, c⟩ := r
  go_enter Tryz.func4, Tryz.ntmps4
  go_wp2_with (first
    | (go_at_call 12; refine (hP _ he).mono ?_; rintro E w1 ⟨v1, L1, rfl, hm1, hI1, hF1, hb1⟩; have HE1 := Hid.in (he.below hb1); have HB1 := Hid.in hb1; have HI1 := Hid.in hI1; have HM1 := Hid.in hm1; have HF1 := Hid.in hF1; clear hb1 hm1 hI1 hF1)
    | (refine step_store_new rfl 37 (.tmp 4) (.tmp 15) rfl rfl rfl (faultC (e, l, c)) rfl Tryz.sz37 rfl (fault_one _) ?_; refine Hid.out ?_))
  refine Lib.hid ?_
  have HG2 := Hid.in (Blk.new w1 37 (faultC (e, l, c)))
  have HE2 := Hid.in (HE1.out.below (new_alloc w1 (.cells (faultC (e, l, c)) 37)))
  have HN2 := Hid.in (new_alloc w1 (.cells (faultC (e, l, c)) 37))
  clear HE1
  generalize w1.alloc (.cells (faultC (e, l, c)) 37) = w2 at *
  obtain ⟨g1, hg1⟩ : ∃ g1, w1.heap.size = g1 := ⟨_, rfl⟩
  rw [hg1]
  rw [hg1] at HG2
  have HS1 := Hid.in hg1
  clear hg1
  go_wp2_with (first
    | (go_at_call 12; refine (hP _ HE2.out).mono ?_; rintro E w3 ⟨v3, L3, rfl, hm3, hI3, hF3, hb3⟩; have HE3 := Hid.in (HE2.out.below hb3); have HN3 := Hid.in (below_step HN2.out hb3); have HG3 := Hid.in (HG2.out.grow hb3); have HJ3 := Hid.in (hI3.lower HN2.out.size); have HM3 := Hid.in hm3; have HF3 := Hid.in hF3; clear hb3 hm3 hI3 hF3)
    | (refine step_store_new rfl 37 (.tmp 6) (.tmp 20) rfl rfl rfl (faultC (e, l, c)) rfl Tryz.sz37 rfl (fault_one _) ?_; refine Hid.out ?_))
  refine Lib.hid ?_
  have HE4 := Hid.in (HE3.out.below (new_alloc w3 (.cells (faultC (e, l, c)) 37)))
  have HN4 := Hid.in (below_step HN3.out (new_alloc w3 (.cells (faultC (e, l, c)) 37)))
  have HG4 := Hid.in (HG3.out.grow (new_alloc w3 (.cells (faultC (e, l, c)) 37)))
  have HJ4 := Hid.in (HJ3.out.below (new_alloc w3 (.cells (faultC (e, l, c)) 37)))
  clear HE2 HN2 HG2 HE3 HN3 HG3 HJ3 hP
  generalize w3.alloc (.cells (faultC (e, l, c)) 37) = w4 at *
  generalize w3.heap.size = g3 at *
  go_wp2_with (first
    | (go_at_call 13; refine (hR _ HE4.out).mono ?_; rintro E w5 ⟨v5, L5, rfl, hm5, hI5, hF5, hb5⟩; have HE5 := Hid.in (HE4.out.below hb5); have HN5 := Hid.in (below_step HN4.out hb5); have HG5 := Hid.in (HG4.out.grow hb5); have HJ5 := Hid.in (HJ4.out.below hb5); have HK5 := Hid.in (hI5.lower HN4.out.size); have HM5 := Hid.in hm5; have HF5 := Hid.in hF5; clear hb5 hm5 hI5 hF5)
    | (refine step_store_new rfl 37 (.tmp 8) (.tmp 25) rfl rfl rfl (faultC (e, l, c)) rfl Tryz.sz37 rfl (fault_one _) ?_; refine Hid.out ?_))
  refine Lib.hid ?_
  have HE6 := Hid.in (HE5.out.below (new_alloc w5 (.cells (faultC (e, l, c)) 37)))
  have HN6 := Hid.in (below_step HN5.out (new_alloc w5 (.cells (faultC (e, l, c)) 37)))
  have hG6 := HG5.out.grow (new_alloc w5 (.cells (faultC (e, l, c)) 37))
  have hH6 := Blk.new w5 37 (faultC (e, l, c))
  have HJ6 := Hid.in (HJ5.out.below (new_alloc w5 (.cells (faultC (e, l, c)) 37)))
  have HK6 := Hid.in (HK5.out.below (new_alloc w5 (.cells (faultC (e, l, c)) 37)))
  clear HE4 HN4 HG4 HJ4 HE5 HN5 HG5 HJ5 HK5 hR
  generalize w5.alloc (.cells (faultC (e, l, c)) 37) = w6 at *
  generalize w5.heap.size = g5 at *
  have f0 : w6.cell? ⟨g1, 0, none⟩ = some (.int .i64 e) := hG6.cell 0
  have f1 : w6.cell? ⟨g1, 1, none⟩ = some (.int .i64 l) := hG6.cell 1
  have f2 : w6.cell? ⟨g1, 2, none⟩ = some (.int .i64 c) := hG6.cell 2
  have k0 : w6.cell? ⟨g5, 0, none⟩ = some (.int .i64 e) := hH6.cell 0
  have k1 : w6.cell? ⟨g5, 1, none⟩ = some (.int .i64 l) := hH6.cell 1
  have k2 : w6.cell? ⟨g5, 2, none⟩ = some (.int .i64 c) := hH6.cell 2
  have hl1 : L1.length ≤ 65536 := by have := congrArg List.length HM1.out; rw [List.length_map] at this; rw [this]; exact HCT.out
  have hl3 : L3.length ≤ 65536 := by have := congrArg List.length HM3.out; rw [List.length_map] at this; rw [this]; exact HCT.out
  obtain ⟨p1, c1, hv1, hc11, hc12, hp1⟩ := HI1.out.shape
  subst hv1
  have HP1 := Hid.in hp1
  clear hp1
  have hS6 := same_lists (HI1.out.below HN6.out) HK6.out (by rw [HM1.out, HM5.out]) HF1.out HF5.out (by omega)
  clear hG6 hH6
  go_upto_region 6 with (go_at_call 14; refine hS6.mono ?_; rintro E w7 ⟨rfl, hb7⟩; have HE7 := Hid.in (HE6.out.below hb7); have HN7 := Hid.in (below_step HN6.out hb7); have HJ7 := Hid.in (HJ6.out.below hb7); have HK7 := Hid.in (HK6.out.below hb7); clear hb7)
  clear f0 f1 f2 k0 k1 k2 hS6 HE6 HN6 HJ6 HK6
  have HSP := Hid.in (HI1.out.spl HN7.out HB1.out.size)
  obtain ⟨n, hn⟩ : ∃ n, n = L1.length := ⟨_, rfl⟩
  rw [← hn] at HSP hl1 hc11 HP1
  rw [← hn]
  have HNL := Hid.in hn
  clear hn
  go_wp2_with fail
  go_loopw [9] (fun i wr => ∃ k : Nat, k ≤ n ∧ i = .int .i64 k ∧ Spl w7 wr w.heap.size w1.heap.size (.slice p1 n c1) L1 k) (fun i _ => n - (intOf i).toNat)
  case atStart => exact ⟨0, Nat.zero_le _, rfl, HSP.out⟩
  case round =>
    obtain ⟨k, hk, rfl, hSP⟩ := hrel
    have HSK := Hid.in hSP
    clear hSP
    by_cases hlt : k < n
    · have hltL : k < L1.length := by rw [← HNL.out]; exact hlt
      obtain ⟨gl, hgl, -, -⟩ := HP1.out (by omega)
      subst hgl
      have hq := List.getElem_mem hltL
      obtain ⟨pd, cd, hd, hpd⟩ := (HSK.out.dat _ hq).shape
      have hdz := (HF1.out _ hq).dz
      obtain ⟨m, hm⟩ : ∃ m, m = L1[k].1.d.length := ⟨_, rfl⟩
      rw [← hm] at hd hpd hdz
      have HD := Hid.in hd
      have HM := Hid.in hm
      have HPD := Hid.in hpd
      have HQ := Hid.in hq
      clear hd hm hpd hq
      go_wp2_with fail
      go_loopw [10] (fun j wr => ∃ t : Nat, t ≤ m ∧ j = .int .i64 t ∧ Spl w7 wr w.heap.size w1.heap.size (.slice (some ⟨gl, 0, none⟩) n c1) L1 k) (fun j _ => m - (intOf j).toNat)
      case atStart => exact ⟨0, Nat.zero_le _, rfl, HSK.out⟩
      case round =>
        obtain ⟨t, ht, rfl, hSQ⟩ := hrel
        have c8 := (hSQ.look HNL.out hltL).trans (congrArg some HD.out)
        have HSQ := Hid.in hSQ
        clear hSQ
        by_cases htl : t < m
        · obtain ⟨gd, hgd⟩ := HPD.out (by omega)
          subst hgd
          have hDD := HSQ.out.dat _ HQ.out
          rw [HD.out, ← HM.out] at hDD
          obtain ⟨y, hy1, hy2⟩ := hDD.cell t htl
          have HSB := Hid.in (HSQ.out.byte HQ.out HD.out t (.int .u8 99))
          clear hDD
          go_wp2_with fail
          go_roundw
          case rel => exact ⟨t + 1, htl, by go_num, HSB.out⟩
          case measure => simp [intOf]; omega
        · have HTH := Hid.in (HSQ.out.there HNL.out k hltL)
          have HSI := Hid.in (HSQ.out.item rfl spoilt rfl)
          go_wp2_with (refine step_store_at (c' := spoilt) HTH.out rfl 28 (.tmp 61) (.tmp 60) rfl rfl rfl rfl Tryz.sz28 spoilt_one ?_; refine Hid.out ?_)
          refine Lib.hid ?_
          generalize World.setCells _ gl (k * 9) spoilt.toList = w8 at *
          go_wp2_with fail
          go_roundw
          case rel => exact ⟨k + 1, hlt, by go_num, HSI.out⟩
          case measure => simp [intOf]; omega
    · obtain ⟨i0, hi, hz0, hz1, hz2⟩ := info_parts Tryz.info28
      obtain ⟨ys, hx, -⟩ := HSK.out.row
      rw [← HNL.out] at hx
      have HX := Hid.in hx
      have HJ8 := Hid.in (HJ7.out.behind HSK.out.hi (Nat.le_refl _))
      have HK8 := Hid.in (HK7.out.behind HSK.out.hi (Nat.le_refl _))
      have HLO := Hid.in ((HB1.out.trans (HN7.out.mono HB1.out.size)).trans HSK.out.lo)
      have HBK := Hid.in HSK.out.blk
      have HBW : Hid (w.heap.size ≤ wr.heap.size) := HLO.out.size
      have HTC := Hid.in (two_cells wr)
      have h5 := Hid.in he.lt
      clear hx
      go_wp2_with (first
        | (at_builtin; refine wpList_append_own _ rfl (.tmp 62) (.tmp 65) 35 rfl w.heap.size 28 i0 (.agg item0) 9 80 Tryz.und35 hi hz0 hz1 hz2 rfl (by decide) (.slice p1 n c1) n ys rfl (HX.out.alloc _) ⟨wr.heap.size, 0, none⟩ 2 2 twoC.toList rfl rfl HTC.out two_one (by unfold maxLen; omega) (by omega) (by have := HBW.out; simp; omega) ?_; intro v9 w9 hown9 hg9 _h9; have HB9 := Hid.in ((below_alloc HLO.out (.cells twoC 28)).grown hg9 (by have := HBW.out; simp; omega) (fun g hg => ((HX.out.alloc (.cells twoC 28)).lt g hg).1)); have HJ9 := Hid.in ((HJ8.out.below (new_alloc wr (.cells twoC 28))).far hg9 HBK.out); have HK9 := Hid.in ((HK8.out.below (new_alloc wr (.cells twoC 28))).far hg9 HBK.out); have HE9 := Hid.in (he.keep HB9.out h5.out); have hS9 := same_lists HJ9.out HK9.out (by rw [HM3.out, HM5.out]) HF3.out HF5.out (by omega); obtain ⟨g9, cap9, hv9⟩ := row_succ hown9; subst hv9; clear hown9 hg9)
        | (go_at_call 14; refine hS9.mono ?_; rintro E w10 ⟨rfl, hb10⟩; have HE10 := Hid.in (HE9.out.below hb10); have HB10 := Hid.in (below_step HB9.out hb10); clear hb10)
        | (go_at_call 11; refine (hA _ HE10.out).mono ?_; rintro E w11 ⟨rfl, hb11⟩))
      go_ret
      exact ⟨rfl, below_step HB10.out hb11⟩

end Go.Proofs.YtgfmmbbebodapaaGreatDoor

/-
  Proved here: the law SourceParses (switchyardlaw04) answers true for every input, and each argument reads afterwards as it read before; the card: what the row lists of the library's variables is tied to the program's text. No condition of ours: the row's own reach alone.
-/
namespace Go.Proofs.YtgfmmbbebodapaaGreatDoor
open Go.ChangeShapes Go.WideShapes Go.ChangeAt Go.RowKit
open Go.ChangeMaps (open_string shut_string)

theorem sourceParses_reads (os : Os) {H : Type} (enc : TypeId × Value → H) : ∃ places, DataW.whole enc Tryz.prog ((laidWorld os).forCall (fun _ _ => 0) ⟨#[], #[.string ByteArray.empty], []⟩).memory Tryz.f4.params.toList (OpenSpec.ofChange Rows.sourceParsesSpec).vars false (#[.string ByteArray.empty] : Array Value).toList 8 = some ([.lit (.string [])], [], places) :=
  ⟨[], by kernel_rfl⟩

set_option maxRecDepth 100000 in
theorem sourceParses_lifted (os : Os) (started : os.Started) (H : Type) (enc : TypeId × Value → H) (F : Stop.Interp) :
    ReturnsInHanded {} Tryz.checked os 4 .any ((OpenSpec.ofChange Rows.sourceParsesSpec).preRow enc Tryz.prog Tryz.f4 Rows.sourceParsesRow.domain false Rows.sourceParsesRow.laid) (((OpenSpec.ofChange Rows.sourceParsesSpec).at F).post enc Tryz.prog Tryz.f4 false true false false) := by
  obtain ⟨places, hx⟩ := sourceParses_reads os enc
  refine returnsInHanded_of_row (C := Tryz.checked) (s := (OpenSpec.ofChange Rows.sourceParsesSpec)) Tryz.own started (by kernel_rfl) Tryz.func4
    (witness_row_atRef (enc := enc) (C := Tryz.checked) false (laidWorld os) #[.string ByteArray.empty] rfl (by kernel_rfl) (by kernel_rfl) (by kernel_rfl)
      (OpenSpec.preRow_of_cond 8 hx (by kernel_rfl) (fun k hk => by cases hk) (by kernel_rfl) (laid_met os _))) ?_
  intro W base args ds gs before hval0 hW _ hcond hsz0 hL _ _
  have hV := env_of hL
  have hW' := hW
  obtain ⟨p, q, hA0, hVv, rfl, hfz, hnd⟩ := hW
  have hA : DataW.TrodAll enc Tryz.prog W 0 (fun _ => true) true Tryz.f4.params.toList args.toList ds p := hA0
  have hval : ∀ (j : Nat) t v, Tryz.f4.params[j]? = some t → args[j]? = some v → Value.okWide Tryz.prog W .any base t v := hval0
  have hsz : (DataW.weightsEach Tryz.prog (Tryz.f4.params.toList ++ Rows.sourceParsesSpec.plain.varTypes Tryz.prog) (ds ++ gs)).all (· ≤ reachBytes) = true := hsz0
  rw [Tryz.params4] at hA hval hsz
  obtain ⟨v0, vs0, d0, ds0, p0, q0, hargs, rfl, rfl, h0, r0⟩ := trodAll_cons hA
  obtain ⟨rfl, rfl, rfl⟩ := trodAll_nil r0
  obtain rfl : args = #[v0] := by cases args; simp_all
  obtain ⟨rfl, rfl⟩ := trodVars_none hVv
  obtain ⟨s0, rfl, rfl, rfl, hs0⟩ := open_string Tryz.underlying9 (hval 0 9 v0 rfl rfl) h0
  have hc0 := reach_string hsz (j := 0) (s := s0) rfl rfl
  refine (sourceParses_any s0 W hV (by omega)).mono fun e W' ⟨he, bel⟩ => ?_
  subst he
  exact ⟨_, rfl, _, _, _, [], _, [], hW', trodAll_mk1 (shut_bool Tryz.underlying4 _), (trodAll_cons_mk (shut_string Tryz.underlying9 hs0) trodAll_mk0), rfl, bel.frame _, fun h => by cases h⟩

theorem sourceParses_said : Rows.SourceParsesSaid :=
  OpenClaim.holds_of_cond 4 Tryz.f4 rfl rfl rfl rfl rfl rfl rfl ⟨rfl, rfl, rfl, rfl, rfl⟩ rfl rfl rfl rfl rfl (by kernel_rfl) Tryz.func4 (by kernel_rfl)
    (of_decide_eq_true (by kernel_rfl)) (by unfold Func.isWrapper; first | (rw [if_pos (by decide +kernel)]; kernel_rfl) | (rw [if_neg (by decide +kernel)]; exact ⟨rfl, rfl⟩))
    (fun os started H enc _ F => by rw [OpenClaim.pre_eq_preRow]; exact sourceParses_lifted os started H enc F)

theorem sourceParses_plain (f : FuncId) (fn : Func) (hf : Tryz.pinned.checked.prog.funcNamed "switchyard/switchyardlaw04.SourceParses" = some f) (hfn : Tryz.pinned.checked.prog.funcs[f]? = some fn) :
    true = Tryz.pinned.checked.prog.looks [] ∧ ∀ (j : Nat) t, fn.params[j]? = some t → Tryz.pinned.checked.prog.wantsStandIn t = false := by
  obtain rfl : f = 4 := Option.some.inj ((show Tryz.prog.funcNamed "switchyard/switchyardlaw04.SourceParses" = some 4 by kernel_rfl).symm.trans hf) |>.symm
  obtain rfl : fn = Tryz.f4 := (Option.some.inj (Tryz.func4.symm.trans hfn)).symm
  refine ⟨by kernel_rfl, fun j t ht => ?_⟩
  rw [Tryz.params4] at ht
  rcases j with _ | j
  · obtain rfl : t = 9 := by simpa using ht.symm
    exact (show Tryz.prog.wantsStandIn 9 = false by kernel_rfl)
  · simp at ht

theorem sourceParses_holds : Rows.SourceParsesCardSaid :=
  Claim7.holds_tied_plain_at .later [] _ _ _ _ sourceParses_said (fun _ h => by cases h) (by kernel_rfl) (fun _ h => by cases h) sourceParses_row_tie rfl ⟨rfl, rfl⟩ (by kernel_rfl) rfl sourceParses_plain (by kernel_rfl)
#print axioms sourceParses_holds

end Go.Proofs.YtgfmmbbebodapaaGreatDoor
