/- Rows of events: elements of seven cells. -/
import Derived.Test.YtekggimgobeggaaBas
import Derived.Test.YtekggimgobeggaaBlk
import Derived.Deep.AppendLies
namespace Go.Proofs.Ytekggimgobeggaa
open Go.RowKit

/-- an event: Step and Key are 0 -/
structure Ev where
  k : Int
  h : Int
  p : Int
  o : Int
  n : Int
def l7 (q : Ev) : List Value := [.int .u8 q.k, .int .i64 0, .int .i64 q.h, .int .i64 q.p, .int .u8 q.o, .int .i64 0, .int .i64 q.n]
def evA (q : Ev) : Array Value := #[.int .u8 q.k, .int .i64 0, .int .i64 q.h, .int .i64 q.p, .int .u8 q.o, .int .i64 0, .int .i64 q.n]
/-- the cells of a list of such elements -/
def c7 (L : List Ev) : List Value := L.flatMap l7
theorem c7_len (L : List Ev) : (c7 L).length = L.length * 7 := by
  induction L with
  | nil => rfl
  | cons q L ih =>
    unfold c7 at *
    rw [List.flatMap_cons, List.length_append, ih, List.length_cons]
    have : (l7 q).length = 7 := rfl
    omega
theorem c7_two (L M : List Ev) : c7 (L ++ M) = c7 L ++ c7 M := by simp [c7]
theorem c7_at : ∀ (L : List Ev) (i : Nat) (h : i < L.length) (j : Nat), j < 7 → (c7 L)[i * 7 + j]? = (l7 L[i])[j]?
  | [], i, h, _, _ => absurd h (by simp)
  | q :: L, 0, _, j, hj => by
    unfold c7
    rw [List.flatMap_cons, Nat.zero_mul, Nat.zero_add, List.getElem?_append_left (by show j < 7; exact hj)]
    rfl
  | q :: L, i + 1, h, j, hj => by
    have h' : i < L.length := by simpa using h
    have ih := c7_at L i h' j hj
    unfold c7 at *
    have h7 : (l7 q).length = 7 := rfl
    rw [List.flatMap_cons, List.getElem?_append_right (by rw [h7]; omega), h7, show (i + 1) * 7 + j - 7 = i * 7 + j by omega, ih]
    rfl
/-- a list that the call has made, nil or not -/
def EOwn (T : TypeId) (w : World) (B : Nat) (v : Value) (L : List Ev) : Prop := w.ownsRow B T 7 v L.length (c7 L)
theorem EOwn.nil (T : TypeId) (w : World) (B : Nat) : EOwn T w B (.slice none 0 0) [] := World.ownsRow_nil _ _ _ _
theorem EOwn.below {T : TypeId} {w w' : World} {B : Nat} {v : Value} {L : List Ev} (h : EOwn T w B v L) (hb : Below w.heap.size w w') : EOwn T w' B v L := by
  obtain ⟨h0, h1⟩ := h
  refine ⟨h0, h1.imp id ?_⟩
  rintro ⟨g, cap, cur, e1, e2, e3, e4⟩
  exact ⟨g, cap, cur, e1, e2, (hb.block g (Array.getElem?_eq_some_iff.1 e3).1).trans e3, e4⟩
theorem EOwn.alloc {T : TypeId} {w : World} {B : Nat} {v : Value} {L : List Ev} (h : EOwn T w B v L) (o : Obj) : EOwn T (w.alloc o) B v L := h.below (new_alloc w o)
theorem EOwn.drewN {T : TypeId} {w : World} {B : Nat} {v : Value} {L : List Ev} (h : EOwn T w B v L) (n : Nat) : EOwn T (w.drewN n) B v L := h
theorem EOwn.shape {T : TypeId} {w : World} {B : Nat} {v : Value} {L : List Ev} (h : EOwn T w B v L) : ∃ p cap, v = .slice p L.length cap ∧ L.length ≤ cap ∧ cap ≤ maxLen ∧ (0 < L.length → ∃ g, p = some ⟨g, 0, none⟩ ∧ B ≤ g ∧ g < w.heap.size ∧ ∀ i (hi : i < L.length) j, j < 7 → w.cell? ⟨g, i * 7 + j, none⟩ = (l7 L[i])[j]?) := by
  rcases h.2 with ⟨e1, e2⟩ | ⟨g, cap, cur, e1, e2, e3, e4, e5, _⟩
  · exact ⟨none, 0, by rw [e1, e2], by omega, Nat.zero_le _, fun h0 => by omega⟩
  · refine ⟨_, cap, e1, e4, e5, fun _ => ⟨g, rfl, e2, (Array.getElem?_eq_some_iff.1 e3).1, fun i hi j hj => ?_⟩⟩
    have hr : w.ownsRow B T 7 v L.length (c7 L) := h
    rw [e1] at hr
    rw [hr.cellAt (i * 7 + j) (by omega), c7_at L i hi j hj]
def Elem7 (t T : TypeId) (by_ : Nat) : Prop := Try.prog.underlying t = some (.slice T) ∧ ∃ z, z.cells.size = 7 ∧ (Try.prog.info? T).map (fun i => (i.zero, i.size, i.bytes)) = some (some z, 7, by_)
theorem Try.elemEv : Elem7 35 43 56 := ⟨Try.underlying35, .agg #[.int .u8 0, .int .i64 0, .int .i64 0, .int .i64 0, .int .u8 0, .int .i64 0, .int .i64 0], rfl, by kernel_rfl⟩
theorem one7_mem (q : Ev) : ∀ u ∈ l7 q, u.oneCell' = true := by
  intro u hu
  simp only [l7, List.mem_cons, List.not_mem_nil, or_false] at hu
  rcases hu with rfl | rfl | rfl | rfl | rfl | rfl | rfl <;> rfl
theorem news7 (w : World) (q : Ev) (T : TypeId) : ∀ j u, (l7 q)[j]? = some u → (w.alloc (.cells (evA q) T)).cell? ((⟨w.heap.size, 0, none⟩ : Addr).add j) = some u := by
  intro j u hj
  rw [Go.WideShapes.add_plain]
  match j, hj with
  | 0, hj => simpa [l7, evA] using hj
  | 1, hj => simpa [l7, evA] using hj
  | 2, hj => simpa [l7, evA] using hj
  | 3, hj => simpa [l7, evA] using hj
  | 4, hj => simpa [l7, evA] using hj
  | 5, hj => simpa [l7, evA] using hj
  | 6, hj => simpa [l7, evA] using hj
  | j + 7, hj => simp [l7] at hj

/-- 'append(l, x)' -/
theorem epush {ops : Array Oper} {rest : List Oper} {o : Oper} {a : Act} {Q : Exit → Act → World → Prop} {t T : TypeId} {by_ : Nat} (he : Elem7 t T by_) (w : World) (hgd : o.guard = none) (s x : Operand)
    (ho : o.op = .call { callee := .builtin .append, args := #[s, x], argTypes := #[t, t] }) (B : Nat) (v : Value) (L : List Ev) (hs : a.eval s = v) (hown : EOwn T w B v L)
    (ad : Addr) (c : Nat) (q : Ev) (hx : a.eval x = .slice (some ad) 1 c) (hnews : ∀ j u, (l7 q)[j]? = some u → w.cell? (ad.add j) = some u)
    (hlen : L.length ≤ 1048576) (hby : by_ ≤ 100) (hB : B ≤ w.heap.size)
    (h : ∀ v' w', EOwn T w' B v' (L ++ [q]) → w.grownBy w' v.ownBlock → (∀ w0, Below B w0 w → Below B w0 w') → wpList Try.prog ops Q rest (a.put o.dst v') w') :
    wpList Try.prog ops Q (o :: rest) a w := by
  obtain ⟨hu, z, hzc, hinfo⟩ := he
  obtain ⟨i0, hi, hz0, hz1, hz2⟩ := info_parts hinfo
  refine wpList_append_own w hgd s x t ho B T i0 z 7 by_ hu hi hz0 hz1 hz2 hzc (by decide) v L.length (c7 L) hs hown ad 1 c (l7 q) hx rfl hnews (one7_mem q) (by unfold maxLen; omega) (Nat.le_trans (Nat.mul_le_mul (show L.length + 1 ≤ 1048577 by omega) hby) (by decide)) hB ?_
  intro v' w' h2 h3 _
  refine h v' w' ?_ h3 (fun w0 hb => hb.grown h3 hB fun k hk => (World.ownsRow.lt hown k hk).1)
  unfold EOwn
  rw [List.length_append, c7_two]
  have e : c7 [q] = l7 q := by simp [c7]
  rw [e]
  exact h2
/-- .. in a region that draws -/
theorem step_epush {ops : Array Oper} {o : Oper} {a : Act} {K : Act → World → Prop} {Q : Exit → Act → World → Prop} {E : Prop} {t T : TypeId} {by_ : Nat} (he : Elem7 t T by_) (w : World) (hgd : o.guard = none) (s x : Operand)
    (ho : o.op = .call { callee := .builtin .append, args := #[s, x], argTypes := #[t, t] }) (B : Nat) (v : Value) (L : List Ev) (hs : a.eval s = v) (hown : EOwn T w B v L)
    (ad : Addr) (c : Nat) (q : Ev) (hx : a.eval x = .slice (some ad) 1 c) (hnews : ∀ j u, (l7 q)[j]? = some u → w.cell? (ad.add j) = some u)
    (hlen : L.length ≤ 1048576) (hby : by_ ≤ 100) (hB : B ≤ w.heap.size)
    (h : ∀ g cap w', EOwn T w' B (.slice (some ⟨g, 0, none⟩) (L.length + 1) cap) (L ++ [q]) → w.grownBy w' v.ownBlock → (∀ w0, Below B w0 w → Below B w0 w') → K (a.put o.dst (.slice (some ⟨g, 0, none⟩) (L.length + 1) cap)) w') :
    if Region.wanted o (yielded ops a.tmps) = true then Oper.wp Try.prog o a w K Q else E := by
  obtain ⟨hu, z, hzc, hinfo⟩ := he
  obtain ⟨i0, hi, hz0, hz1, hz2⟩ := info_parts hinfo
  refine step_append_lies w hgd s x t ho B T i0 z 7 by_ hu hi hz0 hz1 hz2 hzc (by decide) v L.length (c7 L) hs hown ad 1 c (l7 q) hx rfl hnews (one7_mem q) (by decide) (by unfold maxLen; omega) (Nat.le_trans (Nat.mul_le_mul (show L.length + 1 ≤ 1048577 by omega) hby) (by decide)) hB w.heap.size rfl ?_
  intro g cap w' h2 h3 _ _
  refine h g cap w' ?_ h3 (fun w0 hb => hb.grown h3 hB fun k hk => (World.ownsRow.lt hown k hk).1)
  unfold EOwn
  rw [List.length_append, c7_two]
  have e : c7 [q] = l7 q := by simp [c7]
  rw [e]
  exact h2

/-- a list of one event that was made just now -/
theorem EOwn.one (w : World) (q : Ev) : EOwn 43 (w.alloc (.cells (evA q) 43)) w.heap.size (.slice (some ⟨w.heap.size, 0, none⟩) 1 1) [q] :=
  ⟨rfl, .inr ⟨w.heap.size, 1, evA q, rfl, Nat.le_refl _, Blk.new w 43 (evA q), Nat.le_refl _, by unfold maxLen; decide, rfl, rfl⟩⟩
theorem EOwn.lower {T : TypeId} {w : World} {B B' : Nat} {v : Value} {L : List Ev} (h : EOwn T w B v L) (hB : B' ≤ B) : EOwn T w B' v L := by
  obtain ⟨h0, h1⟩ := h
  refine ⟨h0, h1.imp id ?_⟩
  rintro ⟨g, cap, cur, e1, e2, e3⟩
  exact ⟨g, cap, cur, e1, Nat.le_trans hB e2, e3⟩

end Go.Proofs.Ytekggimgobeggaa
