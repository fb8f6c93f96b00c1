/- Rows of elements of three cells (symbols, fixes, marks); what an object is made of, as lists. -/
import Derived.Test.YtekggimgobeggaaBlk
import Derived.Test.YtekggimgobeggaaGen
import Derived.Deep.AppendLies
namespace Go.Proofs.Ytekggimgobeggaa
open Go.RowKit

abbrev V3 : Type := Value × Value × Value
def l3 (q : V3) : List Value := [q.1, q.2.1, q.2.2]
/-- the cells of a list of such elements -/
def c3 (L : List V3) : List Value := L.flatMap l3
theorem c3_len (L : List V3) : (c3 L).length = L.length * 3 := by
  induction L with
  | nil => rfl
  | cons q L ih =>
    unfold c3 at *
    rw [List.flatMap_cons, List.length_append, ih, List.length_cons]
    have : (l3 q).length = 3 := rfl
    omega
theorem c3_two (L M : List V3) : c3 (L ++ M) = c3 L ++ c3 M := by simp [c3]
theorem c3_at : ∀ (L : List V3) (i : Nat) (h : i < L.length) (j : Nat), j < 3 → (c3 L)[i * 3 + j]? = (l3 L[i])[j]?
  | [], i, h, _, _ => absurd h (by simp)
  | q :: L, 0, _, j, hj => by
    unfold c3
    rw [List.flatMap_cons, Nat.zero_mul, Nat.zero_add, List.getElem?_append_left (by show j < 3; exact hj)]
    rfl
  | q :: L, i + 1, h, j, hj => by
    have h' : i < L.length := by simpa using h
    have ih := c3_at L i h' j hj
    unfold c3 at *
    have h3 : (l3 q).length = 3 := rfl
    rw [List.flatMap_cons, List.getElem?_append_right (by rw [h3]; omega), h3, show (i + 1) * 3 + j - 3 = i * 3 + j by omega, ih]
    rfl
/-- a list that the call has made, nil or not -/
def TOwn (T : TypeId) (w : World) (B : Nat) (v : Value) (L : List V3) : Prop := w.ownsRow B T 3 v L.length (c3 L)
theorem TOwn.nil (T : TypeId) (w : World) (B : Nat) : TOwn T w B (.slice none 0 0) [] := World.ownsRow_nil _ _ _ _
theorem TOwn.below {T : TypeId} {w w' : World} {B : Nat} {v : Value} {L : List V3} (h : TOwn T w B v L) (hb : Below w.heap.size w w') : TOwn T w' B v L := by
  obtain ⟨h0, h1⟩ := h
  refine ⟨h0, h1.imp id ?_⟩
  rintro ⟨g, cap, cur, e1, e2, e3, e4⟩
  exact ⟨g, cap, cur, e1, e2, (hb.block g (Array.getElem?_eq_some_iff.1 e3).1).trans e3, e4⟩
theorem TOwn.alloc {T : TypeId} {w : World} {B : Nat} {v : Value} {L : List V3} (h : TOwn T w B v L) (o : Obj) : TOwn T (w.alloc o) B v L := h.below (new_alloc w o)
theorem TOwn.drewN {T : TypeId} {w : World} {B : Nat} {v : Value} {L : List V3} (h : TOwn T w B v L) (n : Nat) : TOwn T (w.drewN n) B v L := h
theorem TOwn.shape {T : TypeId} {w : World} {B : Nat} {v : Value} {L : List V3} (h : TOwn T w B v L) : ∃ p cap, v = .slice p L.length cap ∧ L.length ≤ cap ∧ cap ≤ maxLen ∧ (0 < L.length → ∃ g, p = some ⟨g, 0, none⟩ ∧ B ≤ g ∧ g < w.heap.size ∧ ∀ i (hi : i < L.length) j, j < 3 → w.cell? ⟨g, i * 3 + j, none⟩ = (l3 L[i])[j]?) := by
  rcases h.2 with ⟨e1, e2⟩ | ⟨g, cap, cur, e1, e2, e3, e4, e5, _⟩
  · exact ⟨none, 0, by rw [e1, e2], by omega, Nat.zero_le _, fun h0 => by omega⟩
  · refine ⟨_, cap, e1, e4, e5, fun _ => ⟨g, rfl, e2, (Array.getElem?_eq_some_iff.1 e3).1, fun i hi j hj => ?_⟩⟩
    have hr : w.ownsRow B T 3 v L.length (c3 L) := h
    rw [e1] at hr
    rw [hr.cellAt (i * 3 + j) (by omega), c3_at L i hi j hj]
def Elem3 (t T : TypeId) (by_ : Nat) : Prop := Try.prog.underlying t = some (.slice T) ∧ ∃ z, z.cells.size = 3 ∧ (Try.prog.info? T).map (fun i => (i.zero, i.size, i.bytes)) = some (some z, 3, by_)
theorem Try.elemSite : Elem3 49 48 24 := ⟨Try.underlying49, .agg #[.int .i64 0, .int .i64 0, .int .i64 0], rfl, by kernel_rfl⟩
def one3 (q : V3) : Prop := q.1.oneCell' = true ∧ q.2.1.oneCell' = true ∧ q.2.2.oneCell' = true
theorem one3_mem {q : V3} (h : one3 q) : ∀ u ∈ l3 q, u.oneCell' = true := by
  intro u hu
  simp only [l3, List.mem_cons, List.not_mem_nil, or_false] at hu
  rcases hu with rfl | rfl | rfl
  · exact h.1
  · exact h.2.1
  · exact h.2.2
theorem news3 (w : World) (q : V3) (T : TypeId) : ∀ j u, (l3 q)[j]? = some u → (w.alloc (.cells #[q.1, q.2.1, q.2.2] T)).cell? ((⟨w.heap.size, 0, none⟩ : Addr).add j) = some u := by
  intro j u hj
  rw [Go.WideShapes.add_plain]
  match j, hj with
  | 0, hj => simpa [l3] using hj
  | 1, hj => simpa [l3] using hj
  | 2, hj => simpa [l3] using hj
  | j + 3, hj => simp [l3] at hj

/-- 'append(l, x)' -/
theorem tpush {ops : Array Oper} {rest : List Oper} {o : Oper} {a : Act} {Q : Exit → Act → World → Prop} {t T : TypeId} {by_ : Nat} (he : Elem3 t T by_) (w : World) (hgd : o.guard = none) (s x : Operand)
    (ho : o.op = .call { callee := .builtin .append, args := #[s, x], argTypes := #[t, t] }) (B : Nat) (v : Value) (L : List V3) (hs : a.eval s = v) (hown : TOwn T w B v L)
    (ad : Addr) (c : Nat) (q : V3) (hq : one3 q) (hx : a.eval x = .slice (some ad) 1 c) (hnews : ∀ j u, (l3 q)[j]? = some u → w.cell? (ad.add j) = some u)
    (hlen : L.length ≤ 1048576) (hby : by_ ≤ 100) (hB : B ≤ w.heap.size)
    (h : ∀ v' w', TOwn T w' B v' (L ++ [q]) → w.grownBy w' v.ownBlock → (∀ w0, Below B w0 w → Below B w0 w') → wpList Try.prog ops Q rest (a.put o.dst v') w') :
    wpList Try.prog ops Q (o :: rest) a w := by
  obtain ⟨hu, z, hzc, hinfo⟩ := he
  obtain ⟨i0, hi, hz0, hz1, hz2⟩ := info_parts hinfo
  refine wpList_append_own w hgd s x t ho B T i0 z 3 by_ hu hi hz0 hz1 hz2 hzc (by decide) v L.length (c3 L) hs hown ad 1 c (l3 q) hx rfl hnews (one3_mem hq) (by unfold maxLen; omega) (Nat.le_trans (Nat.mul_le_mul (show L.length + 1 ≤ 1048577 by omega) hby) (by decide)) hB ?_
  intro v' w' h2 h3 _
  refine h v' w' ?_ h3 (fun w0 hb => hb.grown h3 hB fun k hk => (World.ownsRow.lt hown k hk).1)
  unfold TOwn
  rw [List.length_append, c3_two]
  have e : c3 [q] = l3 q := by simp [c3]
  rw [e]
  exact h2
/-- .. in a region that draws -/
theorem step_tpush {ops : Array Oper} {o : Oper} {a : Act} {K : Act → World → Prop} {Q : Exit → Act → World → Prop} {E : Prop} {t T : TypeId} {by_ : Nat} (he : Elem3 t T by_) (w : World) (hgd : o.guard = none) (s x : Operand)
    (ho : o.op = .call { callee := .builtin .append, args := #[s, x], argTypes := #[t, t] }) (B : Nat) (v : Value) (L : List V3) (hs : a.eval s = v) (hown : TOwn T w B v L)
    (ad : Addr) (c : Nat) (q : V3) (hq : one3 q) (hx : a.eval x = .slice (some ad) 1 c) (hnews : ∀ j u, (l3 q)[j]? = some u → w.cell? (ad.add j) = some u)
    (hlen : L.length ≤ 1048576) (hby : by_ ≤ 100) (hB : B ≤ w.heap.size)
    (h : ∀ g cap w', TOwn T w' B (.slice (some ⟨g, 0, none⟩) (L.length + 1) cap) (L ++ [q]) → w.grownBy w' v.ownBlock → (∀ w0, Below B w0 w → Below B w0 w') → K (a.put o.dst (.slice (some ⟨g, 0, none⟩) (L.length + 1) cap)) w') :
    if Region.wanted o (yielded ops a.tmps) = true then Oper.wp Try.prog o a w K Q else E := by
  obtain ⟨hu, z, hzc, hinfo⟩ := he
  obtain ⟨i0, hi, hz0, hz1, hz2⟩ := info_parts hinfo
  refine step_append_lies w hgd s x t ho B T i0 z 3 by_ hu hi hz0 hz1 hz2 hzc (by decide) v L.length (c3 L) hs hown ad 1 c (l3 q) hx rfl hnews (one3_mem hq) (by decide) (by unfold maxLen; omega) (Nat.le_trans (Nat.mul_le_mul (show L.length + 1 ≤ 1048577 by omega) hby) (by decide)) hB w.heap.size rfl ?_
  intro g cap w' h2 h3 _ _
  refine h g cap w' ?_ h3 (fun w0 hb => hb.grown h3 hB fun k hk => (World.ownsRow.lt hown k hk).1)
  unfold TOwn
  rw [List.length_append, c3_two]
  have e : c3 [q] = l3 q := by simp [c3]
  rw [e]
  exact h2

end Go.Proofs.Ytekggimgobeggaa
