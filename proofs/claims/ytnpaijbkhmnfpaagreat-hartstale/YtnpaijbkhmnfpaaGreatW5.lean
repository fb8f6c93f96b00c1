/- Rows of granules, as cache.All answers them: elements of five cells. -/
import Derived.Test.YtnpaijbkhmnfpaaGreatLinL
import Derived.Test.YtnpaijbkhmnfpaaGreatBlk
import Derived.Deep.AppendLies
namespace Go.Proofs.YtnpaijbkhmnfpaaGreat
open Go.RowKit

def l5 (q : Ln) : List Value := [.int .i64 q.g, .int .u8 q.f.a, .int .u8 q.f.b, .int .u8 q.f.c, .int .u8 q.f.d]
/-- the cells of a list of such elements -/
def c5 (L : List Ln) : List Value := L.flatMap l5
theorem c5_len (L : List Ln) : (c5 L).length = L.length * 5 := by
  induction L with
  | nil => rfl
  | cons q L ih =>
    unfold c5 at *
    rw [List.flatMap_cons, List.length_append, ih, List.length_cons]
    have : (l5 q).length = 5 := rfl
    omega
theorem c5_two (L M : List Ln) : c5 (L ++ M) = c5 L ++ c5 M := by simp [c5]
theorem c5_at : ∀ (L : List Ln) (i : Nat) (h : i < L.length) (j : Nat), j < 5 → (c5 L)[i * 5 + j]? = (l5 L[i])[j]?
  | [], i, h, _, _ => absurd h (by simp)
  | q :: L, 0, _, j, hj => by
    unfold c5
    rw [List.flatMap_cons, Nat.zero_mul, Nat.zero_add, List.getElem?_append_left (by show j < 5; exact hj)]
    rfl
  | q :: L, i + 1, h, j, hj => by
    have h' : i < L.length := by simpa using h
    have ih := c5_at L i h' j hj
    unfold c5 at *
    have h5 : (l5 q).length = 5 := rfl
    rw [List.flatMap_cons, List.getElem?_append_right (by rw [h5]; omega), h5, show (i + 1) * 5 + j - 5 = i * 5 + j by omega, ih]
    rfl
/-- a list that the call has made, nil or not -/
def LOwn (T : TypeId) (w : World) (B : Nat) (v : Value) (L : List Ln) : Prop := w.ownsRow B T 5 v L.length (c5 L)
theorem LOwn.nil (T : TypeId) (w : World) (B : Nat) : LOwn T w B (.slice none 0 0) [] := World.ownsRow_nil _ _ _ _
theorem LOwn.below {T : TypeId} {w w' : World} {B : Nat} {v : Value} {L : List Ln} (h : LOwn T w B v L) (hb : Below w.heap.size w w') : LOwn T w' B v L := by
  obtain ⟨h0, h1⟩ := h
  refine ⟨h0, h1.imp id ?_⟩
  rintro ⟨g, cap, cur, e1, e2, e3, e4⟩
  exact ⟨g, cap, cur, e1, e2, (hb.block g (Array.getElem?_eq_some_iff.1 e3).1).trans e3, e4⟩
theorem LOwn.alloc {T : TypeId} {w : World} {B : Nat} {v : Value} {L : List Ln} (h : LOwn T w B v L) (o : Obj) : LOwn T (w.alloc o) B v L := h.below (new_alloc w o)
theorem LOwn.drewN {T : TypeId} {w : World} {B : Nat} {v : Value} {L : List Ln} (h : LOwn T w B v L) (n : Nat) : LOwn T (w.drewN n) B v L := h
theorem LOwn.shape {T : TypeId} {w : World} {B : Nat} {v : Value} {L : List Ln} (h : LOwn T w B v L) : ∃ p cap, v = .slice p L.length cap ∧ L.length ≤ cap ∧ cap ≤ maxLen ∧ (0 < L.length → ∃ g, p = some ⟨g, 0, none⟩ ∧ B ≤ g ∧ g < w.heap.size ∧ ∀ i (hi : i < L.length) j, j < 5 → w.cell? ⟨g, i * 5 + j, none⟩ = (l5 L[i])[j]?) := by
  rcases h.2 with ⟨e1, e2⟩ | ⟨g, cap, cur, e1, e2, e3, e4, e5, _⟩
  · exact ⟨none, 0, by rw [e1, e2], by omega, Nat.zero_le _, fun h0 => by omega⟩
  · refine ⟨_, cap, e1, e4, e5, fun _ => ⟨g, rfl, e2, (Array.getElem?_eq_some_iff.1 e3).1, fun i hi j hj => ?_⟩⟩
    have hr : w.ownsRow B T 5 v L.length (c5 L) := h
    rw [e1] at hr
    rw [hr.cellAt (i * 5 + j) (by omega), c5_at L i hi j hj]
def Elem5 (t T : TypeId) (by_ : Nat) : Prop := Tryz.prog.underlying t = some (.slice T) ∧ ∃ z, z.cells.size = 5 ∧ (Tryz.prog.info? T).map (fun i => (i.zero, i.size, i.bytes)) = some (some z, 5, by_)
theorem Tryz.elemLine : Elem5 48 94 16 := ⟨Tryz.underlying48, .agg #[.int .i64 0, .int .u8 0, .int .u8 0, .int .u8 0, .int .u8 0], rfl, by kernel_rfl⟩
theorem one5_mem (q : Ln) : ∀ u ∈ l5 q, u.oneCell' = true := by
  intro u hu
  simp only [l5, List.mem_cons, List.not_mem_nil, or_false] at hu
  rcases hu with rfl | rfl | rfl | rfl | rfl <;> rfl
theorem news5 (w : World) (q : Ln) (T : TypeId) : ∀ j u, (l5 q)[j]? = some u → (w.alloc (.cells #[.int .i64 q.g, .int .u8 q.f.a, .int .u8 q.f.b, .int .u8 q.f.c, .int .u8 q.f.d] T)).cell? ((⟨w.heap.size, 0, none⟩ : Addr).add j) = some u := by
  intro j u hj
  rw [Go.WideShapes.add_plain]
  match j, hj with
  | 0, hj => simpa [l5] using hj
  | 1, hj => simpa [l5] using hj
  | 2, hj => simpa [l5] using hj
  | 3, hj => simpa [l5] using hj
  | 4, hj => simpa [l5] using hj
  | j + 5, hj => simp [l5] at hj

/-- 'append(l, x)' -/
theorem lpush {ops : Array Oper} {rest : List Oper} {o : Oper} {a : Act} {Q : Exit → Act → World → Prop} {t T : TypeId} {by_ : Nat} (he : Elem5 t T by_) (w : World) (hgd : o.guard = none) (s x : Operand)
    (ho : o.op = .call { callee := .builtin .append, args := #[s, x], argTypes := #[t, t] }) (B : Nat) (v : Value) (L : List Ln) (hs : a.eval s = v) (hown : LOwn T w B v L)
    (ad : Addr) (c : Nat) (q : Ln) (hx : a.eval x = .slice (some ad) 1 c) (hnews : ∀ j u, (l5 q)[j]? = some u → w.cell? (ad.add j) = some u)
    (hlen : L.length ≤ 1048576) (hby : by_ ≤ 100) (hB : B ≤ w.heap.size)
    (h : ∀ v' w', LOwn T w' B v' (L ++ [q]) → w.grownBy w' v.ownBlock → (∀ w0, Below B w0 w → Below B w0 w') → wpList Tryz.prog ops Q rest (a.put o.dst v') w') :
    wpList Tryz.prog ops Q (o :: rest) a w := by
  obtain ⟨hu, z, hzc, hinfo⟩ := he
  obtain ⟨i0, hi, hz0, hz1, hz2⟩ := info_parts hinfo
  refine wpList_append_own w hgd s x t ho B T i0 z 5 by_ hu hi hz0 hz1 hz2 hzc (by decide) v L.length (c5 L) hs hown ad 1 c (l5 q) hx rfl hnews (one5_mem q) (by unfold maxLen; omega) (Nat.le_trans (Nat.mul_le_mul (show L.length + 1 ≤ 1048577 by omega) hby) (by decide)) hB ?_
  intro v' w' h2 h3 _
  refine h v' w' ?_ h3 (fun w0 hb => hb.grown h3 hB fun k hk => (World.ownsRow.lt hown k hk).1)
  unfold LOwn
  rw [List.length_append, c5_two]
  have e : c5 [q] = l5 q := by simp [c5]
  rw [e]
  exact h2
/-- .. in a region that draws -/
theorem step_lpush {ops : Array Oper} {o : Oper} {a : Act} {K : Act → World → Prop} {Q : Exit → Act → World → Prop} {E : Prop} {t T : TypeId} {by_ : Nat} (he : Elem5 t T by_) (w : World) (hgd : o.guard = none) (s x : Operand)
    (ho : o.op = .call { callee := .builtin .append, args := #[s, x], argTypes := #[t, t] }) (B : Nat) (v : Value) (L : List Ln) (hs : a.eval s = v) (hown : LOwn T w B v L)
    (ad : Addr) (c : Nat) (q : Ln) (hx : a.eval x = .slice (some ad) 1 c) (hnews : ∀ j u, (l5 q)[j]? = some u → w.cell? (ad.add j) = some u)
    (hlen : L.length ≤ 1048576) (hby : by_ ≤ 100) (hB : B ≤ w.heap.size)
    (h : ∀ g cap w', LOwn T w' B (.slice (some ⟨g, 0, none⟩) (L.length + 1) cap) (L ++ [q]) → w.grownBy w' v.ownBlock → (∀ w0, Below B w0 w → Below B w0 w') → K (a.put o.dst (.slice (some ⟨g, 0, none⟩) (L.length + 1) cap)) w') :
    if Region.wanted o (yielded ops a.tmps) = true then Oper.wp Tryz.prog o a w K Q else E := by
  obtain ⟨hu, z, hzc, hinfo⟩ := he
  obtain ⟨i0, hi, hz0, hz1, hz2⟩ := info_parts hinfo
  refine step_append_lies w hgd s x t ho B T i0 z 5 by_ hu hi hz0 hz1 hz2 hzc (by decide) v L.length (c5 L) hs hown ad 1 c (l5 q) hx rfl hnews (one5_mem q) (by decide) (by unfold maxLen; omega) (Nat.le_trans (Nat.mul_le_mul (show L.length + 1 ≤ 1048577 by omega) hby) (by decide)) hB w.heap.size rfl ?_
  intro g cap w' h2 h3 _ _
  refine h g cap w' ?_ h3 (fun w0 hb => hb.grown h3 hB fun k hk => (World.ownsRow.lt hown k hk).1)
  unfold LOwn
  rw [List.length_append, c5_two]
  have e : c5 [q] = l5 q := by simp [c5]
  rw [e]
  exact h2

end Go.Proofs.YtnpaijbkhmnfpaaGreat
