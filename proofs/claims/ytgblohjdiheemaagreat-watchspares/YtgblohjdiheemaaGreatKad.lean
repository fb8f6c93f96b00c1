/- Texts put together: RowK, TabL, Shar, KeyL, AddG, RowsA, Cln, AppM. -/
import Derived.Test.YtgblohjdiheemaaGreatKac
import Derived.Test.YtgblohjdiheemaaGreatKab
import Derived.Test.YtgblohjdiheemaaGreatKaa
import Derived.Deep.AppendLies
import Derived.Deep.RegionHeld3

/- Ours: rows of elements of k cells, for any k and any way to tell an element as cells. -/
namespace Go.Proofs.YtgblohjdiheemaaGreat
open Go.RowKit

/-- how an element is told as k cells -/
structure Fm (α : Type) where
  k : Nat
  f : α → List Value
  pos : 0 < k
  len : ∀ x, (f x).length = k
  one : ∀ x, ∀ u ∈ f x, u.oneCell' = true
/-- the cells of a list of such elements -/
def Fm.cs {α : Type} (F : Fm α) (L : List α) : List Value := L.flatMap F.f
section
variable {α : Type} {F : Fm α}
theorem Fm.cs_len (F : Fm α) : ∀ L : List α, (F.cs L).length = L.length * F.k
  | [] => by simp [Fm.cs]
  | q :: L => by
    have ih := F.cs_len L
    unfold Fm.cs at *
    rw [List.flatMap_cons, List.length_append, ih, F.len, List.length_cons, Nat.succ_mul, Nat.add_comm]
theorem Fm.cs_two (F : Fm α) (L M : List α) : F.cs (L ++ M) = F.cs L ++ F.cs M := by simp [Fm.cs]
theorem Fm.cs_one (F : Fm α) (q : α) : F.cs [q] = F.f q := by simp [Fm.cs]
theorem Fm.cs_at (F : Fm α) : ∀ (L : List α) (i : Nat) (h : i < L.length) (j : Nat), j < F.k → (F.cs L)[i * F.k + j]? = (F.f L[i])[j]?
  | [], i, h, _, _ => absurd h (by simp)
  | q :: L, 0, _, j, hj => by
    unfold Fm.cs
    rw [List.flatMap_cons, Nat.zero_mul, Nat.zero_add, List.getElem?_append_left (by rw [F.len]; exact hj)]
    rfl
  | q :: L, i + 1, h, j, hj => by
    have h' : i < L.length := by simpa using h
    have ih := F.cs_at L i h' j hj
    unfold Fm.cs at *
    rw [List.flatMap_cons, List.getElem?_append_right (by rw [F.len, Nat.succ_mul]; omega), F.len, show (i + 1) * F.k + j - F.k = i * F.k + j by rw [Nat.succ_mul]; omega, ih]
    rfl
theorem Fm.cs_mem (F : Fm α) (L : List α) : ∀ u ∈ F.cs L, u.oneCell' = true := fun u hu => by
  unfold Fm.cs at hu
  rw [List.mem_flatMap] at hu
  obtain ⟨q, _, hq⟩ := hu
  exact F.one q u hq
/-- a list that the call has made, nil or not -/
def KOwn (F : Fm α) (T : TypeId) (w : World) (B : Nat) (v : Value) (L : List α) : Prop := w.ownsRow B T F.k v L.length (F.cs L)
/-- such a list in memory, whoever made it -/
def KRow (F : Fm α) (w : World) (p : Option Addr) (L : List α) : Prop := 0 < L.length → ∃ b o, p = some ⟨b, o, none⟩ ∧ ∀ i (hi : i < L.length) j, j < F.k → w.cell? ⟨b, o + i * F.k + j, none⟩ = (F.f L[i])[j]?
theorem KRow.nil (w : World) (p : Option Addr) : KRow F w p [] := fun h => by simp at h
theorem KRow.cell {w : World} {p : Option Addr} {L : List α} (h : KRow F w p L) {b o : Nat} (e : p = some ⟨b, o, none⟩) (i : Nat) (hi : i < L.length) (j : Nat) (hj : j < F.k) : w.cell? ⟨b, o + i * F.k + j, none⟩ = (F.f L[i])[j]? := by
  obtain ⟨b', o', e', hc⟩ := h (by omega)
  rw [e] at e'
  injection e' with e'
  injection e' with e1 e2
  subst e1; subst e2
  exact hc i hi j hj
theorem KRow.lt {w : World} {b o : Nat} {L : List α} (h : KRow F w (some ⟨b, o, none⟩) L) (h0 : 0 < L.length) : b < w.heap.size := by
  have := KRow.cell h rfl 0 h0 0 F.pos
  obtain ⟨u, hu⟩ : ∃ u, (F.f L[0])[0]? = some u := ⟨(F.f L[0])[0]'(by rw [F.len]; exact F.pos), List.getElem?_eq_getElem _⟩
  rw [hu] at this
  exact cell_lt this
theorem KRow.below {w w' : World} {p : Option Addr} {L : List α} (h : KRow F w p L) (hb : Below w.heap.size w w') : KRow F w' p L := fun h0 => by
  obtain ⟨b, o, e, h1⟩ := h h0
  refine ⟨b, o, e, fun i hi j hj => ?_⟩
  have h2 := h1 i hi j hj
  obtain ⟨u, hu⟩ : ∃ u, (F.f L[i])[j]? = some u := ⟨(F.f L[i])[j]'(by rw [F.len]; exact hj), List.getElem?_eq_getElem _⟩
  rw [hu] at h2 ⊢
  exact (hb.cell (p := ⟨b, o + i * F.k + j, none⟩) (cell_lt h2)).trans h2
theorem KRow.keeps {G : Nat → Prop} {w w' : World} {p : Option Addr} {L : List α} (h : KRow F w p L) (hk : Keeps G w w') (hn : 0 < L.length → ∀ a, p = some a → ¬ G a.block) : KRow F w' p L := fun h0 => by
  obtain ⟨b, o, e, h1⟩ := h h0
  refine ⟨b, o, e, fun i hi j hj => ?_⟩
  have h2 := h1 i hi j hj
  obtain ⟨u, hu⟩ : ∃ u, (F.f L[i])[j]? = some u := ⟨(F.f L[i])[j]'(by rw [F.len]; exact hj), List.getElem?_eq_getElem _⟩
  rw [hu] at h2 ⊢
  have hlt := cell_lt h2
  rw [← h2]
  have := hk.block b hlt (hn h0 _ e)
  unfold World.cell?
  dsimp only
  rw [this]
theorem KOwn.nil (F : Fm α) (T : TypeId) (w : World) (B : Nat) : KOwn F T w B (.slice none 0 0) [] := World.ownsRow_nil _ _ _ _
theorem KOwn.below {T : TypeId} {w w' : World} {B : Nat} {v : Value} {L : List α} (h : KOwn F T w B v L) (hb : Below w.heap.size w w') : KOwn F T w' B v L := by
  obtain ⟨h0, h1⟩ := h
  refine ⟨h0, h1.imp id ?_⟩
  rintro ⟨g, cap, cur, e1, e2, e3, e4⟩
  exact ⟨g, cap, cur, e1, e2, (hb.block g (Array.getElem?_eq_some_iff.1 e3).1).trans e3, e4⟩
theorem KOwn.keeps {G : Nat → Prop} {T : TypeId} {w w' : World} {B : Nat} {v : Value} {L : List α} (h : KOwn F T w B v L) (hk : Keeps G w w') (hG : ∀ j, v.ownBlock = some j → ¬ G j) : KOwn F T w' B v L := by
  obtain ⟨h0, h1⟩ := h
  refine ⟨h0, h1.imp id ?_⟩
  rintro ⟨g, cap, cur, e1, e2, e3, e4⟩
  exact ⟨g, cap, cur, e1, e2, (hk.block g (Array.getElem?_eq_some_iff.1 e3).1 (hG g (by rw [e1]; rfl))).trans e3, e4⟩
theorem KOwn.alloc {T : TypeId} {w : World} {B : Nat} {v : Value} {L : List α} (h : KOwn F T w B v L) (o : Obj) : KOwn F T (w.alloc o) B v L := h.below (new_alloc w o)
theorem KOwn.drewN {T : TypeId} {w : World} {B : Nat} {v : Value} {L : List α} (h : KOwn F T w B v L) (n : Nat) : KOwn F T (w.drewN n) B v L := h
theorem KOwn.lower {T : TypeId} {w : World} {B B' : Nat} {v : Value} {L : List α} (h : KOwn F T w B v L) (hB : B' ≤ B) : KOwn F T w B' v L := by
  obtain ⟨h0, h1⟩ := h
  refine ⟨h0, h1.imp id ?_⟩
  rintro ⟨g, cap, cur, e1, e2, e3⟩
  exact ⟨g, cap, cur, e1, Nat.le_trans hB e2, e3⟩
theorem KOwn.shape {T : TypeId} {w : World} {B : Nat} {v : Value} {L : List α} (h : KOwn F T w B v L) : ∃ p cap, v = .slice p L.length cap ∧ L.length ≤ cap ∧ cap ≤ maxLen ∧ (0 < L.length → ∃ g, p = some ⟨g, 0, none⟩ ∧ B ≤ g ∧ (∃ c, Blk w g T c) ∧ ∀ i (hi : i < L.length) j, j < F.k → w.cell? ⟨g, i * F.k + j, none⟩ = (F.f L[i])[j]?) := by
  rcases h.2 with ⟨e1, e2⟩ | ⟨g, cap, cur, e1, e2, e3, e4, e5, _⟩
  · exact ⟨none, 0, by rw [e1, e2], by omega, Nat.zero_le _, fun h0 => by omega⟩
  · refine ⟨_, cap, e1, e4, e5, fun _ => ⟨g, rfl, e2, ⟨_, e3⟩, fun i hi j hj => ?_⟩⟩
    have hr : w.ownsRow B T F.k v L.length (F.cs L) := h
    rw [e1] at hr
    have hlt : i * F.k + j < L.length * F.k := by
      have h1 : (i + 1) * F.k ≤ L.length * F.k := Nat.mul_le_mul_right _ (by omega)
      rw [Nat.succ_mul] at h1
      omega
    rw [hr.cellAt (i * F.k + j) hlt, F.cs_at L i hi j hj]
theorem KOwn.row {T : TypeId} {w : World} {B : Nat} {v : Value} {L : List α} (h : KOwn F T w B v L) : ∃ p cap, v = .slice p L.length cap ∧ L.length ≤ cap ∧ cap ≤ maxLen ∧ KRow F w p L := by
  obtain ⟨p, cap, e, h1, h2, h3⟩ := h.shape
  refine ⟨p, cap, e, h1, h2, fun h0 => ?_⟩
  obtain ⟨g, e2, -, -, h4⟩ := h3 h0
  exact ⟨g, 0, e2, fun i hi j hj => by rw [Nat.zero_add]; exact h4 i hi j hj⟩
/-- an element of so many cells -/
def ElemK (F : Fm α) (t T : TypeId) (by_ : Nat) : Prop := Tryz.prog.underlying t = some (.slice T) ∧ ∃ z, z.cells.size = F.k ∧ (Tryz.prog.info? T).map (fun i => (i.zero, i.size, i.bytes)) = some (some z, F.k, by_)
/-- 'append(l, x)' -/
theorem kpush {ops : Array Oper} {rest : List Oper} {o : Oper} {a : Act} {Q : Exit → Act → World → Prop} {t T : TypeId} {by_ : Nat} (he : ElemK F t T by_) (w : World) (hgd : o.guard = none) (s x : Operand)
    (ho : o.op = .call { callee := .builtin .append, args := #[s, x], argTypes := #[t, t] }) (B : Nat) (v : Value) (L : List α) (hs : a.eval s = v) (hown : KOwn F T w B v L)
    (ad : Addr) (c : Nat) (q : α) (hx : a.eval x = .slice (some ad) 1 c) (hnews : ∀ j u, (F.f q)[j]? = some u → w.cell? (ad.add j) = some u)
    (hlen : L.length ≤ 1048576) (hby : by_ ≤ 100) (hB : B ≤ w.heap.size)
    (h : ∀ v' w', KOwn F T w' B v' (L ++ [q]) → w.grownBy w' v.ownBlock → (∀ w0, Below B w0 w → Below B w0 w') → wpList Tryz.prog ops Q rest (a.put o.dst v') w') :
    wpList Tryz.prog ops Q (o :: rest) a w := by
  obtain ⟨hu, z, hzc, hinfo⟩ := he
  obtain ⟨i0, hi, hz0, hz1, hz2⟩ := info_parts hinfo
  refine wpList_append_own w hgd s x t ho B T i0 z F.k by_ hu hi hz0 hz1 hz2 hzc F.pos v L.length (F.cs L) hs hown ad 1 c (F.f q) hx (by rw [F.len, Nat.one_mul]) hnews (F.one q) (by unfold maxLen; omega) (Nat.le_trans (Nat.mul_le_mul (show L.length + 1 ≤ 1048577 by omega) hby) (by decide)) hB ?_
  intro v' w' h2 h3 _
  refine h v' w' ?_ h3 (fun w0 hb => hb.grown h3 hB fun k hk => (World.ownsRow.lt hown k hk).1)
  unfold KOwn
  rw [List.length_append, F.cs_two, F.cs_one]
  exact h2
/-- .. in a region that draws -/
theorem step_kpush {ops : Array Oper} {o : Oper} {a : Act} {K : Act → World → Prop} {Q : Exit → Act → World → Prop} {E : Prop} {t T : TypeId} {by_ : Nat} (he : ElemK F t T by_) (w : World) (hgd : o.guard = none) (s x : Operand)
    (ho : o.op = .call { callee := .builtin .append, args := #[s, x], argTypes := #[t, t] }) (B : Nat) (v : Value) (L : List α) (hs : a.eval s = v) (hown : KOwn F T w B v L)
    (ad : Addr) (c : Nat) (q : α) (hx : a.eval x = .slice (some ad) 1 c) (hnews : ∀ j u, (F.f q)[j]? = some u → w.cell? (ad.add j) = some u)
    (hlen : L.length ≤ 1048576) (hby : by_ ≤ 100) (hB : B ≤ w.heap.size)
    (h : ∀ g cap w', KOwn F T w' B (.slice (some ⟨g, 0, none⟩) (L.length + 1) cap) (L ++ [q]) → w.grownBy w' v.ownBlock → (∀ w0, Below B w0 w → Below B w0 w') → K (a.put o.dst (.slice (some ⟨g, 0, none⟩) (L.length + 1) cap)) w') :
    if Region.wanted o (yielded ops a.tmps) = true then Oper.wp Tryz.prog o a w K Q else E := by
  obtain ⟨hu, z, hzc, hinfo⟩ := he
  obtain ⟨i0, hi, hz0, hz1, hz2⟩ := info_parts hinfo
  refine step_append_lies w hgd s x t ho B T i0 z F.k by_ hu hi hz0 hz1 hz2 hzc F.pos v L.length (F.cs L) hs hown ad 1 c (F.f q) hx (by rw [F.len, Nat.one_mul]) hnews (F.one q) (by decide) (by unfold maxLen; omega) (Nat.le_trans (Nat.mul_le_mul (show L.length + 1 ≤ 1048577 by omega) hby) (by decide)) hB w.heap.size rfl ?_
  intro g cap w' h2 h3 _ _
  refine h g cap w' ?_ h3 (fun w0 hb => hb.grown h3 hB fun k hk => (World.ownsRow.lt hown k hk).1)
  unfold KOwn
  rw [List.length_append, F.cs_two, F.cs_one]
  exact h2
/-- 'append(l, more...)', where there are more -/
theorem kpushL {ops : Array Oper} {rest : List Oper} {o : Oper} {a : Act} {Q : Exit → Act → World → Prop} {t T : TypeId} {by_ : Nat} (he : ElemK F t T by_) (w : World) (hgd : o.guard = none) (s x : Operand)
    (ho : o.op = .call { callee := .builtin .append, args := #[s, x], argTypes := #[t, t] }) (B : Nat) (v : Value) (L M : List α) (hs : a.eval s = v) (hown : KOwn F T w B v L)
    (p : Option Addr) (m c : Nat) (hm : M.length = m) (hx : a.eval x = .slice p m c) (h0 : 0 < M.length) (hrow : KRow F w p M)
    (hlen : L.length ≤ 1048576) (hlm : M.length ≤ 1048576) (hby : by_ ≤ 64) (hB : B ≤ w.heap.size)
    (h : ∀ g cap w', KOwn F T w' B (.slice (some ⟨g, 0, none⟩) (L ++ M).length cap) (L ++ M) → w.grownBy w' v.ownBlock → (v.ownBlock = some g ∨ g = w.heap.size) → g < w'.heap.size → wpList Tryz.prog ops Q rest (a.put o.dst (.slice (some ⟨g, 0, none⟩) (L ++ M).length cap)) w') :
    wpList Tryz.prog ops Q (o :: rest) a w := by
  subst hm
  obtain ⟨hu, z, hzc, hinfo⟩ := he
  obtain ⟨i0, hi, hz0, hz1, hz2⟩ := info_parts hinfo
  obtain ⟨b, o', rfl, hc⟩ := hrow h0
  have hnews : ∀ j u, (F.cs M)[j]? = some u → w.cell? ((⟨b, o', none⟩ : Addr).add j) = some u := fun j u hj => by
    have hjl : j < M.length * F.k := by rw [← F.cs_len]; exact (List.getElem?_eq_some_iff.1 hj).1
    rw [Go.WideShapes.add_plain]
    have hq : j / F.k < M.length := Nat.div_lt_of_lt_mul (by rw [Nat.mul_comm]; exact hjl)
    have h1 := hc (j / F.k) hq (j % F.k) (Nat.mod_lt _ F.pos)
    have h2 := F.cs_at M (j / F.k) hq (j % F.k) (Nat.mod_lt _ F.pos)
    have e : j / F.k * F.k + j % F.k = j := Nat.div_add_mod' j F.k
    rw [e] at h2
    rw [Nat.add_assoc, e] at h1
    rw [← h2, hj] at h1
    exact h1
  refine wpList_append_lies w hgd s x t ho B T i0 z F.k by_ hu hi hz0 hz1 hz2 hzc F.pos v L.length (F.cs L) hs hown ⟨b, o', none⟩ M.length c (F.cs M) hx (F.cs_len M) hnews (F.cs_mem M) h0 (by unfold maxLen; omega) (Nat.le_trans (Nat.mul_le_mul (show L.length + M.length ≤ 2097152 by omega) hby) (by decide)) hB w.heap.size rfl ?_
  intro g cap w' h2 h3 h4 h5
  have := h g cap w' (by unfold KOwn; rw [List.length_append, F.cs_two]; exact h2) h3 h4 h5
  rwa [List.length_append] at this
/-- a list of one element that was made just now -/
theorem KOwn.one {T : TypeId} (w : World) (q : α) (A : Array Value) (hA : A.toList = F.f q) : KOwn F T (w.alloc (.cells A T)) w.heap.size (.slice (some ⟨w.heap.size, 0, none⟩) 1 1) [q] := by
  refine ⟨by rw [F.cs_one, F.len]; simp, .inr ⟨w.heap.size, 1, A, rfl, Nat.le_refl _, Blk.new w T A, Nat.le_refl _, by unfold maxLen; decide, ?_, ?_⟩⟩
  · rw [← Array.length_toList, hA, F.len, Nat.one_mul]
  · rw [F.cs_one, List.take_of_length_le (by rw [hA, F.len]; simp), hA]
/-- the new element's cells, built just now -/
theorem Fm.news (F : Fm α) (w : World) (q : α) (T : TypeId) (A : Array Value) (hA : A.toList = F.f q) : ∀ j u, (F.f q)[j]? = some u → (w.alloc (.cells A T)).cell? ((⟨w.heap.size, 0, none⟩ : Addr).add j) = some u := by
  intro j u hj
  rw [Go.WideShapes.add_plain, Nat.zero_add]
  rw [(Blk.new w T A).cell]
  rw [← hj, ← hA, Array.getElem?_toList]
/-- a cell of one element is written -/
theorem Fm.cs_set (F : Fm α) : ∀ (L : List α) (i : Nat) (h : i < L.length) (j : Nat) (u : Value) (q : α), j < F.k → (F.f L[i]).set j u = F.f q → (F.cs L).set (i * F.k + j) u = F.cs (L.set i q)
  | [], i, h, _, _, _, _, _ => absurd h (by simp)
  | x :: L, 0, _, j, u, q, hj, e => by
    unfold Fm.cs
    rw [List.set_cons_zero, List.flatMap_cons, List.flatMap_cons, Nat.zero_mul, Nat.zero_add, List.set_append_left _ _ (by rw [F.len]; exact hj)]
    rw [show (F.f x).set j u = F.f q from e]
  | x :: L, i + 1, h, j, u, q, hj, e => by
    have h' : i < L.length := by simpa using h
    have ih := F.cs_set L i h' j u q hj e
    unfold Fm.cs at *
    rw [List.set_cons_succ, List.flatMap_cons, List.flatMap_cons, List.set_append_right _ _ (by rw [F.len, Nat.succ_mul]; omega), F.len, show (i + 1) * F.k + j - F.k = i * F.k + j by rw [Nat.succ_mul]; omega, ih]
theorem KOwn.set {T : TypeId} {w : World} {B g n c : Nat} {L : List α} {i : Nat} (h : KOwn F T w B (.slice (some ⟨g, 0, none⟩) n c) L) (hi : i < L.length) (j : Nat) (hj : j < F.k) (u : Value) (q : α) (e : (F.f L[i]).set j u = F.f q) : KOwn F T (w.setCell ⟨g, i * F.k + j, none⟩ u) B (.slice (some ⟨g, 0, none⟩) n c) (L.set i q) := by
  obtain ⟨p, cap, e0, -, -, -⟩ := h.shape
  injection e0 with e1 e2 e3
  subst e2
  have h1 := (World.ownsRow.stored (show w.ownsRow B T F.k (.slice (some ⟨g, 0, none⟩) L.length c) L.length (F.cs L) from h) (i * F.k + j) u).1
  rw [F.cs_set L i hi j u q hj e] at h1
  unfold KOwn
  rw [List.length_set]
  exact h1
theorem KOwn.kept {T : TypeId} {w w' : World} {B : Nat} {v : Value} {L : List α} {row : Option Nat} (h : KOwn F T w B v L) (hg : w.grownBy w' row) (hne : v.ownBlock = none ∨ v.ownBlock ≠ row) : KOwn F T w' B v L := World.ownsRow.kept h hg hne
/-- a list that is not empty lies in a block of its own -/
theorem KOwn.some {T : TypeId} {w : World} {B n c : Nat} {q : Option Addr} {L : List α} (h : KOwn F T w B (.slice q n c) L) (h0 : 0 < L.length) : ∃ g, q = some ⟨g, 0, none⟩ ∧ B ≤ g ∧ g < w.heap.size ∧ (∀ j, w.frozen? ⟨g, j, none⟩ = false) ∧ ∃ c, Blk w g T c := by
  rcases h.2 with ⟨_, e2⟩ | ⟨g, cap, cur, e1, e2, e3, _⟩
  · omega
  · injection e1 with e1 _ _
    exact ⟨g, e1, e2, (Array.getElem?_eq_some_iff.1 e3).1, fun j => frozen_of_row w g j _ T e3, ⟨_, e3⟩⟩
theorem KOwn.ownB {T : TypeId} {w : World} {B : Nat} {v : Value} {L : List α} (h : KOwn F T w B v L) {g : Nat} (e : v.ownBlock = Option.some g) : B ≤ g ∧ ∃ c, Blk w g T c := by
  rcases h.2 with ⟨e1, _⟩ | ⟨g', cap, cur, e1, e2, e3, _⟩
  · rw [e1] at e; cases e
  · rw [e1] at e
    injection e with e
    subst e
    exact ⟨e2, _, e3⟩
end
end Go.Proofs.YtgblohjdiheemaaGreat

/- Where units begin, and their labels, as lists: P7.1 to P7.3. -/
namespace Go.Proofs.YtgblohjdiheemaaGreat
open Go.RowKit

def nextS (e : Nat) : Nat := (e + 3) / 4 * 4
theorem nextS_le (e : Nat) : e ≤ nextS e ∧ nextS e ≤ e + 3 ∧ nextS e % 4 = 0 := by unfold nextS; omega
structure Tab where
  ss : List Nat
  ts : List Sy
  e : Int
  u : Nat
def noTab (e : Int) (u : Nat) : Tab := ⟨[], [], e, u⟩
/-- a label, its unit begun at s -/
def movS (s : Nat) (x : Sy) : Sy := ⟨x.name, (s : Int) + x.at_, x.g⟩
/-- the names of global labels -/
def gloS (L : List Sy) : List ByteArray := (L.filter fun x => x.g).map Sy.name
def dupS (gs : List ByteArray) (L : List Sy) : Bool := L.any fun x => x.g && inB x.name gs
def tabGo (i e : Nat) (ss : List Nat) (ts : List Sy) : List Ob → Tab
  | [] => ⟨ss, ts, 0, 0⟩
  | o :: os =>
    if okO o = false then noTab 2 i
    else if nextS e + o.bs.length > 65536 then noTab 3 i
    else if dupS (gloS ts) o.sy = true then noTab 170 i
    else tabGo (i + 1) (nextS e + o.bs.length) (ss ++ [nextS e]) (ts ++ o.sy.map (movS (nextS e))) os
def tabL (xs : List Ob) : Tab := if xs.length > 16 then noTab 3 0 else tabGo 0 0 [] [] xs
/-- P7.2 -/
def findG (t : List Sy) (s : ByteArray) : Option Int := (t.find? fun x => x.g && decide (x.name = s)).map Sy.at_
def findN (t : List Sy) (s : ByteArray) : Option Int := (t.find? fun x => decide (x.name = s)).map Sy.at_
/-- P7.3 -/
def resL (xs : List Ob) (u : Int) (s : ByteArray) : Int × Int :=
  if (tabL xs).e ≠ 0 then (0, (tabL xs).e) else if h : 0 ≤ u ∧ u < xs.length then
    match findN (xs[u.toNat]'(by omega)).sy s with
    | some a => (((tabL xs).ss.getD u.toNat 0 : Nat) + a, 0)
    | none => match findG (tabL xs).ts s with
      | some a => (a, 0)
      | none => (0, 171)
  else (0, 2)

theorem tab_step (i e : Nat) (ss : List Nat) (ts : List Sy) (xs : List Ob) (k : Nat) (h : k < xs.length) : tabGo i e ss ts (xs.drop k) =
    if okO xs[k] = false then noTab 2 i else if nextS e + xs[k].bs.length > 65536 then noTab 3 i else if dupS (gloS ts) xs[k].sy = true then noTab 170 i
    else tabGo (i + 1) (nextS e + xs[k].bs.length) (ss ++ [nextS e]) (ts ++ xs[k].sy.map (movS (nextS e))) (xs.drop (k + 1)) := by
  rw [List.drop_eq_getElem_cons h]; rfl
theorem gloS_app (A B : List Sy) : gloS (A ++ B) = gloS A ++ gloS B := by simp [gloS]
theorem gloS_mov (s : Nat) (L : List Sy) : gloS (L.map (movS s)) = gloS L := by
  unfold gloS
  induction L with
  | nil => rfl
  | cons x L ih =>
    rw [List.map_cons, List.filter_cons, List.filter_cons]
    show List.map Sy.name (if x.g = true then _ else _) = _
    by_cases hg : x.g = true
    · rw [if_pos hg, if_pos hg, List.map_cons, List.map_cons, ih]; rfl
    · rw [if_neg hg, if_neg hg, ih]
theorem gloS_take (L : List Sy) (k : Nat) (h : k < L.length) : gloS (L.take (k + 1)) = gloS (L.take k) ++ if L[k].g = true then [L[k].name] else [] := by
  rw [List.take_succ_eq_append_getElem h, gloS_app]
  congr 1
  unfold gloS
  rw [List.filter_cons]
  by_cases hg : L[k].g = true
  · rw [if_pos hg, if_pos hg]; rfl
  · rw [if_neg hg, if_neg hg]; rfl
theorem gloS_sub {L : List Sy} {s : ByteArray} (h : s ∈ gloS L) : s ∈ names L := by
  unfold gloS at h
  rw [List.mem_map] at h
  obtain ⟨x, hx, rfl⟩ := h
  exact List.mem_map.2 ⟨x, (List.mem_filter.1 hx).1, rfl⟩
/-- of a right unit no name stands twice -/
theorem rs_nodup (n : Nat) : ∀ (L : List Sy) (least : Int) (seen : List ByteArray), rsL n least seen L = true → (∀ s ∈ names L, s ∉ seen) ∧ (names L).Nodup
  | [], _, _, _ => ⟨fun s h => by simp [names] at h, List.nodup_nil⟩
  | x :: L, least, seen, h => by
    unfold rsL at h
    rw [Bool.and_eq_true] at h
    obtain ⟨h1, h2⟩ := h
    obtain ⟨i1, i2⟩ := rs_nodup n L _ _ h2
    have hx : x.name ∉ seen := by
      intro hm
      unfold symB at h1
      simp only [Bool.and_eq_true] at h1
      have h3 : (!inB x.name seen) = true := by
        revert h1
        simp
        intro h _ _ _
        exact h
      rw [(inB_iff _ _).2 hm] at h3
      cases h3
    refine ⟨fun s hs => ?_, ?_⟩
    · have hs' : s = x.name ∨ s ∈ names L := by simpa [names] using hs
      rcases hs' with rfl | hs'
      · exact hx
      · exact fun hm => i1 s hs' (List.mem_append_left _ hm)
    · show (x.name :: names L).Nodup
      refine List.nodup_cons.2 ⟨fun hm => i1 x.name hm (List.mem_append_right _ (List.mem_singleton.2 rfl)), i2⟩
/-- the labels ahead of one in a right unit do not bear its name -/
theorem glo_own {L : List Sy} (hn : (names L).Nodup) (k : Nat) (h : k < L.length) : inB L[k].name (gloS (L.take k)) = false := by
  cases hb : inB L[k].name (gloS (L.take k)) with
  | false => rfl
  | true =>
    exfalso
    have h1 := gloS_sub ((inB_iff _ _).1 hb)
    have h2 : names L = names (L.take k) ++ L[k].name :: names (L.drop (k + 1)) := by
      unfold names
      conv => lhs; rw [← List.take_append_drop k L, List.drop_eq_getElem_cons h]
      rw [List.map_append, List.map_cons]
    rw [h2, List.nodup_append] at hn
    exact hn.2.2 _ h1 _ (List.mem_cons_self) rfl
theorem inB_app (s : ByteArray) (A B : List ByteArray) : inB s (A ++ B) = (inB s A || inB s B) := by
  rw [Bool.eq_iff_iff, inB_iff, Bool.or_eq_true, inB_iff, inB_iff, List.mem_append]
theorem dup_take (gs : List ByteArray) (L : List Sy) (k : Nat) (h : k < L.length) : dupS gs (L.take (k + 1)) = (dupS gs (L.take k) || (L[k].g && inB L[k].name gs)) := by
  unfold dupS
  rw [List.take_succ_eq_append_getElem h, List.any_append]
  simp
theorem dup_part (gs : List ByteArray) (L : List Sy) (k : Nat) (h : dupS gs (L.take k) = true) : dupS gs L = true := by
  unfold dupS at h ⊢
  rw [List.any_eq_true] at h ⊢
  obtain ⟨x, hx, h2⟩ := h
  exact ⟨x, List.mem_of_mem_take hx, h2⟩

end Go.Proofs.YtgblohjdiheemaaGreat

/- slices.BinarySearchFunc over fixes; object.sharesByte. -/
namespace Go.Proofs.YtgblohjdiheemaaGreat
open Go.RowKit

def cmpI (a b : Int) : Int := if a < b then -1 else if b < a then 1 else 0
theorem isNaN_any (a : Int) (w : World) : Calls Tryz.prog 76 #[.int .i64 a] w fun E w' => E = .returned (.bool false) ∧ w' = w := by
  go_enter Tryz.func76, Tryz.ntmps76
  go_wp2
  go_ret
  exact ⟨rfl, rfl⟩
theorem compare_any (a b : Int) (w : World) : Calls Tryz.prog 61 #[.int .i64 a, .int .i64 b] w fun E w' => E = .returned (.int .i64 (cmpI a b)) ∧ w' = w := by
  have hN := isNaN_any
  by_cases h1 : a < b
  · have HC : Hid (cmpI a b = -1) := if_pos h1
    rw [HC.out]
    go_enter Tryz.func61, Tryz.ntmps61
    go_wp2_with (go_at_call 76; refine (hN _ _).mono ?_; rintro E w1 ⟨rfl, rfl⟩)
    go_ret
    exact ⟨rfl, rfl⟩
  · by_cases h2 : b < a
    · have HC : Hid (cmpI a b = 1) := by
        have : cmpI a b = 1 := by unfold cmpI; rw [if_neg h1, if_pos h2]
        exact this
      rw [HC.out]
      go_enter Tryz.func61, Tryz.ntmps61
      go_wp2_with (go_at_call 76; refine (hN _ _).mono ?_; rintro E w1 ⟨rfl, rfl⟩)
      go_ret
      exact ⟨rfl, rfl⟩
    · have HC : Hid (cmpI a b = 0) := by
        have : cmpI a b = 0 := by unfold cmpI; rw [if_neg h1, if_neg h2]
        exact this
      rw [HC.out]
      go_enter Tryz.func61, Tryz.ntmps61
      go_wp2_with (go_at_call 76; refine (hN _ _).mono ?_; rintro E w1 ⟨rfl, rfl⟩)
      go_ret
      exact ⟨rfl, rfl⟩
theorem clos_any (k a e : Int) (s : ByteArray) (w : World) : Calls Tryz.prog 119 #[.agg #[.int .u8 k, .int .i64 a, .string s], .int .i64 e] w fun E w' => E = .returned (.int .i64 (cmpI a e)) ∧ Below w.heap.size w w' := by
  have hC := compare_any a e
  generalize cmpI a e = r at *
  go_enter Tryz.func119, Tryz.ntmps119
  go_wp2_with (go_at_call 61; refine (hC _).mono ?_; rintro E w1 ⟨rfl, rfl⟩)
  go_ret
  exact ⟨rfl, new_alloc _ _⟩

/-- fixes in order -/
def SortF (fs : List Fx) : Prop := ∀ i j (_ : i < j) (h' : j < fs.length), (fs[i]'(by omega)).at_ ≤ fs[j].at_
theorem cmp_neg {a b : Int} : cmpI a b < 0 ↔ a < b := by
  unfold cmpI
  split
  · simp_all
  · split <;> simp_all
theorem cells3 {w : World} {b o : Nat} {L : List V3} (h : ∀ i (hi : i < L.length) j, j < 3 → w.cell? ⟨b, o + i * 3 + j, none⟩ = (l3 L[i])[j]?) (i : Nat) (hi : i < L.length) :
    w.cell? ⟨b, o + i * 3, none⟩ = some L[i].1 ∧ w.cell? ⟨b, o + i * 3 + 1, none⟩ = some L[i].2.1 ∧ w.cell? ⟨b, o + i * 3 + 2, none⟩ = some L[i].2.2 :=
  ⟨h i hi 0 (by decide), h i hi 1 (by decide), h i hi 2 (by decide)⟩

set_option maxRecDepth 20000 in
set_option maxHeartbeats 1000000 in
theorem search_any (p : Option Addr) (n c : Nat) (t : Int) (fs : List Fx) (w : World) (hn : fs.length = n) (hn4 : n ≤ 1048576) (hx : Row3 w p (fs.map fxV)) (hs : SortF fs) :
    Calls Tryz.prog 118 #[.slice p n c, .int .i64 t, .func (Fn.func 119) #[] #[]] w fun E w' => (∃ (k : Nat) (b : Bool), E = .returned (.tuple #[.int .i64 k, .bool b]) ∧ k ≤ n ∧ (∀ i (h : i < fs.length), i < k → fs[i].at_ < t) ∧ (∀ i (h : i < fs.length), k ≤ i → t ≤ fs[i].at_)) ∧ Below w.heap.size w w' := by
  have hC := clos_any
  have HX := Hid.in hx
  have HS := Hid.in hs
  have HN := Hid.in hn
  clear hx hs hn
  go_enter Tryz.func118, Tryz.ntmps118
  go_wp2_with fail
  go_loopw [9, 10] (fun vi vj wr => ∃ i j : Nat, vi = .int .i64 i ∧ vj = .int .i64 j ∧ i ≤ j ∧ j ≤ n ∧ (∀ x (h : x < fs.length), x < i → fs[x].at_ < t) ∧ (∀ x (h : x < fs.length), j ≤ x → t ≤ fs[x].at_) ∧ Below w.heap.size w wr) (fun vi vj _ => (intOf vj).toNat - (intOf vi).toNat)
  case atStart => exact ⟨0, n, rfl, rfl, Nat.zero_le _, Nat.le_refl _, fun x h h0 => by omega, fun x h h0 => by have := HN.out; omega, below_self w⟩
  case round =>
    obtain ⟨i, j, rfl, rfl, hij, hjn, hlo, hhi, hb⟩ := hrel
    have HLO := Hid.in hlo
    have HHI := Hid.in hhi
    have HB := Hid.in hb
    clear hlo hhi hb
    by_cases hlt : i < j
    · have hh : (i + j) / 2 < fs.length := by have := HN.out; omega
      obtain ⟨b, o, rfl, hc⟩ := (HX.out.below HB.out) (by rw [List.length_map]; omega)
      obtain ⟨c0, c1, c2⟩ := cells3 hc ((i + j) / 2) (by rw [List.length_map]; exact hh)
      simp only [List.getElem_map, fxV] at c0 c1 c2
      clear hc
      by_cases hat : fs[(i + j) / 2].at_ < t
      · have HLO2 : Hid (∀ x (h : x < fs.length), x < (i + j) / 2 + 1 → fs[x].at_ < t) := fun x h hx => by
          by_cases e : x = (i + j) / 2
          · subst e; exact hat
          · have := HS.out x ((i + j) / 2) (by omega) hh
            omega
        have HCM : Hid (cmpI fs[(i + j) / 2].at_ t = -1) := if_pos hat
        generalize fs[(i + j) / 2] = f at *
        go_wp2_with (go_at_call 119; refine (hC _ _ _ _ _).mono ?_; rintro E w1 ⟨rfl, hb1⟩; rw [HCM.out]; have HB1 := Hid.in (below_step HB.out hb1); clear hb1)
        go_roundw
        case rel => exact ⟨(i + j) / 2 + 1, j, by go_num, rfl, by omega, hjn, HLO2.out, HHI.out, HB1.out⟩
        case measure => simp [intOf]; omega
      · have HHI2 : Hid (∀ x (h : x < fs.length), (i + j) / 2 ≤ x → t ≤ fs[x].at_) := fun x h hx => by
          by_cases e : x = (i + j) / 2
          · subst e; omega
          · have := HS.out ((i + j) / 2) x (by omega) h
            omega
        have hge : ¬ cmpI fs[(i + j) / 2].at_ t < 0 := fun e => hat (cmp_neg.1 e)
        generalize fs[(i + j) / 2] = f at *
        generalize hr : cmpI f.at_ t = r at *
        have HR := Hid.in hr
        clear hr
        go_wp2_with (go_at_call 119; refine (hC _ _ _ _ _).mono ?_; rintro E w1 ⟨rfl, hb1⟩; rw [HR.out]; have HB1 := Hid.in (below_step HB.out hb1); clear hb1)
        go_roundw
        case rel => exact ⟨i, (i + j) / 2, rfl, by go_num, by omega, by omega, HLO.out, HHI2.out, HB1.out⟩
        case measure => simp [intOf]; omega
    · have hij2 : i = j := by omega
      subst hij2
      by_cases hin : i < n
      · have hh : i < fs.length := by have := HN.out; omega
        obtain ⟨b, o, rfl, hc⟩ := (HX.out.below HB.out) (by rw [List.length_map]; omega)
        obtain ⟨c0, c1, c2⟩ := cells3 hc i (by rw [List.length_map]; exact hh)
        simp only [List.getElem_map, fxV] at c0 c1 c2
        clear hc
        generalize fs[i] = f at *
        go_wp2_with (go_at_call 119; refine (hC _ _ _ _ _).mono ?_; rintro E w1 ⟨rfl, hb1⟩; have HB1 := Hid.in (below_step HB.out hb1); clear hb1)
        go_ret2
        exact ⟨⟨i, _, rfl, hjn, HLO.out, HHI.out⟩, HB1.out⟩
      · go_wp2_with fail
        go_ret2
        exact ⟨⟨i, _, rfl, hjn, HLO.out, HHI.out⟩, HB.out⟩

/-- what is asked of fixes that are right -/
def NextF (fs : List Fx) : Prop := ∀ i j (_ : i < j) (h' : j < fs.length), (fs[i]'(by omega)).at_ + 4 ≤ fs[j].at_

set_option maxHeartbeats 1000000 in
theorem shares_any (p : Option Addr) (n c : Nat) (a : Int) (fs : List Fx) (w : World) (hn : fs.length = n) (hn4 : n ≤ 1048576) (hx : Row3 w p (fs.map fxV)) (hs : NextF fs) (ha : 0 ≤ a) (ha2 : a ≤ 65536) (hf : ∀ f ∈ fs, f.at_ ≤ 65536) (hf0 : ∀ f ∈ fs, 0 ≤ f.at_) :
    Calls Tryz.prog 92 #[.slice p n c, .int .i64 a] w fun E w' => E = .returned (.bool (shB fs a)) ∧ Below w.heap.size w w' := by
  have hS := search_any p n c (a + 5) fs w hn hn4 hx (fun i j h h' => by have := hs i j h h'; omega)
  have HX := Hid.in hx
  have HS := Hid.in hs
  have HN := Hid.in hn
  have HF := Hid.in hf
  have HF0 := Hid.in hf0
  clear hx hs hn hf hf0
  obtain ⟨r, hr⟩ : ∃ r, shB fs a = r := ⟨_, rfl⟩
  rw [hr]
  have HRR := Hid.in hr
  clear hr
  go_enter Tryz.func92, Tryz.ntmps92
  go_upto_region 2 with (go_at_call 118; refine hS.mono ?_; rintro E w1 ⟨⟨k, bb, rfl, hk, hlo, hhi⟩, hb1⟩; have HB1 := Hid.in hb1; have HSH := Hid.in (sh_last fs a k (by have := HN.out; omega) HS.out hlo hhi); clear hb1 hlo hhi)
  by_cases hk0 : 0 < k
  · have hkf : k - 1 < fs.length := by have := HN.out; omega
    obtain ⟨b, o, rfl, hc⟩ := (HX.out.below HB1.out) (by rw [List.length_map]; omega)
    obtain ⟨c0, c1, c2⟩ := cells3 hc (k - 1) (by rw [List.length_map]; exact hkf)
    simp only [List.getElem_map, fxV] at c0 c1 c2
    have hm1 := HF.out _ (List.getElem_mem hkf)
    have hm2 := HF0.out _ (List.getElem_mem hkf)
    clear hc c0 c2
    by_cases hat : a < fs[k - 1].at_ + 4
    · have HR : Hid (shB fs a = true) := HSH.out.2 ⟨hk0, hat⟩
      generalize fs[k - 1] = f at *
      go_wp2_with fail
      go_ret
      exact ⟨ret_bool (by rw [← HRR.out, HR.out]), HB1.out⟩
    · have HR : Hid (shB fs a = false) := by
        have : shB fs a = false := by
          cases hb : shB fs a with
          | false => rfl
          | true => obtain ⟨_, h2⟩ := HSH.out.1 hb; exact absurd h2 hat
        exact this
      generalize fs[k - 1] = f at *
      go_wp2_with fail
      go_ret
      exact ⟨ret_bool (by rw [← HRR.out, HR.out]), HB1.out⟩
  · have HR : Hid (shB fs a = false) := by
      have : shB fs a = false := by
        cases hb : shB fs a with
        | false => rfl
        | true => obtain ⟨h1, _⟩ := HSH.out.1 hb; exact absurd h1 hk0
      exact this
    go_wp2_with fail
    go_ret
    exact ⟨ret_bool (by rw [← HRR.out, HR.out]), HB1.out⟩

end Go.Proofs.YtgblohjdiheemaaGreat

/- A map from names to numbers that a call has made: which names it holds. symbols.nextStart. -/
namespace Go.Proofs.YtgblohjdiheemaaGreat
open Go.RowKit Go.Maps Go.WideMaps

def KeyD (D : DataW Unit) (ns : List ByteArray) : Prop := ∀ s, has D (key s) = inB s ns
def KeyAt (w : World) (b : Nat) (ns : List ByteArray) : Prop := ∃ D : DataW Unit, w.ownsMap Tryz.prog 9 (plainElem Tryz.prog 3) b ns.length D ∧ KeyD D ns
theorem KeyAt.made (w : World) : KeyAt (w.alloc (.map #[] 0)) w.heap.size [] := ⟨_, World.ownsMap_made _ _ _ _, fun s => by simp [has_eq, inB]⟩
theorem KeyD.add {D : DataW Unit} {ns : List ByteArray} (h : KeyD D ns) (hD : IsMap D) (s : ByteArray) (v : DataW Unit) : KeyD (D.put (key s) v) (ns ++ [s]) := fun t => by
  by_cases e : t = s
  · subst e
    rw [has_put_same hD (key_is _)]; simp [inB]
  · have hne : key t ≠ key s := fun e' => e (key_inj e')
    rw [has_put_other hne, h t]
    simp [inB, Ne.symm e]
theorem KeyAt.below {w w' : World} {b : Nat} {ns : List ByteArray} (h : KeyAt w b ns) (hb : Below w.heap.size w w') : KeyAt w' b ns := by
  obtain ⟨D, h1, h2⟩ := h
  obtain ⟨es, clock, e1, e2⟩ := h1
  exact ⟨D, ⟨es, clock, (hb.block b (Array.getElem?_eq_some_iff.1 e1).1).trans e1, e2⟩, h2⟩
theorem KeyAt.kept {w w' : World} {row : Option Nat} {b : Nat} {ns : List ByteArray} (h : KeyAt w b ns) (hg : w.grownBy w' row) (hne : some b ≠ row) : KeyAt w' b ns := by
  obtain ⟨D, h1, h2⟩ := h
  exact ⟨D, h1.kept hg hne, h2⟩
theorem KeyAt.lt {w : World} {b : Nat} {ns : List ByteArray} (h : KeyAt w b ns) : b < w.heap.size := by
  obtain ⟨D, h1, _⟩ := h
  exact h1.lt
/-- '_, ok := m[s]' -/
theorem key_look {ops : Array Oper} {rest : List Oper} {o : Oper} {a : Act} {Q : Exit → Act → World → Prop} (w : World) (hg : o.guard = none) (m x : Operand) (hop : o.op = Op.lookup 139 m x true) (b : Nat) (ns : List ByteArray)
    (hm : a.eval m = .map (some b)) (hown : KeyAt w b ns) (s : ByteArray) (hx : a.eval x = .string s) (hs : s.size ≤ maxLen)
    (h : ∀ c : Int, wpList Tryz.prog ops Q rest (a.put o.dst (.tuple #[.int .i64 c, .bool (inB s ns)])) w) :
    wpList Tryz.prog ops Q (o :: rest) a w := by
  obtain ⟨D, h1, h2⟩ := hown
  refine wpList_lookup_own_ok_int w hg m x 139 hop 9 3 .i64 law9 Tryz.underlying139 Tryz.underlying3 (zero3 w) b ns.length D hm h1 (.string s) (key s) hx (keyOf_string_mk Tryz.underlying9 hs) fun c hat _ => ?_
  have := h c
  rw [← h2 s] at this
  exact this
/-- 'm[s] = u' -/
theorem key_put {ops : Array Oper} {rest : List Oper} {o : Oper} {a : Act} {Q : Exit → Act → World → Prop} (w : World) (hg : o.guard = none) (m x v : Operand) (hop : o.op = Op.mapUpdate 139 m x v) (b : Nat) (ns : List ByteArray)
    (hm : a.eval m = .map (some b)) (hown : KeyAt w b ns) (s : ByteArray) (u : Nat) (hx : a.eval x = .string s) (hv : a.eval v = .int .i64 u) (hs : s.size ≤ maxLen) (hl : ns.length ≤ 1048576) (hu : u ≤ 1048576)
    (h : ∀ w', KeyAt w' b (ns ++ [s]) → w.grownBy w' (some b) → wpList Tryz.prog ops Q rest (a.put o.dst undef) w') :
    wpList Tryz.prog ops Q (o :: rest) a w := by
  obtain ⟨D, h1, h2⟩ := hown
  refine wpList_mapUpdate_own w hg m x v 139 hop 9 3 law9 Tryz.underlying139 _ b ns.length D hm h1 (by unfold maxLen; omega) _ _ (key s) hx hv (keyOf_string_mk Tryz.underlying9 hs) (.lit (.int .i64 u)) [] (plainElem_int Tryz.underlying3 (WalkArith.wf_i64 (by omega))) fun w' h3 h4 => h w' ⟨_, ?_, h2.add h1.isMap s (.lit (.int .i64 u))⟩ h4
  rw [List.length_append]
  exact h3

end Go.Proofs.YtgblohjdiheemaaGreat

/- symbols.addGlobals. -/
namespace Go.Proofs.YtgblohjdiheemaaGreat
open Go.RowKit Go.Maps Go.WideMaps

end Go.Proofs.YtgblohjdiheemaaGreat

/- Rows of unlike types lie apart. -/
namespace Go.Proofs.YtgblohjdiheemaaGreat
open Go.RowKit

theorem own_block {w : World} {B : Nat} {T : TypeId} {z : Nat} {v : Value} {n : Nat} {xs : List Value} (h : w.ownsRow B T z v n xs) : v = .slice none 0 0 ∨ ∃ g cur, v.ownBlock = some g ∧ B ≤ g ∧ w.heap[g]? = some (.cells cur T (0, 0)) := by
  rcases h.2 with ⟨e1, _⟩ | ⟨g, cap, cur, e1, e2, e3, _⟩
  · exact .inl e1
  · exact .inr ⟨g, cur, by rw [e1]; rfl, e2, e3⟩
theorem rows_apart {w : World} {B B' : Nat} {T T' : TypeId} {z z' : Nat} {v v' : Value} {n n' : Nat} {xs xs' : List Value} (h : w.ownsRow B T z v n xs) (h' : w.ownsRow B' T' z' v' n' xs') (hne : T ≠ T') : v = .slice none 0 0 ∨ v.ownBlock ≠ v'.ownBlock := by
  rcases own_block h with e | ⟨g, cur, e1, -, e2⟩
  · exact .inl e
  · refine .inr fun e => ?_
    rcases own_block h' with e' | ⟨g', cur', e3, -, e4⟩
    · rw [e', e1] at e; cases e
    · rw [e1, e3] at e
      injection e with e
      rw [e, e4] at e2
      injection e2 with e2
      injection e2 with _ e2
      exact hne e2.symm
theorem row_not_blk {w : World} {B : Nat} {T T' : TypeId} {z : Nat} {v : Value} {n g : Nat} {xs : List Value} {c : Array Value} (h : w.ownsRow B T z v n xs) (hb : Blk w g T' c) (hne : T ≠ T') : v = .slice none 0 0 ∨ v.ownBlock ≠ some g := by
  rcases own_block h with e | ⟨g', cur, e1, -, e2⟩
  · exact .inl e
  · refine .inr fun e => ?_
    rw [e1] at e
    injection e with e
    rw [e, show w.heap[g]? = _ from hb] at e2
    injection e2 with e2
    injection e2 with _ e2
    exact hne e2.symm
theorem blk_not_row {w : World} {B : Nat} {T T' : TypeId} {z : Nat} {v : Value} {n g : Nat} {xs : List Value} {c : Array Value} (h : w.ownsRow B T z v n xs) (hb : Blk w g T' c) (hne : T ≠ T') : some g ≠ v.ownBlock := by
  rcases row_not_blk h hb hne with e | e
  · rw [e]; intro e; cases e
  · exact fun e' => e e'.symm
theorem kept_row {w w' : World} {B : Nat} {T : TypeId} {z : Nat} {v : Value} {n : Nat} {xs : List Value} {row : Option Nat} (h : w.ownsRow B T z v n xs) (hg : w.grownBy w' row) (hr : v = .slice none 0 0 ∨ v.ownBlock ≠ row) : w'.ownsRow B T z v n xs :=
  World.ownsRow.kept h hg (hr.imp (fun e => by rw [e]; rfl) id)
/-- an object's lists stay where a list of another type grows -/
theorem KeyAt.at {w w' : World} {b B : Nat} {ns : List ByteArray} (h : KeyAt w b ns) (hb : Below B w w') (hl : b < B) : KeyAt w' b ns := by
  obtain ⟨D, h1, h2⟩ := h
  obtain ⟨es, clock, e1, e2⟩ := h1
  exact ⟨D, ⟨es, clock, (hb.block b hl).trans e1, e2⟩, h2⟩
theorem GOwnV.belowG {T : TypeId} {w w' : World} {B : Nat} {v : Value} {vs : List Value} (h : GOwnV T w B v vs) (hb : Below w.heap.size w w') : GOwnV T w' B v vs := by
  obtain ⟨h0, h1⟩ := h
  refine ⟨h0, h1.imp id ?_⟩
  rintro ⟨g, cap, cur, e1, e2, e3, e4⟩
  exact ⟨g, cap, cur, e1, e2, (hb.block g (Array.getElem?_eq_some_iff.1 e3).1).trans e3, e4⟩

end Go.Proofs.YtgblohjdiheemaaGreat

/- strings.Clone. -/
namespace Go.Proofs.YtgblohjdiheemaaGreat
open Go.RowKit

end Go.Proofs.YtgblohjdiheemaaGreat

/- symbols.appendMoved. -/
namespace Go.Proofs.YtgblohjdiheemaaGreat
open Go.RowKit

theorem mov_take (A L : List Sy) (s k : Nat) (h : k < L.length) : (A ++ (L.take (k + 1)).map (movS s)).map syV = (A ++ (L.take k).map (movS s)).map syV ++ [(.string L[k].name, .int .i64 ((s : Int) + L[k].at_), .bool L[k].g)] := by
  rw [List.take_succ_eq_append_getElem h, List.map_append, List.map_append, List.map_append, List.map_append, List.append_assoc]
  rfl

end Go.Proofs.YtgblohjdiheemaaGreat
