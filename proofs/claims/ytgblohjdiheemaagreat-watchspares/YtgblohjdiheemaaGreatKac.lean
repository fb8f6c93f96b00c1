/- Texts put together: W3, NamL, Hidd, MapK, Lines, RefName, RightL, VisK, Bas. -/
import Derived.Test.YtgblohjdiheemaaGreatKab
import Derived.Deep.AppendLies
import Derived.Maps.Own
import Derived.Maps.OwnOps
import Derived.Maps.OwnSet
import Derived.Maps.Views
import Derived.Test.YtgblohjdiheemaaGreatKaa
import Derived.Deep.Light
import Derived.DeepKeys4

/- Rows of elements of three cells (symbols, fixes, marks); what an object is made of, as lists. -/
namespace Go.Proofs.YtgblohjdiheemaaGreat
open Go.RowKit

abbrev V3 : Type := Value × Value × Value
def l3 (q : V3) : List Value := [q.1, q.2.1, q.2.2]
/-- the cells of a list of such elements -/
def c3 (L : List V3) : List Value := L.flatMap l3
theorem c3_len (L : List V3) : (c3 L).length = L.length * 3 := by
  induction L with
  | nil => rfl
  | cons q L ih =>
    unfold c3 at *
    rw [List.flatMap_cons, List.length_append, ih, List.length_cons]
    have : (l3 q).length = 3 := rfl
    omega
theorem c3_two (L M : List V3) : c3 (L ++ M) = c3 L ++ c3 M := by simp [c3]
theorem c3_at : ∀ (L : List V3) (i : Nat) (h : i < L.length) (j : Nat), j < 3 → (c3 L)[i * 3 + j]? = (l3 L[i])[j]?
  | [], i, h, _, _ => absurd h (by simp)
  | q :: L, 0, _, j, hj => by
    unfold c3
    rw [List.flatMap_cons, Nat.zero_mul, Nat.zero_add, List.getElem?_append_left (by show j < 3; exact hj)]
    rfl
  | q :: L, i + 1, h, j, hj => by
    have h' : i < L.length := by simpa using h
    have ih := c3_at L i h' j hj
    unfold c3 at *
    have h3 : (l3 q).length = 3 := rfl
    rw [List.flatMap_cons, List.getElem?_append_right (by rw [h3]; omega), h3, show (i + 1) * 3 + j - 3 = i * 3 + j by omega, ih]
    rfl
/-- a list that the call has made, nil or not -/
def TOwn (T : TypeId) (w : World) (B : Nat) (v : Value) (L : List V3) : Prop := w.ownsRow B T 3 v L.length (c3 L)
theorem TOwn.nil (T : TypeId) (w : World) (B : Nat) : TOwn T w B (.slice none 0 0) [] := World.ownsRow_nil _ _ _ _
theorem TOwn.below {T : TypeId} {w w' : World} {B : Nat} {v : Value} {L : List V3} (h : TOwn T w B v L) (hb : Below w.heap.size w w') : TOwn T w' B v L := by
  obtain ⟨h0, h1⟩ := h
  refine ⟨h0, h1.imp id ?_⟩
  rintro ⟨g, cap, cur, e1, e2, e3, e4⟩
  exact ⟨g, cap, cur, e1, e2, (hb.block g (Array.getElem?_eq_some_iff.1 e3).1).trans e3, e4⟩
theorem TOwn.alloc {T : TypeId} {w : World} {B : Nat} {v : Value} {L : List V3} (h : TOwn T w B v L) (o : Obj) : TOwn T (w.alloc o) B v L := h.below (new_alloc w o)
theorem TOwn.drewN {T : TypeId} {w : World} {B : Nat} {v : Value} {L : List V3} (h : TOwn T w B v L) (n : Nat) : TOwn T (w.drewN n) B v L := h
theorem TOwn.shape {T : TypeId} {w : World} {B : Nat} {v : Value} {L : List V3} (h : TOwn T w B v L) : ∃ p cap, v = .slice p L.length cap ∧ L.length ≤ cap ∧ cap ≤ maxLen ∧ (0 < L.length → ∃ g, p = some ⟨g, 0, none⟩ ∧ B ≤ g ∧ g < w.heap.size ∧ ∀ i (hi : i < L.length) j, j < 3 → w.cell? ⟨g, i * 3 + j, none⟩ = (l3 L[i])[j]?) := by
  rcases h.2 with ⟨e1, e2⟩ | ⟨g, cap, cur, e1, e2, e3, e4, e5, _⟩
  · exact ⟨none, 0, by rw [e1, e2], by omega, Nat.zero_le _, fun h0 => by omega⟩
  · refine ⟨_, cap, e1, e4, e5, fun _ => ⟨g, rfl, e2, (Array.getElem?_eq_some_iff.1 e3).1, fun i hi j hj => ?_⟩⟩
    have hr : w.ownsRow B T 3 v L.length (c3 L) := h
    rw [e1] at hr
    rw [hr.cellAt (i * 3 + j) (by omega), c3_at L i hi j hj]
def Elem3 (t T : TypeId) (by_ : Nat) : Prop := Tryz.prog.underlying t = some (.slice T) ∧ ∃ z, z.cells.size = 3 ∧ (Tryz.prog.info? T).map (fun i => (i.zero, i.size, i.bytes)) = some (some z, 3, by_)
theorem Tryz.elemSym : Elem3 114 116 32 := ⟨Tryz.underlying114, .agg #[.string ⟨#[]⟩, .int .i64 0, .bool false], rfl, by kernel_rfl⟩
theorem Tryz.elemFix : Elem3 118 142 32 := ⟨Tryz.underlying118, .agg #[.int .u8 0, .int .i64 0, .string ⟨#[]⟩], rfl, by kernel_rfl⟩
theorem Tryz.elemMark : Elem3 119 145 40 := ⟨Tryz.underlying119, .agg #[.int .i64 0, .string ⟨#[]⟩, .string ⟨#[]⟩], rfl, by kernel_rfl⟩
def one3 (q : V3) : Prop := q.1.oneCell' = true ∧ q.2.1.oneCell' = true ∧ q.2.2.oneCell' = true
theorem one3_mem {q : V3} (h : one3 q) : ∀ u ∈ l3 q, u.oneCell' = true := by
  intro u hu
  simp only [l3, List.mem_cons, List.not_mem_nil, or_false] at hu
  rcases hu with rfl | rfl | rfl
  · exact h.1
  · exact h.2.1
  · exact h.2.2
theorem news3 (w : World) (q : V3) (T : TypeId) : ∀ j u, (l3 q)[j]? = some u → (w.alloc (.cells #[q.1, q.2.1, q.2.2] T)).cell? ((⟨w.heap.size, 0, none⟩ : Addr).add j) = some u := by
  intro j u hj
  rw [Go.WideShapes.add_plain]
  match j, hj with
  | 0, hj => simpa [l3] using hj
  | 1, hj => simpa [l3] using hj
  | 2, hj => simpa [l3] using hj
  | j + 3, hj => simp [l3] at hj

/-- 'append(l, x)' -/
theorem tpush {ops : Array Oper} {rest : List Oper} {o : Oper} {a : Act} {Q : Exit → Act → World → Prop} {t T : TypeId} {by_ : Nat} (he : Elem3 t T by_) (w : World) (hgd : o.guard = none) (s x : Operand)
    (ho : o.op = .call { callee := .builtin .append, args := #[s, x], argTypes := #[t, t] }) (B : Nat) (v : Value) (L : List V3) (hs : a.eval s = v) (hown : TOwn T w B v L)
    (ad : Addr) (c : Nat) (q : V3) (hq : one3 q) (hx : a.eval x = .slice (some ad) 1 c) (hnews : ∀ j u, (l3 q)[j]? = some u → w.cell? (ad.add j) = some u)
    (hlen : L.length ≤ 1048576) (hby : by_ ≤ 100) (hB : B ≤ w.heap.size)
    (h : ∀ v' w', TOwn T w' B v' (L ++ [q]) → w.grownBy w' v.ownBlock → (∀ w0, Below B w0 w → Below B w0 w') → wpList Tryz.prog ops Q rest (a.put o.dst v') w') :
    wpList Tryz.prog ops Q (o :: rest) a w := by
  obtain ⟨hu, z, hzc, hinfo⟩ := he
  obtain ⟨i0, hi, hz0, hz1, hz2⟩ := info_parts hinfo
  refine wpList_append_own w hgd s x t ho B T i0 z 3 by_ hu hi hz0 hz1 hz2 hzc (by decide) v L.length (c3 L) hs hown ad 1 c (l3 q) hx rfl hnews (one3_mem hq) (by unfold maxLen; omega) (Nat.le_trans (Nat.mul_le_mul (show L.length + 1 ≤ 1048577 by omega) hby) (by decide)) hB ?_
  intro v' w' h2 h3 _
  refine h v' w' ?_ h3 (fun w0 hb => hb.grown h3 hB fun k hk => (World.ownsRow.lt hown k hk).1)
  unfold TOwn
  rw [List.length_append, c3_two]
  have e : c3 [q] = l3 q := by simp [c3]
  rw [e]
  exact h2
/-- .. in a region that draws -/
theorem step_tpush {ops : Array Oper} {o : Oper} {a : Act} {K : Act → World → Prop} {Q : Exit → Act → World → Prop} {E : Prop} {t T : TypeId} {by_ : Nat} (he : Elem3 t T by_) (w : World) (hgd : o.guard = none) (s x : Operand)
    (ho : o.op = .call { callee := .builtin .append, args := #[s, x], argTypes := #[t, t] }) (B : Nat) (v : Value) (L : List V3) (hs : a.eval s = v) (hown : TOwn T w B v L)
    (ad : Addr) (c : Nat) (q : V3) (hq : one3 q) (hx : a.eval x = .slice (some ad) 1 c) (hnews : ∀ j u, (l3 q)[j]? = some u → w.cell? (ad.add j) = some u)
    (hlen : L.length ≤ 1048576) (hby : by_ ≤ 100) (hB : B ≤ w.heap.size)
    (h : ∀ g cap w', TOwn T w' B (.slice (some ⟨g, 0, none⟩) (L.length + 1) cap) (L ++ [q]) → w.grownBy w' v.ownBlock → (∀ w0, Below B w0 w → Below B w0 w') → K (a.put o.dst (.slice (some ⟨g, 0, none⟩) (L.length + 1) cap)) w') :
    if Region.wanted o (yielded ops a.tmps) = true then Oper.wp Tryz.prog o a w K Q else E := by
  obtain ⟨hu, z, hzc, hinfo⟩ := he
  obtain ⟨i0, hi, hz0, hz1, hz2⟩ := info_parts hinfo
  refine step_append_lies w hgd s x t ho B T i0 z 3 by_ hu hi hz0 hz1 hz2 hzc (by decide) v L.length (c3 L) hs hown ad 1 c (l3 q) hx rfl hnews (one3_mem hq) (by decide) (by unfold maxLen; omega) (Nat.le_trans (Nat.mul_le_mul (show L.length + 1 ≤ 1048577 by omega) hby) (by decide)) hB w.heap.size rfl ?_
  intro g cap w' h2 h3 _ _
  refine h g cap w' ?_ h3 (fun w0 hb => hb.grown h3 hB fun k hk => (World.ownsRow.lt hown k hk).1)
  unfold TOwn
  rw [List.length_append, c3_two]
  have e : c3 [q] = l3 q := by simp [c3]
  rw [e]
  exact h2

end Go.Proofs.YtgblohjdiheemaaGreat

/- A map from names to numbers that a call makes. -/
namespace Go.Proofs.YtgblohjdiheemaaGreat
open Go.RowKit Go.Maps Go.WideMaps

def key (s : ByteArray) : Lit := .string s.data.toList
theorem key_inj {s t : ByteArray} (h : key s = key t) : s = t := by
  unfold key at h
  injection h with h
  exact ByteArray.ext (Array.toList_inj.1 h)
theorem key_is (s : ByteArray) : WideAt.IsKeyLit (key s) := by simp [key, WideAt.IsKeyLit]
theorem law9 : Keyed Tryz.prog 9 := string_keyed Tryz.underlying9
theorem zero3 (w : World) : (zeroValue 3).run Tryz.prog w = .ok (.int .i64 0) w := by kernel_rfl
/-- whether a name is among others -/
def inB (s : ByteArray) (ns : List ByteArray) : Bool := ns.any fun t => decide (t = s)
theorem inB_iff (s : ByteArray) (ns : List ByteArray) : inB s ns = true ↔ s ∈ ns := by
  unfold inB
  rw [List.any_eq_true]
  constructor
  · rintro ⟨t, ht, e⟩
    rw [← of_decide_eq_true e]; exact ht
  · exact fun h => ⟨s, h, by simp⟩
/-- names and their numbers, as read -/
def NamD (D : DataW Unit) (ns : List ByteArray) : Prop := ∀ s, has D (key s) = inB s ns ∧ ∀ i (h : i < ns.length), ns[i] = s → D.atKey (key s) (.lit (.int .i64 0)) = .lit (.int .i64 i)
/-- a map's block holds them -/
def NamAt (w : World) (b : Nat) (ns : List ByteArray) : Prop := ∃ D : DataW Unit, w.ownsMap Tryz.prog 9 (plainElem Tryz.prog 3) b ns.length D ∧ NamD D ns
theorem NamD.nil : NamD (.map []) [] := fun s => ⟨by simp [has_eq, inB], fun i h => absurd h (by simp)⟩
theorem NamAt.made (w : World) : NamAt (w.alloc (.map #[] 0)) w.heap.size [] := ⟨_, World.ownsMap_made _ _ _ _, NamD.nil⟩
theorem NamD.add {D : DataW Unit} {ns : List ByteArray} (h : NamD D ns) (hD : IsMap D) {s : ByteArray} (hs : s ∉ ns) : NamD (D.put (key s) (.lit (.int .i64 ns.length))) (ns ++ [s]) := fun t => by
  by_cases e : t = s
  · subst e
    refine ⟨?_, fun i hi hn => ?_⟩
    · rw [has_put_same hD (key_is _)]; simp [inB]
    · rw [atKey_put_same hD (key_is _)]
      have : i = ns.length := by
        by_cases hl : i < ns.length
        · rw [List.getElem_append_left hl] at hn
          exact absurd (hn ▸ List.getElem_mem hl) hs
        · simp at hi; omega
      rw [this]
  · have hne : key t ≠ key s := fun e' => e (key_inj e')
    refine ⟨?_, fun i hi hn => ?_⟩
    · rw [has_put_other hne, (h t).1]
      simp [inB, Ne.symm e]
    · rw [atKey_put_other hne]
      have hl : i < ns.length := by
        by_cases hl : i < ns.length
        · exact hl
        · rw [List.getElem_append_right (by omega)] at hn
          simp at hn
          exact absurd hn.symm e
      rw [List.getElem_append_left hl] at hn
      exact (h t).2 i hl hn
theorem NamAt.below {w w' : World} {b : Nat} {ns : List ByteArray} (h : NamAt w b ns) (hb : Below w.heap.size w w') : NamAt w' b ns := by
  obtain ⟨D, h1, h2⟩ := h
  obtain ⟨es, clock, e1, e2⟩ := h1
  exact ⟨D, ⟨es, clock, (hb.block b (Array.getElem?_eq_some_iff.1 e1).1).trans e1, e2⟩, h2⟩
theorem NamAt.kept {w w' : World} {row : Option Nat} {b : Nat} {ns : List ByteArray} (h : NamAt w b ns) (hg : w.grownBy w' row) (hne : some b ≠ row) : NamAt w' b ns := by
  obtain ⟨D, h1, h2⟩ := h
  exact ⟨D, h1.kept hg hne, h2⟩
theorem NamAt.lt {w : World} {b : Nat} {ns : List ByteArray} (h : NamAt w b ns) : b < w.heap.size := by
  obtain ⟨D, h1, _⟩ := h
  exact h1.lt
/-- 'n, ok := m[s]' -/
theorem nam_look {ops : Array Oper} {rest : List Oper} {o : Oper} {a : Act} {Q : Exit → Act → World → Prop} (w : World) (hg : o.guard = none) (m x : Operand) (hop : o.op = Op.lookup 139 m x true) (b : Nat) (ns : List ByteArray)
    (hm : a.eval m = .map (some b)) (hown : NamAt w b ns) (s : ByteArray) (hx : a.eval x = .string s) (hs : s.size ≤ maxLen)
    (h : ∀ c : Int, (∀ i (hi : i < ns.length), ns[i] = s → c = i) → wpList Tryz.prog ops Q rest (a.put o.dst (.tuple #[.int .i64 c, .bool (inB s ns)])) w) :
    wpList Tryz.prog ops Q (o :: rest) a w := by
  obtain ⟨D, h1, h2⟩ := hown
  refine wpList_lookup_own_ok_int w hg m x 139 hop 9 3 .i64 law9 Tryz.underlying139 Tryz.underlying3 (zero3 w) b ns.length D hm h1 (.string s) (key s) hx (keyOf_string_mk Tryz.underlying9 hs) fun c hat _ => ?_
  have := h c fun i hi hn => by
    have e := (h2 s).2 i hi hn
    rw [hat] at e
    injection e with e
    injection e
  rw [← (h2 s).1] at this
  exact this
/-- 'm[s] = len' -/
theorem nam_put {ops : Array Oper} {rest : List Oper} {o : Oper} {a : Act} {Q : Exit → Act → World → Prop} (w : World) (hg : o.guard = none) (m x v : Operand) (hop : o.op = Op.mapUpdate 139 m x v) (b : Nat) (ns : List ByteArray)
    (hm : a.eval m = .map (some b)) (hown : NamAt w b ns) (s : ByteArray) (hx : a.eval x = .string s) (hv : a.eval v = .int .i64 ns.length) (hs : s.size ≤ maxLen) (hn : s ∉ ns) (hl : ns.length ≤ 1048576)
    (h : ∀ w', NamAt w' b (ns ++ [s]) → w.grownBy w' (some b) → wpList Tryz.prog ops Q rest (a.put o.dst undef) w') :
    wpList Tryz.prog ops Q (o :: rest) a w := by
  obtain ⟨D, h1, h2⟩ := hown
  refine wpList_mapUpdate_own w hg m x v 139 hop 9 3 law9 Tryz.underlying139 _ b ns.length D hm h1 (by unfold maxLen; omega) _ _ (key s) hx hv (keyOf_string_mk Tryz.underlying9 hs) (.lit (.int .i64 ns.length)) [] (plainElem_int Tryz.underlying3 (WalkArith.wf_i64 (by omega))) fun w' h3 h4 => h w' ⟨_, ?_, h2.add h1.isMap hn⟩ h4
  rw [List.length_append]
  exact h3

end Go.Proofs.YtgblohjdiheemaaGreat

/- Small words. -/
namespace Go.Proofs.YtgblohjdiheemaaGreat
open Go.RowKit
theorem size_one (w : World) (o : Obj) : (w.alloc o).heap.size = w.heap.size + 1 := by simp
theorem Hid.in {p : Prop} (h : p) : Hid p := h
end Go.Proofs.YtgblohjdiheemaaGreat

/- Ours: a finite map in memory, for any kind of keys and values. -/
namespace Go.Proofs.YtgblohjdiheemaaGreat
open Go.RowKit Go.Maps Go.WideMaps

/-- how keys and values of a map are told -/
structure Km (κ β : Type) where
  t : TypeId
  kt : TypeId
  e : TypeId
  law : Keyed Tryz.prog kt
  und : Tryz.prog.underlying t = some (.map kt e)
  kv : κ → Value
  kl : κ → Lit
  kok : κ → Prop
  key : ∀ {x}, kok x → keyOf Tryz.prog kt (kv x) = some (kl x)
  inj : ∀ {x y}, kok x → kok y → kl x = kl y → x = y
  R : Value → Option (DataW Unit × List MemPlace)
  val : β → Value
  dat : β → DataW Unit
  rmk : ∀ v, R (val v) = some (dat v, [])
  inv : ∀ {v z}, R v = some z → ∃ x, v = val x ∧ z = (dat x, [])
  dinj : ∀ {x y}, dat x = dat y → x = y
  zero : β
  hz : ∀ w, (zeroValue e).run Tryz.prog w = .ok (val zero) w
theorem small_maxLen : 16777216 < maxLen := by unfold maxLen; exact of_decide_eq_true rfl
section
variable {κ β : Type} {M : Km κ β}
/-- a function with one value turned -/
noncomputable def upd (f : κ → Option β) (x : κ) (v : β) : κ → Option β := fun y => open Classical in if y = x then some v else f y
theorem upd_same (f : κ → Option β) (x : κ) (v : β) : upd f x v x = some v := by simp [upd]
theorem upd_other (f : κ → Option β) {x y : κ} (v : β) (h : y ≠ x) : upd f x v y = f y := by simp [upd, h]
def MapD (M : Km κ β) (D : DataW Unit) (f : κ → Option β) : Prop := ∀ x, M.kok x → has D (M.kl x) = (f x).isSome ∧ ∀ v, f x = some v → D.atKey (M.kl x) (M.dat M.zero) = M.dat v
/-- a map's block holds what f says -/
def MapK (M : Km κ β) (w : World) (b n : Nat) (f : κ → Option β) : Prop := ∃ D : DataW Unit, w.ownsMap Tryz.prog M.kt M.R b n D ∧ MapD M D f
theorem MapK.made (M : Km κ β) (w : World) : MapK M (w.alloc (.map #[] 0)) w.heap.size 0 (fun _ => none) := ⟨_, World.ownsMap_made _ _ _ _, fun s _ => ⟨by simp [has_eq], fun c h => by cases h⟩⟩
theorem MapK.below {w w' : World} {b n : Nat} {f : κ → Option β} (h : MapK M w b n f) (hb : Below w.heap.size w w') : MapK M w' b n f := by
  obtain ⟨D, h1, h2⟩ := h
  obtain ⟨es, clock, e1, e2⟩ := h1
  exact ⟨D, ⟨es, clock, (hb.block b (Array.getElem?_eq_some_iff.1 e1).1).trans e1, e2⟩, h2⟩
theorem MapK.keeps {G : Nat → Prop} {w w' : World} {b n : Nat} {f : κ → Option β} (h : MapK M w b n f) (hk : Keeps G w w') (hb : ¬ G b) : MapK M w' b n f := by
  obtain ⟨D, h1, h2⟩ := h
  have hl := h1.lt
  obtain ⟨es, clock, e1, e2⟩ := h1
  exact ⟨D, ⟨es, clock, (hk.block b hl hb).trans e1, e2⟩, h2⟩
theorem MapK.kept {w w' : World} {row : Option Nat} {b n : Nat} {f : κ → Option β} (h : MapK M w b n f) (hg : w.grownBy w' row) (hne : some b ≠ row) : MapK M w' b n f := by
  obtain ⟨D, h1, h2⟩ := h
  exact ⟨D, h1.kept hg hne, h2⟩
theorem MapK.lt {w : World} {b n : Nat} {f : κ → Option β} (h : MapK M w b n f) : b < w.heap.size := by
  obtain ⟨D, h1, _⟩ := h
  exact h1.lt
theorem MapK.isMap {w : World} {b n : Nat} {f : κ → Option β} (h : MapK M w b n f) : ∃ es c, w.heap[b]? = some (.map es c) := by
  obtain ⟨D, h1, _⟩ := h
  obtain ⟨es, c, e, _⟩ := h1
  exact ⟨es, c, e⟩
theorem MapK.drewN {w : World} {b n : Nat} {f : κ → Option β} (h : MapK M w b n f) (m : Nat) : MapK M (w.drewN m) b n f := h
theorem MapK.congr {w : World} {b n : Nat} {f g : κ → Option β} (h : MapK M w b n f) (e : ∀ x, M.kok x → f x = g x) : MapK M w b n g := by
  obtain ⟨D, h1, h2⟩ := h
  exact ⟨D, h1, fun x hx => by rw [← e x hx]; exact h2 x hx⟩
/-- 'm[k]', 'v, ok := m[k]' -/
theorem MapK.look {w : World} {b n : Nat} {f : κ → Option β} (h : MapK M w b n f) (x : κ) (hx : M.kok x) :
    ∀ W : World, W.heap[b]? = w.heap[b]? → (Instr.lookup M.t (.map (some b)) (M.kv x) true).run Tryz.prog W = .ok (.tuple #[M.val ((f x).getD M.zero), .bool (f x).isSome]) W ∧ (Instr.lookup M.t (.map (some b)) (M.kv x) false).run Tryz.prog W = .ok (M.val ((f x).getD M.zero)) W := by
  intro W hW
  obtain ⟨D, h1, h2⟩ := h
  obtain ⟨es, clock, e1, e2⟩ := h1
  have h1' : W.ownsMap Tryz.prog M.kt M.R b n D := ⟨es, clock, hW.trans e1, e2⟩
  have hv : ∀ v ps, M.R v = some (D.atKey (M.kl x) (M.dat M.zero), ps) → v = M.val ((f x).getD M.zero) := fun v ps hv => by
    obtain ⟨y, rfl, hy⟩ := M.inv hv
    injection hy with hy _
    cases hf : f x with
    | none =>
      have := (h2 x hx).1
      rw [hf] at this
      rw [atKey_of_not_has this] at hy
      rw [Option.getD_none, M.dinj hy]
    | some u =>
      rw [(h2 x hx).2 u hf] at hy
      rw [Option.getD_some, M.dinj hy]
  obtain ⟨v, ps, hrun, hR⟩ := h1'.look_ok M.law M.und (M.hz W) (M.rmk M.zero) (M.key hx)
  obtain ⟨v', ps', hrun', hR'⟩ := h1'.lookup M.law M.und (M.hz W) (M.rmk M.zero) (M.key hx)
  rw [(h2 x hx).1, hv v ps hR] at hrun
  rw [hv v' ps' hR'] at hrun'
  exact ⟨hrun, hrun'⟩
/-- 'm[k] = v' -/
theorem MapK.put {w : World} {b n : Nat} {f : κ → Option β} (h : MapK M w b n f) (x : κ) (hx : M.kok x) (v : β) (hn : n ≤ 16777216) :
    ∃ w', (Instr.mapUpdate M.t (.map (some b)) (M.kv x) (M.val v)).run Tryz.prog w = .ok () w' ∧ MapK M w' b (n + 1) (upd f x v) ∧ w.grownBy w' (some b) := by
  obtain ⟨D, h1, h2⟩ := h
  obtain ⟨w', hr, ho, hg⟩ := h1.update M.law M.und (by unfold maxLen; omega) (M.key hx) (M.rmk v)
  refine ⟨w', hr, ⟨_, ho, fun z hz => ?_⟩, hg⟩
  have hk : WideAt.IsKeyLit (M.kl x) := M.law.key (M.key hx)
  by_cases e : z = x
  · subst e
    rw [upd_same, has_put_same h1.isMap hk, atKey_put_same h1.isMap hk]
    refine ⟨rfl, fun u hu => ?_⟩
    have e2 : v = u := Option.some.inj hu
    exact congrArg M.dat e2
  · have hne : M.kl z ≠ M.kl x := fun e' => e (M.inj hz hx e')
    rw [upd_other _ _ e, has_put_other hne, atKey_put_other hne]
    exact h2 z hz
end
end Go.Proofs.YtgblohjdiheemaaGreat

/- Plain facts on texts cut into lines; what switchyardref03.Lines answers. -/
namespace Go.Proofs.YtgblohjdiheemaaGreat
open Go.RowKit

/-- a text's lines: cut behind each byte 10, these left out; what stands behind the last one is a line, too, unless it is empty -/
def linesL : List UInt8 → List (List UInt8)
  | [] => []
  | c :: cs => if c = 10 then [] :: linesL cs else match linesL cs with
    | [] => [[c]]
    | l :: ls => (c :: l) :: ls

def bytesOf (l : List UInt8) : ByteArray := ⟨l.toArray⟩
def texts (ls : List (List UInt8)) : List ByteArray := ls.map bytesOf

theorem linesL_cut (cur rest : List UInt8) (h : ∀ c ∈ cur, c ≠ 10) : linesL (cur ++ 10 :: rest) = cur :: linesL rest := by
  induction cur with
  | nil => simp [linesL]
  | cons c cur ih =>
    have hc : c ≠ 10 := h c (by simp)
    rw [List.cons_append, linesL, if_neg hc, ih fun d hd => h d (by simp [hd])]
theorem linesL_last (cur : List UInt8) (h : ∀ c ∈ cur, c ≠ 10) (hne : cur ≠ []) : linesL cur = [cur] := by
  induction cur with
  | nil => exact absurd rfl hne
  | cons c cur ih =>
    have hc : c ≠ 10 := h c (by simp)
    rw [linesL, if_neg hc]
    cases cur with
    | nil => simp [linesL]
    | cons d ds => rw [ih (fun e he => h e (by simp [he])) (by simp)]
theorem linesL_length (l : List UInt8) : (linesL l).length ≤ l.length := by
  induction l with
  | nil => simp [linesL]
  | cons c cs ih =>
    rw [linesL]
    split
    · simp; omega
    · split
      · simp
      · rename_i e; rw [e] at ih; simp at ih ⊢; omega

theorem drop_at (l : List UInt8) (i : Nat) (h : i < l.length) : l.drop i = l[i] :: l.drop (i + 1) := List.drop_eq_getElem_cons h
/-- the piece from f up to i -/
def piece (l : List UInt8) (f i : Nat) : List UInt8 := (l.drop f).take (i - f)
theorem piece_split (l : List UInt8) (f i : Nat) (hf : f ≤ i) : l.drop f = piece l f i ++ l.drop i := by
  unfold piece
  have : l.drop i = (l.drop f).drop (i - f) := by rw [List.drop_drop]; congr 1; omega
  rw [this, List.take_append_drop]
theorem piece_snoc (l : List UInt8) (f i : Nat) (hf : f ≤ i) (hi : i < l.length) : piece l f (i + 1) = piece l f i ++ [l[i]] := by
  unfold piece
  rw [show i + 1 - f = (i - f) + 1 by omega, List.take_succ_eq_append_getElem (by simp; omega)]
  congr 2
  simp only [List.getElem_drop]
  congr 1; omega
theorem piece_self (l : List UInt8) (i : Nat) : piece l i i = [] := by simp [piece]

end Go.Proofs.YtgblohjdiheemaaGreat

/- What switchyardref03.blank and Name answer, for every byte, every text. -/
namespace Go.Proofs.YtgblohjdiheemaaGreat
open Go.RowKit

theorem rname_ret {a b : Bool} (h : a = b) : Ending.returned (.bool a) = .returned (.bool b) := by rw [h]

def blankB (c : Int) : Bool := decide (c = 32 ∨ c = 9 ∨ c = 13)

/-- may the byte c stand at the place k of a name? -/
def okAt (k : Nat) (c : Int) : Prop := (97 ≤ c ∧ c ≤ 122) ∨ (65 ≤ c ∧ c ≤ 90) ∨ c = 95 ∨ (k ≠ 0 ∧ 48 ≤ c ∧ c ≤ 57)
def byteAt (s : ByteArray) (k : Nat) : Int := ((s.data.toList.getD k 0).toNat : Int)
/-- is the text a name? -/
def NameP (s : ByteArray) : Prop := (∀ k, k < s.size → okAt k (byteAt s k)) ∧ 0 < s.size ∧ s.size ≤ 16

theorem byteAt_eq (s : ByteArray) (k : Nat) (h : k < s.size) : (s[k].toNat : Int) = byteAt s k := by
  unfold byteAt
  rw [List.getD_eq_getElem?_getD, List.getElem?_eq_getElem (by rw [Array.length_toList]; exact h)]
  simp [ByteArray.getElem_eq_getElem_data]
theorem byteAt_in (s : ByteArray) (k : Nat) : 0 ≤ byteAt s k ∧ byteAt s k ≤ 255 := by
  unfold byteAt
  have := (s.data.toList.getD k 0).toNat_lt
  omega

theorem end_of (s : ByteArray) (k : Nat) (h1 : ∀ j, j < k → okAt j (byteAt s j)) (h2 : s.size ≤ k) (h : ¬ NameP s) : ¬ (0 < s.size ∧ s.size ≤ 16) := fun e => h ⟨fun j hj => h1 j (by omega), e.1, e.2⟩

end Go.Proofs.YtgblohjdiheemaaGreat

/- What makes an object right, as lists: symbols, fixes, marks, one by one. -/
namespace Go.Proofs.YtgblohjdiheemaaGreat
open Go.RowKit

structure Sy where
  name : ByteArray
  at_ : Int
  g : Bool
structure Fx where
  k : Int
  at_ : Int
  name : ByteArray
structure Mk where
  at_ : Int
  key : ByteArray
  to_ : ByteArray
def syV (s : Sy) : V3 := (.string s.name, .int .i64 s.at_, .bool s.g)
def fxV (f : Fx) : V3 := (.int .u8 f.k, .int .i64 f.at_, .string f.name)
def mkV (m : Mk) : V3 := (.int .i64 m.at_, .string m.key, .string m.to_)
/-- numbers that an int holds -/
def i64P (a : Int) : Prop := -9223372036854775808 ≤ a ∧ a ≤ 9223372036854775807
/-- what Go's types hold -/
def SyF (s : Sy) : Prop := s.name.size ≤ maxLen ∧ i64P s.at_
def FxF (f : Fx) : Prop := f.name.size ≤ maxLen ∧ i64P f.at_ ∧ 0 ≤ f.k ∧ f.k ≤ 255
def MkF (m : Mk) : Prop := m.key.size ≤ maxLen ∧ m.to_.size ≤ maxLen ∧ i64P m.at_
/-- a list of such in memory, whoever made it -/
def Row3 (w : World) (p : Option Addr) (L : List V3) : Prop :=
  0 < L.length → ∃ b o, p = some ⟨b, o, none⟩ ∧ ∀ i (hi : i < L.length) j, j < 3 → w.cell? ⟨b, o + i * 3 + j, none⟩ = (l3 L[i])[j]?
theorem Row3.nil (w : World) (p : Option Addr) : Row3 w p [] := fun h => absurd h (by simp)
theorem Row3.below {w w' : World} {p : Option Addr} {L : List V3} (h : Row3 w p L) (hb : Below w.heap.size w w') : Row3 w' p L := fun h0 => by
  obtain ⟨b, o, e, h1⟩ := h h0
  refine ⟨b, o, e, fun i hi j hj => ?_⟩
  have h2 := h1 i hi j hj
  obtain ⟨u, hu⟩ : ∃ u, (l3 L[i])[j]? = some u := ⟨_, List.getElem?_eq_getElem (show j < 3 from hj)⟩
  rw [hu] at h2 ⊢
  exact (hb.cell (p := ⟨b, o + i * 3 + j, none⟩) (cell_lt h2)).trans h2
theorem TOwn.row3 {T : TypeId} {w : World} {B : Nat} {v : Value} {L : List V3} (h : TOwn T w B v L) : ∃ p cap, v = .slice p L.length cap ∧ L.length ≤ cap ∧ cap ≤ maxLen ∧ Row3 w p L := by
  obtain ⟨p, cap, e, h1, h2, h3⟩ := h.shape
  refine ⟨p, cap, e, h1, h2, fun h0 => ?_⟩
  obtain ⟨g, e2, -, -, h4⟩ := h3 h0
  exact ⟨g, 0, e2, fun i hi j hj => by rw [Nat.zero_add]; exact h4 i hi j hj⟩

instance (k : Nat) (c : Int) : Decidable (okAt k c) := by unfold okAt; infer_instance
/-- whether a text is a name -/
def nmB (s : ByteArray) : Bool := decide (0 < s.size) && decide (s.size ≤ 16) && (List.range s.size).all fun k => decide (okAt k (byteAt s k))
theorem nmB_iff (s : ByteArray) : nmB s = true ↔ NameP s := by
  unfold nmB NameP
  simp only [Bool.and_eq_true, decide_eq_true_eq, List.all_eq_true, List.mem_range]
  constructor
  · rintro ⟨⟨h1, h2⟩, h3⟩; exact ⟨h3, h1, h2⟩
  · rintro ⟨h3, h1, h2⟩; exact ⟨⟨h1, h2⟩, h3⟩
/-- whether these bytes stand there -/
def stB (bs : List Int) (a : Int) (part : List Int) : Bool := decide (0 ≤ a ∧ a.toNat + part.length ≤ bs.length ∧ (bs.drop a.toNat).take part.length = part)
def symB (n : Nat) (least : Int) (seen : List ByteArray) (s : Sy) : Bool := !inB s.name seen && nmB s.name && decide (least ≤ s.at_) && decide (s.at_ ≤ n)
def rsL (n : Nat) : Int → List ByteArray → List Sy → Bool
  | _, _, [] => true
  | least, seen, s :: r => symB n least seen s && rsL n s.at_ (seen ++ [s.name]) r
def fixB (bs : List Int) (least : Int) (f : Fx) : Bool := decide (f.k = 1 ∨ f.k = 2) && nmB f.name && decide (least ≤ f.at_) && stB bs f.at_ [0, 0, 0, 0]
def rfL (bs : List Int) : Int → List Fx → Bool
  | _, [] => true
  | least, f :: r => fixB bs least f && rfL bs (f.at_ + 4) r
/-- whether a fix has a byte of the site there -/
def shB (fs : List Fx) (a : Int) : Bool := fs.any fun f => decide (f.at_ < a + 5 ∧ a < f.at_ + 4)
def quiet : List Int := [15, 31, 68, 0, 0]
def mrkB (bs : List Int) (fs : List Fx) (least : Int) (m : Mk) : Bool := nmB m.key && nmB m.to_ && decide (least ≤ m.at_) && stB bs m.at_ quiet && !shB fs m.at_
def rmL (bs : List Int) (fs : List Fx) : Int → List Mk → Bool
  | _, [] => true
  | least, m :: r => mrkB bs fs least m && rmL bs fs m.at_ r
structure Ob where
  bs : List Int
  sy : List Sy
  fx : List Fx
  mk_ : List Mk
def okO (o : Ob) : Bool := decide (o.bs.length ≤ 65536 ∧ o.sy.length ≤ 4096 ∧ o.fx.length ≤ 4096 ∧ o.mk_.length ≤ 4096) && rsL o.bs.length 0 [] o.sy && rfL o.bs 0 o.fx && rmL o.bs o.fx 0 o.mk_
/-- an object in memory -/
structure ObF (o : Ob) : Prop where
  byt : Byt o.bs
  sy : ∀ s ∈ o.sy, SyF s
  fx : ∀ f ∈ o.fx, FxF f
  mk_ : ∀ m ∈ o.mk_, MkF m

theorem rs_step (n : Nat) (L : List Sy) (i : Nat) (h : i < L.length) (least : Int) (seen : List ByteArray) : rsL n least seen (L.drop i) = (symB n least seen L[i] && rsL n L[i].at_ (seen ++ [L[i].name]) (L.drop (i + 1))) := by
  rw [List.drop_eq_getElem_cons h]; rfl
theorem rf_step (bs : List Int) (L : List Fx) (i : Nat) (h : i < L.length) (least : Int) : rfL bs least (L.drop i) = (fixB bs least L[i] && rfL bs (L[i].at_ + 4) (L.drop (i + 1))) := by
  rw [List.drop_eq_getElem_cons h]; rfl
theorem rm_step (bs : List Int) (fs : List Fx) (L : List Mk) (i : Nat) (h : i < L.length) (least : Int) : rmL bs fs least (L.drop i) = (mrkB bs fs least L[i] && rmL bs fs L[i].at_ (L.drop (i + 1))) := by
  rw [List.drop_eq_getElem_cons h]; rfl
def names (L : List Sy) : List ByteArray := L.map Sy.name
theorem names_take (L : List Sy) (i : Nat) (h : i < L.length) : names (L.take (i + 1)) = names (L.take i) ++ [L[i].name] := by
  unfold names
  rw [List.take_succ_eq_append_getElem h, List.map_append]; rfl
theorem names_len (L : List Sy) (i : Nat) (h : i ≤ L.length) : (names (L.take i)).length = i := by
  unfold names
  rw [List.length_map, List.length_take, Nat.min_eq_left h]
/-- fixes that are right stand in order, four bytes each -/
theorem rf_sorted (bs : List Int) : ∀ (L : List Fx) (least : Int), rfL bs least L = true → (∀ i (h : i < L.length), least ≤ L[i].at_) ∧ ∀ i j (h : i < j) (h' : j < L.length), L[i].at_ + 4 ≤ L[j].at_
  | [], _, _ => ⟨fun i h => absurd h (by simp), fun i j _ h' => absurd h' (by simp)⟩
  | f :: r, least, h => by
    unfold rfL at h
    rw [Bool.and_eq_true] at h
    obtain ⟨h1, h2⟩ := h
    obtain ⟨ih1, ih2⟩ := rf_sorted bs r (f.at_ + 4) h2
    have hle : least ≤ f.at_ := by
      unfold fixB at h1
      simp only [Bool.and_eq_true, decide_eq_true_eq] at h1
      exact h1.1.2
    refine ⟨fun i hi => ?_, fun i j hij hj => ?_⟩
    · cases i with
      | zero => exact hle
      | succ i =>
        have := ih1 i (by simpa using hi)
        simp only [List.getElem_cons_succ]
        omega
    · cases j with
      | zero => omega
      | succ j =>
        cases i with
        | zero => simpa using ih1 j (by simpa using hj)
        | succ i => simpa using ih2 i j (by omega) (by simpa using hj)
/-- which fixes share a byte: of those that begin ahead of the site's end the last one tells -/
theorem sh_last (fs : List Fx) (a : Int) (k : Nat) (hk : k ≤ fs.length) (hs : ∀ i j (_ : i < j) (h' : j < fs.length), fs[i].at_ + 4 ≤ fs[j].at_)
    (h1 : ∀ i (h : i < fs.length), i < k → fs[i].at_ < a + 5) (h2 : ∀ i (h : i < fs.length), k ≤ i → a + 5 ≤ fs[i].at_) :
    shB fs a = true ↔ ∃ h : 0 < k, a < (fs[k - 1]'(by omega)).at_ + 4 := by
  unfold shB
  rw [List.any_eq_true]
  constructor
  · rintro ⟨f, hf, e⟩
    obtain ⟨i, hi, rfl⟩ := List.getElem_of_mem hf
    have e := of_decide_eq_true e
    have hik : i < k := by
      by_cases c : i < k
      · exact c
      · have := h2 i hi (by omega)
        omega
    refine ⟨by omega, ?_⟩
    by_cases c : i = k - 1
    · subst c; exact e.2
    · have := hs i (k - 1) (by omega) (by omega)
      omega
  · rintro ⟨h0, h⟩
    exact ⟨fs[k - 1]'(by omega), List.getElem_mem _, decide_eq_true ⟨h1 (k - 1) (by omega) (by omega), h⟩⟩

end Go.Proofs.YtgblohjdiheemaaGreat

/- Ours: the three maps of watch: by places, by keys, by visits. -/
namespace Go.Proofs.YtgblohjdiheemaaGreat
open Go.RowKit Go.Maps Go.WideMaps

structure Vi where
  h : Int
  s : Int
def viV (x : Vi) : Value := .agg #[.int .i64 x.h, .int .i64 x.s]
def viL (x : Vi) : Lit := .string (keyBytes [.int .i64 x.h, .int .i64 x.s])
def viOk (x : Vi) : Prop := i64P x.h ∧ i64P x.s
theorem viV_inj {x y : Vi} (h : viV x = viV y) : x = y := by
  obtain ⟨a, b⟩ := x
  obtain ⟨c, d⟩ := y
  unfold viV at h
  injection h with h
  injection h with h
  injection h with h1 h
  injection h with h2 _
  injection h1 with _ h1
  injection h2 with _ h2
  subst h1 h2
  rfl
theorem visLaid : laidOutB Tryz.prog = true := by kernel_rfl
theorem Tryz.row80 : (80 : TypeId) < Tryz.prog.types.size := of_decide_eq_true (by kernel_rfl)
theorem Tryz.wide80 : (match Tryz.prog.underlying 80 with | some (.array _ _) | some (.struct _) => true | _ => false) = true := by rw [Tryz.underlying80]
set_option maxRecDepth 20000 in
theorem law80 : Keyed Tryz.prog 80 := Keyed.of_law (deep_law_laid visLaid (m := 2) (by omega) Tryz.row80 (by kernel_rfl) Tryz.wide80)
theorem Tryz.keyType80 : Tryz.prog.keyType 80 = true := by kernel_rfl
theorem Tryz.cells80 : Tryz.prog.cellsOf 80 = 2 := by kernel_rfl
theorem Tryz.cells3 : Tryz.prog.cellsOf 3 = 1 := by kernel_rfl
theorem Tryz.typesN : ∃ d, Tryz.prog.types.size + 1 = d + 1 + 1 := by
  have : 0 < Tryz.prog.types.size := of_decide_eq_true (by kernel_rfl)
  exact ⟨Tryz.prog.types.size - 1, by omega⟩
theorem vi_lits (d : Nat) {a b : Int} (w1 : (Lit.int .i64 a).wf = true) (w2 : (Lit.int .i64 b).wf = true) : Tryz.prog.keyLits (d + 1 + 1) 80 [.int .i64 a, .int .i64 b] = some [.int .i64 a, .int .i64 b] := by
  have h3 : ∀ z : Int, (Lit.int .i64 z).wf = true → Tryz.prog.keyLits (d + 1) 3 [.int .i64 z] = some [.int .i64 z] := fun z hz => by
    unfold Program.keyLits
    rw [Tryz.underlying3]
    dsimp only
    rw [if_pos ⟨rfl, hz⟩]
  unfold Program.keyLits
  rw [Tryz.underlying80]
  dsimp only
  rw [Tryz.cells80, if_pos ⟨rfl, by simp⟩]
  simp only [List.mapM_cons, List.mapM_nil, Tryz.cells3, List.drop, List.take, h3 a w1, h3 b w2]
  rfl
theorem vi_key {x : Vi} (hx : viOk x) : keyOf Tryz.prog 80 (viV x) = some (viL x) := by
  obtain ⟨a, b⟩ := x
  obtain ⟨h1, h2⟩ := hx
  have w1 : (Lit.int .i64 a).wf = true := WalkArith.wf_i64 (by unfold i64P at h1; exact h1)
  have w2 : (Lit.int .i64 b).wf = true := WalkArith.wf_i64 (by unfold i64P at h2; exact h2)
  have hf : (viV ⟨a, b⟩).formed Tryz.prog 80 = true := by
    unfold viV Value.formed
    rw [Tryz.underlying80, Tryz.cells80]
    rfl
  have hc : (viV ⟨a, b⟩).cells.toList = [.int .i64 a, .int .i64 b] := rfl
  obtain ⟨d, hd⟩ := Tryz.typesN
  unfold keyOf
  rw [Tryz.underlying80]
  dsimp only
  rw [Tryz.keyType80, hf, hc, hd, vi_lits d w1 w2]
  rfl
structure Vw where
  h : Int
  s : Int
  o : Int
  n : Int
  m : Bool
def vwV (x : Vw) : Value := .agg #[.int .i64 x.h, .int .i64 x.s, .int .i64 x.o, .int .i64 x.n, .bool x.m]
def vwD (x : Vw) : DataW Unit := .agg [.lit (.int .i64 x.h), .lit (.int .i64 x.s), .lit (.int .i64 x.o), .lit (.int .i64 x.n), .lit (.bool x.m)]
def vwR (v : Value) : Option (DataW Unit × List MemPlace) := match v with
  | .agg cs => match cs.toList with
    | [.int .i64 a, .int .i64 b, .int .i64 c, .int .i64 d, .bool e] => some (vwD ⟨a, b, c, d, e⟩, [])
    | _ => none
  | _ => none
theorem vwR_inv {v : Value} {z : DataW Unit × List MemPlace} (h : vwR v = some z) : ∃ s : Vw, v = vwV s ∧ z = (vwD s, []) := by
  unfold vwR at h
  split at h
  · rename_i cs
    split at h
    · rename_i a b c d e hc
      injection h with h
      have ec : cs = #[.int .i64 a, .int .i64 b, .int .i64 c, .int .i64 d, .bool e] := by
        have : cs = cs.toList.toArray := by simp
        rw [this, hc]
      exact ⟨⟨a, b, c, d, e⟩, by rw [ec]; rfl, h.symm⟩
    · cases h
  · cases h
theorem vwD_inj {s t : Vw} (h : vwD s = vwD t) : s = t := by
  obtain ⟨a, b, c, d, e⟩ := s
  obtain ⟨a', b', c', d', e'⟩ := t
  unfold vwD at h
  simp only [DataW.agg.injEq, List.cons.injEq, DataW.lit.injEq, Lit.int.injEq, Lit.bool.injEq, true_and, and_true] at h
  obtain ⟨rfl, rfl, rfl, rfl, rfl⟩ := h
  rfl
def zR (v : Value) : Option (DataW Unit × List MemPlace) := match v with
  | .int .i64 a => some (.lit (.int .i64 a), [])
  | _ => none
theorem zR_inv {v : Value} {z : DataW Unit × List MemPlace} (h : zR v = some z) : ∃ s : Int, v = .int .i64 s ∧ z = (.lit (.int .i64 s), []) := by
  unfold zR at h
  split at h
  · rename_i a
    injection h with h
    exact ⟨a, rfl, h.symm⟩
  · cases h
theorem Tryz.und71 : Tryz.prog.underlying 71 = some (.map 3 3) := by kernel_rfl
theorem Tryz.und73 : Tryz.prog.underlying 73 = some (.map 3 2) := by kernel_rfl
theorem Tryz.und75 : Tryz.prog.underlying 75 = some (.map 80 39) := by kernel_rfl
theorem zkey {z : Int} (hz : i64P z) : keyOf Tryz.prog 3 (.int .i64 z) = some (.int .i64 z) := keyOf_int_mk Tryz.underlying3 (WalkArith.wf_i64 (by unfold i64P at hz; omega))
/-- sites by their places -/
def mP : Km Int Int where
  t := 71
  kt := 3
  e := 3
  law := int_keyed Tryz.underlying3
  und := Tryz.und71
  kv := .int .i64
  kl := .int .i64
  kok := i64P
  key := zkey
  inj := fun _ _ h => by injection h
  R := zR
  val := .int .i64
  dat := fun s => .lit (.int .i64 s)
  rmk := fun _ => rfl
  inv := zR_inv
  dinj := fun h => by injection h with h; injection h
  zero := 0
  hz := fun _ => by kernel_rfl
/-- the last calls by keys -/
def mC : Km Int Int where
  t := 73
  kt := 3
  e := 2
  law := int_keyed Tryz.underlying3
  und := Tryz.und73
  kv := .int .i64
  kl := .int .i64
  kok := i64P
  key := zkey
  inj := fun _ _ h => by injection h
  R := zR
  val := .int .i64
  dat := fun s => .lit (.int .i64 s)
  rmk := fun _ => rfl
  inv := zR_inv
  dinj := fun h => by injection h with h; injection h
  zero := 0
  hz := fun _ => by kernel_rfl
/-- views by visits -/
def mV : Km Vi Vw where
  t := 75
  kt := 80
  e := 39
  law := law80
  und := Tryz.und75
  kv := viV
  kl := viL
  kok := viOk
  key := vi_key
  inj := fun hx hy h => viV_inj (law80.inj (vi_key hx) (by rw [h]; exact vi_key hy))
  R := vwR
  val := vwV
  dat := vwD
  rmk := fun _ => rfl
  inv := vwR_inv
  dinj := vwD_inj
  zero := ⟨0, 0, 0, 0, false⟩
  hz := fun _ => by kernel_rfl
end Go.Proofs.YtgblohjdiheemaaGreat

/- Small words that several texts take. -/
namespace Go.Proofs.YtgblohjdiheemaaGreat
open Go.RowKit

theorem byt_nil : Byt [] := fun i => by simp

end Go.Proofs.YtgblohjdiheemaaGreat
