/- Texts put together: Lit, Copy, PushRow, StoM, WrtW, IRgL, WatG, Kit3, Cpy3. -/
import Derived.Test.YtgblohjdiheemaaKae
import Derived.Test.YtgblohjdiheemaaKaa
import Derived.Laws.AppendOwnNone
import Derived.Test.YtgblohjdiheemaaKak
import Derived.Test.YtgblohjdiheemaaKab
import Derived.Lib.AppendStr
import Derived.OneCell
import Derived.Test.YtgblohjdiheemaaKah
import Derived.Test.YtgblohjdiheemaaKad
import Derived.BigQuiet
import Derived.Deep.QuietTactic

/- A literal slice of bytes; a list all of whose numbers are bytes. -/
namespace Go.Proofs.Ytgblohjdiheemaa
open Go.RowKit

theorem Own.lit (w : World) (xs : List Int) (hm : xs.length ≤ maxLen) : Own (w.alloc (.cells (byts xs).toArray 5)) w.heap.size w.heap.size xs.length xs :=
  Own.mk (Nat.le_refl _) (heap_alloc_new w _) (Nat.le_refl _) hm (by simp) (by rw [List.take_of_length_le (by simp)])

theorem byt_of (xs : List Int) (h : (xs.all fun x => decide (0 ≤ x ∧ x ≤ 255)) = true) : Byt xs := fun i => by
  simp only [List.all_eq_true, decide_eq_true_eq] at h
  by_cases hi : i < xs.length
  · have := h xs[i] (List.getElem_mem hi)
    simpa [List.getD, hi] using this
  · simp [List.getD, List.getElem?_eq_none (show xs.length ≤ i by omega)]

end Go.Proofs.Ytgblohjdiheemaa

/- What switchyardkit.CopyBytes, LentBytes and KeptBytes do, for every slice of bytes. -/
namespace Go.Proofs.Ytgblohjdiheemaa
open Go.RowKit

/-- a slice of bytes that the call has made, or nil -/
def OwnV (w : World) (B : Nat) (v : Value) (xs : List Int) : Prop := w.ownsRow B 5 1 v xs.length (byts xs)
theorem OwnV.nil (w : World) (B : Nat) : OwnV w B (.slice none 0 0) [] := World.ownsRow_nil _ _ _ _
theorem OwnV.alloc {w : World} {B : Nat} {v : Value} {xs : List Int} (h : OwnV w B v xs) (o : Obj) : OwnV (w.alloc o) B v xs := World.ownsRow.alloc h o
theorem OwnV.drewN {w : World} {B : Nat} {v : Value} {xs : List Int} (h : OwnV w B v xs) (n : Nat) : OwnV (w.drewN n) B v xs := h
theorem Own.val {w : World} {B g cap : Nat} {xs : List Int} (h : Own w B g cap xs) : OwnV w B (.slice (some ⟨g, 0, none⟩) xs.length cap) xs := h
theorem OwnV.shape {w : World} {B : Nat} {v : Value} {xs : List Int} (h : OwnV w B v xs) : (v = .slice none 0 0 ∧ xs = []) ∨ ∃ g cap, v = .slice (some ⟨g, 0, none⟩) xs.length cap ∧ Own w B g cap xs := by
  rcases h.2 with ⟨h1, h2⟩ | ⟨g, cap, cur, h1, h2⟩
  · exact .inl ⟨h1, List.eq_nil_of_length_eq_zero h2⟩
  · subst h1
    exact .inr ⟨g, cap, rfl, h⟩
theorem OwnV.below {w w' : World} {B : Nat} {v : Value} {xs : List Int} (h : OwnV w B v xs) (hb : Below w.heap.size w w') : OwnV w' B v xs := by
  rcases h.shape with ⟨rfl, rfl⟩ | ⟨g, cap, rfl, ho⟩
  · exact OwnV.nil _ _
  · exact (ho.below hb).val
theorem OwnV.slice {w : World} {B : Nat} {v : Value} {xs : List Int} (h : OwnV w B v xs) : ∃ p cap, v = .slice p xs.length cap ∧ Row w p xs ∧ (p = none → cap = 0) := by
  rcases h.shape with ⟨rfl, rfl⟩ | ⟨g, cap, rfl, ho⟩
  · exact ⟨none, 0, rfl, fun h => absurd h (Nat.lt_irrefl 0), fun _ => rfl⟩
  · exact ⟨_, cap, rfl, ho.row, fun h => by cases h⟩

/-- 'append(out, ..)' on such a slice: the law of the kit in these words -/
theorem wp_push {ops : Array Oper} {rest : List Oper} {o : Oper} {a : Act} {Q : Exit → Act → World → Prop} (w : World) (hgd : o.guard = none) (s x : Operand)
    (ho : o.op = .call { callee := .builtin .append, args := #[s, x], argTypes := #[25, 25] }) (B : Nat) (v : Value) (xs : List Int) (hs : a.eval s = v) (hown : OwnV w B v xs)
    (ad : Addr) (m c : Nat) (ns : List Int) (hx : a.eval x = .slice (some ad) m c) (hl : ns.length = m) (hnews : ∀ j u, (byts ns)[j]? = some u → w.cell? (ad.add j) = some u)
    (hlen : xs.length + m ≤ 140737488355328) (hB : B ≤ w.heap.size)
    (h : ∀ v' w', OwnV w' B v' (xs ++ ns) → w.grownBy w' v.ownBlock → (∀ w0, Below B w0 w → Below B w0 w') → (v' = .slice none 0 0 ↔ v = .slice none 0 0 ∧ m = 0) → wpList Try.prog ops Q rest (a.put o.dst v') w') :
    wpList Try.prog ops Q (o :: rest) a w := by
  obtain ⟨i0, hi, hz0, hz1, hz2⟩ := info_parts Try.info5
  refine wpList_append_own w hgd s x 25 ho B 5 i0 (.int .u8 0) 1 1 Try.underlying25 hi hz0 hz1 hz2 rfl (by decide) v xs.length (byts xs) hs hown ad m c (byts ns) hx (by simp [hl]) hnews (fun u hu => ?_) (by unfold maxLen; omega) (by omega) hB ?_
  · simp only [byts, List.mem_map] at hu
    obtain ⟨z, _, rfl⟩ := hu
    rfl
  · intro v' w' h1 h2 h3
    refine h v' w' ?_ h2 (fun w0 hb => hb.grown h2 hB fun k hk => ?_) h3
    · unfold OwnV
      rw [List.length_append, hl]
      simpa [byts] using h1
    · rcases hown.shape with ⟨rfl, _⟩ | ⟨g, cap, rfl, ho⟩
      · simp [Value.ownBlock] at hk
      · simp [Value.ownBlock] at hk
        subst hk
        exact ho.base

theorem take_getD (xs : List Int) (k : Nat) (h : k < xs.length) : xs.take (k + 1) = xs.take k ++ [xs.getD k 0] := by
  rw [List.take_succ_eq_append_getElem h]
  simp [List.getD, h]

end Go.Proofs.Ytgblohjdiheemaa

/- append of a whole slice of bytes that came in, nil or not. -/
namespace Go.Proofs.Ytgblohjdiheemaa
open Go.RowKit

/-- 'append(out, b...)', b whatever slice of bytes that came in -/
theorem wp_push_row {ops : Array Oper} {rest : List Oper} {o : Oper} {a : Act} {Q : Exit → Act → World → Prop} (w : World) (hgd : o.guard = none) (s x : Operand)
    (ho : o.op = .call { callee := .builtin .append, args := #[s, x], argTypes := #[25, 25] }) (B : Nat) (v : Value) (xs : List Int) (hs : a.eval s = v) (hown : OwnV w B v xs)
    (q : Option Addr) (m d : Nat) (ys : List Int) (hx : a.eval x = .slice q m d) (hl : ys.length = m) (hrow : Row w q ys) (hq : q = none → m = 0 ∧ d = 0)
    (hlen : xs.length + m ≤ 140737488355328) (hB : B ≤ w.heap.size)
    (h : ∀ v' w', OwnV w' B v' (xs ++ ys) → (∀ w0, Below B w0 w → Below B w0 w') → wpList Try.prog ops Q rest (a.put o.dst v') w') :
    wpList Try.prog ops Q (o :: rest) a w := by
  cases q with
  | none =>
    obtain ⟨rfl, rfl⟩ := hq rfl
    obtain rfl : ys = [] := List.eq_nil_of_length_eq_zero hl
    obtain ⟨i0, hi, hz0, hz1, hz2⟩ := info_parts Try.info5
    exact wpList_append_own_none hgd s x 25 ho B 5 i0 1 Try.underlying25 hi v xs.length (byts xs) hs hown hx (h v w (by rw [List.append_nil]; exact hown) fun _ hb => hb)
  | some ad =>
    refine wp_push w hgd s x ho B v xs hs hown ad m d ys hx hl (fun j u hj => ?_) hlen hB fun v' w' h1 _ h3 _ => h v' w' h1 h3
    have hjl : j < ys.length := by
      rcases Nat.lt_or_ge j ys.length with h | h
      · exact h
      · rw [List.getElem?_eq_none (by simpa using h)] at hj; cases hj
    obtain ⟨b, off, e, hc⟩ := hrow (by omega)
    cases e
    rw [getD_byts ys j hjl] at hj
    rw [← hj, ← hc j hjl, Go.WideShapes.add_plain]

end Go.Proofs.Ytgblohjdiheemaa

/- An image's bytes are read as it was; what is read is written as it stood. -/
namespace Go.Proofs.Ytgblohjdiheemaa
open Go.RowKit

def readI (r : Rd) : Im × Rd :=
  (⟨(memR (startR r)).1, (listR keyR 64 (memR (startR r)).2).1, (listR siteR 256 (listR keyR 64 (memR (startR r)).2).2).1, (listR unitR 16 (listR siteR 256 (listR keyR 64 (memR (startR r)).2).2).2).1⟩, (listR unitR 16 (listR siteR 256 (listR keyR 64 (memR (startR r)).2).2).2).2)
theorem all_read (bs : List Int) : allR bs = readI ⟨bs, 0⟩ := rfl
/-- what an image has that is written -/
structure ImB (m : Im) : Prop where
  bs : m.bs.length ≤ 65536
  ks : m.ks.length ≤ 64
  key : ∀ k ∈ m.ks, k.length ≤ 16
  si : m.si.length ≤ 256
  site : ∀ s ∈ m.si, sNum s.key ∧ sNum s.at_ ∧ sNum s.to_
  un : m.un.length ≤ 16
  unit : ∀ u ∈ m.un, sNum u
theorem start_eats : Eats (fun r => ((), startR r)) swy () := by
  obtain ⟨h1, h2⟩ := part_eats swy
  rw [show swy.length = 4 from rfl] at h1
  refine ⟨fun v => ?_, fun k hk => ?_⟩
  · show ((), startR ⟨swy ++ v, 0⟩) = _
    unfold startR
    rw [h1 v, if_neg (fun h => h.2 rfl)]
  · have h3 := h2 k hk
    rw [show swy.length = 4 from rfl] at h3
    show (startR ⟨swy.take k, 0⟩).e = 4
    unfold startR
    rw [if_neg (fun h => by rw [h.1] at h3; exact absurd h3 (by decide))]
    exact h3
theorem read_eats {m : Im} (h : ImB m) : Eats readI (putI m) m := by
  have hu := (list_eats (f := unitR) (put := fun u => lb4 u.toNat) (most := 16) (fun r h => unit_err h) (by decide) m.un h.un fun u hu => unit_eats (h.unit u hu).1 (h.unit u hu).2)
  have hs := (list_eats (f := siteR) (put := siteL) (most := 256) (fun r h => site_err h) (by decide) m.si h.si fun s hs => site_eats (h.site s hs))
  have hk := (list_eats (f := keyR) (put := keyB) (most := 64) (fun r h => key_err h) (by decide) m.ks h.ks fun k hk => key_eats (h.key k hk))
  have hm := mem_eats h.bs
  have e1 := fun (a : List Int) (b : List (List Int)) => hs.then (g := fun c r => ((⟨a, b, c, (listR unitR 16 r).1⟩ : Im), (listR unitR 16 r).2)) (hu.map fun d => (⟨a, b, m.si, d⟩ : Im)) (fun _ _ h => list_err (fun r h => unit_err h) h)
  have e2 := fun (a : List Int) => hk.then (g := fun b r => ((⟨a, b, (listR siteR 256 r).1, (listR unitR 16 (listR siteR 256 r).2).1⟩ : Im), (listR unitR 16 (listR siteR 256 r).2).2)) (e1 a m.ks) (fun _ r h => by rw [list_err (fun r h => site_err h) h]; exact list_err (fun r h => unit_err h) h)
  have e3 := hm.then (g := fun a r => ((⟨a, (listR keyR 64 r).1, (listR siteR 256 (listR keyR 64 r).2).1, (listR unitR 16 (listR siteR 256 (listR keyR 64 r).2).2).1⟩ : Im), (listR unitR 16 (listR siteR 256 (listR keyR 64 r).2).2).2)) (e2 m.bs) (fun _ r h => by rw [list_err (fun r h => key_err h) h, list_err (fun r h => site_err h) h]; exact list_err (fun r h => unit_err h) h)
  have e4 := start_eats.then (g := fun _ r => ((⟨(memR r).1, (listR keyR 64 (memR r).2).1, (listR siteR 256 (listR keyR 64 (memR r).2).2).1, (listR unitR 16 (listR siteR 256 (listR keyR 64 (memR r).2).2).2).1⟩ : Im), (listR unitR 16 (listR siteR 256 (listR keyR 64 (memR r).2).2).2).2)) e3 (fun _ r h => by rw [mem_err h, list_err (fun r h => key_err h) h, list_err (fun r h => site_err h) h]; exact list_err (fun r h => unit_err h) h)
  have e : swy ++ (lb4 m.bs.length ++ m.bs ++ (lb4 m.ks.length ++ m.ks.flatMap keyB ++ (lb4 m.si.length ++ m.si.flatMap siteL ++ (lb4 m.un.length ++ m.un.flatMap fun u => lb4 u.toNat)))) = putI m := by
    unfold putI; simp only [List.append_assoc]
  rw [e] at e4
  exact e4

/-! ### and back -/
structure Inv {α : Type} (f : Rd → α × Rd) (put : α → List Int) (P : α → Prop) : Prop where
  inv : ∀ r, Byt r.l → (f r).2.e = 0 → r.e = 0 ∧ r.l = put (f r).1 ++ (f r).2.l ∧ P (f r).1 ∧ Byt (f r).2.l
theorem part_inv {n : Nat} {r : Rd} (hb : Byt r.l) (h : (partR n r).2.e = 0) : r.e = 0 ∧ r.l = (partR n r).1 ++ (partR n r).2.l ∧ (partR n r).1.length = n ∧ Byt (partR n r).1 ∧ Byt (partR n r).2.l := by
  unfold partR at h ⊢
  by_cases he : r.e ≠ 0
  · rw [if_pos he] at h; exact absurd h he
  · rw [if_neg he] at h ⊢
    by_cases hl : r.l.length < n
    · rw [if_pos hl] at h; exact absurd (show (4 : Int) = 0 from h) (by decide)
    · rw [if_neg hl]
      exact ⟨by simpa using he, (List.take_append_drop n r.l).symm, by rw [List.length_take]; omega, byt_takeS hb n, byt_dropS hb n⟩
theorem num_inv {most : Nat} : Inv (numR most) lb4 (fun n => n ≤ most) := ⟨fun r hb h => by
  unfold numR at h ⊢
  by_cases h1 : (partR 4 r).2.e ≠ 0
  · rw [if_pos h1] at h; exact absurd h h1
  · rw [if_neg h1] at h ⊢
    obtain ⟨p1, p2, p3, p4, p5⟩ := part_inv hb (by simpa using h1)
    by_cases h2 : most < (n4 (partR 4 r).1 0).toNat
    · rw [if_pos h2] at h; exact absurd (show (200 : Int) = 0 from h) (by decide)
    · rw [if_neg h2]
      exact ⟨p1, by rw [lb4_back p3 p4]; exact p2, by show _ ≤ most; omega, p5⟩⟩
theorem key_inv : Inv keyR keyB (fun k => k.length ≤ 16) := ⟨fun r hb h => by
  unfold keyR at h ⊢
  have hn : (numR 16 r).2.e = 0 := by
    rcases Decidable.em ((numR 16 r).2.e = 0) with h0 | h0
    · exact h0
    · rw [part_err h0] at h; exact absurd h h0
  obtain ⟨a1, a2, a3, a4⟩ := num_inv.inv r hb hn
  obtain ⟨p1, p2, p3, p4, p5⟩ := part_inv a4 h
  exact ⟨a1, by unfold keyB; rw [p3, List.append_assoc, ← p2]; exact a2, by rw [p3]; exact a3, p5⟩⟩
theorem mem_inv : Inv memR (fun k => lb4 k.length ++ k) (fun k => k.length ≤ 65536) := ⟨fun r hb h => by
  unfold memR at h ⊢
  have hn : (numR 65536 r).2.e = 0 := by
    rcases Decidable.em ((numR 65536 r).2.e = 0) with h0 | h0
    · exact h0
    · rw [part_err h0] at h; exact absurd h h0
  obtain ⟨a1, a2, a3, a4⟩ := num_inv.inv r hb hn
  obtain ⟨p1, p2, p3, p4, p5⟩ := part_inv a4 h
  exact ⟨a1, by rw [p3, List.append_assoc, ← p2]; exact a2, by rw [p3]; exact a3, p5⟩⟩
theorem num_ok {most : Nat} {r : Rd} (h : (numR most r).2.e = 0) : r.e = 0 := by
  rcases Decidable.em (r.e = 0) with h0 | h0
  · exact h0
  · rw [num_err h0] at h; exact absurd h h0
theorem unit_inv : Inv unitR (fun u => lb4 u.toNat) sNum := ⟨fun r hb h => by
  obtain ⟨a1, a2, a3, a4⟩ := (num_inv (most := 2147483647)).inv r hb h
  refine ⟨a1, ?_, ?_, a4⟩
  · show r.l = lb4 (((numR 2147483647 r).1 : Nat) : Int).toNat ++ _
    rw [Int.toNat_natCast]; exact a2
  · show 0 ≤ (((numR 2147483647 r).1 : Nat) : Int) ∧ _
    have a3' : (numR 2147483647 r).1 ≤ 2147483647 := a3
    exact ⟨by omega, by show (((numR 2147483647 r).1 : Nat) : Int) ≤ _; omega⟩⟩
theorem site_inv : Inv siteR siteL (fun s => sNum s.key ∧ sNum s.at_ ∧ sNum s.to_) := ⟨fun r hb h => by
  have h : (numR 2147483647 (numR 2147483647 (numR 2147483647 r).2).2).2.e = 0 := h
  have h2 := num_ok h
  have h1 := num_ok h2
  obtain ⟨a1, a2, a3, a4⟩ := (num_inv (most := 2147483647)).inv r hb h1
  obtain ⟨b1, b2, b3, b4⟩ := (num_inv (most := 2147483647)).inv _ a4 h2
  obtain ⟨c1, c2, c3, c4⟩ := (num_inv (most := 2147483647)).inv _ b4 h
  refine ⟨a1, ?_, ⟨?_, ?_, ?_⟩, c4⟩
  · show r.l = (lb4 (((numR 2147483647 r).1 : Nat) : Int).toNat ++ (lb4 (((numR 2147483647 (numR 2147483647 r).2).1 : Nat) : Int).toNat ++ lb4 (((numR 2147483647 (numR 2147483647 (numR 2147483647 r).2).2).1 : Nat) : Int).toNat)) ++ (numR 2147483647 (numR 2147483647 (numR 2147483647 r).2).2).2.l
    simp only [Int.toNat_natCast, List.append_assoc]
    rw [← c2, ← b2]; exact a2
  · have a3' : (numR 2147483647 r).1 ≤ 2147483647 := a3
    exact ⟨by show 0 ≤ (((numR 2147483647 r).1 : Nat) : Int); omega, by show (((numR 2147483647 r).1 : Nat) : Int) ≤ _; omega⟩
  · have b3' : (numR 2147483647 (numR 2147483647 r).2).1 ≤ 2147483647 := b3
    exact ⟨by show 0 ≤ (((numR 2147483647 (numR 2147483647 r).2).1 : Nat) : Int); omega, by show (((numR 2147483647 (numR 2147483647 r).2).1 : Nat) : Int) ≤ _; omega⟩
  · have c3' : (numR 2147483647 (numR 2147483647 (numR 2147483647 r).2).2).1 ≤ 2147483647 := c3
    exact ⟨by show 0 ≤ (((numR 2147483647 (numR 2147483647 (numR 2147483647 r).2).2).1 : Nat) : Int); omega, by show (((numR 2147483647 (numR 2147483647 (numR 2147483647 r).2).2).1 : Nat) : Int) ≤ _; omega⟩⟩
theorem many_inv {α : Type} {f : Rd → α × Rd} {put : α → List Int} {P : α → Prop} (hf : Inv f put P) (hs : ∀ r, r.e ≠ 0 → (f r).2 = r) : ∀ (n : Nat), Inv (manyR f n) (fun L => L.flatMap put) (fun L => L.length = n ∧ ∀ x ∈ L, P x)
  | 0 => ⟨fun r hb h => ⟨h, rfl, ⟨rfl, fun x hx => absurd hx List.not_mem_nil⟩, hb⟩⟩
  | n + 1 => ⟨fun r hb h => by
    simp only [manyR] at h ⊢
    have h1 : (f r).2.e = 0 := by
      rcases Decidable.em ((f r).2.e = 0) with h0 | h0
      · exact h0
      · rw [many_err hs n h0] at h; exact absurd h h0
    obtain ⟨a1, a2, a3, a4⟩ := hf.inv r hb h1
    obtain ⟨b1, b2, ⟨b3, b4⟩, b5⟩ := (many_inv hf hs n).inv _ a4 h
    refine ⟨a1, ?_, ⟨by rw [List.length_cons, b3], fun x hx => ?_⟩, b5⟩
    · rw [List.flatMap_cons, List.append_assoc, ← b2]; exact a2
    · rcases List.mem_cons.1 hx with rfl | hx
      · exact a3
      · exact b4 x hx⟩
theorem list_inv {α : Type} {f : Rd → α × Rd} {put : α → List Int} {P : α → Prop} {most : Nat} (hf : Inv f put P) (hs : ∀ r, r.e ≠ 0 → (f r).2 = r) : Inv (listR f most) (fun L => lb4 L.length ++ L.flatMap put) (fun L => L.length ≤ most ∧ ∀ x ∈ L, P x) := ⟨fun r hb h => by
  unfold listR at h ⊢
  have h1 : (numR most r).2.e = 0 := by
    rcases Decidable.em ((numR most r).2.e = 0) with h0 | h0
    · exact h0
    · rw [many_err hs _ h0] at h; exact absurd h h0
  obtain ⟨a1, a2, a3, a4⟩ := num_inv.inv r hb h1
  obtain ⟨b1, b2, ⟨b3, b4⟩, b5⟩ := (many_inv hf hs _).inv _ a4 h
  refine ⟨a1, ?_, ⟨by rw [b3]; exact a3, b4⟩, b5⟩
  rw [b3, List.append_assoc, ← b2]
  exact a2⟩
theorem start_inv {r : Rd} (hb : Byt r.l) (h : (startR r).e = 0) : r.e = 0 ∧ r.l = swy ++ (startR r).l ∧ Byt (startR r).l := by
  unfold startR at h ⊢
  by_cases h1 : (partR 4 r).2.e = 0 ∧ (partR 4 r).1 ≠ swy
  · rw [if_pos h1] at h; exact absurd (show (200 : Int) = 0 from h) (by decide)
  · rw [if_neg h1] at h ⊢
    obtain ⟨p1, p2, p3, p4, p5⟩ := part_inv hb h
    have e : (partR 4 r).1 = swy := Decidable.byContradiction fun hne => h1 ⟨h, hne⟩
    rw [e] at p2
    exact ⟨p1, p2, p5⟩
theorem read_inv {bs : List Int} (hb : Byt bs) (h : (readI ⟨bs, 0⟩).2.e = 0) : bs = putI (readI ⟨bs, 0⟩).1 ++ (readI ⟨bs, 0⟩).2.l ∧ ImB (readI ⟨bs, 0⟩).1 ∧ Byt (readI ⟨bs, 0⟩).1.bs := by
  unfold readI at h ⊢
  dsimp only at h ⊢
  have hsk : ∀ r : Rd, (listR keyR 64 r).2.e = 0 → r.e = 0 := fun r h => by
    rcases Decidable.em (r.e = 0) with h0 | h0
    · exact h0
    · rw [list_err (fun r h => key_err h) h0] at h; exact absurd h h0
  have hss : ∀ r : Rd, (listR siteR 256 r).2.e = 0 → r.e = 0 := fun r h => by
    rcases Decidable.em (r.e = 0) with h0 | h0
    · exact h0
    · rw [list_err (fun r h => site_err h) h0] at h; exact absurd h h0
  have hsu : ∀ r : Rd, (listR unitR 16 r).2.e = 0 → r.e = 0 := fun r h => by
    rcases Decidable.em (r.e = 0) with h0 | h0
    · exact h0
    · rw [list_err (fun r h => unit_err h) h0] at h; exact absurd h h0
  have hsm : ∀ r : Rd, (memR r).2.e = 0 → r.e = 0 := fun r h => by
    rcases Decidable.em (r.e = 0) with h0 | h0
    · exact h0
    · rw [mem_err h0] at h; exact absurd h h0
  have h3 := hsu _ h
  have h2 := hss _ h3
  have h1 := hsk _ h2
  have h0 := hsm _ h1
  obtain ⟨-, s2, s3⟩ := start_inv (r := ⟨bs, 0⟩) hb h0
  obtain ⟨-, m2, m3, m4⟩ := mem_inv.inv _ s3 h1
  obtain ⟨-, k2, ⟨k3, k4⟩, k5⟩ := (list_inv (most := 64) key_inv (fun r h => key_err h)).inv _ m4 h2
  obtain ⟨-, t2, ⟨t3, t4⟩, t5⟩ := (list_inv (most := 256) site_inv (fun r h => site_err h)).inv _ k5 h3
  obtain ⟨-, u2, ⟨u3, u4⟩, u5⟩ := (list_inv (most := 16) unit_inv (fun r h => unit_err h)).inv _ t5 h
  dsimp only at s2 m2 k2 t2 u2
  have hbm : Byt (memR (startR ⟨bs, 0⟩)).1 := by
    have hx := s3
    rw [m2] at hx
    intro i
    have h5 := hx (4 + i)
    by_cases hi : i < (memR (startR ⟨bs, 0⟩)).1.length
    · have e : (lb4 (memR (startR ⟨bs, 0⟩)).1.length ++ (memR (startR ⟨bs, 0⟩)).1 ++ (memR (startR ⟨bs, 0⟩)).2.l).getD (4 + i) 0 = (memR (startR ⟨bs, 0⟩)).1.getD i 0 := by
        simp only [List.getD, List.append_assoc]
        rw [List.getElem?_append_right (by rw [lb4_len]; omega), lb4_len, show 4 + i - 4 = i by omega, List.getElem?_append_left hi]
      rw [e] at h5; exact h5
    · have e : (memR (startR ⟨bs, 0⟩)).1.getD i 0 = 0 := by simp only [List.getD, List.getElem?_eq_none (Nat.le_of_not_lt hi), Option.getD_none]
      rw [e]; omega
  refine ⟨?_, ⟨m3, k3, k4, t3, t4, u3, u4⟩, hbm⟩
  unfold putI
  dsimp only
  simp only [List.append_assoc] at m2 k2 t2 u2 ⊢
  rw [← u2, ← t2, ← k2, ← m2]
  exact s2

end Go.Proofs.Ytgblohjdiheemaa

/- What is written already of an image's bytes: text, bytes, number. -/
namespace Go.Proofs.Ytgblohjdiheemaa
open Go.RowKit

/-- a text's bytes -/
def strL (s : ByteArray) : List Int := s.data.toList.map fun b => (b.toNat : Int)
theorem strL_len (s : ByteArray) : (strL s).length = s.size := by rw [strL, List.length_map, Array.length_toList]; rfl
theorem strL_cells (s : ByteArray) : Lib.strCells s = byts (strL s) := by simp [Lib.strCells, byts, strL]
theorem strL_byt (s : ByteArray) : Byt (strL s) := fun i => by
  by_cases h : i < (strL s).length
  · rw [List.getD_eq_getElem?_getD, List.getElem?_eq_getElem h]
    simp only [Option.getD_some, strL, List.getElem_map]
    have := (s.data.toList[i]'(by simpa [strL] using h)).toNat_lt
    omega
  · rw [List.getD_eq_getElem?_getD, List.getElem?_eq_none (by omega)]; simp

/-- all other blocks stay, but for bytes -/
def KpW (g : Nat) (w w' : World) : Prop := ∀ k T c, T ≠ 5 → k ≠ g → Blk w k T c → Blk w' k T c
theorem KpW.trans {g : Nat} {w w1 w2 : World} (h : KpW g w w1) (h' : KpW g w1 w2) : KpW g w w2 := fun k T c h1 h2 h3 => h' k T c h1 h2 (h k T c h1 h2 h3)
theorem KpW.of_below {g : Nat} {w w' : World} (h : Below w.heap.size w w') : KpW g w w' := fun _ _ _ _ _ h3 => h3.grow h
theorem below_row {w w' : World} {B : Nat} {v : Value} {xs : List Int} (hown : OwnV w B v xs) (hg : w.grownBy w' v.ownBlock) (hB : B ≤ w.heap.size) : ∀ w0, Below B w0 w → Below B w0 w' := fun w0 hb => hb.grown hg hB fun k hk => by
  rcases hown.shape with ⟨rfl, _⟩ | ⟨g, cap, rfl, ho⟩
  · simp [Value.ownBlock] at hk
  · simp [Value.ownBlock] at hk
    subst hk
    exact ho.base
/-- 'append(out, s...)', s a text -/
theorem wp_push_text {ops : Array Oper} {rest : List Oper} {o : Oper} {a : Act} {Q : Exit → Act → World → Prop} (w : World) (hgd : o.guard = none) (s x : Operand)
    (ho : o.op = .call { callee := .builtin .append, args := #[s, x], argTypes := #[25, 9] }) (B : Nat) (v : Value) (xs : List Int) (hs : a.eval s = v) (hown : OwnV w B v xs)
    (t : ByteArray) (hx : a.eval x = .string t) (hlen : xs.length + t.size ≤ 140737488355328) (hB : B ≤ w.heap.size)
    (h : ∀ v' w', OwnV w' B v' (xs ++ strL t) → w.grownBy w' v.ownBlock → (∀ w0, Below B w0 w → Below B w0 w') → wpList Try.prog ops Q rest (a.put o.dst v') w') :
    wpList Try.prog ops Q (o :: rest) a w := by
  obtain ⟨i0, hi, hz0, hz1, hz2⟩ := info_parts Try.info5
  refine Lib.wpList_append_own_string w hgd s x 25 9 ho B 5 i0 Try.underlying25 Try.underlying9 hi hz0 hz1 hz2 v xs.length (byts xs) hs hown t hx (by unfold maxLen; omega) hlen hB ?_
  intro v' w' h1 h2 _
  refine h v' w' ?_ h2 (below_row hown h2 hB)
  unfold OwnV
  rw [List.length_append, strL_len]
  simpa [byts, strL_cells] using h1
theorem grown_same (w : World) (r : Option Nat) : w.grownBy w r := ⟨rfl, rfl, rfl, Nat.le_refl _, fun _ _ _ => rfl⟩
/-- 'append(out, b...)', b a slice that came in: what is behind it of all other blocks, too -/
theorem wp_push_own {ops : Array Oper} {rest : List Oper} {o : Oper} {a : Act} {Q : Exit → Act → World → Prop} (w : World) (hgd : o.guard = none) (s x : Operand)
    (ho : o.op = .call { callee := .builtin .append, args := #[s, x], argTypes := #[25, 25] }) (B : Nat) (v : Value) (xs : List Int) (hs : a.eval s = v) (hown : OwnV w B v xs)
    (q : Option Addr) (m d : Nat) (ys : List Int) (hx : a.eval x = .slice q m d) (hl : ys.length = m) (hrow : Row w q ys) (hq : q = none → m = 0 ∧ d = 0)
    (hlen : xs.length + m ≤ 140737488355328) (hB : B ≤ w.heap.size)
    (h : ∀ v' w', OwnV w' B v' (xs ++ ys) → w.grownBy w' v.ownBlock → (∀ w0, Below B w0 w → Below B w0 w') → wpList Try.prog ops Q rest (a.put o.dst v') w') :
    wpList Try.prog ops Q (o :: rest) a w := by
  cases q with
  | none =>
    obtain ⟨rfl, rfl⟩ := hq rfl
    obtain rfl : ys = [] := List.eq_nil_of_length_eq_zero hl
    obtain ⟨i0, hi, hz0, hz1, hz2⟩ := info_parts Try.info5
    exact wpList_append_own_none hgd s x 25 ho B 5 i0 1 Try.underlying25 hi v xs.length (byts xs) hs hown hx (h v w (by rw [List.append_nil]; exact hown) (grown_same _ _) fun _ hb => hb)
  | some ad =>
    refine wp_push w hgd s x ho B v xs hs hown ad m d ys hx hl (fun j u hj => ?_) hlen hB fun v' w' h1 h2 h3 _ => h v' w' h1 h2 h3
    have hjl : j < ys.length := by
      rcases Nat.lt_or_ge j ys.length with h | h
      · exact h
      · rw [List.getElem?_eq_none (by simpa using h)] at hj; cases hj
    obtain ⟨b, off, e, hc⟩ := hrow (by omega)
    cases e
    rw [getD_byts ys j hjl] at hj
    rw [← hj, ← hc j hjl, Go.WideShapes.add_plain]

theorem put_lb4 (n : Nat) (h : n < 4294967296) : putL (List.replicate 4 0) (0 : Int).toNat n = lb4 n := by
  simp [putL, lb4, List.replicate, List.set]
  omega
end Go.Proofs.Ytgblohjdiheemaa

/- P9.3, which images are right, as lists. -/
namespace Go.Proofs.Ytgblohjdiheemaa
open Go.RowKit

/-- an image, its keys as texts -/
structure IM where
  bs : List Int
  ks : List ByteArray
  si : List Si
  un : List Int
def IM.im (m : IM) : Im := ⟨m.bs, m.ks.map strL, m.si, m.un⟩
def noIM : IM := ⟨[], [], [], []⟩
def keyP (ks : List ByteArray) (i : Nat) : Bool := !inB (ks.getD i default) (ks.take i) && nmB (ks.getD i default)
def keysB (ks : List ByteArray) : Bool := (List.range ks.length).all (keyP ks)
def quietB (bs : List Int) (si : List Si) : Bool := si.all fun s => stB bs s.at_ quiet
def lastU (un : List Int) (i : Nat) : Int := if i = 0 then 0 else un.getD (i - 1) 0
def unP (n : Nat) (un : List Int) (i : Nat) : Bool := decide (lastU un i ≤ un.getD i 0 ∧ un.getD i 0 % 4 = 0 ∧ un.getD i 0 ≤ n)
def unitsB (n : Nat) (un : List Int) : Bool := decide (un.length ≤ 16 ∧ un.getD 0 0 = 0) && (List.range un.length).all (unP n un)
def okI (m : IM) : Bool := decide (m.bs.length ≤ 65536) && rightS m.si m.ks.length && keysB m.ks && quietB m.bs m.si && unitsB m.bs.length m.un

theorem range_no {n i : Nat} {f : Nat → Bool} (hi : i < n) (h : f i = false) : (List.range n).all f = false := by
  rw [List.all_eq_false]; exact ⟨i, List.mem_range.2 hi, by simp [h]⟩
theorem range_yes {n : Nat} {f : Nat → Bool} (h : ∀ i, i < n → f i = true) : (List.range n).all f = true := by
  rw [List.all_eq_true]; exact fun i hi => h i (List.mem_range.1 hi)
theorem all_no {α : Type} {L : List α} {f : α → Bool} {i : Nat} (hi : i < L.length) (h : f L[i] = false) : L.all f = false := by
  rw [List.all_eq_false]; exact ⟨L[i], List.getElem_mem hi, by simp [h]⟩
theorem all_yes {α : Type} {L : List α} {f : α → Bool} (h : ∀ i (hi : i < L.length), f L[i] = true) : L.all f = true := by
  rw [List.all_eq_true]
  intro x hx
  obtain ⟨i, hi, rfl⟩ := List.getElem_of_mem hx
  exact h i hi

def keySy (k : ByteArray) : Sy := ⟨k, 0, false⟩
theorem rs_keys : ∀ (ks seen : List ByteArray), rsL 0 0 seen (ks.map keySy) = (List.range ks.length).all fun i => !inB (ks.getD i default) (seen ++ ks.take i) && nmB (ks.getD i default)
  | [], _ => rfl
  | k :: r, seen => by
    rw [List.map_cons, rsL, List.length_cons, List.range_succ_eq_map, List.all_cons, List.all_map]
    show (symB 0 0 seen (keySy k) && rsL 0 0 (seen ++ [k]) (r.map keySy)) = _
    rw [rs_keys r (seen ++ [k])]
    congr 1
    · simp [symB, keySy]
    · congr 1
      funext i
      simp
theorem keys_ok (ks : List ByteArray) : okO ⟨[], ks.map keySy, [], []⟩ = (decide (ks.length ≤ 4096) && keysB ks) := by
  unfold okO
  have h := rs_keys ks []
  simp only [List.length_nil, List.length_map, rfL, rmL, Bool.and_true]
  rw [h, show (fun i => !inB (ks.getD i default) ([] ++ ks.take i) && nmB (ks.getD i default)) = keyP ks from by funext i; rfl]
  simp [keysB]

theorem okI_parts {m : IM} (h : okI m = true) : m.bs.length ≤ 65536 ∧ rightS m.si m.ks.length = true ∧ keysB m.ks = true ∧ quietB m.bs m.si = true ∧ unitsB m.bs.length m.un = true := by
  unfold okI at h
  simp only [Bool.and_eq_true, decide_eq_true_eq] at h
  exact ⟨h.1.1.1.1, h.1.1.1.2, h.1.1.2, h.1.2, h.2⟩
theorem keysB_at {ks : List ByteArray} (h : keysB ks = true) (i : Nat) (hi : i < ks.length) : nmB (ks[i]) = true := by
  unfold keysB at h
  rw [List.all_eq_true] at h
  have := h i (List.mem_range.2 hi)
  unfold keyP at this
  rw [List.getD_eq_getElem?_getD, List.getElem?_eq_getElem hi] at this
  simp only [Option.getD_some, Bool.and_eq_true] at this
  exact this.2
theorem units_num {n : Nat} {un : List Int} (hn : n ≤ 65536) (h : (List.range un.length).all (unP n un) = true) : ∀ (i : Nat) (hi : i < un.length), 0 ≤ un[i] ∧ un[i] ≤ 2147483647 := by
  rw [List.all_eq_true] at h
  have hP : ∀ i (hi : i < un.length), lastU un i ≤ un[i] ∧ un[i] ≤ n := fun i hi => by
    have := h i (List.mem_range.2 hi)
    unfold unP at this
    rw [List.getD_eq_getElem?_getD, List.getElem?_eq_getElem hi] at this
    simp only [Option.getD_some, decide_eq_true_eq] at this
    exact ⟨this.1, this.2.2⟩
  intro i
  induction i with
  | zero => intro hi; have := hP 0 hi; simp only [lastU, if_true] at this; omega
  | succ i ih =>
    intro hi
    have h1 := ih (by omega)
    have h2 := hP (i + 1) hi
    unfold lastU at h2
    rw [if_neg (by omega), Nat.add_sub_cancel, List.getD_eq_getElem?_getD, List.getElem?_eq_getElem (by omega)] at h2
    simp only [Option.getD_some] at h2
    omega
/-- a right image's numbers all fit -/
theorem okI_im {m : IM} (h : okI m = true) : ImB m.im := by
  obtain ⟨h1, h2, h3, _, h5⟩ := okI_parts h
  unfold rightS at h2
  simp only [Bool.and_eq_true, decide_eq_true_eq] at h2
  obtain ⟨⟨⟨⟨_, h6, h7⟩, h8⟩, _⟩, _⟩ := h2
  unfold unitsB at h5
  simp only [Bool.and_eq_true, decide_eq_true_eq] at h5
  refine ⟨h1, ?_, ?_, h7, ?_, h5.1.1, ?_⟩
  · show (m.ks.map strL).length ≤ 64
    rw [List.length_map]; omega
  · intro k hk
    obtain ⟨s, hs, rfl⟩ := List.mem_map.1 (show k ∈ m.ks.map strL from hk)
    obtain ⟨i, hi, rfl⟩ := List.getElem_of_mem hs
    rw [strL_len]
    exact ((nmB_iff _).1 (keysB_at h3 i hi)).2.2
  · intro s hs
    have := List.all_eq_true.1 h8 s hs
    unfold siteB at this
    simp only [Bool.and_eq_true, decide_eq_true_eq] at this
    unfold sNum
    omega
  · intro u hu
    obtain ⟨i, hi, rfl⟩ := List.getElem_of_mem (show u ∈ m.un from hu)
    unfold sNum
    exact units_num h1 h5.2 i hi
end Go.Proofs.Ytgblohjdiheemaa

/- Ours: what Views tells, as lists: its map, event by event; its order. -/
namespace Go.Proofs.Ytgblohjdiheemaa
open Go.RowKit

/-- the count of a hart at a site in a part of the list -/
def ctJ (si : List Si) (L M : List Fv) (h : Int) (i : Nat) : Ct := cntC (callL L (si.getD i default).key) h (si.getD i default).at_ M
def vwF (si : List Si) (L M : List Fv) (k : Vi) : Option Vw :=
  if 0 ≤ k.s ∧ k.s < si.length ∧ 0 < (ctJ si L M k.h k.s.toNat).o + (ctJ si L M k.h k.s.toNat).n then some ⟨0, 0, (ctJ si L M k.h k.s.toNat).o, (ctJ si L M k.h k.s.toNat).n, (ctJ si L M k.h k.s.toNat).m⟩ else none
theorem vwF_nil (si : List Si) (L : List Fv) : vwF si L [] = fun _ => none := by
  funext k
  unfold vwF
  rw [if_neg]
  rintro ⟨_, _, h⟩
  exact absurd h (by simp [ctJ, cntC])
/-- no two sites at one place -/
def AtOne (si : List Si) : Prop := ∀ i j, i < si.length → j < si.length → (si.getD i default).at_ = (si.getD j default).at_ → i = j
theorem ctJ_skip {si : List Si} {L M : List Fv} {x : Fv} {h : Int} {i : Nat} (hx : ¬ (x.h = h ∧ x.p = (si.getD i default).at_ ∧ dd x ≠ 0)) : ctJ si L (M ++ [x]) h i = ctJ si L M h i := by
  unfold ctJ
  rw [cntC_snoc]
  unfold stepC
  rw [if_neg hx]
theorem vwF_skip {si : List Si} {L M : List Fv} {x : Fv} (hx : dd x = 0 ∨ ∀ i, i < si.length → (si.getD i default).at_ ≠ x.p) : vwF si L (M ++ [x]) = vwF si L M := by
  funext k
  unfold vwF
  by_cases h : 0 ≤ k.s ∧ k.s < si.length
  · have e : ctJ si L (M ++ [x]) k.h k.s.toNat = ctJ si L M k.h k.s.toNat := ctJ_skip (by
      rintro ⟨_, h2, h3⟩
      rcases hx with h4 | h4
      · exact h3 h4
      · exact h4 _ (by omega) h2.symm)
    rw [e]
  · rw [if_neg (by rintro ⟨a, b, _⟩; exact h ⟨a, b⟩), if_neg (by rintro ⟨a, b, _⟩; exact h ⟨a, b⟩)]
theorem cntC_zero (c : Option Int) (h a : Int) (L : List Fv) : (cntC c h a L).m = true → 0 < (cntC c h a L).o := by
  suffices H : ∀ (L : List Fv) (v : Ct), (v.m = true → 0 < v.o) → (L.foldl (stepC c h a) v).m = true → 0 < (L.foldl (stepC c h a) v).o from H L ⟨0, 0, false⟩ (fun e => by cases e)
  intro L
  induction L with
  | nil => intro v hv; exact hv
  | cons x L ih =>
    intro v hv
    rw [List.foldl_cons]
    refine ih _ ?_
    unfold stepC
    split
    · split
      · exact hv
      · intro _; exact Nat.succ_pos _
    · exact hv
def ctV (c : Ct) : Vw := ⟨0, 0, c.o, c.n, c.m⟩
theorem vwF_get (si : List Si) (L M : List Fv) (h : Int) (i : Nat) (hi : i < si.length) : (vwF si L M ⟨h, i⟩).getD ⟨0, 0, 0, 0, false⟩ = ctV (ctJ si L M h i) := by
  unfold vwF
  dsimp only
  rw [Int.toNat_natCast]
  have hz := cntC_zero (callL L (si.getD i default).key) h (si.getD i default).at_ M
  by_cases h0 : 0 < (ctJ si L M h i).o + (ctJ si L M h i).n
  · rw [if_pos ⟨by omega, by omega, h0⟩]
    rfl
  · rw [if_neg (by rintro ⟨_, _, h1⟩; exact h0 h1)]
    rw [Option.getD_none]
    have hz : (ctJ si L M h i).m = true → 0 < (ctJ si L M h i).o := hz
    generalize ctJ si L M h i = c at *
    obtain ⟨co, cn, cm⟩ := c
    dsimp only at *
    have e1 : co = 0 := by omega
    have e2 : cn = 0 := by omega
    subst e1 e2
    cases cm
    · rfl
    · exact absurd (hz rfl) (by omega)
theorem with_ct (c : Ct) (b : Bool) : withV (ctV c) b = ctV (if b then { c with n := c.n + 1 } else { c with o := c.o + 1, m := c.m || decide (0 < c.n) }) := by
  obtain ⟨o, n, m⟩ := c
  cases b with
  | true => simp [withV, ctV]
  | false => simp [withV, ctV]
theorem vwF_put {si : List Si} {L M : List Fv} {x : Fv} (ha : AtOne si) (hd : dd x ≠ 0) (i : Nat) (hi : i < si.length) (hp : (si.getD i default).at_ = x.p) :
    upd (vwF si L M) ⟨x.h, i⟩ (withV ((vwF si L M ⟨x.h, i⟩).getD ⟨0, 0, 0, 0, false⟩) (nwB (callL L (si.getD i default).key) (dd x))) = vwF si L (M ++ [x]) := by
  funext k
  by_cases e : k = ⟨x.h, (i : Int)⟩
  · subst e
    rw [upd_same, vwF_get si L M x.h i hi, with_ct]
    have hs : ctJ si L (M ++ [x]) x.h i = stepC (callL L (si.getD i default).key) x.h (si.getD i default).at_ (ctJ si L M x.h i) x := by unfold ctJ; rw [cntC_snoc]
    have hs2 : stepC (callL L (si.getD i default).key) x.h (si.getD i default).at_ (ctJ si L M x.h i) x = (if nwB (callL L (si.getD i default).key) (dd x) then { ctJ si L M x.h i with n := (ctJ si L M x.h i).n + 1 } else { ctJ si L M x.h i with o := (ctJ si L M x.h i).o + 1, m := (ctJ si L M x.h i).m || decide (0 < (ctJ si L M x.h i).n) }) := by
      unfold stepC
      rw [if_pos ⟨rfl, hp.symm, hd⟩]
    rw [hs2] at hs
    rw [← hs]
    unfold vwF
    dsimp only
    rw [Int.toNat_natCast]
    have h0 : 0 < (ctJ si L (M ++ [x]) x.h i).o + (ctJ si L (M ++ [x]) x.h i).n := by rw [hs]; split <;> simp <;> omega
    rw [if_pos ⟨by omega, by omega, h0⟩]
    rfl
  · rw [upd_other _ _ e]
    by_cases h : 0 ≤ k.s ∧ k.s < si.length
    · have e2 : ctJ si L (M ++ [x]) k.h k.s.toNat = ctJ si L M k.h k.s.toNat := ctJ_skip (by
        rintro ⟨h1, h2, _⟩
        have h4 := ha k.s.toNat i (by omega) hi (by rw [hp, h2])
        refine e ?_
        obtain ⟨kh, ks⟩ := k
        dsimp only at *
        rw [h1, ← h4, Int.toNat_of_nonneg h.1])
      unfold vwF
      rw [e2]
    · unfold vwF
      rw [if_neg (by rintro ⟨a, b, _⟩; exact h ⟨a, b⟩), if_neg (by rintro ⟨a, b, _⟩; exact h ⟨a, b⟩)]
theorem sorted_eq : ∀ (a b : List Vi), (a.Pairwise fun x y => ltV x y = true) → (b.Pairwise fun x y => ltV x y = true) → (∀ x, x ∈ a ↔ x ∈ b) → a = b
  | [], [], _, _, _ => rfl
  | [], y :: b, _, _, h => absurd ((h y).2 (by simp)) (by simp)
  | x :: a, [], _, _, h => absurd ((h x).1 (by simp)) (by simp)
  | x :: a, y :: b, ha, hb, h => by
    obtain ⟨a1, a2⟩ := List.pairwise_cons.1 ha
    obtain ⟨b1, b2⟩ := List.pairwise_cons.1 hb
    have hxy : x = y := by
      rcases List.mem_cons.1 ((h x).1 List.mem_cons_self) with e | h1
      · exact e
      · rcases List.mem_cons.1 ((h y).2 List.mem_cons_self) with e | h2
        · exact e.symm
        · have h3 := ltV_trans (b1 x h1) (a1 y h2)
          rw [ltV_irrefl] at h3
          cases h3
    subst hxy
    have := sorted_eq a b a2 b2 (fun z => by
      have hz := h z
      constructor
      · intro hza
        rcases List.mem_cons.1 (hz.1 (List.mem_cons_of_mem _ hza)) with e | e
        · subst e
          have := a1 z hza
          rw [ltV_irrefl] at this
          cases this
        · exact e
      · intro hzb
        rcases List.mem_cons.1 (hz.2 (List.mem_cons_of_mem _ hzb)) with e | e
        · subst e
          have := b1 z hzb
          rw [ltV_irrefl] at this
          cases this
        · exact e)
    rw [this]
/-- the keys in the reference's order -/
def rowK (si : List Si) (L : List Fv) (h : Int) : List Vi := (List.range si.length).filterMap fun i => if 0 < (ctS si L h i).o + (ctS si L h i).n then some ⟨h, i⟩ else none
def keysV (si : List Si) (L : List Fv) : List Vi := (hartsL L).flatMap (rowK si L)
theorem rowK_mem {si : List Si} {L : List Fv} {h : Int} {x : Vi} : x ∈ rowK si L h ↔ x.h = h ∧ ∃ i : Nat, i < si.length ∧ x.s = i ∧ 0 < (ctS si L h i).o + (ctS si L h i).n := by
  unfold rowK
  rw [List.mem_filterMap]
  constructor
  · rintro ⟨i, hi, e⟩
    split at e
    · rename_i hc
      injection e with e
      subst e
      exact ⟨rfl, i, List.mem_range.1 hi, rfl, hc⟩
    · cases e
  · rintro ⟨e, i, hi, e2, hc⟩
    refine ⟨i, List.mem_range.2 hi, ?_⟩
    rw [if_pos hc]
    obtain ⟨xh, xs⟩ := x
    dsimp only at *
    rw [e, e2]
theorem rowK_sorted (si : List Si) (L : List Fv) (h : Int) : (rowK si L h).Pairwise fun x y => ltV x y = true := by
  unfold rowK
  refine List.Pairwise.filterMap _ ?_ List.pairwise_lt_range
  intro i j hij b hb b' hb'
  split at hb
  · split at hb'
    · injection hb with hb
      injection hb' with hb'
      subst hb hb'
      unfold ltV
      simp only [decide_eq_true_eq]
      exact .inr ⟨trivial, by omega⟩
    · cases hb'
  · cases hb
theorem keysV_sorted (si : List Si) (L : List Fv) : (keysV si L).Pairwise fun x y => ltV x y = true := by
  unfold keysV
  refine List.pairwise_flatMap.2 ⟨fun h _ => rowK_sorted si L h, ?_⟩
  refine (hartsL_rise L).imp ?_
  intro a b hab x hx y hy
  have h1 := (rowK_mem.1 hx).1
  have h2 := (rowK_mem.1 hy).1
  unfold ltV
  simp only [decide_eq_true_eq]
  omega
theorem keysV_mem {si : List Si} {L : List Fv} {x : Vi} (hok : ∀ y ∈ L, FvOk y) (hn : si.length ≤ 1048576) : x ∈ keysV si L ↔ viOk x ∧ (vwF si L L x).isSome = true := by
  unfold keysV
  rw [List.mem_flatMap]
  constructor
  · rintro ⟨h, hh, hx⟩
    obtain ⟨e, i, hi, e2, hc⟩ := rowK_mem.1 hx
    obtain ⟨y, hy, ey⟩ := (hartsL_mem L h).1 hh
    obtain ⟨xh, xs⟩ := x
    dsimp only at *
    subst e e2
    refine ⟨⟨by rw [← ey]; exact (hok y hy).h, by show i64P (i : Int); unfold i64P; omega⟩, ?_⟩
    unfold vwF
    dsimp only
    rw [Int.toNat_natCast, if_pos ⟨by omega, by omega, hc⟩]
    rfl
  · rintro ⟨ok, hs⟩
    unfold vwF at hs
    split at hs
    · rename_i hc
      obtain ⟨h1, h2, h3⟩ := hc
      obtain ⟨y, hy, ey, _⟩ := cntC_pos h3
      exact ⟨x.h, (hartsL_mem L x.h).2 ⟨y, hy, ey⟩, rowK_mem.2 ⟨rfl, x.s.toNat, by omega, (Int.toNat_of_nonneg h1).symm, h3⟩⟩
    · cases hs
theorem keysV_map (si : List Si) (L : List Fv) : (keysV si L).map (whoV (vwF si L L)) = viewsL si L := by
  unfold keysV viewsL
  rw [List.map_flatMap]
  congr 1
  funext h
  unfold rowK rowV
  rw [List.map_filterMap]
  have : ∀ l : List Nat, (∀ i ∈ l, i < si.length) → l.filterMap (fun i => Option.map (whoV (vwF si L L)) (if 0 < (ctS si L h i).o + (ctS si L h i).n then some (⟨h, i⟩ : Vi) else none)) = l.filterMap (fun i => if 0 < (ctS si L h i).o + (ctS si L h i).n then some (vw1 si L h i) else none) := by
    intro l
    induction l with
    | nil => intro _; rfl
    | cons i l ih =>
      intro hl
      have hi := hl i List.mem_cons_self
      have ih := ih (fun j hj => hl j (List.mem_cons_of_mem _ hj))
      by_cases hc : 0 < (ctS si L h i).o + (ctS si L h i).n
      · rw [List.filterMap_cons_some (b := whoV (vwF si L L) ⟨h, i⟩) (by rw [if_pos hc]; rfl), List.filterMap_cons_some (b := vw1 si L h i) (by rw [if_pos hc]), ih]
        congr 1
        unfold whoV
        rw [vwF_get si L L h i hi]
        rfl
      · rw [List.filterMap_cons_none (by rw [if_neg hc]; rfl), List.filterMap_cons_none (by rw [if_neg hc]), ih]
  exact this _ (fun i hi => List.mem_range.1 hi)
/-- what is in the map, in order, is P23.1's list -/
theorem views_order {si : List Si} {L : List Fv} {ss : List Vi} (hok : ∀ y ∈ L, FvOk y) (hn : si.length ≤ 1048576) (hs : ss.Pairwise fun a b => ltV a b = true) (hm : ∀ x, x ∈ ss ↔ viOk x ∧ (vwF si L L x).isSome = true) : ss.map (whoV (vwF si L L)) = viewsL si L := by
  rw [sorted_eq ss (keysV si L) hs (keysV_sorted si L) (fun x => by rw [hm, keysV_mem hok hn]), keysV_map]
/-- the map by places -/
theorem sitM_some {si : List Si} : ∀ (j : Nat) (a z : Int), sitM si j a = some z → ∃ i : Nat, i < j ∧ z = i ∧ (si.getD i default).at_ = a
  | 0, a, z, h => by cases h
  | j + 1, a, z, h => by
    unfold sitM at h
    by_cases e : a = (si.getD j default).at_
    · rw [e, upd_same] at h
      injection h with h
      exact ⟨j, Nat.lt_succ_self _, h.symm, e.symm⟩
    · rw [upd_other _ _ e] at h
      obtain ⟨i, h1, h2, h3⟩ := sitM_some j a z h
      exact ⟨i, by omega, h2, h3⟩
theorem sitM_none {si : List Si} : ∀ (j : Nat) (a : Int), sitM si j a = none → ∀ i, i < j → (si.getD i default).at_ ≠ a
  | 0, _, _, i, hi => absurd hi (by omega)
  | j + 1, a, h, i, hi => by
    unfold sitM at h
    by_cases e : a = (si.getD j default).at_
    · rw [e, upd_same] at h
      cases h
    · rw [upd_other _ _ e] at h
      by_cases h2 : i = j
      · subst h2; exact fun e' => e e'.symm
      · exact sitM_none j a h i (by omega)
theorem okI_one {m : IM} (h : okI m = true) : AtOne m.si ∧ m.si.length ≤ 256 ∧ ∀ s ∈ m.si, i64P s.at_ ∧ i64P s.key := by
  obtain ⟨_, h2, _⟩ := okI_parts h
  unfold rightS at h2
  simp only [Bool.and_eq_true, decide_eq_true_eq] at h2
  obtain ⟨⟨⟨⟨_, h6, h7⟩, h8⟩, _⟩, h10⟩ := h2
  refine ⟨fun i j hi hj e => ?_, h7, fun s hs => ?_⟩
  · rw [List.getD_eq_getElem?_getD, List.getD_eq_getElem?_getD, List.getElem?_eq_getElem hi, List.getElem?_eq_getElem hj] at e
    simp only [Option.getD_some] at e
    rw [List.pairwise_iff_getElem] at h10
    by_cases hij : i = j
    · exact hij
    · exfalso
      rcases Nat.lt_or_gt_of_ne hij with hl | hl
      · exact h10 i j hi hj hl (by omega)
      · exact h10 j i hj hi hl (by omega)
  · rw [List.all_eq_true] at h8
    have := h8 s hs
    unfold siteB at this
    simp only [Bool.and_eq_true, decide_eq_true_eq] at this
    obtain ⟨⟨a, b, c, d, _⟩, _⟩ := this
    unfold i64P
    omega
end Go.Proofs.Ytgblohjdiheemaa

/- switchyardkit.SameSymbols, SameFixes, SameMarks; slices.Equal of symbols, fixes, marks. -/
namespace Go.Proofs.Ytgblohjdiheemaa
open Go.RowKit

theorem take_step {α : Type} {L M : List α} {k : Nat} (h : L.take k = M.take k) (h1 : k < L.length) (h2 : k < M.length) (e : L[k] = M[k]) : L.take (k + 1) = M.take (k + 1) := by
  rw [List.take_succ_eq_append_getElem h1, List.take_succ_eq_append_getElem h2, h, e]
theorem take_all {α : Type} {L M : List α} {k : Nat} (h : L.take k = M.take k) (h1 : L.length ≤ k) (h2 : M.length ≤ k) : L = M := by
  rw [← List.take_of_length_le h1, h, List.take_of_length_le h2]
theorem drewN_two (w : World) (a b : Nat) : (w.drewN a).drewN b = w.drewN (a + b) := by simp
theorem text_ne3 {s t : ByteArray} (h : ¬ s = t) : ¬ s.toList = t.toList := fun e => h (by rw [toList_eq, toList_eq] at e; exact ByteArray.ext (Array.toList_inj.1 e))

end Go.Proofs.Ytgblohjdiheemaa

/- switchyardkit.CopySymbols, CopyFixes, CopyMarks. -/
namespace Go.Proofs.Ytgblohjdiheemaa
open Go.RowKit

end Go.Proofs.Ytgblohjdiheemaa
