/- Texts put together: StoL, StoM, Lit, Copy, PushRow, WrtW, IRgL. -/
import Derived.Test.YtgblohjdiheemaaGreatKaa
import Derived.Test.YtgblohjdiheemaaGreatKag
import Derived.Test.YtgblohjdiheemaaGreatKae
import Derived.Laws.AppendOwnNone
import Derived.Test.YtgblohjdiheemaaGreatKab
import Derived.Lib.AppendStr
import Derived.OneCell
import Derived.Test.YtgblohjdiheemaaGreatKac

/- What the chapter on store says, as lists: an image's bytes, and back. -/
namespace Go.Proofs.YtgblohjdiheemaaGreat
open Go.RowKit

/-! ### numbers as four bytes -/
def lb4 (n : Nat) : List Int := [((n % 256 : Nat) : Int), ((n / 256 % 256 : Nat) : Int), ((n / 65536 % 256 : Nat) : Int), ((n / 16777216 % 256 : Nat) : Int)]
theorem lb4_len (n : Nat) : (lb4 n).length = 4 := rfl
theorem byt_cons {x : Int} {xs : List Int} (hx : 0 ≤ x ∧ x ≤ 255) (h : Byt xs) : Byt (x :: xs) := fun i => by
  cases i with
  | zero => simpa using hx
  | succ i => simpa using h i
theorem byt_app {xs ys : List Int} (h : Byt xs) (h' : Byt ys) : Byt (xs ++ ys) := fun i => by
  by_cases hi : i < xs.length
  · have e : (xs ++ ys).getD i 0 = xs.getD i 0 := by simp only [List.getD, List.getElem?_append_left hi]
    rw [e]; exact h i
  · have e : (xs ++ ys).getD i 0 = ys.getD (i - xs.length) 0 := by simp only [List.getD, List.getElem?_append_right (Nat.le_of_not_lt hi)]
    rw [e]; exact h' _
theorem byt_dropS {xs : List Int} (h : Byt xs) (n : Nat) : Byt (xs.drop n) := fun i => by
  have e : (xs.drop n).getD i 0 = xs.getD (n + i) 0 := by simp only [List.getD, List.getElem?_drop]
  rw [e]; exact h _
theorem byt_takeS {xs : List Int} (h : Byt xs) (n : Nat) : Byt (xs.take n) := fun i => by
  by_cases hi : i < n
  · have e : (xs.take n).getD i 0 = xs.getD i 0 := by simp only [List.getD, List.getElem?_take_of_lt hi]
    rw [e]; exact h i
  · have e : (xs.take n).getD i 0 = 0 := by simp only [List.getD, List.getElem?_eq_none (show (xs.take n).length ≤ i by rw [List.length_take]; omega), Option.getD_none]
    rw [e]; omega
theorem lb4_byt (n : Nat) : Byt (lb4 n) :=
  byt_cons (by omega) (byt_cons (by omega) (byt_cons (by omega) (byt_cons (by omega) (fun i => by simp))))
theorem lb4_num (n : Nat) (h : n < 4294967296) : n4 (lb4 n) 0 = n := by
  unfold n4 num4 lb4
  simp only [List.getD, List.getElem?_cons_zero, List.getElem?_cons_succ, Option.getD_some, Nat.zero_add]
  omega
theorem lb4_back {p : List Int} (hl : p.length = 4) (h : Byt p) : lb4 (n4 p 0).toNat = p := by
  match p, hl with
  | [a, b, c, d], _ =>
    have h0 := h 0
    have h1 := h 1
    have h2 := h 2
    have h3 := h 3
    simp only [List.getD, List.getElem?_cons_zero, List.getElem?_cons_succ, Option.getD_some] at h0 h1 h2 h3
    unfold n4 num4 lb4
    simp only [List.getD, List.getElem?_cons_zero, List.getElem?_cons_succ, Option.getD_some, Nat.zero_add]
    refine List.cons_eq_cons.2 ⟨by omega, List.cons_eq_cons.2 ⟨by omega, List.cons_eq_cons.2 ⟨by omega, List.cons_eq_cons.2 ⟨by omega, rfl⟩⟩⟩⟩

/-! ### an image -/
structure Im where
  bs : List Int
  ks : List (List Int)
  si : List Si
  un : List Int
def noIm : Im := ⟨[], [], [], []⟩
def keyB (k : List Int) : List Int := lb4 k.length ++ k
def siteL (s : Si) : List Int := lb4 s.key.toNat ++ (lb4 s.at_.toNat ++ lb4 s.to_.toNat)
def swy : List Int := [83, 87, 89, 49]
def putI (m : Im) : List Int := swy ++ (lb4 m.bs.length ++ (m.bs ++ (lb4 m.ks.length ++ (m.ks.flatMap keyB ++ (lb4 m.si.length ++ (m.si.flatMap siteL ++ (lb4 m.un.length ++ m.un.flatMap fun u => lb4 u.toNat)))))))

/-! ### what is left of the bytes, and the first error -/
structure Rd where
  l : List Int
  e : Int
def partR (n : Nat) (r : Rd) : List Int × Rd := if r.e ≠ 0 then ([], r) else if r.l.length < n then ([], ⟨r.l, 4⟩) else (r.l.take n, ⟨r.l.drop n, 0⟩)
def numR (most : Nat) (r : Rd) : Nat × Rd :=
  if (partR 4 r).2.e ≠ 0 then (0, (partR 4 r).2) else if most < (n4 (partR 4 r).1 0).toNat then (0, ⟨(partR 4 r).2.l, 200⟩) else ((n4 (partR 4 r).1 0).toNat, (partR 4 r).2)
def startR (r : Rd) : Rd := if (partR 4 r).2.e = 0 ∧ (partR 4 r).1 ≠ swy then ⟨(partR 4 r).2.l, 200⟩ else (partR 4 r).2
def memR (r : Rd) : List Int × Rd := partR (numR 65536 r).1 (numR 65536 r).2
def keyR (r : Rd) : List Int × Rd := partR (numR 16 r).1 (numR 16 r).2
def siteR (r : Rd) : Si × Rd :=
  let a := numR 2147483647 r
  let b := numR 2147483647 a.2
  let c := numR 2147483647 b.2
  (⟨(a.1 : Int), (b.1 : Int), (c.1 : Int)⟩, c.2)
def unitR (r : Rd) : Int × Rd := (((numR 2147483647 r).1 : Int), (numR 2147483647 r).2)
def manyR {α : Type} (f : Rd → α × Rd) : Nat → Rd → List α × Rd
  | 0, r => ([], r)
  | n + 1, r => ((f r).1 :: (manyR f n (f r).2).1, (manyR f n (f r).2).2)
def listR {α : Type} (f : Rd → α × Rd) (most : Nat) (r : Rd) : List α × Rd := manyR f (numR most r).1 (numR most r).2
/-- all parts: the image, and what is left -/
def allR (bs : List Int) : Im × Rd :=
  let r0 := startR ⟨bs, 0⟩
  let a := memR r0
  let b := listR keyR 64 a.2
  let c := listR siteR 256 b.2
  let d := listR unitR 16 c.2
  (⟨a.1, b.1, c.1, d.1⟩, d.2)
def endR (r : Rd) : Int := if r.e = 0 ∧ 0 < r.l.length then 200 else r.e

/-! ### errors stay -/
theorem part_err {n : Nat} {r : Rd} (h : r.e ≠ 0) : partR n r = ([], r) := if_pos h
theorem num_err {m : Nat} {r : Rd} (h : r.e ≠ 0) : numR m r = (0, r) := by
  unfold numR; rw [part_err h, if_pos h]
theorem start_err {r : Rd} (h : r.e ≠ 0) : startR r = r := by
  unfold startR; rw [part_err h, if_neg (fun x => h x.1)]
theorem mem_err {r : Rd} (h : r.e ≠ 0) : (memR r).2 = r := by
  unfold memR; rw [num_err h, part_err h]
theorem key_err {r : Rd} (h : r.e ≠ 0) : (keyR r).2 = r := by
  unfold keyR; rw [num_err h, part_err h]
theorem site_err {r : Rd} (h : r.e ≠ 0) : (siteR r).2 = r := by
  unfold siteR; simp only [num_err h]
theorem unit_err {r : Rd} (h : r.e ≠ 0) : (unitR r).2 = r := by
  unfold unitR; rw [num_err h]
theorem many_err {α : Type} {f : Rd → α × Rd} (hf : ∀ r, r.e ≠ 0 → (f r).2 = r) : ∀ (n : Nat) {r : Rd}, r.e ≠ 0 → (manyR f n r).2 = r
  | 0, _, _ => rfl
  | n + 1, r, h => by
    simp only [manyR]
    rw [hf r h]
    exact many_err hf n h
theorem list_err {α : Type} {f : Rd → α × Rd} (hf : ∀ r, r.e ≠ 0 → (f r).2 = r) {m : Nat} {r : Rd} (h : r.e ≠ 0) : (listR f m r).2 = r := by
  unfold listR; rw [num_err h]; exact many_err hf _ h

/-! ### a reader that eats just these bytes -/
structure Eats {α : Type} (f : Rd → α × Rd) (u : List Int) (a : α) : Prop where
  all : ∀ v, f ⟨u ++ v, 0⟩ = (a, ⟨v, 0⟩)
  cut : ∀ k, k < u.length → (f ⟨u.take k, 0⟩).2.e = 4
theorem part_eats (xs : List Int) : Eats (partR xs.length) xs xs := by
  refine ⟨fun v => ?_, fun k hk => ?_⟩
  · unfold partR
    rw [if_neg (by simp), if_neg (by simp)]
    simp
  · unfold partR
    rw [if_neg (by simp), if_pos (by rw [List.length_take]; omega)]
theorem num_eats {n most : Nat} (h : n ≤ most) (hm : most < 4294967296) : Eats (numR most) (lb4 n) n := by
  obtain ⟨h1, h2⟩ := part_eats (lb4 n)
  rw [lb4_len] at h1 h2
  refine ⟨fun v => ?_, fun k hk => ?_⟩
  · unfold numR
    rw [h1 v, if_neg (by simp), if_neg (by rw [lb4_num n (by omega)]; omega), lb4_num n (by omega)]
    simp
  · have h3 := h2 k hk
    unfold numR
    rw [if_pos (by rw [h3]; decide)]
    exact h3
theorem Eats.then {α β : Type} {f : Rd → α × Rd} {g : α → Rd → β × Rd} {u v : List Int} {a : α} {b : β} (hf : Eats f u a) (hg : Eats (g a) v b) (hs : ∀ x r, r.e ≠ 0 → (g x r).2 = r) : Eats (fun r => g (f r).1 (f r).2) (u ++ v) b := by
  refine ⟨fun w => ?_, fun k hk => ?_⟩
  · rw [List.append_assoc]
    show g (f ⟨u ++ (v ++ w), 0⟩).1 (f ⟨u ++ (v ++ w), 0⟩).2 = _
    rw [hf.all]
    exact hg.all w
  · show (g (f ⟨(u ++ v).take k, 0⟩).1 (f ⟨(u ++ v).take k, 0⟩).2).2.e = 4
    rw [List.length_append] at hk
    by_cases h : k < u.length
    · have h1 : (u ++ v).take k = u.take k := List.take_append_of_le_length (by omega)
      rw [h1]
      have h2 := hf.cut k h
      rw [hs _ _ (by rw [h2]; decide)]
      exact h2
    · have h1 : (u ++ v).take k = u ++ v.take (k - u.length) := by rw [List.take_append, List.take_of_length_le (by omega)]
      rw [h1, hf.all]
      exact hg.cut _ (by omega)
theorem Eats.map {α β : Type} {f : Rd → α × Rd} {u : List Int} {a : α} (hf : Eats f u a) (g : α → β) : Eats (fun r => (g (f r).1, (f r).2)) u (g a) :=
  ⟨fun v => by show (g (f _).1, (f _).2) = _; rw [hf.all], fun k hk => hf.cut k hk⟩
theorem key_eats {k : List Int} (h : k.length ≤ 16) : Eats keyR (keyB k) k :=
  (num_eats h (by decide)).then (g := fun n r => partR n r) (part_eats k) (fun _ _ h => by rw [part_err h])
theorem mem_eats {k : List Int} (h : k.length ≤ 65536) : Eats memR (lb4 k.length ++ k) k :=
  (num_eats h (by decide)).then (g := fun n r => partR n r) (part_eats k) (fun _ _ h => by rw [part_err h])
theorem unit_eats {u : Int} (h0 : 0 ≤ u) (h : u ≤ 2147483647) : Eats unitR (lb4 u.toNat) u := by
  have h1 := (num_eats (n := u.toNat) (most := 2147483647) (by omega) (by decide)).map (fun n : Nat => (n : Int))
  have e : ((u.toNat : Nat) : Int) = u := by omega
  rw [e] at h1
  exact h1
def sNum (n : Int) : Prop := 0 ≤ n ∧ n ≤ 2147483647
theorem site_eats {s : Si} (h : sNum s.key ∧ sNum s.at_ ∧ sNum s.to_) : Eats siteR (siteL s) s := by
  obtain ⟨⟨a1, a2⟩, ⟨b1, b2⟩, ⟨c1, c2⟩⟩ := h
  have hc := (num_eats (n := s.to_.toNat) (most := 2147483647) (by omega) (by decide))
  have hb := (num_eats (n := s.at_.toNat) (most := 2147483647) (by omega) (by decide))
  have ha := (num_eats (n := s.key.toNat) (most := 2147483647) (by omega) (by decide))
  have h2 := fun (x : Nat) => (hb.then (g := fun (y : Nat) r => ((⟨(x : Int), (y : Int), ((numR 2147483647 r).1 : Int)⟩ : Si), (numR 2147483647 r).2)) (hc.map fun (z : Nat) => (⟨(x : Int), ((s.at_.toNat : Nat) : Int), (z : Int)⟩ : Si)) (fun _ _ h => by rw [num_err h]))
  have h3 := ha.then (g := fun (x : Nat) r => ((⟨(x : Int), ((numR 2147483647 r).1 : Int), ((numR 2147483647 (numR 2147483647 r).2).1 : Int)⟩ : Si), (numR 2147483647 (numR 2147483647 r).2).2)) (h2 _) (fun _ _ h => by rw [num_err h, num_err h])
  have e : (⟨((s.key.toNat : Nat) : Int), ((s.at_.toNat : Nat) : Int), ((s.to_.toNat : Nat) : Int)⟩ : Si) = s := by
    obtain ⟨k, a, t⟩ := s
    simp only at *
    congr 1 <;> omega
  rw [e] at h3
  exact h3
theorem many_eats {α : Type} {f : Rd → α × Rd} {put : α → List Int} (hs : ∀ r, r.e ≠ 0 → (f r).2 = r) : ∀ (L : List α), (∀ x ∈ L, Eats f (put x) x) → Eats (manyR f L.length) (L.flatMap put) L
  | [], _ => ⟨fun _ => rfl, fun k hk => absurd hk (by simp)⟩
  | x :: L, h => by
    have h1 := h x (by simp)
    have h2 := many_eats hs L fun y hy => h y (by simp [hy])
    have h3 := h1.then (g := fun y r => (y :: (manyR f L.length r).1, (manyR f L.length r).2)) (h2.map fun l => x :: l) (fun _ _ h => many_err hs _ h)
    rw [List.flatMap_cons]
    exact h3
theorem list_eats {α : Type} {f : Rd → α × Rd} {put : α → List Int} {most : Nat} (hs : ∀ r, r.e ≠ 0 → (f r).2 = r) (hm : most < 4294967296) (L : List α) (hl : L.length ≤ most) (h : ∀ x ∈ L, Eats f (put x) x) : Eats (listR f most) (lb4 L.length ++ L.flatMap put) L :=
  (num_eats hl hm).then (g := fun n r => manyR f n r) (many_eats hs L h) (fun n _ h => many_err hs n h)

end Go.Proofs.YtgblohjdiheemaaGreat

/- An image's bytes are read as it was; what is read is written as it stood. -/
namespace Go.Proofs.YtgblohjdiheemaaGreat
open Go.RowKit

def readI (r : Rd) : Im × Rd :=
  (⟨(memR (startR r)).1, (listR keyR 64 (memR (startR r)).2).1, (listR siteR 256 (listR keyR 64 (memR (startR r)).2).2).1, (listR unitR 16 (listR siteR 256 (listR keyR 64 (memR (startR r)).2).2).2).1⟩, (listR unitR 16 (listR siteR 256 (listR keyR 64 (memR (startR r)).2).2).2).2)
theorem all_read (bs : List Int) : allR bs = readI ⟨bs, 0⟩ := rfl
/-- what an image has that is written -/
structure ImB (m : Im) : Prop where
  bs : m.bs.length ≤ 65536
  ks : m.ks.length ≤ 64
  key : ∀ k ∈ m.ks, k.length ≤ 16
  si : m.si.length ≤ 256
  site : ∀ s ∈ m.si, sNum s.key ∧ sNum s.at_ ∧ sNum s.to_
  un : m.un.length ≤ 16
  unit : ∀ u ∈ m.un, sNum u
theorem start_eats : Eats (fun r => ((), startR r)) swy () := by
  obtain ⟨h1, h2⟩ := part_eats swy
  rw [show swy.length = 4 from rfl] at h1
  refine ⟨fun v => ?_, fun k hk => ?_⟩
  · show ((), startR ⟨swy ++ v, 0⟩) = _
    unfold startR
    rw [h1 v, if_neg (fun h => h.2 rfl)]
  · have h3 := h2 k hk
    rw [show swy.length = 4 from rfl] at h3
    show (startR ⟨swy.take k, 0⟩).e = 4
    unfold startR
    rw [if_neg (fun h => by rw [h.1] at h3; exact absurd h3 (by decide))]
    exact h3
theorem read_eats {m : Im} (h : ImB m) : Eats readI (putI m) m := by
  have hu := (list_eats (f := unitR) (put := fun u => lb4 u.toNat) (most := 16) (fun r h => unit_err h) (by decide) m.un h.un fun u hu => unit_eats (h.unit u hu).1 (h.unit u hu).2)
  have hs := (list_eats (f := siteR) (put := siteL) (most := 256) (fun r h => site_err h) (by decide) m.si h.si fun s hs => site_eats (h.site s hs))
  have hk := (list_eats (f := keyR) (put := keyB) (most := 64) (fun r h => key_err h) (by decide) m.ks h.ks fun k hk => key_eats (h.key k hk))
  have hm := mem_eats h.bs
  have e1 := fun (a : List Int) (b : List (List Int)) => hs.then (g := fun c r => ((⟨a, b, c, (listR unitR 16 r).1⟩ : Im), (listR unitR 16 r).2)) (hu.map fun d => (⟨a, b, m.si, d⟩ : Im)) (fun _ _ h => list_err (fun r h => unit_err h) h)
  have e2 := fun (a : List Int) => hk.then (g := fun b r => ((⟨a, b, (listR siteR 256 r).1, (listR unitR 16 (listR siteR 256 r).2).1⟩ : Im), (listR unitR 16 (listR siteR 256 r).2).2)) (e1 a m.ks) (fun _ r h => by rw [list_err (fun r h => site_err h) h]; exact list_err (fun r h => unit_err h) h)
  have e3 := hm.then (g := fun a r => ((⟨a, (listR keyR 64 r).1, (listR siteR 256 (listR keyR 64 r).2).1, (listR unitR 16 (listR siteR 256 (listR keyR 64 r).2).2).1⟩ : Im), (listR unitR 16 (listR siteR 256 (listR keyR 64 r).2).2).2)) (e2 m.bs) (fun _ r h => by rw [list_err (fun r h => key_err h) h, list_err (fun r h => site_err h) h]; exact list_err (fun r h => unit_err h) h)
  have e4 := start_eats.then (g := fun _ r => ((⟨(memR r).1, (listR keyR 64 (memR r).2).1, (listR siteR 256 (listR keyR 64 (memR r).2).2).1, (listR unitR 16 (listR siteR 256 (listR keyR 64 (memR r).2).2).2).1⟩ : Im), (listR unitR 16 (listR siteR 256 (listR keyR 64 (memR r).2).2).2).2)) e3 (fun _ r h => by rw [mem_err h, list_err (fun r h => key_err h) h, list_err (fun r h => site_err h) h]; exact list_err (fun r h => unit_err h) h)
  have e : swy ++ (lb4 m.bs.length ++ m.bs ++ (lb4 m.ks.length ++ m.ks.flatMap keyB ++ (lb4 m.si.length ++ m.si.flatMap siteL ++ (lb4 m.un.length ++ m.un.flatMap fun u => lb4 u.toNat)))) = putI m := by
    unfold putI; simp only [List.append_assoc]
  rw [e] at e4
  exact e4

/-! ### and back -/
structure Inv {α : Type} (f : Rd → α × Rd) (put : α → List Int) (P : α → Prop) : Prop where
  inv : ∀ r, Byt r.l → (f r).2.e = 0 → r.e = 0 ∧ r.l = put (f r).1 ++ (f r).2.l ∧ P (f r).1 ∧ Byt (f r).2.l
theorem part_inv {n : Nat} {r : Rd} (hb : Byt r.l) (h : (partR n r).2.e = 0) : r.e = 0 ∧ r.l = (partR n r).1 ++ (partR n r).2.l ∧ (partR n r).1.length = n ∧ Byt (partR n r).1 ∧ Byt (partR n r).2.l := by
  unfold partR at h ⊢
  by_cases he : r.e ≠ 0
  · rw [if_pos he] at h; exact absurd h he
  · rw [if_neg he] at h ⊢
    by_cases hl : r.l.length < n
    · rw [if_pos hl] at h; exact absurd (show (4 : Int) = 0 from h) (by decide)
    · rw [if_neg hl]
      exact ⟨by simpa using he, (List.take_append_drop n r.l).symm, by rw [List.length_take]; omega, byt_takeS hb n, byt_dropS hb n⟩
theorem num_inv {most : Nat} : Inv (numR most) lb4 (fun n => n ≤ most) := ⟨fun r hb h => by
  unfold numR at h ⊢
  by_cases h1 : (partR 4 r).2.e ≠ 0
  · rw [if_pos h1] at h; exact absurd h h1
  · rw [if_neg h1] at h ⊢
    obtain ⟨p1, p2, p3, p4, p5⟩ := part_inv hb (by simpa using h1)
    by_cases h2 : most < (n4 (partR 4 r).1 0).toNat
    · rw [if_pos h2] at h; exact absurd (show (200 : Int) = 0 from h) (by decide)
    · rw [if_neg h2]
      exact ⟨p1, by rw [lb4_back p3 p4]; exact p2, by show _ ≤ most; omega, p5⟩⟩
theorem key_inv : Inv keyR keyB (fun k => k.length ≤ 16) := ⟨fun r hb h => by
  unfold keyR at h ⊢
  have hn : (numR 16 r).2.e = 0 := by
    rcases Decidable.em ((numR 16 r).2.e = 0) with h0 | h0
    · exact h0
    · rw [part_err h0] at h; exact absurd h h0
  obtain ⟨a1, a2, a3, a4⟩ := num_inv.inv r hb hn
  obtain ⟨p1, p2, p3, p4, p5⟩ := part_inv a4 h
  exact ⟨a1, by unfold keyB; rw [p3, List.append_assoc, ← p2]; exact a2, by rw [p3]; exact a3, p5⟩⟩
theorem mem_inv : Inv memR (fun k => lb4 k.length ++ k) (fun k => k.length ≤ 65536) := ⟨fun r hb h => by
  unfold memR at h ⊢
  have hn : (numR 65536 r).2.e = 0 := by
    rcases Decidable.em ((numR 65536 r).2.e = 0) with h0 | h0
    · exact h0
    · rw [part_err h0] at h; exact absurd h h0
  obtain ⟨a1, a2, a3, a4⟩ := num_inv.inv r hb hn
  obtain ⟨p1, p2, p3, p4, p5⟩ := part_inv a4 h
  exact ⟨a1, by rw [p3, List.append_assoc, ← p2]; exact a2, by rw [p3]; exact a3, p5⟩⟩
theorem num_ok {most : Nat} {r : Rd} (h : (numR most r).2.e = 0) : r.e = 0 := by
  rcases Decidable.em (r.e = 0) with h0 | h0
  · exact h0
  · rw [num_err h0] at h; exact absurd h h0
theorem unit_inv : Inv unitR (fun u => lb4 u.toNat) sNum := ⟨fun r hb h => by
  obtain ⟨a1, a2, a3, a4⟩ := (num_inv (most := 2147483647)).inv r hb h
  refine ⟨a1, ?_, ?_, a4⟩
  · show r.l = lb4 (((numR 2147483647 r).1 : Nat) : Int).toNat ++ _
    rw [Int.toNat_natCast]; exact a2
  · show 0 ≤ (((numR 2147483647 r).1 : Nat) : Int) ∧ _
    have a3' : (numR 2147483647 r).1 ≤ 2147483647 := a3
    exact ⟨by omega, by show (((numR 2147483647 r).1 : Nat) : Int) ≤ _; omega⟩⟩
theorem site_inv : Inv siteR siteL (fun s => sNum s.key ∧ sNum s.at_ ∧ sNum s.to_) := ⟨fun r hb h => by
  have h : (numR 2147483647 (numR 2147483647 (numR 2147483647 r).2).2).2.e = 0 := h
  have h2 := num_ok h
  have h1 := num_ok h2
  obtain ⟨a1, a2, a3, a4⟩ := (num_inv (most := 2147483647)).inv r hb h1
  obtain ⟨b1, b2, b3, b4⟩ := (num_inv (most := 2147483647)).inv _ a4 h2
  obtain ⟨c1, c2, c3, c4⟩ := (num_inv (most := 2147483647)).inv _ b4 h
  refine ⟨a1, ?_, ⟨?_, ?_, ?_⟩, c4⟩
  · show r.l = (lb4 (((numR 2147483647 r).1 : Nat) : Int).toNat ++ (lb4 (((numR 2147483647 (numR 2147483647 r).2).1 : Nat) : Int).toNat ++ lb4 (((numR 2147483647 (numR 2147483647 (numR 2147483647 r).2).2).1 : Nat) : Int).toNat)) ++ (numR 2147483647 (numR 2147483647 (numR 2147483647 r).2).2).2.l
    simp only [Int.toNat_natCast, List.append_assoc]
    rw [← c2, ← b2]; exact a2
  · have a3' : (numR 2147483647 r).1 ≤ 2147483647 := a3
    exact ⟨by show 0 ≤ (((numR 2147483647 r).1 : Nat) : Int); omega, by show (((numR 2147483647 r).1 : Nat) : Int) ≤ _; omega⟩
  · have b3' : (numR 2147483647 (numR 2147483647 r).2).1 ≤ 2147483647 := b3
    exact ⟨by show 0 ≤ (((numR 2147483647 (numR 2147483647 r).2).1 : Nat) : Int); omega, by show (((numR 2147483647 (numR 2147483647 r).2).1 : Nat) : Int) ≤ _; omega⟩
  · have c3' : (numR 2147483647 (numR 2147483647 (numR 2147483647 r).2).2).1 ≤ 2147483647 := c3
    exact ⟨by show 0 ≤ (((numR 2147483647 (numR 2147483647 (numR 2147483647 r).2).2).1 : Nat) : Int); omega, by show (((numR 2147483647 (numR 2147483647 (numR 2147483647 r).2).2).1 : Nat) : Int) ≤ _; omega⟩⟩
theorem many_inv {α : Type} {f : Rd → α × Rd} {put : α → List Int} {P : α → Prop} (hf : Inv f put P) (hs : ∀ r, r.e ≠ 0 → (f r).2 = r) : ∀ (n : Nat), Inv (manyR f n) (fun L => L.flatMap put) (fun L => L.length = n ∧ ∀ x ∈ L, P x)
  | 0 => ⟨fun r hb h => ⟨h, rfl, ⟨rfl, fun x hx => absurd hx List.not_mem_nil⟩, hb⟩⟩
  | n + 1 => ⟨fun r hb h => by
    simp only [manyR] at h ⊢
    have h1 : (f r).2.e = 0 := by
      rcases Decidable.em ((f r).2.e = 0) with h0 | h0
      · exact h0
      · rw [many_err hs n h0] at h; exact absurd h h0
    obtain ⟨a1, a2, a3, a4⟩ := hf.inv r hb h1
    obtain ⟨b1, b2, ⟨b3, b4⟩, b5⟩ := (many_inv hf hs n).inv _ a4 h
    refine ⟨a1, ?_, ⟨by rw [List.length_cons, b3], fun x hx => ?_⟩, b5⟩
    · rw [List.flatMap_cons, List.append_assoc, ← b2]; exact a2
    · rcases List.mem_cons.1 hx with rfl | hx
      · exact a3
      · exact b4 x hx⟩
theorem list_inv {α : Type} {f : Rd → α × Rd} {put : α → List Int} {P : α → Prop} {most : Nat} (hf : Inv f put P) (hs : ∀ r, r.e ≠ 0 → (f r).2 = r) : Inv (listR f most) (fun L => lb4 L.length ++ L.flatMap put) (fun L => L.length ≤ most ∧ ∀ x ∈ L, P x) := ⟨fun r hb h => by
  unfold listR at h ⊢
  have h1 : (numR most r).2.e = 0 := by
    rcases Decidable.em ((numR most r).2.e = 0) with h0 | h0
    · exact h0
    · rw [many_err hs _ h0] at h; exact absurd h h0
  obtain ⟨a1, a2, a3, a4⟩ := num_inv.inv r hb h1
  obtain ⟨b1, b2, ⟨b3, b4⟩, b5⟩ := (many_inv hf hs _).inv _ a4 h
  refine ⟨a1, ?_, ⟨by rw [b3]; exact a3, b4⟩, b5⟩
  rw [b3, List.append_assoc, ← b2]
  exact a2⟩
theorem start_inv {r : Rd} (hb : Byt r.l) (h : (startR r).e = 0) : r.e = 0 ∧ r.l = swy ++ (startR r).l ∧ Byt (startR r).l := by
  unfold startR at h ⊢
  by_cases h1 : (partR 4 r).2.e = 0 ∧ (partR 4 r).1 ≠ swy
  · rw [if_pos h1] at h; exact absurd (show (200 : Int) = 0 from h) (by decide)
  · rw [if_neg h1] at h ⊢
    obtain ⟨p1, p2, p3, p4, p5⟩ := part_inv hb h
    have e : (partR 4 r).1 = swy := Decidable.byContradiction fun hne => h1 ⟨h, hne⟩
    rw [e] at p2
    exact ⟨p1, p2, p5⟩
theorem read_inv {bs : List Int} (hb : Byt bs) (h : (readI ⟨bs, 0⟩).2.e = 0) : bs = putI (readI ⟨bs, 0⟩).1 ++ (readI ⟨bs, 0⟩).2.l ∧ ImB (readI ⟨bs, 0⟩).1 ∧ Byt (readI ⟨bs, 0⟩).1.bs := by
  unfold readI at h ⊢
  dsimp only at h ⊢
  have hsk : ∀ r : Rd, (listR keyR 64 r).2.e = 0 → r.e = 0 := fun r h => by
    rcases Decidable.em (r.e = 0) with h0 | h0
    · exact h0
    · rw [list_err (fun r h => key_err h) h0] at h; exact absurd h h0
  have hss : ∀ r : Rd, (listR siteR 256 r).2.e = 0 → r.e = 0 := fun r h => by
    rcases Decidable.em (r.e = 0) with h0 | h0
    · exact h0
    · rw [list_err (fun r h => site_err h) h0] at h; exact absurd h h0
  have hsu : ∀ r : Rd, (listR unitR 16 r).2.e = 0 → r.e = 0 := fun r h => by
    rcases Decidable.em (r.e = 0) with h0 | h0
    · exact h0
    · rw [list_err (fun r h => unit_err h) h0] at h; exact absurd h h0
  have hsm : ∀ r : Rd, (memR r).2.e = 0 → r.e = 0 := fun r h => by
    rcases Decidable.em (r.e = 0) with h0 | h0
    · exact h0
    · rw [mem_err h0] at h; exact absurd h h0
  have h3 := hsu _ h
  have h2 := hss _ h3
  have h1 := hsk _ h2
  have h0 := hsm _ h1
  obtain ⟨-, s2, s3⟩ := start_inv (r := ⟨bs, 0⟩) hb h0
  obtain ⟨-, m2, m3, m4⟩ := mem_inv.inv _ s3 h1
  obtain ⟨-, k2, ⟨k3, k4⟩, k5⟩ := (list_inv (most := 64) key_inv (fun r h => key_err h)).inv _ m4 h2
  obtain ⟨-, t2, ⟨t3, t4⟩, t5⟩ := (list_inv (most := 256) site_inv (fun r h => site_err h)).inv _ k5 h3
  obtain ⟨-, u2, ⟨u3, u4⟩, u5⟩ := (list_inv (most := 16) unit_inv (fun r h => unit_err h)).inv _ t5 h
  dsimp only at s2 m2 k2 t2 u2
  have hbm : Byt (memR (startR ⟨bs, 0⟩)).1 := by
    have hx := s3
    rw [m2] at hx
    intro i
    have h5 := hx (4 + i)
    by_cases hi : i < (memR (startR ⟨bs, 0⟩)).1.length
    · have e : (lb4 (memR (startR ⟨bs, 0⟩)).1.length ++ (memR (startR ⟨bs, 0⟩)).1 ++ (memR (startR ⟨bs, 0⟩)).2.l).getD (4 + i) 0 = (memR (startR ⟨bs, 0⟩)).1.getD i 0 := by
        simp only [List.getD, List.append_assoc]
        rw [List.getElem?_append_right (by rw [lb4_len]; omega), lb4_len, show 4 + i - 4 = i by omega, List.getElem?_append_left hi]
      rw [e] at h5; exact h5
    · have e : (memR (startR ⟨bs, 0⟩)).1.getD i 0 = 0 := by simp only [List.getD, List.getElem?_eq_none (Nat.le_of_not_lt hi), Option.getD_none]
      rw [e]; omega
  refine ⟨?_, ⟨m3, k3, k4, t3, t4, u3, u4⟩, hbm⟩
  unfold putI
  dsimp only
  simp only [List.append_assoc] at m2 k2 t2 u2 ⊢
  rw [← u2, ← t2, ← k2, ← m2]
  exact s2

end Go.Proofs.YtgblohjdiheemaaGreat

/- A literal slice of bytes; a list all of whose numbers are bytes. -/
namespace Go.Proofs.YtgblohjdiheemaaGreat
open Go.RowKit

theorem Own.lit (w : World) (xs : List Int) (hm : xs.length ≤ maxLen) : Own (w.alloc (.cells (byts xs).toArray 5)) w.heap.size w.heap.size xs.length xs :=
  Own.mk (Nat.le_refl _) (heap_alloc_new w _) (Nat.le_refl _) hm (by simp) (by rw [List.take_of_length_le (by simp)])

theorem byt_of (xs : List Int) (h : (xs.all fun x => decide (0 ≤ x ∧ x ≤ 255)) = true) : Byt xs := fun i => by
  simp only [List.all_eq_true, decide_eq_true_eq] at h
  by_cases hi : i < xs.length
  · have := h xs[i] (List.getElem_mem hi)
    simpa [List.getD, hi] using this
  · simp [List.getD, List.getElem?_eq_none (show xs.length ≤ i by omega)]

end Go.Proofs.YtgblohjdiheemaaGreat

/- What switchyardkit.CopyBytes, LentBytes and KeptBytes do, for every slice of bytes. -/
namespace Go.Proofs.YtgblohjdiheemaaGreat
open Go.RowKit

/-- a slice of bytes that the call has made, or nil -/
def OwnV (w : World) (B : Nat) (v : Value) (xs : List Int) : Prop := w.ownsRow B 5 1 v xs.length (byts xs)
theorem OwnV.nil (w : World) (B : Nat) : OwnV w B (.slice none 0 0) [] := World.ownsRow_nil _ _ _ _
theorem OwnV.alloc {w : World} {B : Nat} {v : Value} {xs : List Int} (h : OwnV w B v xs) (o : Obj) : OwnV (w.alloc o) B v xs := World.ownsRow.alloc h o
theorem OwnV.drewN {w : World} {B : Nat} {v : Value} {xs : List Int} (h : OwnV w B v xs) (n : Nat) : OwnV (w.drewN n) B v xs := h
theorem Own.val {w : World} {B g cap : Nat} {xs : List Int} (h : Own w B g cap xs) : OwnV w B (.slice (some ⟨g, 0, none⟩) xs.length cap) xs := h
theorem OwnV.shape {w : World} {B : Nat} {v : Value} {xs : List Int} (h : OwnV w B v xs) : (v = .slice none 0 0 ∧ xs = []) ∨ ∃ g cap, v = .slice (some ⟨g, 0, none⟩) xs.length cap ∧ Own w B g cap xs := by
  rcases h.2 with ⟨h1, h2⟩ | ⟨g, cap, cur, h1, h2⟩
  · exact .inl ⟨h1, List.eq_nil_of_length_eq_zero h2⟩
  · subst h1
    exact .inr ⟨g, cap, rfl, h⟩
theorem OwnV.below {w w' : World} {B : Nat} {v : Value} {xs : List Int} (h : OwnV w B v xs) (hb : Below w.heap.size w w') : OwnV w' B v xs := by
  rcases h.shape with ⟨rfl, rfl⟩ | ⟨g, cap, rfl, ho⟩
  · exact OwnV.nil _ _
  · exact (ho.below hb).val
theorem OwnV.slice {w : World} {B : Nat} {v : Value} {xs : List Int} (h : OwnV w B v xs) : ∃ p cap, v = .slice p xs.length cap ∧ Row w p xs ∧ (p = none → cap = 0) := by
  rcases h.shape with ⟨rfl, rfl⟩ | ⟨g, cap, rfl, ho⟩
  · exact ⟨none, 0, rfl, fun h => absurd h (Nat.lt_irrefl 0), fun _ => rfl⟩
  · exact ⟨_, cap, rfl, ho.row, fun h => by cases h⟩

/-- 'append(out, ..)' on such a slice: the law of the kit in these words -/
theorem wp_push {ops : Array Oper} {rest : List Oper} {o : Oper} {a : Act} {Q : Exit → Act → World → Prop} (w : World) (hgd : o.guard = none) (s x : Operand)
    (ho : o.op = .call { callee := .builtin .append, args := #[s, x], argTypes := #[22, 22] }) (B : Nat) (v : Value) (xs : List Int) (hs : a.eval s = v) (hown : OwnV w B v xs)
    (ad : Addr) (m c : Nat) (ns : List Int) (hx : a.eval x = .slice (some ad) m c) (hl : ns.length = m) (hnews : ∀ j u, (byts ns)[j]? = some u → w.cell? (ad.add j) = some u)
    (hlen : xs.length + m ≤ 140737488355328) (hB : B ≤ w.heap.size)
    (h : ∀ v' w', OwnV w' B v' (xs ++ ns) → w.grownBy w' v.ownBlock → (∀ w0, Below B w0 w → Below B w0 w') → (v' = .slice none 0 0 ↔ v = .slice none 0 0 ∧ m = 0) → wpList Tryz.prog ops Q rest (a.put o.dst v') w') :
    wpList Tryz.prog ops Q (o :: rest) a w := by
  obtain ⟨i0, hi, hz0, hz1, hz2⟩ := info_parts Tryz.info5
  refine wpList_append_own w hgd s x 22 ho B 5 i0 (.int .u8 0) 1 1 Tryz.underlying22 hi hz0 hz1 hz2 rfl (by decide) v xs.length (byts xs) hs hown ad m c (byts ns) hx (by simp [hl]) hnews (fun u hu => ?_) (by unfold maxLen; omega) (by omega) hB ?_
  · simp only [byts, List.mem_map] at hu
    obtain ⟨z, _, rfl⟩ := hu
    rfl
  · intro v' w' h1 h2 h3
    refine h v' w' ?_ h2 (fun w0 hb => hb.grown h2 hB fun k hk => ?_) h3
    · unfold OwnV
      rw [List.length_append, hl]
      simpa [byts] using h1
    · rcases hown.shape with ⟨rfl, _⟩ | ⟨g, cap, rfl, ho⟩
      · simp [Value.ownBlock] at hk
      · simp [Value.ownBlock] at hk
        subst hk
        exact ho.base

theorem take_getD (xs : List Int) (k : Nat) (h : k < xs.length) : xs.take (k + 1) = xs.take k ++ [xs.getD k 0] := by
  rw [List.take_succ_eq_append_getElem h]
  simp [List.getD, h]

set_option maxHeartbeats 400000 in
theorem copy_at (b o n c : Nat) (xs : List Int) (w : World) (hx : xs.length = n) (hn : n ≤ 140737488355328)
    (hc : ∀ i, i < n → w.cell? ⟨b, o + i, none⟩ = some (.int .u8 (xs.getD i 0))) :
    Calls Tryz.prog 38 #[.slice (some ⟨b, o, none⟩) n c] w fun e w' => ∃ v, e = .returned v ∧ OwnV w' w.heap.size v xs ∧ Below w.heap.size w w' := by
  have HX : Hid (xs.length = n) := hx
  have HC : Hid (∀ i, i < n → w.cell? ⟨b, o + i, none⟩ = some (.int .u8 (xs.getD i 0))) := hc
  clear hx hc
  go_enter Tryz.func38, Tryz.ntmps38
  go_wp2
  go_loopw [3, 4] (fun v i wr => ∃ k : Nat, k ≤ n ∧ i = .int .i64 k ∧ OwnV wr w.heap.size v (xs.take k) ∧ Below w.heap.size w wr) (fun _ i _ => n - (intOf i).toNat)
  case atStart => exact ⟨0, Nat.zero_le _, rfl, OwnV.nil _ _, Below.refl _ _⟩
  case round =>
    obtain ⟨k, hk, rfl, hown, hbk⟩ := hrel
    by_cases hlt : k < n
    · have hcd := HC.out k hlt
      have hcl := cell_lt hcd
      have c1 : wr.cell? ⟨b, o + k, none⟩ = some (.int .u8 (xs.getD k 0)) := by rw [hbk.cell (p := ⟨b, o + k, none⟩) hcl]; exact hcd
      have hsz := hbk.size
      have hl : (xs.take k).length + 1 ≤ 140737488355328 := by rw [List.length_take]; omega
      have HT : Hid (xs.take (k + 1) = xs.take k ++ [xs.getD k 0]) := take_getD xs k (by rw [HX.out]; exact hlt)
      clear hcd hcl
      generalize xs.getD k 0 = z at *
      generalize xs.take k = ys at *
      go_wp2_with (at_builtin; refine wp_push _ rfl _ _ rfl w.heap.size _ ys rfl (hown.alloc _) ⟨wr.heap.size, 0, none⟩ 1 1 [z] rfl rfl (cell_one_new _ _ _) hl (by simp; omega) ?_; intro v' w1 hown' _hgrow hbel _hnil)
      go_roundw
      case rel => exact ⟨k + 1, by omega, by go_num, by rw [HT.out]; exact hown', hbel _ (hbk.alloc hsz _)⟩
      case measure => simp [intOf]; omega
    · have HT : Hid (xs.take k = xs) := List.take_of_length_le (by rw [HX.out]; omega)
      go_wp2
      go_ret
      exact ⟨_, rfl, by rw [HT.out] at hown; exact hown, hbk⟩

set_option maxHeartbeats 400000 in
theorem copy_zero (p : Option Addr) (c : Nat) (w : World) :
    Calls Tryz.prog 38 #[.slice p 0 c] w fun e w' => e = .returned (.slice none 0 0) ∧ w' = w := by
  go_enter Tryz.func38, Tryz.ntmps38
  go_wp2
  refine wp_loop_rounds 1 ?_
  rw [rounds_succ]; go_wp2
  go_ret
  exact ⟨rfl, rfl⟩

theorem copy_any (p : Option Addr) (n c : Nat) (xs : List Int) (w : World) (hx : xs.length = n) (hn : n ≤ 140737488355328) (hr : Row w p xs) :
    Calls Tryz.prog 38 #[.slice p n c] w fun e w' => ∃ v, e = .returned v ∧ OwnV w' w.heap.size v xs ∧ Below w.heap.size w w' := by
  rcases Nat.eq_zero_or_pos n with h0 | h0
  · subst h0
    obtain rfl : xs = [] := List.eq_nil_of_length_eq_zero hx
    exact (copy_zero p c w).mono fun e w' h => ⟨_, h.1, OwnV.nil _ _, by rw [h.2]; exact below_self w⟩
  · obtain ⟨b, o, rfl, hc⟩ := hr (by omega)
    exact copy_at b o n c xs w hx hn (fun i hi => hc i (by omega))

end Go.Proofs.YtgblohjdiheemaaGreat

/- append of a whole slice of bytes that came in, nil or not. -/
namespace Go.Proofs.YtgblohjdiheemaaGreat
open Go.RowKit

/-- 'append(out, b...)', b whatever slice of bytes that came in -/
theorem wp_push_row {ops : Array Oper} {rest : List Oper} {o : Oper} {a : Act} {Q : Exit → Act → World → Prop} (w : World) (hgd : o.guard = none) (s x : Operand)
    (ho : o.op = .call { callee := .builtin .append, args := #[s, x], argTypes := #[22, 22] }) (B : Nat) (v : Value) (xs : List Int) (hs : a.eval s = v) (hown : OwnV w B v xs)
    (q : Option Addr) (m d : Nat) (ys : List Int) (hx : a.eval x = .slice q m d) (hl : ys.length = m) (hrow : Row w q ys) (hq : q = none → m = 0 ∧ d = 0)
    (hlen : xs.length + m ≤ 140737488355328) (hB : B ≤ w.heap.size)
    (h : ∀ v' w', OwnV w' B v' (xs ++ ys) → (∀ w0, Below B w0 w → Below B w0 w') → wpList Tryz.prog ops Q rest (a.put o.dst v') w') :
    wpList Tryz.prog ops Q (o :: rest) a w := by
  cases q with
  | none =>
    obtain ⟨rfl, rfl⟩ := hq rfl
    obtain rfl : ys = [] := List.eq_nil_of_length_eq_zero hl
    obtain ⟨i0, hi, hz0, hz1, hz2⟩ := info_parts Tryz.info5
    exact wpList_append_own_none hgd s x 22 ho B 5 i0 1 Tryz.underlying22 hi v xs.length (byts xs) hs hown hx (h v w (by rw [List.append_nil]; exact hown) fun _ hb => hb)
  | some ad =>
    refine wp_push w hgd s x ho B v xs hs hown ad m d ys hx hl (fun j u hj => ?_) hlen hB fun v' w' h1 _ h3 _ => h v' w' h1 h3
    have hjl : j < ys.length := by
      rcases Nat.lt_or_ge j ys.length with h | h
      · exact h
      · rw [List.getElem?_eq_none (by simpa using h)] at hj; cases hj
    obtain ⟨b, off, e, hc⟩ := hrow (by omega)
    cases e
    rw [getD_byts ys j hjl] at hj
    rw [← hj, ← hc j hjl, Go.WideShapes.add_plain]

end Go.Proofs.YtgblohjdiheemaaGreat

/- What is written already of an image's bytes: text, bytes, number. -/
namespace Go.Proofs.YtgblohjdiheemaaGreat
open Go.RowKit

/-- a text's bytes -/
def strL (s : ByteArray) : List Int := s.data.toList.map fun b => (b.toNat : Int)
theorem strL_len (s : ByteArray) : (strL s).length = s.size := by rw [strL, List.length_map, Array.length_toList]; rfl
theorem strL_cells (s : ByteArray) : Lib.strCells s = byts (strL s) := by simp [Lib.strCells, byts, strL]
theorem strL_byt (s : ByteArray) : Byt (strL s) := fun i => by
  by_cases h : i < (strL s).length
  · rw [List.getD_eq_getElem?_getD, List.getElem?_eq_getElem h]
    simp only [Option.getD_some, strL, List.getElem_map]
    have := (s.data.toList[i]'(by simpa [strL] using h)).toNat_lt
    omega
  · rw [List.getD_eq_getElem?_getD, List.getElem?_eq_none (by omega)]; simp

/-- all other blocks stay, but for bytes -/
def KpW (g : Nat) (w w' : World) : Prop := ∀ k T c, T ≠ 5 → k ≠ g → Blk w k T c → Blk w' k T c
theorem KpW.trans {g : Nat} {w w1 w2 : World} (h : KpW g w w1) (h' : KpW g w1 w2) : KpW g w w2 := fun k T c h1 h2 h3 => h' k T c h1 h2 (h k T c h1 h2 h3)
theorem KpW.of_below {g : Nat} {w w' : World} (h : Below w.heap.size w w') : KpW g w w' := fun _ _ _ _ _ h3 => h3.grow h
theorem below_row {w w' : World} {B : Nat} {v : Value} {xs : List Int} (hown : OwnV w B v xs) (hg : w.grownBy w' v.ownBlock) (hB : B ≤ w.heap.size) : ∀ w0, Below B w0 w → Below B w0 w' := fun w0 hb => hb.grown hg hB fun k hk => by
  rcases hown.shape with ⟨rfl, _⟩ | ⟨g, cap, rfl, ho⟩
  · simp [Value.ownBlock] at hk
  · simp [Value.ownBlock] at hk
    subst hk
    exact ho.base
/-- 'append(out, s...)', s a text -/
theorem wp_push_text {ops : Array Oper} {rest : List Oper} {o : Oper} {a : Act} {Q : Exit → Act → World → Prop} (w : World) (hgd : o.guard = none) (s x : Operand)
    (ho : o.op = .call { callee := .builtin .append, args := #[s, x], argTypes := #[22, 9] }) (B : Nat) (v : Value) (xs : List Int) (hs : a.eval s = v) (hown : OwnV w B v xs)
    (t : ByteArray) (hx : a.eval x = .string t) (hlen : xs.length + t.size ≤ 140737488355328) (hB : B ≤ w.heap.size)
    (h : ∀ v' w', OwnV w' B v' (xs ++ strL t) → w.grownBy w' v.ownBlock → (∀ w0, Below B w0 w → Below B w0 w') → wpList Tryz.prog ops Q rest (a.put o.dst v') w') :
    wpList Tryz.prog ops Q (o :: rest) a w := by
  obtain ⟨i0, hi, hz0, hz1, hz2⟩ := info_parts Tryz.info5
  refine Lib.wpList_append_own_string w hgd s x 22 9 ho B 5 i0 Tryz.underlying22 Tryz.underlying9 hi hz0 hz1 hz2 v xs.length (byts xs) hs hown t hx (by unfold maxLen; omega) hlen hB ?_
  intro v' w' h1 h2 _
  refine h v' w' ?_ h2 (below_row hown h2 hB)
  unfold OwnV
  rw [List.length_append, strL_len]
  simpa [byts, strL_cells] using h1
theorem grown_same (w : World) (r : Option Nat) : w.grownBy w r := ⟨rfl, rfl, rfl, Nat.le_refl _, fun _ _ _ => rfl⟩
/-- 'append(out, b...)', b a slice that came in: what is behind it of all other blocks, too -/
theorem wp_push_own {ops : Array Oper} {rest : List Oper} {o : Oper} {a : Act} {Q : Exit → Act → World → Prop} (w : World) (hgd : o.guard = none) (s x : Operand)
    (ho : o.op = .call { callee := .builtin .append, args := #[s, x], argTypes := #[22, 22] }) (B : Nat) (v : Value) (xs : List Int) (hs : a.eval s = v) (hown : OwnV w B v xs)
    (q : Option Addr) (m d : Nat) (ys : List Int) (hx : a.eval x = .slice q m d) (hl : ys.length = m) (hrow : Row w q ys) (hq : q = none → m = 0 ∧ d = 0)
    (hlen : xs.length + m ≤ 140737488355328) (hB : B ≤ w.heap.size)
    (h : ∀ v' w', OwnV w' B v' (xs ++ ys) → w.grownBy w' v.ownBlock → (∀ w0, Below B w0 w → Below B w0 w') → wpList Tryz.prog ops Q rest (a.put o.dst v') w') :
    wpList Tryz.prog ops Q (o :: rest) a w := by
  cases q with
  | none =>
    obtain ⟨rfl, rfl⟩ := hq rfl
    obtain rfl : ys = [] := List.eq_nil_of_length_eq_zero hl
    obtain ⟨i0, hi, hz0, hz1, hz2⟩ := info_parts Tryz.info5
    exact wpList_append_own_none hgd s x 22 ho B 5 i0 1 Tryz.underlying22 hi v xs.length (byts xs) hs hown hx (h v w (by rw [List.append_nil]; exact hown) (grown_same _ _) fun _ hb => hb)
  | some ad =>
    refine wp_push w hgd s x ho B v xs hs hown ad m d ys hx hl (fun j u hj => ?_) hlen hB fun v' w' h1 h2 h3 _ => h v' w' h1 h2 h3
    have hjl : j < ys.length := by
      rcases Nat.lt_or_ge j ys.length with h | h
      · exact h
      · rw [List.getElem?_eq_none (by simpa using h)] at hj; cases hj
    obtain ⟨b, off, e, hc⟩ := hrow (by omega)
    cases e
    rw [getD_byts ys j hjl] at hj
    rw [← hj, ← hc j hjl, Go.WideShapes.add_plain]

theorem put_lb4 (n : Nat) (h : n < 4294967296) : putL (List.replicate 4 0) (0 : Int).toNat n = lb4 n := by
  simp [putL, lb4, List.replicate, List.set]
  omega
end Go.Proofs.YtgblohjdiheemaaGreat

/- P9.3, which images are right, as lists. -/
namespace Go.Proofs.YtgblohjdiheemaaGreat
open Go.RowKit

/-- an image, its keys as texts -/
structure IM where
  bs : List Int
  ks : List ByteArray
  si : List Si
  un : List Int
def IM.im (m : IM) : Im := ⟨m.bs, m.ks.map strL, m.si, m.un⟩
def noIM : IM := ⟨[], [], [], []⟩
def keyP (ks : List ByteArray) (i : Nat) : Bool := !inB (ks.getD i default) (ks.take i) && nmB (ks.getD i default)
def keysB (ks : List ByteArray) : Bool := (List.range ks.length).all (keyP ks)
def quietB (bs : List Int) (si : List Si) : Bool := si.all fun s => stB bs s.at_ quiet
def lastU (un : List Int) (i : Nat) : Int := if i = 0 then 0 else un.getD (i - 1) 0
def unP (n : Nat) (un : List Int) (i : Nat) : Bool := decide (lastU un i ≤ un.getD i 0 ∧ un.getD i 0 % 4 = 0 ∧ un.getD i 0 ≤ n)
def unitsB (n : Nat) (un : List Int) : Bool := decide (un.length ≤ 16 ∧ un.getD 0 0 = 0) && (List.range un.length).all (unP n un)
def okI (m : IM) : Bool := decide (m.bs.length ≤ 65536) && rightS m.si m.ks.length && keysB m.ks && quietB m.bs m.si && unitsB m.bs.length m.un

theorem range_no {n i : Nat} {f : Nat → Bool} (hi : i < n) (h : f i = false) : (List.range n).all f = false := by
  rw [List.all_eq_false]; exact ⟨i, List.mem_range.2 hi, by simp [h]⟩
theorem range_yes {n : Nat} {f : Nat → Bool} (h : ∀ i, i < n → f i = true) : (List.range n).all f = true := by
  rw [List.all_eq_true]; exact fun i hi => h i (List.mem_range.1 hi)
theorem all_no {α : Type} {L : List α} {f : α → Bool} {i : Nat} (hi : i < L.length) (h : f L[i] = false) : L.all f = false := by
  rw [List.all_eq_false]; exact ⟨L[i], List.getElem_mem hi, by simp [h]⟩
theorem all_yes {α : Type} {L : List α} {f : α → Bool} (h : ∀ i (hi : i < L.length), f L[i] = true) : L.all f = true := by
  rw [List.all_eq_true]
  intro x hx
  obtain ⟨i, hi, rfl⟩ := List.getElem_of_mem hx
  exact h i hi

def keySy (k : ByteArray) : Sy := ⟨k, 0, false⟩
theorem rs_keys : ∀ (ks seen : List ByteArray), rsL 0 0 seen (ks.map keySy) = (List.range ks.length).all fun i => !inB (ks.getD i default) (seen ++ ks.take i) && nmB (ks.getD i default)
  | [], _ => rfl
  | k :: r, seen => by
    rw [List.map_cons, rsL, List.length_cons, List.range_succ_eq_map, List.all_cons, List.all_map]
    show (symB 0 0 seen (keySy k) && rsL 0 0 (seen ++ [k]) (r.map keySy)) = _
    rw [rs_keys r (seen ++ [k])]
    congr 1
    · simp [symB, keySy]
    · congr 1
      funext i
      simp
theorem keys_ok (ks : List ByteArray) : okO ⟨[], ks.map keySy, [], []⟩ = (decide (ks.length ≤ 4096) && keysB ks) := by
  unfold okO
  have h := rs_keys ks []
  simp only [List.length_nil, List.length_map, rfL, rmL, Bool.and_true]
  rw [h, show (fun i => !inB (ks.getD i default) ([] ++ ks.take i) && nmB (ks.getD i default)) = keyP ks from by funext i; rfl]
  simp [keysB]

theorem okI_parts {m : IM} (h : okI m = true) : m.bs.length ≤ 65536 ∧ rightS m.si m.ks.length = true ∧ keysB m.ks = true ∧ quietB m.bs m.si = true ∧ unitsB m.bs.length m.un = true := by
  unfold okI at h
  simp only [Bool.and_eq_true, decide_eq_true_eq] at h
  exact ⟨h.1.1.1.1, h.1.1.1.2, h.1.1.2, h.1.2, h.2⟩
theorem keysB_at {ks : List ByteArray} (h : keysB ks = true) (i : Nat) (hi : i < ks.length) : nmB (ks[i]) = true := by
  unfold keysB at h
  rw [List.all_eq_true] at h
  have := h i (List.mem_range.2 hi)
  unfold keyP at this
  rw [List.getD_eq_getElem?_getD, List.getElem?_eq_getElem hi] at this
  simp only [Option.getD_some, Bool.and_eq_true] at this
  exact this.2
theorem units_num {n : Nat} {un : List Int} (hn : n ≤ 65536) (h : (List.range un.length).all (unP n un) = true) : ∀ (i : Nat) (hi : i < un.length), 0 ≤ un[i] ∧ un[i] ≤ 2147483647 := by
  rw [List.all_eq_true] at h
  have hP : ∀ i (hi : i < un.length), lastU un i ≤ un[i] ∧ un[i] ≤ n := fun i hi => by
    have := h i (List.mem_range.2 hi)
    unfold unP at this
    rw [List.getD_eq_getElem?_getD, List.getElem?_eq_getElem hi] at this
    simp only [Option.getD_some, decide_eq_true_eq] at this
    exact ⟨this.1, this.2.2⟩
  intro i
  induction i with
  | zero => intro hi; have := hP 0 hi; simp only [lastU, if_true] at this; omega
  | succ i ih =>
    intro hi
    have h1 := ih (by omega)
    have h2 := hP (i + 1) hi
    unfold lastU at h2
    rw [if_neg (by omega), Nat.add_sub_cancel, List.getD_eq_getElem?_getD, List.getElem?_eq_getElem (by omega)] at h2
    simp only [Option.getD_some] at h2
    omega
/-- a right image's numbers all fit -/
theorem okI_im {m : IM} (h : okI m = true) : ImB m.im := by
  obtain ⟨h1, h2, h3, _, h5⟩ := okI_parts h
  unfold rightS at h2
  simp only [Bool.and_eq_true, decide_eq_true_eq] at h2
  obtain ⟨⟨⟨⟨_, h6, h7⟩, h8⟩, _⟩, _⟩ := h2
  unfold unitsB at h5
  simp only [Bool.and_eq_true, decide_eq_true_eq] at h5
  refine ⟨h1, ?_, ?_, h7, ?_, h5.1.1, ?_⟩
  · show (m.ks.map strL).length ≤ 64
    rw [List.length_map]; omega
  · intro k hk
    obtain ⟨s, hs, rfl⟩ := List.mem_map.1 (show k ∈ m.ks.map strL from hk)
    obtain ⟨i, hi, rfl⟩ := List.getElem_of_mem hs
    rw [strL_len]
    exact ((nmB_iff _).1 (keysB_at h3 i hi)).2.2
  · intro s hs
    have := List.all_eq_true.1 h8 s hs
    unfold siteB at this
    simp only [Bool.and_eq_true, decide_eq_true_eq] at this
    unfold sNum
    omega
  · intro u hu
    obtain ⟨i, hi, rfl⟩ := List.getElem_of_mem (show u ∈ m.un from hu)
    unfold sNum
    exact units_num h1 h5.2 i hi
end Go.Proofs.YtgblohjdiheemaaGreat
