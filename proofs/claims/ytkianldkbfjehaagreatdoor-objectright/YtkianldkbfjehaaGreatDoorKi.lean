/- Texts put together: Form1, Rep, Form2, Form3. -/
import Derived.Test.YtkianldkbfjehaaGreatDoorKh
import Derived.Test.YtkianldkbfjehaaGreatDoorKb
import Derived.Laws.CopyOwn
import Derived.Deep.RegionLaw
import Derived.Deep.OwnRows
import Derived.Test.YtkianldkbfjehaaGreatDoorKe

/- source.operands, source.whole, slices.Repeat at one place, strings.CutSuffix. -/
namespace Go.Proofs.YtkianldkbfjehaaGreatDoor
open Go.RowKit

def plc (l : List Nat) : List Value := l.map fun (p : Nat) => Value.int .u8 (p : Int)
/-- an item's cells, d its data -/
def cellsOf (x : Src) (d : Value) : Array Value := #[.int .u8 x.k, .string x.name, .string x.tg, .int .u8 x.o, .int .u8 x.a, .int .u8 x.b, .int .i32 x.m, .int .i64 x.n, d]
def formCells (x : Src) (d p : Value) (n : Nat) : Array Value := #[.int .u8 x.k, .string x.name, .string x.tg, .int .u8 x.o, .int .u8 x.a, .int .u8 x.b, .int .i32 x.m, .int .i64 x.n, d, p, .int .i64 n]

set_option maxHeartbeats 1000000 in
theorem operands_any (o : Nat) (h : o < 17) (w : World) :
    Calls Tryz.prog 113 #[.int .u8 o] w fun e w' => ∃ v, e = .returned v ∧ GOwnV 133 w' w.heap.size v (plc (plO o)) ∧ Below w.heap.size w w' := by
  have hl : ∀ l : List Value, l.length ≤ 2 → GOwnV 133 (w.alloc (.cells l.toArray 133)) w.heap.size (.slice (some ⟨w.heap.size, 0, none⟩) l.length l.length) l := fun l hl => (GOwn.lit 133 w l (by unfold maxLen; omega)).val
  have : o = 0 ∨ o = 1 ∨ o = 2 ∨ o = 3 ∨ o = 4 ∨ o = 5 ∨ o = 6 ∨ o = 7 ∨ o = 8 ∨ o = 9 ∨ o = 10 ∨ o = 11 ∨ o = 12 ∨ o = 13 ∨ o = 14 ∨ o = 15 ∨ o = 16 := by omega
  have h2 : Hid (∀ x y : Int, GOwnV 133 (w.alloc (.cells #[.int .u8 x, .int .u8 y] 133)) w.heap.size (.slice (some ⟨w.heap.size, 0, none⟩) 2 2) [.int .u8 x, .int .u8 y]) := fun x y => hl [_, _] (by simp)
  have h1 : Hid (∀ x : Int, GOwnV 133 (w.alloc (.cells #[.int .u8 x] 133)) w.heap.size (.slice (some ⟨w.heap.size, 0, none⟩) 1 1) [.int .u8 x]) := fun x => hl [_] (by simp)
  clear hl
  rcases this with rfl | rfl | rfl | rfl | rfl | rfl | rfl | rfl | rfl | rfl | rfl | rfl | rfl | rfl | rfl | rfl | rfl
  all_goals
    go_enter Tryz.func113, Tryz.ntmps113
    go_wp2
    go_ret
    first
      | exact ⟨_, rfl, GOwnV.nil _ _ _, below_self _⟩
      | exact ⟨_, rfl, h2.out _ _, new_alloc _ _⟩
      | exact ⟨_, rfl, h1.out _, new_alloc _ _⟩

theorem Tryz.und57 : ∃ d, Tryz.prog.underlying 57 = some d ∧ d.isRow = true := ⟨_, Tryz.underlying57, rfl⟩
theorem Tryz.sz57 : (Tryz.prog.info? 57).map (·.size) = some 9 := by kernel_rfl
theorem Tryz.und130 : ∃ d, Tryz.prog.underlying 130 = some d ∧ d.isRow = true := ⟨_, Tryz.underlying130, rfl⟩
theorem Tryz.sz130 : (Tryz.prog.info? 130).map (·.size) = some 11 := by kernel_rfl
theorem cells_one (x : Src) (q : Option Addr) (m e : Nat) : (cellsOf x (.slice q m e)).all (·.oneCell') = true := by simp [cellsOf, Value.oneCell']
theorem form_one (x : Src) (q : Option Addr) (m e : Nat) (p : Option Addr) (n c l : Nat) : (formCells x (.slice q m e) (.slice p n c) l).all (·.oneCell') = true := by simp [formCells, Value.oneCell']
theorem Blk.load {w : World} {g : Nat} {T : TypeId} {c : Array Value} (hB : Blk w g T c) (t : TypeId) (d : TypeDesc) (hu : Tryz.prog.underlying t = some d) (hd : d.isRow = true) (hi : (Tryz.prog.info? t).map (·.size) = some c.size) :
    (loadVar t ⟨g, 0, none⟩).run Tryz.prog w = .ok (.agg c) w := by
  have := run_loadVar_mid (P := Tryz.prog) w g 0 t c.toList d hB.range hu hd (by rw [hi, Array.length_toList])
  simpa using this

set_option maxHeartbeats 1000000 in
theorem whole_any (x : Src) (q : Option Addr) (m e : Nat) (p : Option Addr) (n c : Nat) (w : World) :
    Calls Tryz.prog 110 #[.agg (cellsOf x (.slice q m e)), .slice p n c] w fun e' w' => e' = .returned (.agg (formCells x (.slice q m e) (.slice p n c) n)) ∧ Below w.heap.size w w' := by
  unfold cellsOf
  go_enter Tryz.func110, Tryz.ntmps110
  go_wp2
  exact bodyPost_ret (v := .agg (formCells x (.slice q m e) (.slice p n c) n)) (by simp [results, Tryz.results110, go_sem, formCells]) rfl ⟨rfl, below_alloc (new_alloc _ _) _⟩

set_option maxHeartbeats 1000000 in
theorem liteCut_no (s : ByteArray) (h : ¬ s.data.toList.getLast? = some 58) (w : World) (hs : s.size ≤ 9223372036854775807) :
    Calls Tryz.prog 127 #[.string s, .string ⟨#[58]⟩] w fun e w' => e = .returned (.tuple #[.string s, .bool false]) ∧ w' = w := by
  have hS : Lib.hasSuffix s.data.toList (ByteArray.mk #[58]).data.toList = false := by
    refine Bool.eq_false_iff.2 fun e => h ?_
    obtain ⟨r, hr⟩ := List.isSuffixOf_iff_suffix.1 e
    rw [← hr]; simp
  have hC := fun w => Tryz.stringslite_HasSuffix s ⟨#[58]⟩ w hs
  rw [hS] at hC
  clear h hS
  go_enter Tryz.func127, Tryz.ntmps127
  go_wp2_with (refine (hC _).mono ?_; rintro e w1 ⟨rfl, rfl⟩)
  go_ret2
  exact ⟨rfl, rfl⟩
set_option maxHeartbeats 1000000 in
theorem liteCut_yes (s : ByteArray) (l : List UInt8) (h : s.data.toList = l ++ [58]) (w : World) (hs : s.size ≤ 9223372036854775807) :
    Calls Tryz.prog 127 #[.string s, .string ⟨#[58]⟩] w fun e w' => e = .returned (.tuple #[.string (bytesOf l), .bool true]) ∧ w' = w := by
  have hS : Lib.hasSuffix s.data.toList (ByteArray.mk #[58]).data.toList = true := by
    rw [h]; exact List.isSuffixOf_iff_suffix.2 ⟨l, rfl⟩
  have hC := fun w => Tryz.stringslite_HasSuffix s ⟨#[58]⟩ w hs
  rw [hS] at hC
  have hl : s.size = l.length + 1 := by rw [Lib.size_eq, h]; simp
  have he : Hid (s.extract 0 l.length = bytesOf l) := by
    apply ByteArray.ext; apply Array.ext'
    simp [bytesOf, h, hl]
  clear h hS
  go_enter Tryz.func127, Tryz.ntmps127
  go_wp2_with (refine (hC _).mono ?_; rintro e w1 ⟨rfl, rfl⟩)
  go_ret2
  exact ⟨by show Ending.returned (.tuple #[.string (s.extract 0 l.length), .bool true]) = _; rw [he.out], rfl⟩
set_option maxHeartbeats 1000000 in
theorem cutSuffix_no (s : ByteArray) (h : ¬ s.data.toList.getLast? = some 58) (w : World) (hs : s.size ≤ 9223372036854775807) :
    Calls Tryz.prog 114 #[.string s, .string ⟨#[58]⟩] w fun e w' => e = .returned (.tuple #[.string s, .bool false]) ∧ w' = w := by
  have hC := fun w => liteCut_no s h w hs
  clear h
  go_enter Tryz.func114, Tryz.ntmps114
  go_wp2_with (refine (hC _).mono ?_; rintro e w1 ⟨rfl, rfl⟩)
  go_ret2
  exact ⟨rfl, rfl⟩
set_option maxHeartbeats 1000000 in
theorem cutSuffix_yes (s : ByteArray) (l : List UInt8) (h : s.data.toList = l ++ [58]) (w : World) (hs : s.size ≤ 9223372036854775807) :
    Calls Tryz.prog 114 #[.string s, .string ⟨#[58]⟩] w fun e w' => e = .returned (.tuple #[.string (bytesOf l), .bool true]) ∧ w' = w := by
  have hC := fun w => liteCut_yes s l h w hs
  clear h
  go_enter Tryz.func114, Tryz.ntmps114
  go_wp2_with (refine (hC _).mono ?_; rintro e w1 ⟨rfl, rfl⟩)
  go_ret2
  exact ⟨rfl, rfl⟩
end Go.Proofs.YtkianldkbfjehaaGreatDoor

namespace Go.Proofs.YtkianldkbfjehaaGreatDoor
open Go.RowKit
theorem Tryz.sz133 : (Tryz.prog.info? 133).map (·.size) = some 1 := by kernel_rfl
set_option maxRecDepth 100000 in
set_option maxHeartbeats 400000 in
theorem repeat_five (g : Nat) (w : World) (h : w.cell? ⟨g, 0, none⟩ = some (.int .u8 5)) :
    Calls Tryz.prog 111 #[.slice (some ⟨g, 0, none⟩) 1 1, .int .i64 64] w fun e w' => ∃ v, e = .returned v ∧ GOwnV 133 w' w.heap.size v (List.replicate 64 (.int .u8 5)) ∧ Below w.heap.size w w' := by
  have hM : ∀ w, Calls Tryz.prog 126 #[.int .u64 1, .int .u64 64] w fun e w' => e = .returned (.tuple #[.int .u64 0, .int .u64 64]) ∧ w' = w := fun w => by
    have := Tryz.bits_Mul 1 64 (by decide) (by decide) w
    simpa using this
  obtain ⟨R, hR⟩ : ∃ R : List Value, R = List.replicate 64 (.int .u8 5) := ⟨_, rfl⟩
  have HR : Hid (R = List.replicate 64 (.int .u8 5)) := hR
  rw [← hR]
  clear hR
  obtain ⟨n, hn⟩ : ∃ n : Nat, n = 64 := ⟨_, rfl⟩
  have HN : Hid (n = 64) := hn
  rw [show (64 : Int) = (n : Int) by omega] at hM ⊢
  have hn' : n ≤ 64 ∧ 64 ≤ n := by omega
  clear hn
  have hmk := run_make_row' (P := Tryz.prog) 128 133 (.int .u8 0) 1 Tryz.underlying128 (by kernel_rfl) rfl .i64 .i64 n (by omega) (by omega)
  have hw : ∀ W : World, (W.alloc (.cells (madeCells #[.int .u8 0] n) 133)).heap[W.heap.size]? = some (.cells (madeCells #[.int .u8 0] n).toList.toArray 133 (0, 0)) := fun W => by
    rw [Array.toArray_toList]; exact World.alloc_heap_new W _
  have hml : (madeCells #[Value.int .u8 0] n).toList.length = n := by simp [madeCells]
  generalize madeCells #[Value.int .u8 0] n = Z at *
  have hsrc : ∀ W : World, W.cell? ⟨g, 0, none⟩ = some (.int .u8 5) → ∀ (j : Nat) (v : Value), [Value.int .u8 5][j]? = some v → (W.alloc (.cells Z 133)).cell? ((⟨g, 0, none⟩ : Addr).add j) = some v := fun W hW j v hv => by
    have hj : j = 0 := by have := (List.getElem?_eq_some_iff.1 hv).1; simp at this; exact this
    subst hj
    simp at hv
    rw [← hv]
    exact cell_push hW _
  have HS : Hid (∀ W : World, W.cell? ⟨g, 0, none⟩ = some (.int .u8 5) → ∀ (j : Nat) (v : Value), [Value.int .u8 5][j]? = some v → (W.alloc (.cells Z 133)).cell? ((⟨g, 0, none⟩ : Addr).add j) = some v) := hsrc
  have HW : Hid (∀ W : World, (W.alloc (.cells Z 133)).heap[W.heap.size]? = some (.cells Z.toList.toArray 133 (0, 0))) := hw
  clear hsrc hw
  go_enter Tryz.func111, Tryz.ntmps111
  go_wp2_with (first
    | (go_at_call 126; refine (hM _).mono ?_; rintro e w1 ⟨rfl, rfl⟩)
    | (refine wpList_copy_splice rfl (.tmp 31) (.tmp 32) 128 128 rfl 133 Tryz.underlying128 Tryz.sz133 _ _ n n 1 1 rfl rfl w1.heap.size 0 Z.toList 133 (HW.out w1) [.int .u8 5] (show 1 = min 1 n by omega) (fun _ => ⟨rfl, ⟨g, 0, none⟩, rfl, HS.out w1 h⟩) (by rw [hml]; show 0 + 1 ≤ n; omega) (by simp [Value.oneCell']) w1.heap.size w1 (new_alloc _ _) (Nat.le_refl _) ?_; intro w2 HG2 hB2))
  go_loopw [8] (fun i wr => ∃ (k : Nat) (cur : List Value), 1 ≤ k ∧ k ≤ n ∧ i = .int .i64 k ∧ cur.length = n ∧ cur.take k = List.replicate k (.int .u8 5) ∧ wr.heap[w1.heap.size]? = some (.cells cur.toArray 133 (0, 0)) ∧ Below w1.heap.size w1 wr) (fun i _ => n - (intOf i).toNat)
  case atStart =>
    refine ⟨1, splice Z.toList 0 [.int .u8 5], Nat.le_refl _, by omega, rfl, ?_, ?_, HG2.out, hB2⟩
    · rw [length_splice _ _ _ (by rw [hml]; show 0 + 1 ≤ n; omega), hml]
    · simp [splice]
  case round =>
    obtain ⟨k, cur, h1, h2, rfl, hl, ht, hg, hb⟩ := hrel
    by_cases hk : k < n
    · obtain ⟨cs, hcs⟩ : ∃ cs : List Value, cs = List.replicate (min k (n - k)) (.int .u8 5) := ⟨_, rfl⟩
      have hcl : cs.length = min k (n - k) := by rw [hcs]; simp
      have HC : Hid (cs = List.replicate (min k (n - k)) (.int .u8 5)) := hcs
      have HT : Hid (cur.take k = List.replicate k (.int .u8 5)) := ht
      have HG : Hid (wr.heap[w1.heap.size]? = some (.cells cur.toArray 133 (0, 0))) := hg
      have HO : Hid (∀ v ∈ cs, v.oneCell' = true) := fun v hv => by
        rw [hcs] at hv; rw [List.eq_of_mem_replicate hv]; rfl
      have HS2 : Hid (∀ (q : Nat) (j : Nat) (v : Value), cs[j]? = some v → (wr.drewN q).cell? ((⟨w1.heap.size, 0, none⟩ : Addr).add j) = some v) := fun q j v hv => by
        have hj := (List.getElem?_eq_some_iff.1 hv).1
        rw [hcs, List.getElem?_replicate_of_lt (by rw [hcl] at hj; omega)] at hv
        have hc : cur[j]? = some v := by
          have := congrArg (fun l : List Value => l[j]?) ht
          simp only [List.getElem?_take] at this
          rw [if_pos (by omega), List.getElem?_replicate_of_lt (by omega)] at this
          rw [this]; exact hv
        show wr.cell? _ = _
        rw [Addr.add_mid, Nat.zero_add]
        simp [World.cell?, hg, hc]
      clear hcs ht hg
      have hne : ¬ n = k := by omega
      obtain ⟨w4, hg4, hb4, hrun⟩ : ∃ w4 : World, w4.heap[w1.heap.size]? = some (.cells (splice cur k cs).toArray 133 (0, 0)) ∧ Below w1.heap.size w1 w4 ∧ (Builtin.copy_ #[128, 128] 3 #[.slice (some ⟨w1.heap.size, k, none⟩) (n - k) (n - k), .slice (some ⟨w1.heap.size, 0, none⟩) k n]).run Tryz.prog wr.drew = .ok (goInt cs.length) w4 := by
        have hr := run_copy_row (P := Tryz.prog) wr.drew 128 128 3 133 w1.heap.size k (n - k) (n - k) ⟨w1.heap.size, 0, none⟩ k n cur.toArray 133 cs Tryz.underlying128 Tryz.sz133 HG.out hcl (HS2.out 1) (by simp; omega) HO.out
        refine ⟨_, ?_, ?_, hr⟩
        · have := setRow_heap wr.drew w1.heap.size cur.toArray (cur.toArray.toList.take k ++ (cs ++ cur.toArray.toList.drop (k + cs.length))).toArray 133 (0, 0) HG.out
          simpa [splice] using this
        · exact below_setRow (below_draws hb 1) (Nat.le_refl _) _
      have HG4 : Hid (w4.heap[w1.heap.size]? = some (.cells (splice cur k cs).toArray 133 (0, 0))) := hg4
      clear hg4
      go_wp2_with fail
      go_region
      go_wp2
      go_roundw
      case rel =>
        refine ⟨k + cs.length, splice cur k cs, by omega, by omega, by go_num, ?_, ?_, HG4.out, hb4⟩
        · rw [length_splice _ _ _ (by omega), hl]
        · have : (splice cur k cs).take (k + cs.length) = cur.take k ++ cs := by
            unfold splice
            rw [List.take_append, List.take_take, List.length_take, show min k cur.length = k by omega, show k + cs.length - k = cs.length by omega, show min (k + cs.length) k = k by omega, List.take_append]
            simp
          rw [this, HT.out, HC.out, List.length_replicate, List.replicate_append_replicate]
      case measure => simp [intOf]; omega
    · have hkn : k = n := by omega
      have hR : cur = R := by
        rw [HR.out, ← HN.out, ← hkn, ← ht, List.take_of_length_le (by omega)]
      have hO : GOwnV 133 wr w1.heap.size (.slice (some ⟨w1.heap.size, 0, none⟩) n n) R := by
        have h4 := GOwn.mk (T := 133) (cap := n) (vs := R) (Nat.le_refl _) hg (by rw [← hR, hl]; exact Nat.le_refl _) (by unfold maxLen; omega) (by simp [hl]) (by rw [hR]; simp)
        have h5 : R.length = n := by rw [← hR, hl]
        have h6 := h4.val
        rw [h5] at h6
        exact h6
      have HO : Hid (GOwnV 133 wr w1.heap.size (.slice (some ⟨w1.heap.size, 0, none⟩) n n) R) := hO
      clear hO hR ht hg
      go_wp2
      go_ret
      exact ⟨_, rfl, HO.out, hb⟩

end Go.Proofs.YtkianldkbfjehaaGreatDoor

/- What source.formOf answers, for every first field. -/
namespace Go.Proofs.YtkianldkbfjehaaGreatDoor
open Go.RowKit

theorem load61 {w : World} {g : Nat} {c : Array Value} (h : Blk w g 130 c) (hs : c.size = 11) : (loadVar 130 ⟨g, 0, none⟩).run Tryz.prog w = .ok (.agg c) w := by
  obtain ⟨d, hu, hd⟩ := Tryz.und130
  exact h.load 130 d hu hd (by rw [hs]; exact Tryz.sz130)
abbrev nilV : Value := .slice none 0 0
def form0 : Array Value := formCells src0 nilV nilV 0
/-- what formOf tells of a first field that asks for x, the places ps, least n -/
def FormIs (x : Src) (ps : List Nat) (n : Nat) (w : World) (e : Ending) (w' : World) : Prop :=
  ∃ v, e = .returned (.tuple #[.agg (formCells x nilV v n), .bool true]) ∧ GOwnV 133 w' w.heap.size v (plc ps) ∧ Below w.heap.size w w'
theorem form_tail {w W1 w2 w3 : World} {v : Value} {ps : List Value} (hb : Below w.heap.size w W1) (ho : GOwnV 133 W1 (w.heap.size + 1) v ps) (hb2 : Below W1.heap.size W1 w2) (hg : w2.grownBy w3 (some w.heap.size)) :
    GOwnV 133 w3 w.heap.size v ps ∧ Below w.heap.size w w3 := by
  have ho2 := ho.below hb2
  have hb3 := below_step hb hb2
  exact ⟨(ho2.grownOther hg (.inr (ho2.not_low (Nat.lt_succ_self _)).symm)).lowerV (Nat.le_succ _), hb3.trans (below_grown hg (Nat.le_refl _) hb3.size)⟩
theorem own_lit2 (W : World) (a b : Int) : GOwnV 133 (W.alloc (.cells #[.int .u8 a, .int .u8 b] 133)) W.heap.size (.slice (some ⟨W.heap.size, 0, none⟩) 2 2) [.int .u8 a, .int .u8 b] := (GOwn.lit 133 W [.int .u8 a, .int .u8 b] (by unfold maxLen; simp)).val
theorem own_lit1 (W : World) (a : Int) : GOwnV 133 (W.alloc (.cells #[.int .u8 a] 133)) W.heap.size (.slice (some ⟨W.heap.size, 0, none⟩) 1 1) [.int .u8 a] := (GOwn.lit 133 W [.int .u8 a] (by unfold maxLen; simp)).val
theorem size_one (w : World) (o : Obj) : (w.alloc o).heap.size = w.heap.size + 1 := by simp

theorem own_at {W : World} {B : Nat} {p : Nat} {n c : Nat} {vs : List Value} (hB : p = B) (h : GOwnV 133 W p (.slice (some ⟨p, 0, none⟩) n c) vs) : GOwnV 133 W B (.slice (some ⟨B, 0, none⟩) n c) vs := hB ▸ h
theorem Hid.in {p : Prop} (h : p) : Hid p := h

theorem le_of {a b c : Nat} (h : a = b) (k : a ≤ c) : b ≤ c := h ▸ k

set_option maxRecDepth 20000 in
set_option maxHeartbeats 1000000 in
theorem formOf_w0 (w : World) : Calls Tryz.prog 93 #[.string (wd 0)] w (FormIs (srcK 3) [3, 4] 2 w) := by
  unfold wd
  go_enter Tryz.func93, Tryz.ntmps93
  go_wp2_with (first
    | (go_at_call 110; refine (whole_any (srcK 3) none 0 0 _ 2 2 _).mono ?_; rintro e w2 ⟨rfl, hb2⟩; have HB : Hid (Blk w2 w.heap.size 130 form0) := ((Blk.new w 130 form0).grow (new_alloc _ _)).grow hb2; have HT := fun w3 hg => Hid.in (form_tail (w3 := w3) (below_alloc (new_alloc w (.cells form0 130)) _) (own_at (size_one w (.cells form0 130)) (own_lit2 (w.alloc (.cells form0 130)) 3 4)) hb2 hg))
    | (refine step_store_blk HB.out rfl 130 (.tmp 2) (.tmp 13) rfl rfl rfl (formCells (srcK 3) nilV (.slice (some ⟨w.heap.size + 1, 0, none⟩) 2 2) 2) rfl Tryz.sz130 rfl (form_one _ _ _ _ _ _ _ _) ?_; intro w3 hB3 hg3; have HL := Hid.in (load61 hB3 rfl)))
  have hld := HL.out
  obtain ⟨h1, h2⟩ := (HT w3 hg3).out
  exact bodyPost_ret (v := .tuple #[.agg (formCells (srcK 3) nilV (.slice (some ⟨w.heap.size + 1, 0, none⟩) 2 2) 2), .bool true]) (by simp [results, Tryz.results93, asAddr, hld]) rfl ⟨_, rfl, h1, h2⟩

set_option maxRecDepth 20000 in
set_option maxHeartbeats 1000000 in
theorem formOf_w2 (w : World) : Calls Tryz.prog 93 #[.string (wd 2)] w (FormIs (srcK 5) [6] 1 w) := by
  unfold wd
  go_enter Tryz.func93, Tryz.ntmps93
  go_wp2_with (first
    | (go_at_call 110; refine (whole_any (srcK 5) none 0 0 _ 1 1 _).mono ?_; rintro e w2 ⟨rfl, hb2⟩; have HB : Hid (Blk w2 w.heap.size 130 form0) := ((Blk.new w 130 form0).grow (new_alloc _ _)).grow hb2; have HT := fun w3 hg => Hid.in (form_tail (w3 := w3) (below_alloc (new_alloc w (.cells form0 130)) _) (own_at (size_one w (.cells form0 130)) (own_lit1 (w.alloc (.cells form0 130)) 6)) hb2 hg))
    | (refine step_store_blk HB.out rfl 130 (.tmp 2) (.tmp 24) rfl rfl rfl (formCells (srcK 5) nilV (.slice (some ⟨w.heap.size + 1, 0, none⟩) 1 1) 1) rfl Tryz.sz130 rfl (form_one _ _ _ _ _ _ _ _) ?_; intro w3 hB3 hg3; have HL := Hid.in (load61 hB3 rfl)))
  have hld := HL.out
  obtain ⟨h1, h2⟩ := (HT w3 hg3).out
  exact bodyPost_ret (v := .tuple #[.agg (formCells (srcK 5) nilV (.slice (some ⟨w.heap.size + 1, 0, none⟩) 1 1) 1), .bool true]) (by simp [results, Tryz.results93, asAddr, hld]) rfl ⟨_, rfl, h1, h2⟩

set_option maxRecDepth 20000 in
set_option maxHeartbeats 1000000 in
theorem formOf_w3 (w : World) : Calls Tryz.prog 93 #[.string (wd 3)] w (FormIs (srcK 6) [7] 1 w) := by
  unfold wd
  go_enter Tryz.func93, Tryz.ntmps93
  go_wp2_with (first
    | (go_at_call 110; refine (whole_any (srcK 6) none 0 0 _ 1 1 _).mono ?_; rintro e w2 ⟨rfl, hb2⟩; have HB : Hid (Blk w2 w.heap.size 130 form0) := ((Blk.new w 130 form0).grow (new_alloc _ _)).grow hb2; have HT := fun w3 hg => Hid.in (form_tail (w3 := w3) (below_alloc (new_alloc w (.cells form0 130)) _) (own_at (size_one w (.cells form0 130)) (own_lit1 (w.alloc (.cells form0 130)) 7)) hb2 hg))
    | (refine step_store_blk HB.out rfl 130 (.tmp 2) (.tmp 29) rfl rfl rfl (formCells (srcK 6) nilV (.slice (some ⟨w.heap.size + 1, 0, none⟩) 1 1) 1) rfl Tryz.sz130 rfl (form_one _ _ _ _ _ _ _ _) ?_; intro w3 hB3 hg3; have HL := Hid.in (load61 hB3 rfl)))
  have hld := HL.out
  obtain ⟨h1, h2⟩ := (HT w3 hg3).out
  exact bodyPost_ret (v := .tuple #[.agg (formCells (srcK 6) nilV (.slice (some ⟨w.heap.size + 1, 0, none⟩) 1 1) 1), .bool true]) (by simp [results, Tryz.results93, asAddr, hld]) rfl ⟨_, rfl, h1, h2⟩

set_option maxRecDepth 20000 in
set_option maxHeartbeats 1000000 in
theorem formOf_w4 (w : World) : Calls Tryz.prog 93 #[.string (wd 4)] w (FormIs (srcK 7) [3] 1 w) := by
  unfold wd
  go_enter Tryz.func93, Tryz.ntmps93
  go_wp2_with (first
    | (go_at_call 110; refine (whole_any (srcK 7) none 0 0 _ 1 1 _).mono ?_; rintro e w2 ⟨rfl, hb2⟩; have HB : Hid (Blk w2 w.heap.size 130 form0) := ((Blk.new w 130 form0).grow (new_alloc _ _)).grow hb2; have HT := fun w3 hg => Hid.in (form_tail (w3 := w3) (below_alloc (new_alloc w (.cells form0 130)) _) (own_at (size_one w (.cells form0 130)) (own_lit1 (w.alloc (.cells form0 130)) 3)) hb2 hg))
    | (refine step_store_blk HB.out rfl 130 (.tmp 2) (.tmp 34) rfl rfl rfl (formCells (srcK 7) nilV (.slice (some ⟨w.heap.size + 1, 0, none⟩) 1 1) 1) rfl Tryz.sz130 rfl (form_one _ _ _ _ _ _ _ _) ?_; intro w3 hB3 hg3; have HL := Hid.in (load61 hB3 rfl)))
  have hld := HL.out
  obtain ⟨h1, h2⟩ := (HT w3 hg3).out
  exact bodyPost_ret (v := .tuple #[.agg (formCells (srcK 7) nilV (.slice (some ⟨w.heap.size + 1, 0, none⟩) 1 1) 1), .bool true]) (by simp [results, Tryz.results93, asAddr, hld]) rfl ⟨_, rfl, h1, h2⟩


end Go.Proofs.YtkianldkbfjehaaGreatDoor

/- More of what source.formOf answers, for every first field. -/
namespace Go.Proofs.YtkianldkbfjehaaGreatDoor
open Go.RowKit

/-- a first field that is none of the five words -/
theorem not_word {y : ByteArray} (h : wdL y.data.toList = none) : (y.toList == [109, 97, 114, 107]) = false ∧ (y.toList == [98, 121, 116, 101]) = false ∧ (y.toList == [115, 112, 97, 99, 101]) = false ∧ (y.toList == [97, 108, 105, 103, 110]) = false ∧ (y.toList == [103, 108, 111, 98, 97, 108]) = false := by
  unfold wdL at h
  rw [List.find?_eq_none] at h
  rw [toList_eq]
  have h0 := h 0 (by decide); have h1 := h 1 (by decide); have h2 := h 2 (by decide); have h3 := h 3 (by decide); have h4 := h 4 (by decide)
  simp only [wd, beq_iff_eq] at h0 h1 h2 h3 h4
  exact ⟨beq_eq_false_iff_ne.2 fun e => h0 e.symm, beq_eq_false_iff_ne.2 fun e => h1 e.symm, beq_eq_false_iff_ne.2 fun e => h2 e.symm, beq_eq_false_iff_ne.2 fun e => h3 e.symm, beq_eq_false_iff_ne.2 fun e => h4 e.symm⟩
theorem nm_word (o : Nat) (h1 : 1 ≤ o) (h2 : o < 17) : wdL (nm o).data.toList = none := by
  have : o = 1 ∨ o = 2 ∨ o = 3 ∨ o = 4 ∨ o = 5 ∨ o = 6 ∨ o = 7 ∨ o = 8 ∨ o = 9 ∨ o = 10 ∨ o = 11 ∨ o = 12 ∨ o = 13 ∨ o = 14 ∨ o = 15 ∨ o = 16 := by omega
  rcases this with rfl | rfl | rfl | rfl | rfl | rfl | rfl | rfl | rfl | rfl | rfl | rfl | rfl | rfl | rfl | rfl <;> decide

set_option maxRecDepth 20000 in
set_option maxHeartbeats 1000000 in
theorem formOf_op (o : Nat) (h1 : 1 ≤ o) (h2 : o < 17) (w : World) : Calls Tryz.prog 93 #[.string (nm o)] w (FormIs { srcK 2 with o := o } (plO o) (plO o).length w) := by
  have hOp := fun W => opName_yes o W h1 h2
  have hPl := fun W => operands_any o h2 W
  obtain ⟨n0, n1, n2, n3, n4⟩ := not_word (nm_word o h1 h2)
  generalize nm o = y at *
  have hpl : (plc (plO o)).length = (plO o).length := List.length_map _
  generalize plO o = ps at *
  go_enter Tryz.func93, Tryz.ntmps93
  go_wp2_with (first
    | (go_at_call 112; refine (hOp _).mono ?_; rintro e w1 ⟨rfl, hb1⟩; have HB1 : Hid (Blk w1 w.heap.size 130 form0) := (Blk.new w 130 form0).grow hb1; have HW1 := Hid.in (below_step (new_alloc w (.cells form0 130)) hb1); have hs1 := Hid.in (hb1.size); clear hb1)
    | (go_at_call 113; refine (hPl _).mono ?_; rintro e w2 ⟨v, rfl, hv, hb2⟩; obtain ⟨p, cap, rfl, -, -, -⟩ := hv.slice; rw [hpl] at *; have HB2 : Hid (Blk w2 w.heap.size 130 form0) := HB1.out.grow hb2; have HW2 := Hid.in (below_step HW1.out hb2); have HV := Hid.in hv; clear hv hb2)
    | (go_at_call 110; refine (whole_any { srcK 2 with o := o } none 0 0 _ _ _ _).mono ?_; rintro e w3 ⟨rfl, hb3⟩; have HB : Hid (Blk w3 w.heap.size 130 form0) := HB2.out.grow hb3; have HT := fun w4 hg => Hid.in (form_tail (w3 := w4) HW2.out (HV.out.lowerV (le_of (size_one w (.cells form0 130)) hs1.out)) hb3 hg))
    | (refine step_store_blk HB.out rfl 130 (.tmp 2) (.tmp 46) rfl rfl rfl (formCells { srcK 2 with o := o } nilV (.slice p ps.length cap) ps.length) rfl Tryz.sz130 rfl (form_one _ _ _ _ _ _ _ _) ?_; intro w4 hB4 hg4; have HL := Hid.in (load61 hB4 rfl)))
  have hld := HL.out
  obtain ⟨h1, h2⟩ := (HT w4 hg4).out
  exact bodyPost_ret (v := .tuple #[.agg (formCells { srcK 2 with o := o } nilV (.slice p ps.length cap) ps.length), .bool true]) (by simp [results, Tryz.results93, asAddr, hld]) rfl ⟨_, rfl, h1, h2⟩

theorem plc_fives : plc (List.replicate 64 5) = List.replicate 64 (.int .u8 5) := by simp [plc]
/-- FormIs of any list of places -/
theorem FormIs.mk {x : Src} {ps : List Nat} {n : Nat} {w w' : World} {v : Value} {vs : List Value} (hp : plc ps = vs) (h1 : GOwnV 133 w' w.heap.size v vs) (h2 : Below w.heap.size w w') : FormIs x ps n w (.returned (.tuple #[.agg (formCells x nilV v n), .bool true])) w' := ⟨v, rfl, by rw [hp]; exact h1, h2⟩
theorem five_cell (w : World) : ((w.alloc (.cells form0 130)).alloc (.cells #[.int .u8 5] 133)).cell? ⟨w.heap.size + 1, 0, none⟩ = some (.int .u8 5) := by
  have := (Blk.new (w.alloc (.cells form0 130)) 133 #[.int .u8 5]).cell 0
  rw [size_one] at this
  exact this

set_option maxRecDepth 20000 in
set_option maxHeartbeats 1000000 in
theorem formOf_w1 (w : World) : Calls Tryz.prog 93 #[.string (wd 1)] w (FormIs (srcK 4) (List.replicate 64 5) 1 w) := by
  have HP := Hid.in plc_fives
  have hl : (List.replicate 64 (Value.int .u8 5)).length = 64 := List.length_replicate
  have hR := fun W h => repeat_five (w.heap.size + 1) W h
  generalize List.replicate 64 (Value.int .u8 5) = R at *
  generalize List.replicate 64 5 = ps at *
  have H5 := Hid.in (five_cell w)
  unfold wd
  go_enter Tryz.func93, Tryz.ntmps93
  go_wp2_with (first
    | (go_at_call 111; refine (hR _ H5.out).mono ?_; rintro e w2 ⟨v, rfl, hv, hb2⟩; obtain ⟨p, cap, rfl, -, -, -⟩ := hv.slice; rw [hl] at *; have HB : Hid (Blk w2 w.heap.size 130 form0) := ((Blk.new w 130 form0).grow (new_alloc _ _)).grow hb2; have HW := Hid.in (below_step (below_alloc (new_alloc w (.cells form0 130)) _) hb2); have HV := Hid.in (hv.lowerV (B' := w.heap.size + 1) (by simp)); clear hv hb2)
    | (refine step_store_blk HB.out rfl 130 (.tmp 2) (.tmp 19) rfl rfl rfl (formCells (srcK 4) nilV (.slice p 64 cap) 1) rfl Tryz.sz130 rfl (form_one _ _ _ _ _ _ _ _) ?_; intro w4 hB4 hg4; have HL := Hid.in (load61 hB4 rfl)))
  have hld := HL.out
  obtain ⟨h1, h2⟩ := form_tail HW.out HV.out (below_self w2) hg4
  exact bodyPost_ret (v := .tuple #[.agg (formCells (srcK 4) nilV (.slice p 64 cap) 1), .bool true]) (by simp [results, Tryz.results93, asAddr, hld]) rfl (FormIs.mk HP.out h1 h2)

/-- what formOf tells of a first field that no line has -/
def FormNo (w : World) (e : Ending) (w' : World) : Prop := e = .returned (.tuple #[.agg form0, .bool false]) ∧ Below w.heap.size w w'

set_option maxRecDepth 20000 in
set_option maxHeartbeats 1000000 in
theorem formOf_label (y : ByteArray) (l : List UInt8) (hw : wdL y.data.toList = none) (ho : ∀ o, 1 ≤ o → o < 17 → nm o ≠ y) (hy : y.data.toList = l ++ [58]) (hn : NameP (bytesOf l)) (hs : y.size ≤ 9223372036854775807) (w : World) :
    Calls Tryz.prog 93 #[.string y] w (FormIs { srcK 1 with name := bytesOf l } [] 0 w) := by
  have hOp := fun W => opName_no y W ho
  have hCu := fun W => cutSuffix_yes y l hy W hs
  have hNa := fun W => name_any (bytesOf l) W true ⟨fun _ => hn, fun _ => rfl⟩
  obtain ⟨n0, n1, n2, n3, n4⟩ := not_word hw
  clear hw ho hy hn
  generalize bytesOf l = z at *
  go_enter Tryz.func93, Tryz.ntmps93
  go_wp2_with (first
    | (go_at_call 112; refine (hOp _).mono ?_; rintro e w1 ⟨rfl, hb1⟩; have HB1 : Hid (Blk w1 w.heap.size 130 form0) := (Blk.new w 130 form0).grow hb1; have HW1 := Hid.in (below_step (new_alloc w (.cells form0 130)) hb1); clear hb1)
    | (go_at_call 114; refine (hCu _).mono ?_; rintro e w1' ⟨rfl, rfl⟩)
    | (go_at_call 67; refine (hNa _).mono ?_; rintro e w2 ⟨rfl, hb2⟩; have HB2 : Hid (Blk w2 w.heap.size 130 form0) := HB1.out.grow hb2; have HW2 := Hid.in (below_step HW1.out hb2); clear hb2)
    | (go_at_call 110; refine (whole_any { srcK 1 with name := z } none 0 0 none 0 0 _).mono ?_; rintro e w3 ⟨rfl, hb3⟩; have HB : Hid (Blk w3 w.heap.size 130 form0) := HB2.out.grow hb3; have HT := fun w4 hg => Hid.in (form_tail (w3 := w4) HW2.out (GOwnV.nil 133 w2 (w.heap.size + 1)) hb3 hg))
    | (refine step_store_blk HB.out rfl 130 (.tmp 2) (.tmp 62) rfl rfl rfl (formCells { srcK 1 with name := z } nilV nilV 0) rfl Tryz.sz130 rfl (form_one _ _ _ _ _ _ _ _) ?_; intro w4 hB4 hg4; have HL := Hid.in (load61 hB4 rfl)))
  have hld := HL.out
  obtain ⟨h1, h2⟩ := (HT w4 hg4).out
  exact bodyPost_ret (v := .tuple #[.agg (formCells { srcK 1 with name := z } nilV nilV 0), .bool true]) (by simp [results, Tryz.results93, asAddr, hld]) rfl (FormIs.mk rfl h1 h2)

set_option maxRecDepth 20000 in
set_option maxHeartbeats 1000000 in
theorem formOf_no1 (y : ByteArray) (hw : wdL y.data.toList = none) (ho : ∀ o, 1 ≤ o → o < 17 → nm o ≠ y) (hy : ¬ y.data.toList.getLast? = some 58) (hs : y.size ≤ 9223372036854775807) (w : World) :
    Calls Tryz.prog 93 #[.string y] w (FormNo w) := by
  have hOp := fun W => opName_no y W ho
  have hCu := fun W => cutSuffix_no y hy W hs
  obtain ⟨n0, n1, n2, n3, n4⟩ := not_word hw
  clear hw ho hy
  go_enter Tryz.func93, Tryz.ntmps93
  go_wp2_with (first
    | (go_at_call 112; refine (hOp _).mono ?_; rintro e w1 ⟨rfl, hb1⟩; have HB1 : Hid (Blk w1 w.heap.size 130 form0) := (Blk.new w 130 form0).grow hb1; have HW1 := Hid.in (below_step (new_alloc w (.cells form0 130)) hb1); clear hb1)
    | (go_at_call 114; refine (hCu _).mono ?_; rintro e w1' ⟨rfl, rfl⟩)
    | (refine step_store_blk HB1.out rfl 130 (.tmp 2) (.tmp 59) rfl rfl rfl form0 rfl Tryz.sz130 rfl (form_one _ _ _ _ _ _ _ _) ?_; intro w4 hB4 hg4; have HL := Hid.in (load61 hB4 rfl)))
  have hld := HL.out
  exact bodyPost_ret (v := .tuple #[.agg form0, .bool false]) (by simp [results, Tryz.results93, asAddr, hld]) rfl ⟨rfl, HW1.out.trans (below_grown hg4 (Nat.le_refl _) HW1.out.size)⟩

set_option maxRecDepth 20000 in
set_option maxHeartbeats 1000000 in
theorem formOf_no2 (y : ByteArray) (l : List UInt8) (hw : wdL y.data.toList = none) (ho : ∀ o, 1 ≤ o → o < 17 → nm o ≠ y) (hy : y.data.toList = l ++ [58]) (hn : ¬ NameP (bytesOf l)) (hs : y.size ≤ 9223372036854775807) (w : World) :
    Calls Tryz.prog 93 #[.string y] w (FormNo w) := by
  have hOp := fun W => opName_no y W ho
  have hCu := fun W => cutSuffix_yes y l hy W hs
  have hNa := fun W => name_any (bytesOf l) W false ⟨fun h => (by cases h), fun h => absurd h hn⟩
  obtain ⟨n0, n1, n2, n3, n4⟩ := not_word hw
  clear hw ho hy hn
  generalize bytesOf l = z at *
  go_enter Tryz.func93, Tryz.ntmps93
  go_wp2_with (first
    | (go_at_call 112; refine (hOp _).mono ?_; rintro e w1 ⟨rfl, hb1⟩; have HB1 : Hid (Blk w1 w.heap.size 130 form0) := (Blk.new w 130 form0).grow hb1; have HW1 := Hid.in (below_step (new_alloc w (.cells form0 130)) hb1); clear hb1)
    | (go_at_call 114; refine (hCu _).mono ?_; rintro e w1' ⟨rfl, rfl⟩)
    | (go_at_call 67; refine (hNa _).mono ?_; rintro e w2 ⟨rfl, hb2⟩; have HB2 : Hid (Blk w2 w.heap.size 130 form0) := HB1.out.grow hb2; have HW2 := Hid.in (below_step HW1.out hb2); clear hb2)
    | (refine step_store_blk HB2.out rfl 130 (.tmp 2) (.tmp 59) rfl rfl rfl form0 rfl Tryz.sz130 rfl (form_one _ _ _ _ _ _ _ _) ?_; intro w4 hB4 hg4; have HL := Hid.in (load61 hB4 rfl)))
  have hld := HL.out
  exact bodyPost_ret (v := .tuple #[.agg form0, .bool false]) (by simp [results, Tryz.results93, asAddr, hld]) rfl ⟨rfl, HW2.out.trans (below_grown hg4 (Nat.le_refl _) HW2.out.size)⟩

/-- what formOf tells of any first field -/
def FormR (r : Option (Src × List Nat × Nat)) (w : World) (e : Ending) (w' : World) : Prop := match r with
  | some (x, ps, n) => FormIs x ps n w e w'
  | none => FormNo w e w'
theorem opL_some {l : List UInt8} {o : Nat} (h : opL l = some o) : 1 ≤ o ∧ o < 17 ∧ l = (nm o).data.toList := by
  have h1 := List.find?_some h
  have h2 := List.mem_of_find?_eq_some h
  rw [List.mem_range'_1] at h2
  exact ⟨h2.1, by omega, (beq_iff_eq.1 h1).symm⟩
theorem opL_none {y : ByteArray} (h : opL y.data.toList = none) : ∀ o, 1 ≤ o → o < 17 → nm o ≠ y := fun o h1 h2 e => by
  unfold opL at h
  rw [List.find?_eq_none] at h
  exact h o (List.mem_range'_1.2 ⟨h1, by omega⟩) (by rw [e]; exact beq_self_eq_true _)
theorem wdL_some {l : List UInt8} {i : Nat} (h : wdL l = some i) : i < 5 ∧ l = (wd i).data.toList := by
  have h1 := List.find?_some h
  have h2 := List.mem_of_find?_eq_some h
  exact ⟨List.mem_range.1 h2, (beq_iff_eq.1 h1).symm⟩
theorem text_of {y z : ByteArray} (h : y.data.toList = z.data.toList) : y = z := by
  rw [← bytesOf_self y, ← bytesOf_self z, h]

theorem formOf_any (y : ByteArray) (hs : y.size ≤ 9223372036854775807) (w : World) : Calls Tryz.prog 93 #[.string y] w (FormR (formL y.data.toList) w) := by
  unfold formL
  cases hw : wdL y.data.toList with
  | some i =>
    obtain ⟨hi, he⟩ := wdL_some hw
    obtain rfl := text_of he
    have : i = 0 ∨ i = 1 ∨ i = 2 ∨ i = 3 ∨ i = 4 := by omega
    rcases this with rfl | rfl | rfl | rfl | rfl
    · exact formOf_w0 w
    · exact formOf_w1 w
    · exact formOf_w2 w
    · exact formOf_w3 w
    · exact formOf_w4 w
  | none =>
    simp only
    cases ho : opL y.data.toList with
    | some o =>
      obtain ⟨h1, h2, he⟩ := opL_some ho
      obtain rfl := text_of he
      exact formOf_op o h1 h2 w
    | none =>
      simp only
      have ho' := opL_none ho
      by_cases hl : y.data.toList.getLast? = some 58
      · have hy : y.data.toList = y.data.toList.dropLast ++ [58] := by
          obtain ⟨r, hr⟩ := List.getLast?_eq_some_iff.1 hl
          rw [hr]; simp
        by_cases hn : nameB y.data.toList.dropLast = true
        · rw [if_pos ⟨hl, hn⟩]
          have hn' := (nameB_iff (bytesOf y.data.toList.dropLast)).1 (by rw [bytesOf_list]; exact hn)
          exact formOf_label y _ hw ho' hy hn' hs w
        · rw [if_neg fun e => hn e.2]
          have hn' : ¬ NameP (bytesOf y.data.toList.dropLast) := fun e => hn (by have := (nameB_iff _).2 e; rwa [bytesOf_list] at this)
          exact formOf_no2 y _ hw ho' hy hn' hs w
      · rw [if_neg fun e => hl e.1]
        exact formOf_no1 y hw ho' hl hs w


end Go.Proofs.YtkianldkbfjehaaGreatDoor
