/- What octets.Put32 answers, for every slice of bytes, every place, every number. -/
import Derived.Test.YtekggimgobeggaaRead
import Derived.Test.YtekggimgobeggaaOwn
namespace Go.Proofs.Ytekggimgobeggaa
open Go.RowKit

theorem put32_no (p : Option Addr) (n c : Nat) (a v : Int) (w : World) (hn : n ≤ 9223372036854775807) (h : a < 0 ∨ n - 4 < a) :
    Calls Try.prog 102 #[.slice p n c, .int .i64 a, .int .u32 v] w fun e w' => e = .returned (.tuple #[.slice none 0 0, .int .i64 2]) ∧ w' = w := by
  go_enter Try.func102, Try.ntmps102
  go_wp2_with (go_at_call 107; refine (inside_no _ _ _ _ _ _ hn (by decide) (by decide) h).mono ?_; rintro e w' ⟨rfl, rfl⟩)
  go_ret2
  exact ⟨rfl, rfl⟩

def putL (xs : List Int) (a : Nat) (v : Int) : List Int :=
  (((xs.set a (v % 256)).set (a + 1) (v / 256 % 256)).set (a + 2) (v / 65536 % 256)).set (a + 3) (v / 16777216)

theorem Own.of_made {w : World} {B g n : Nat} (h : w.ownsRow B 5 1 (.slice (some ⟨g, 0, none⟩) n n) n (madeCells (Value.int .u8 0).cells (n * 1)).toList) : Own w B g n (List.replicate n 0) := by
  unfold Own
  have e : (madeCells (Value.int .u8 0).cells (n * 1)).toList = byts (List.replicate n 0) := by
    rw [show (Value.int .u8 0).cells = #[Value.int .u8 0] from rfl, toList_madeCells_one]; simp [byts]
  rw [e] at h
  simpa using h

theorem Own.whole {w : World} {B g : Nat} {xs : List Int} (h : Own w B g xs.length xs) : w.heap[g]? = some (.cells (byts xs).toArray 5 (0, 0)) := by
  obtain ⟨cur, _, h2, _, _, h5, h6⟩ := h.parts
  rw [h2, ← h6, List.take_of_length_le (by rw [Array.length_toList]; omega)]

theorem copy_into {w1 : World} {B g n c b o : Nat} {xs : List Int} (hx : xs.length = n) (hown : Own w1 B g n (List.replicate n 0))
    (hc : ∀ i, i < n → w1.cell? ⟨b, o + i, none⟩ = some (.int .u8 (xs.getD i 0))) :
    ∃ w2, (Builtin.copy_ #[54, 54] 3 #[.slice (some ⟨g, 0, none⟩) n n, .slice (some ⟨b, o, none⟩) n c]).run Try.prog w1 = .ok (.int .i64 n) w2 ∧ Own w2 B g n xs ∧ ∀ w0, Below B w0 w1 → Below B w0 w2 := by
  obtain ⟨cur, h1, h2, h3, h4, h5, h6⟩ := hown.parts
  have hr := run_copy_row (P := Try.prog) w1 54 54 3 5 g 0 n n ⟨b, o, none⟩ n c cur 5 (byts xs) Try.underlying54 Try.size5 h2 (by simp [hx]) (fun j u hj => by
    have hjl : j < xs.length := by
      rcases Nat.lt_or_ge j xs.length with h | h
      · exact h
      · rw [List.getElem?_eq_none (by simpa using h)] at hj; cases hj
    rw [getD_byts xs j hjl] at hj
    rw [← hj, ← hc j (by omega), Go.WideShapes.add_plain]) (by simp [hx, h5]) (fun u hu => by
    simp only [byts, List.mem_map] at hu
    obtain ⟨z, _, rfl⟩ := hu
    rfl)
  have e : cur.toList.take 0 ++ byts xs ++ cur.toList.drop (0 + (byts xs).length) = byts xs := by
    simp [List.drop_eq_nil_of_le, hx, h5]
  rw [e] at hr
  refine ⟨_, ?_, Own.mk (cur := (byts xs).toArray) h1 (setRow_heap w1 g cur _ 5 (0, 0) h2) (by omega) h4 (by simp [hx]) (by rw [List.take_of_length_le (by simp)]), fun w0 hb => below_setRow hb h1 _⟩
  simpa [hx, goInt] using hr

set_option maxHeartbeats 400000 in
theorem put32_at (b o n c a : Nat) (v : Int) (xs : List Int) (w : World) (hx : xs.length = n) (hn : n ≤ 140737488355328) (h : a + 4 ≤ n) (hv : 0 ≤ v ∧ v ≤ 4294967295)
    (hc : ∀ i, i < n → w.cell? ⟨b, o + i, none⟩ = some (.int .u8 (xs.getD i 0))) :
    Calls Try.prog 102 #[.slice (some ⟨b, o, none⟩) n c, .int .i64 a, .int .u32 v] w fun e w' => e = .returned (.tuple #[.slice (some ⟨w.heap.size, 0, none⟩) n n, .int .i64 0]) ∧ Own w' w.heap.size w.heap.size n (putL xs a v) ∧ Below w.heap.size w w' := by
  obtain ⟨i0, hi, hz0, hz1, hz2⟩ := info_parts Try.info5
  have HX : Hid (xs.length = n) := hx
  have HC : Hid (∀ i, i < n → w.cell? ⟨b, o + i, none⟩ = some (.int .u8 (xs.getD i 0))) := hc
  clear hx hc
  go_enter Try.func102, Try.ntmps102
  go_wp2_with (first | (go_at_call 107; refine (inside_yes _ _ _ _ _ _ (by omega) (by decide) (by decide) (by omega) (by omega)).mono ?_; rintro e w' ⟨rfl, rfl⟩) | (at_make; refine wpList_make_full _ rfl _ _ 54 rfl _ 5 i0 (.int .u8 0) 1 Try.underlying54 hi hz0 hz1 _ _ _ _ n rfl rfl rfl rfl (by rw [hz2]; omega) (by unfold maxLen; omega) (Nat.le_refl _) ?_; intro w1 hown hgrow; have hb1 := (Below.refl w'.heap.size w').grown hgrow (Nat.le_refl _) (by simp); obtain ⟨w2, hcp, hown2, hb2⟩ := copy_into (c := c) HX.out (Own.of_made hown) (fun i hi => by rw [hb1.cell (p := ⟨b, o + i, none⟩) (cell_lt (HC.out i hi))]; exact HC.out i hi); have hb3 := hb2 _ hb1; have HO : Hid (Own w2 w'.heap.size w'.heap.size n xs) := hown2; have HB : Hid (Below w'.heap.size w' w2) := hb3; clear hown hgrow hb1 hb2 hb3 hown2))
  have c0 := HO.out.cell a (by have := HX.out; omega)
  have c1 := HO.out.cell (a + 1) (by have := HX.out; omega)
  have c2 := HO.out.cell (a + 2) (by have := HX.out; omega)
  have c3 := HO.out.cell (a + 3) (by have := HX.out; omega)
  have f0 := HO.out.free a
  have f1 := HO.out.free (a + 1)
  have f2 := HO.out.free (a + 2)
  have f3 := HO.out.free (a + 3)
  generalize xs.getD a 0 = z0 at c0
  generalize xs.getD (a + 1) 0 = z1 at c1
  generalize xs.getD (a + 2) 0 = z2 at c2
  generalize xs.getD (a + 3) 0 = z3 at c3
  refine wp_loop_rounds 5 ?_
  rw [rounds_succ]; go_wp2
  rw [rounds_succ]; go_wp2
  rw [rounds_succ]; go_wp2
  rw [rounds_succ]; go_wp2
  rw [rounds_succ]; go_wp2
  go_ret2
  exact ⟨rfl, (((HO.out.store a _).store (a + 1) _).store (a + 2) _).store (a + 3) _, (((HB.out.setCell (Nat.le_refl _) _).setCell (Nat.le_refl _) _).setCell (Nat.le_refl _) _).setCell (Nat.le_refl _) _⟩

theorem put32_yes (p : Option Addr) (n c : Nat) (a v : Int) (xs : List Int) (w : World) (hx : xs.length = n) (hn : n ≤ 140737488355328) (hr : Row w p xs) (hv : 0 ≤ v ∧ v ≤ 4294967295) (h0 : 0 ≤ a) (h1 : a + 4 ≤ n) :
    Calls Try.prog 102 #[.slice p n c, .int .i64 a, .int .u32 v] w fun e w' => e = .returned (.tuple #[.slice (some ⟨w.heap.size, 0, none⟩) n n, .int .i64 0]) ∧ Own w' w.heap.size w.heap.size n (putL xs a.toNat v) ∧ Below w.heap.size w w' := by
  obtain ⟨k, rfl⟩ := Int.eq_ofNat_of_zero_le h0
  obtain ⟨b, o, rfl, hc⟩ := hr (by omega)
  rw [Int.toNat_natCast]
  exact put32_at b o n c k v xs w hx hn (by omega) hv (fun i hi => hc i (by omega))

/-- the same, the block's number left open -/
theorem put32_ex (p : Option Addr) (n c : Nat) (a v : Int) (xs : List Int) (w : World) (hx : xs.length = n) (hn : n ≤ 140737488355328) (hr : Row w p xs) (hv : 0 ≤ v ∧ v ≤ 4294967295) (h0 : 0 ≤ a) (h1 : a + 4 ≤ n) :
    Calls Try.prog 102 #[.slice p n c, .int .i64 a, .int .u32 v] w fun e w' => ∃ g, e = .returned (.tuple #[.slice (some ⟨g, 0, none⟩) n n, .int .i64 0]) ∧ Own w' w.heap.size g n (putL xs a.toNat v) ∧ Below w.heap.size w w' :=
  (put32_yes p n c a v xs w hx hn hr hv h0 h1).mono fun _ _ h => ⟨_, h⟩

/-! ### what is put: plain facts -/
theorem putL_length (xs : List Int) (a : Nat) (v : Int) : (putL xs a v).length = xs.length := by simp [putL]
theorem putL_getD (xs : List Int) (a : Nat) (v : Int) (h : a + 4 ≤ xs.length) (i : Nat) :
    (putL xs a v).getD i 0 = if i = a then v % 256 else if i = a + 1 then v / 256 % 256 else if i = a + 2 then v / 65536 % 256 else if i = a + 3 then v / 16777216 else xs.getD i 0 := by
  simp only [putL, List.getD, List.getElem?_set, List.length_set]
  by_cases e3 : a + 3 = i
  · subst e3; simp [show a + 3 < xs.length by omega]
  · by_cases e2 : a + 2 = i
    · subst e2; simp [show a + 2 < xs.length by omega]
    · by_cases e1 : a + 1 = i
      · subst e1; simp [show a + 1 < xs.length by omega]
      · by_cases e0 : a = i
        · subst e0; simp [show a < xs.length by omega]
        · simp [e0, e1, e2, e3, Ne.symm e0, Ne.symm e1, Ne.symm e2, Ne.symm e3]
theorem putL_byt {xs : List Int} {a : Nat} {v : Int} (hb : Byt xs) (h : a + 4 ≤ xs.length) (hv : 0 ≤ v ∧ v ≤ 4294967295) : Byt (putL xs a v) := fun i => by
  rw [putL_getD xs a v h i]
  have := hb i
  split
  · omega
  · split
    · omega
    · split
      · omega
      · split
        · omega
        · exact this
theorem putL_n4 {xs : List Int} {a : Nat} {v : Int} (h : a + 4 ≤ xs.length) : n4 (putL xs a v) a = v := by
  simp only [n4, putL_getD xs a v h, num4]
  simp
  omega
theorem putL_n2 {xs : List Int} {a : Nat} {v : Int} (h : a + 4 ≤ xs.length) : n2 (putL xs a v) a = v % 65536 := by
  simp only [n2, putL_getD xs a v h, num2]
  simp
  omega
theorem putL_n2' {xs : List Int} {a : Nat} {v : Int} (h : a + 4 ≤ xs.length) : n2 (putL xs a v) (a + 2) = v / 65536 := by
  simp only [n2, putL_getD xs a v h, num2]
  simp
  omega
theorem putL_other {xs : List Int} {a : Nat} {v : Int} (h : a + 4 ≤ xs.length) (i : Nat) (hi : i < a ∨ a + 4 ≤ i) : (putL xs a v).getD i 0 = xs.getD i 0 := by
  rw [putL_getD xs a v h i, if_neg (by omega), if_neg (by omega), if_neg (by omega), if_neg (by omega)]
theorem list_ext_getD {xs ys : List Int} (hl : xs.length = ys.length) (h : ∀ i, xs.getD i 0 = ys.getD i 0) : xs = ys :=
  List.ext_getElem hl fun j h1 h2 => by have := h j; simpa [List.getD, h1, h2] using this
theorem putL_back {xs : List Int} {a : Nat} {v : Int} (hb : Byt xs) (h : a + 4 ≤ xs.length) : putL (putL xs a v) a (n4 xs a) = xs := by
  refine list_ext_getD (by simp [putL_length]) fun i => ?_
  rw [putL_getD _ a _ (by rw [putL_length]; exact h) i]
  have b0 := hb a; have b1 := hb (a + 1); have b2 := hb (a + 2); have b3 := hb (a + 3)
  simp only [n4, num4]
  split
  · next e => subst e; omega
  · split
    · next e => subst e; omega
    · split
      · next e => subst e; omega
      · split
        · next e => subst e; omega
        · exact putL_other h i (by omega)
end Go.Proofs.Ytekggimgobeggaa
