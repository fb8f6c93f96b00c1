/- Texts put together: Holds, Read, Put, RFix, Enc. -/
import Derived.Test.YtgblohjdiheemaaKaa
import Derived.Test.YtgblohjdiheemaaKac
import Derived.Test.YtgblohjdiheemaaProg
import Derived.Test.YtgblohjdiheemaaKad
import Derived.Deep.RegionLaw
import Derived.BigQuiet
import Derived.Deep.QuietTactic
import Derived.Test.YtgblohjdiheemaaKab
import Derived.Lib.BufferWrite

/- bytes.HasPrefix; object.holds. -/
namespace Go.Proofs.Ytgblohjdiheemaa
open Go.RowKit

def pfxB (xs ys : List Int) : Bool := decide (ys.length ≤ xs.length ∧ xs.take ys.length = ys)
theorem Row.take {w : World} {p : Option Addr} {xs : List Int} (h : Row w p xs) (m : Nat) : Row w p (xs.take m) := fun h0 => by
  rw [List.length_take] at h0
  obtain ⟨b, o, e, h1⟩ := h (by omega)
  refine ⟨b, o, e, fun i hi => ?_⟩
  rw [List.length_take] at hi
  rw [h1 i (by omega)]
  simp [List.getD_eq_getElem?_getD, show i < m by omega]
theorem Byt.take {xs : List Int} (h : Byt xs) (m : Nat) : Byt (xs.take m) := fun i => by
  have := h i
  rw [List.getD_eq_getElem?_getD] at this ⊢
  rw [List.getElem?_take]
  split
  · exact this
  · simp
theorem Byt.drop {xs : List Int} (h : Byt xs) (m : Nat) : Byt (xs.drop m) := fun i => by
  have := h (m + i)
  rw [List.getD_eq_getElem?_getD] at this ⊢
  rw [List.getElem?_drop]
  exact this
theorem Row.dropAt {w : World} {b o : Nat} {xs : List Int} (h : Row w (some ⟨b, o, none⟩) xs) (m : Nat) : Row w (some ⟨b, o + m, none⟩) (xs.drop m) := fun h0 => by
  rw [List.length_drop] at h0
  obtain ⟨b', o', e, h1⟩ := h (by omega)
  injection e with e
  injection e with e1 e2
  subst e1 e2
  refine ⟨b, o + m, rfl, fun i hi => ?_⟩
  rw [List.length_drop] at hi
  have := h1 (m + i) (by omega)
  rw [← Nat.add_assoc] at this
  rw [this]
  simp [List.getD_eq_getElem?_getD, List.getElem?_drop]

set_option maxHeartbeats 1000000 in
theorem hasPrefix_any (p q : Option Addr) (n c m d : Nat) (xs ys : List Int) (w : World) (hx : xs.length = n) (hy : ys.length = m) (hnc : n ≤ c) (_hc : c ≤ 9223372036854775807) (hm : m ≤ 9223372036854775807) (h1 : Row w p xs) (h2 : Row w q ys) (b1 : Byt xs) (b2 : Byt ys) :
    Calls Try.prog 41 #[.slice p n c, .slice q m d] w fun e w' => e = .returned (.bool (pfxB xs ys)) ∧ w' = w := by
  by_cases hle : m ≤ n
  · have hE := equal_any p q m c m d (xs.take m) ys w (by rw [List.length_take]; omega) hy (h1.take m) h2 (b1.take m) b2
    have HR : Hid (sameB (xs.take m) ys = pfxB xs ys) := by
      have : sameB (xs.take m) ys = pfxB xs ys := by
        unfold sameB pfxB
        rw [hx, hy]
        simp [hle]
      exact this
    rw [HR.out] at hE
    generalize pfxB xs ys = r at *
    clear h1 h2 b1 b2 hx hy HR
    go_enter Try.func41, Try.ntmps41
    go_wp2_with (go_at_call 52; refine hE.mono ?_; rintro e w' ⟨rfl, rfl⟩)
    go_ret
    exact ⟨rfl, rfl⟩
  · have HR : Hid (pfxB xs ys = false) := by
      have : pfxB xs ys = false := by
        unfold pfxB
        rw [hx, hy]
        simp [hle]
      exact this
    rw [HR.out]
    clear h1 h2 b1 b2 hx hy HR
    go_enter Try.func41, Try.ntmps41
    go_wp2_with fail
    go_ret
    exact ⟨rfl, rfl⟩

theorem st_pre {xs ys : List Int} {k : Nat} (h : k ≤ xs.length) : stB xs (k : Int) ys = pfxB (xs.drop k) ys := by
  unfold stB pfxB
  rw [List.length_drop, Int.toNat_natCast]
  have e : (0 ≤ (k : Int) ∧ k + ys.length ≤ xs.length ∧ (xs.drop k).take ys.length = ys) ↔ (ys.length ≤ xs.length - k ∧ (xs.drop k).take ys.length = ys) := by
    constructor
    · rintro ⟨_, h1, h2⟩; exact ⟨by omega, h2⟩
    · rintro ⟨h1, h2⟩; exact ⟨by omega, by omega, h2⟩
  simp only [e]
theorem st_far {xs ys : List Int} {a : Int} (h : (xs.length : Int) < a) : stB xs a ys = false := by
  unfold stB
  simp only [decide_eq_false_iff_not]
  rintro ⟨h1, h2, -⟩
  omega

set_option maxHeartbeats 1000000 in
theorem oholds_any (p q : Option Addr) (n c m d : Nat) (a : Int) (xs ys : List Int) (w : World) (hx : xs.length = n) (hy : ys.length = m) (hnc : n ≤ c) (hc : c ≤ 9223372036854775807) (hm : m ≤ 9223372036854775807) (ha : 0 ≤ a) (ha2 : a ≤ 9223372036854775807) (h1 : Row w p xs) (h2 : Row w q ys) (b1 : Byt xs) (b2 : Byt ys) :
    Calls Try.prog 58 #[.slice p n c, .int .i64 a, .slice q m d] w fun e w' => e = .returned (.bool (stB xs a ys)) ∧ w' = w := by
  obtain ⟨k, rfl⟩ : ∃ k : Nat, a = k := ⟨a.toNat, by omega⟩
  by_cases hle : k ≤ n
  · have hP : ∀ p', Row w p' (xs.drop k) → Calls Try.prog 41 #[.slice p' (n - k) (c - k), .slice q m d] w fun e w' => e = .returned (.bool (stB xs (k : Int) ys)) ∧ w' = w := fun p' hr => by
      rw [st_pre (by omega)]
      exact hasPrefix_any p' q (n - k) (c - k) m d (xs.drop k) ys w (by rw [List.length_drop, hx]) hy (by omega) (by omega) hm hr h2 (b1.drop k) b2
    have hz : n = 0 → xs = [] := fun e => List.eq_nil_of_length_eq_zero (by omega)
    generalize stB xs (k : Int) ys = r at *
    by_cases hn0 : n = 0
    · have hd : ∀ p', Row w p' (xs.drop k) := fun p' h => by rw [hz hn0] at h; simp at h
      have hk0 : k = 0 := by omega
      subst hk0 hn0
      clear h1 h2 b1 b2 hx hy
      simp only [Nat.sub_zero] at hP
      rcases p with _ | ⟨b, o, e⟩
      · go_enter Try.func58, Try.ntmps58
        go_wp2_with (go_at_call 41; refine (hP _ (hd _)).mono ?_; rintro e w' ⟨rfl, rfl⟩)
        go_ret
        exact ⟨rfl, rfl⟩
      · go_enter Try.func58, Try.ntmps58
        go_wp2_with (go_at_call 41; refine (hP _ (hd _)).mono ?_; rintro e w' ⟨rfl, rfl⟩)
        go_ret
        exact ⟨rfl, rfl⟩
    · obtain ⟨b, o, rfl, -⟩ := h1 (by omega)
      by_cases hck : c = k
      · have hd : ∀ p', Row w p' (xs.drop k) := fun p' h => by rw [List.length_drop] at h; omega
        have hnk : n = k := by omega
        clear h1 h2 b1 b2 hx hy hz
        subst hck hnk
        rw [Nat.sub_self] at hP
        go_enter Try.func58, Try.ntmps58
        go_wp2_with (go_at_call 41; refine (hP _ (hd _)).mono ?_; rintro e w' ⟨rfl, rfl⟩)
        go_ret
        exact ⟨rfl, rfl⟩
      · have hd := h1.dropAt k
        clear h1 h2 b1 b2 hx hy hz
        go_enter Try.func58, Try.ntmps58
        go_wp2_with (go_at_call 41; refine (hP _ hd).mono ?_; rintro e w' ⟨rfl, rfl⟩)
        go_ret
        exact ⟨rfl, rfl⟩
  · rw [st_far (by omega)]
    clear h1 h2 b1 b2 hx hy
    go_enter Try.func58, Try.ntmps58
    go_wp2_with fail
    go_ret
    exact ⟨rfl, rfl⟩

end Go.Proofs.Ytgblohjdiheemaa

/- What octets.inside, number, U16, U32, I32 answer, for every slice of bytes, every place. -/
namespace Go.Proofs.Ytgblohjdiheemaa
open Go.RowKit

theorem inside_yes (p : Option Addr) (n c : Nat) (a k : Int) (w : World) (hn : n ≤ 9223372036854775807) (h0 : 0 ≤ k) (h1 : k ≤ 8) (ha : 0 ≤ a) (hb : a ≤ n - k) :
    Calls Try.prog 90 #[.slice p n c, .int .i64 a, .int .i64 k] w fun e w' => e = .returned (.bool true) ∧ w' = w := by
  go_enter Try.func90, Try.ntmps90
  go_wp2
  go_ret
  exact ⟨by simp, rfl⟩

theorem inside_no (p : Option Addr) (n c : Nat) (a k : Int) (w : World) (hn : n ≤ 9223372036854775807) (h0 : 0 ≤ k) (h1 : k ≤ 8) (h : a < 0 ∨ n - k < a) :
    Calls Try.prog 90 #[.slice p n c, .int .i64 a, .int .i64 k] w fun e w' => e = .returned (.bool false) ∧ w' = w := by
  by_cases ha : 0 ≤ a
  · have hb : ¬ a ≤ n - k := by omega
    go_enter Try.func90, Try.ntmps90
    go_wp2
    go_ret
    exact ⟨by simp, rfl⟩
  · have hd : decide (0 ≤ a) = false := by simpa using ha
    go_enter Try.func90, Try.ntmps90
    go_wp2
    go_ret
    exact ⟨rfl, rfl⟩

theorem ret_int2 {k : IntKind} {a b : Int} {x : Value} (h : a = b) : Ending.returned (.tuple #[.int k a, x]) = .returned (.tuple #[.int k b, x]) := by rw [h]

end Go.Proofs.Ytgblohjdiheemaa

/- What octets.Put32 answers, for every slice of bytes, every place, every number. -/
namespace Go.Proofs.Ytgblohjdiheemaa
open Go.RowKit

theorem put32_no (p : Option Addr) (n c : Nat) (a v : Int) (w : World) (hn : n ≤ 9223372036854775807) (h : a < 0 ∨ n - 4 < a) :
    Calls Try.prog 63 #[.slice p n c, .int .i64 a, .int .u32 v] w fun e w' => e = .returned (.tuple #[.slice none 0 0, .int .i64 2]) ∧ w' = w := by
  go_enter Try.func63, Try.ntmps63
  go_wp2_with (go_at_call 90; refine (inside_no _ _ _ _ _ _ hn (by decide) (by decide) h).mono ?_; rintro e w' ⟨rfl, rfl⟩)
  go_ret2
  exact ⟨rfl, rfl⟩

def putL (xs : List Int) (a : Nat) (v : Int) : List Int :=
  (((xs.set a (v % 256)).set (a + 1) (v / 256 % 256)).set (a + 2) (v / 65536 % 256)).set (a + 3) (v / 16777216)

theorem Own.of_made {w : World} {B g n : Nat} (h : w.ownsRow B 5 1 (.slice (some ⟨g, 0, none⟩) n n) n (madeCells (Value.int .u8 0).cells (n * 1)).toList) : Own w B g n (List.replicate n 0) := by
  unfold Own
  have e : (madeCells (Value.int .u8 0).cells (n * 1)).toList = byts (List.replicate n 0) := by
    rw [show (Value.int .u8 0).cells = #[Value.int .u8 0] from rfl, toList_madeCells_one]; simp [byts]
  rw [e] at h
  simpa using h

theorem Own.whole {w : World} {B g : Nat} {xs : List Int} (h : Own w B g xs.length xs) : w.heap[g]? = some (.cells (byts xs).toArray 5 (0, 0)) := by
  obtain ⟨cur, _, h2, _, _, h5, h6⟩ := h.parts
  rw [h2, ← h6, List.take_of_length_le (by rw [Array.length_toList]; omega)]

theorem copy_into {w1 : World} {B g n c b o : Nat} {xs : List Int} (hx : xs.length = n) (hown : Own w1 B g n (List.replicate n 0))
    (hc : ∀ i, i < n → w1.cell? ⟨b, o + i, none⟩ = some (.int .u8 (xs.getD i 0))) :
    ∃ w2, (Builtin.copy_ #[25, 25] 3 #[.slice (some ⟨g, 0, none⟩) n n, .slice (some ⟨b, o, none⟩) n c]).run Try.prog w1 = .ok (.int .i64 n) w2 ∧ Own w2 B g n xs ∧ ∀ w0, Below B w0 w1 → Below B w0 w2 := by
  obtain ⟨cur, h1, h2, h3, h4, h5, h6⟩ := hown.parts
  have hr := run_copy_row (P := Try.prog) w1 25 25 3 5 g 0 n n ⟨b, o, none⟩ n c cur 5 (byts xs) Try.underlying25 Try.size5 h2 (by simp [hx]) (fun j u hj => by
    have hjl : j < xs.length := by
      rcases Nat.lt_or_ge j xs.length with h | h
      · exact h
      · rw [List.getElem?_eq_none (by simpa using h)] at hj; cases hj
    rw [getD_byts xs j hjl] at hj
    rw [← hj, ← hc j (by omega), Go.WideShapes.add_plain]) (by simp [hx, h5]) (fun u hu => by
    simp only [byts, List.mem_map] at hu
    obtain ⟨z, _, rfl⟩ := hu
    rfl)
  have e : cur.toList.take 0 ++ byts xs ++ cur.toList.drop (0 + (byts xs).length) = byts xs := by
    simp [List.drop_eq_nil_of_le, hx, h5]
  rw [e] at hr
  refine ⟨_, ?_, Own.mk (cur := (byts xs).toArray) h1 (setRow_heap w1 g cur _ 5 (0, 0) h2) (by omega) h4 (by simp [hx]) (by rw [List.take_of_length_le (by simp)]), fun w0 hb => below_setRow hb h1 _⟩
  simpa [hx, goInt] using hr

set_option maxHeartbeats 400000 in
theorem put32_at (b o n c a : Nat) (v : Int) (xs : List Int) (w : World) (hx : xs.length = n) (hn : n ≤ 140737488355328) (h : a + 4 ≤ n) (hv : 0 ≤ v ∧ v ≤ 4294967295)
    (hc : ∀ i, i < n → w.cell? ⟨b, o + i, none⟩ = some (.int .u8 (xs.getD i 0))) :
    Calls Try.prog 63 #[.slice (some ⟨b, o, none⟩) n c, .int .i64 a, .int .u32 v] w fun e w' => e = .returned (.tuple #[.slice (some ⟨w.heap.size, 0, none⟩) n n, .int .i64 0]) ∧ Own w' w.heap.size w.heap.size n (putL xs a v) ∧ Below w.heap.size w w' := by
  obtain ⟨i0, hi, hz0, hz1, hz2⟩ := info_parts Try.info5
  have HX : Hid (xs.length = n) := hx
  have HC : Hid (∀ i, i < n → w.cell? ⟨b, o + i, none⟩ = some (.int .u8 (xs.getD i 0))) := hc
  clear hx hc
  go_enter Try.func63, Try.ntmps63
  go_wp2_with (first | (go_at_call 90; refine (inside_yes _ _ _ _ _ _ (by omega) (by decide) (by decide) (by omega) (by omega)).mono ?_; rintro e w' ⟨rfl, rfl⟩) | (at_make; refine wpList_make_full _ rfl _ _ 25 rfl _ 5 i0 (.int .u8 0) 1 Try.underlying25 hi hz0 hz1 _ _ _ _ n rfl rfl rfl rfl (by rw [hz2]; omega) (by unfold maxLen; omega) (Nat.le_refl _) ?_; intro w1 hown hgrow; have hb1 := (Below.refl w'.heap.size w').grown hgrow (Nat.le_refl _) (by simp); obtain ⟨w2, hcp, hown2, hb2⟩ := copy_into (c := c) HX.out (Own.of_made hown) (fun i hi => by rw [hb1.cell (p := ⟨b, o + i, none⟩) (cell_lt (HC.out i hi))]; exact HC.out i hi); have hb3 := hb2 _ hb1; have HO : Hid (Own w2 w'.heap.size w'.heap.size n xs) := hown2; have HB : Hid (Below w'.heap.size w' w2) := hb3; clear hown hgrow hb1 hb2 hb3 hown2))
  have c0 := HO.out.cell a (by have := HX.out; omega)
  have c1 := HO.out.cell (a + 1) (by have := HX.out; omega)
  have c2 := HO.out.cell (a + 2) (by have := HX.out; omega)
  have c3 := HO.out.cell (a + 3) (by have := HX.out; omega)
  have f0 := HO.out.free a
  have f1 := HO.out.free (a + 1)
  have f2 := HO.out.free (a + 2)
  have f3 := HO.out.free (a + 3)
  generalize xs.getD a 0 = z0 at c0
  generalize xs.getD (a + 1) 0 = z1 at c1
  generalize xs.getD (a + 2) 0 = z2 at c2
  generalize xs.getD (a + 3) 0 = z3 at c3
  refine wp_loop_rounds 5 ?_
  rw [rounds_succ]; go_wp2
  rw [rounds_succ]; go_wp2
  rw [rounds_succ]; go_wp2
  rw [rounds_succ]; go_wp2
  rw [rounds_succ]; go_wp2
  go_ret2
  exact ⟨rfl, (((HO.out.store a _).store (a + 1) _).store (a + 2) _).store (a + 3) _, (((HB.out.setCell (Nat.le_refl _) _).setCell (Nat.le_refl _) _).setCell (Nat.le_refl _) _).setCell (Nat.le_refl _) _⟩

theorem put32_yes (p : Option Addr) (n c : Nat) (a v : Int) (xs : List Int) (w : World) (hx : xs.length = n) (hn : n ≤ 140737488355328) (hr : Row w p xs) (hv : 0 ≤ v ∧ v ≤ 4294967295) (h0 : 0 ≤ a) (h1 : a + 4 ≤ n) :
    Calls Try.prog 63 #[.slice p n c, .int .i64 a, .int .u32 v] w fun e w' => e = .returned (.tuple #[.slice (some ⟨w.heap.size, 0, none⟩) n n, .int .i64 0]) ∧ Own w' w.heap.size w.heap.size n (putL xs a.toNat v) ∧ Below w.heap.size w w' := by
  obtain ⟨k, rfl⟩ := Int.eq_ofNat_of_zero_le h0
  obtain ⟨b, o, rfl, hc⟩ := hr (by omega)
  rw [Int.toNat_natCast]
  exact put32_at b o n c k v xs w hx hn (by omega) hv (fun i hi => hc i (by omega))

/-- the same, the block's number left open -/
theorem put32_ex (p : Option Addr) (n c : Nat) (a v : Int) (xs : List Int) (w : World) (hx : xs.length = n) (hn : n ≤ 140737488355328) (hr : Row w p xs) (hv : 0 ≤ v ∧ v ≤ 4294967295) (h0 : 0 ≤ a) (h1 : a + 4 ≤ n) :
    Calls Try.prog 63 #[.slice p n c, .int .i64 a, .int .u32 v] w fun e w' => ∃ g, e = .returned (.tuple #[.slice (some ⟨g, 0, none⟩) n n, .int .i64 0]) ∧ Own w' w.heap.size g n (putL xs a.toNat v) ∧ Below w.heap.size w w' :=
  (put32_yes p n c a v xs w hx hn hr hv h0 h1).mono fun _ _ h => ⟨_, h⟩

/-! ### what is put: plain facts -/
theorem putL_length (xs : List Int) (a : Nat) (v : Int) : (putL xs a v).length = xs.length := by simp [putL]
theorem putL_getD (xs : List Int) (a : Nat) (v : Int) (h : a + 4 ≤ xs.length) (i : Nat) :
    (putL xs a v).getD i 0 = if i = a then v % 256 else if i = a + 1 then v / 256 % 256 else if i = a + 2 then v / 65536 % 256 else if i = a + 3 then v / 16777216 else xs.getD i 0 := by
  simp only [putL, List.getD, List.getElem?_set, List.length_set]
  by_cases e3 : a + 3 = i
  · subst e3; simp [show a + 3 < xs.length by omega]
  · by_cases e2 : a + 2 = i
    · subst e2; simp [show a + 2 < xs.length by omega]
    · by_cases e1 : a + 1 = i
      · subst e1; simp [show a + 1 < xs.length by omega]
      · by_cases e0 : a = i
        · subst e0; simp [show a < xs.length by omega]
        · simp [e0, e1, e2, e3, Ne.symm e0, Ne.symm e1, Ne.symm e2, Ne.symm e3]
theorem putL_byt {xs : List Int} {a : Nat} {v : Int} (hb : Byt xs) (h : a + 4 ≤ xs.length) (hv : 0 ≤ v ∧ v ≤ 4294967295) : Byt (putL xs a v) := fun i => by
  rw [putL_getD xs a v h i]
  have := hb i
  split
  · omega
  · split
    · omega
    · split
      · omega
      · split
        · omega
        · exact this
theorem putL_n4 {xs : List Int} {a : Nat} {v : Int} (h : a + 4 ≤ xs.length) : n4 (putL xs a v) a = v := by
  simp only [n4, putL_getD xs a v h, num4]
  simp
  omega
theorem putL_n2 {xs : List Int} {a : Nat} {v : Int} (h : a + 4 ≤ xs.length) : n2 (putL xs a v) a = v % 65536 := by
  simp only [n2, putL_getD xs a v h, num2]
  simp
  omega
theorem putL_n2' {xs : List Int} {a : Nat} {v : Int} (h : a + 4 ≤ xs.length) : n2 (putL xs a v) (a + 2) = v / 65536 := by
  simp only [n2, putL_getD xs a v h, num2]
  simp
  omega
theorem putL_other {xs : List Int} {a : Nat} {v : Int} (h : a + 4 ≤ xs.length) (i : Nat) (hi : i < a ∨ a + 4 ≤ i) : (putL xs a v).getD i 0 = xs.getD i 0 := by
  rw [putL_getD xs a v h i, if_neg (by omega), if_neg (by omega), if_neg (by omega), if_neg (by omega)]
theorem list_ext_getD {xs ys : List Int} (hl : xs.length = ys.length) (h : ∀ i, xs.getD i 0 = ys.getD i 0) : xs = ys :=
  List.ext_getElem hl fun j h1 h2 => by have := h j; simpa [List.getD, h1, h2] using this
theorem putL_back {xs : List Int} {a : Nat} {v : Int} (hb : Byt xs) (h : a + 4 ≤ xs.length) : putL (putL xs a v) a (n4 xs a) = xs := by
  refine list_ext_getD (by simp [putL_length]) fun i => ?_
  rw [putL_getD _ a _ (by rw [putL_length]; exact h) i]
  have b0 := hb a; have b1 := hb (a + 1); have b2 := hb (a + 2); have b3 := hb (a + 3)
  simp only [n4, num4]
  split
  · next e => subst e; omega
  · split
    · next e => subst e; omega
    · split
      · next e => subst e; omega
      · split
        · next e => subst e; omega
        · exact putL_other h i (by omega)
end Go.Proofs.Ytgblohjdiheemaa

/- object.rightFixes. -/
namespace Go.Proofs.Ytgblohjdiheemaa
open Go.RowKit

abbrev zero4 : Array Value := #[.int .u8 0, .int .u8 0, .int .u8 0, .int .u8 0]
theorem run_make4 (W : World) : (Instr.makeSlice 25 (.int .i64 4) (.int .i64 4)).run Try.prog W = .ok (.slice (some ⟨W.heap.size, 0, none⟩) 4 4) (W.alloc (.cells #[.int .u8 0, .int .u8 0, .int .u8 0, .int .u8 0] 5)) := by kernel_rfl
theorem Own.new4 (W : World) : Own (W.alloc (.cells #[.int .u8 0, .int .u8 0, .int .u8 0, .int .u8 0] 5)) W.heap.size W.heap.size 4 [0, 0, 0, 0] :=
  Own.mk (Nat.le_refl _) (World.alloc_heap_new W _) (by decide) (by unfold maxLen; decide) rfl rfl
theorem byt_zero4 : Byt [0, 0, 0, 0] := fun i => by
  match i with
  | 0 => decide
  | 1 => decide
  | 2 => decide
  | 3 => decide
  | i + 4 => simp

set_option maxRecDepth 20000 in
set_option maxHeartbeats 2000000 in
theorem rightFixes_any (pb ps pf pm : Option Addr) (nb cb ns cs nf cf nm cm : Nat) (bs : List Int) (L : List Fx) (w : World) (hb : bs.length = nb) (hnc : nb ≤ cb) (hcb : cb ≤ 9223372036854775807) (hn : L.length = nf) (hn4 : nf ≤ 4096) (hnb : nb ≤ 65536) (hbt : Byt bs) (hL : ∀ s ∈ L, FxF s) (hr1 : Row w pb bs) (hx : Row3 w pf (L.map fxV)) :
    Calls Try.prog 49 #[.agg (obA pb ps pf pm nb cb ns cs nf cf nm cm)] w fun E w' => E = .returned (.bool (rfL bs 0 L)) ∧ Below w.heap.size w w' := by
  have hN := fun s W => name_any s W (nmB s) (nmB_iff s)
  have hH := fun (a : Int) q W ha ha2 k1 k2 => oholds_any pb q nb cb 4 4 a bs [0, 0, 0, 0] W hb rfl hnc hcb (by decide) ha ha2 k1 k2 hbt byt_zero4
  have HX := Hid.in hx
  have HN := Hid.in hn
  have HL := Hid.in hL
  have HRB := Hid.in hr1
  have HLB := Hid.in hb
  clear hx hn hL hr1 hb hbt
  obtain ⟨r, hr⟩ : ∃ r, rfL bs 0 L = r := ⟨_, rfl⟩
  rw [hr]
  have HR := Hid.in hr
  clear hr
  have hmk := run_make4
  go_enter Try.func49, Try.ntmps49
  go_upto_region 2 with fail
  have HK0 : Hid (Blk (w.alloc (.cells (obA pb ps pf pm nb cb ns cs nf cf nm cm) 97)) w.heap.size 97 (obA pb ps pf pm nb cb ns cs nf cf nm cm)) := Blk.new w 97 _
  have HB0 : Hid (Below w.heap.size w (w.alloc (.cells (obA pb ps pf pm nb cb ns cs nf cf nm cm) 97))) := new_alloc w _
  generalize w.alloc (.cells (obA pb ps pf pm nb cb ns cs nf cf nm cm) 97) = w0 at *
  have c2 : w0.cell? ⟨w.heap.size, 2, none⟩ = some (.slice pf nf cf) := HK0.out.cell 2
  go_wp2_with fail
  clear c2
  go_loopw [3, 9] (fun vl vi wr => ∃ (z : Int) (k : Nat), vl = .int .i64 z ∧ vi = .int .i64 k ∧ k ≤ nf ∧ rfL bs 0 L = rfL bs z (L.drop k) ∧ 0 ≤ z ∧ z ≤ 65540 ∧ Blk wr w.heap.size 97 (obA pb ps pf pm nb cb ns cs nf cf nm cm) ∧ Below w.heap.size w wr) (fun _ vi _ => nf - (intOf vi).toNat)
  case atStart => exact ⟨0, 0, rfl, rfl, Nat.zero_le _, rfl, by omega, by omega, HK0.out, HB0.out⟩
  case round =>
    obtain ⟨z, k, rfl, rfl, hk, hrs, hz0', hz1', hK, hB⟩ := hrel
    have HRS := Hid.in hrs
    have HK := Hid.in hK
    have HB := Hid.in hB
    clear hrs hK hB HK0 HB0
    by_cases hlt : k < nf
    · have hkl : k < L.length := by rw [HN.out]; exact hlt
      obtain ⟨b, o, rfl, hc⟩ := (HX.out.below HB.out) (by rw [List.length_map]; omega)
      obtain ⟨c0, c1, c2⟩ := cells3 hc k (by rw [List.length_map]; exact hkl)
      simp only [List.getElem_map, fxV] at c0 c1 c2
      clear hc
      obtain ⟨hsn, ⟨hsa0, hsa1⟩, hk0, hk1⟩ := HL.out L[k] (List.getElem_mem hkl)
      have HST := Hid.in (rf_step bs L k hkl z)
      generalize L[k] = f at *
      obtain ⟨fk, fa, fs⟩ := f
      simp only at c0 c1 c2 hsn hsa0 hsa1 hk0 hk1
      have hBB : Hid (Below w.heap.size w (wr.alloc (.cells #[.int .u8 fk, .int .i64 fa, .string fs] 119))) := below_alloc HB.out _
      have HK1 : Hid (Blk (wr.alloc (.cells #[.int .u8 fk, .int .i64 fa, .string fs] 119)) w.heap.size 97 _) := HK.out.grow (new_alloc wr _)
      have HS1 : Hid (Blk (wr.alloc (.cells #[.int .u8 fk, .int .i64 fa, .string fs] 119)) wr.heap.size 119 #[.int .u8 fk, .int .i64 fa, .string fs]) := Blk.new wr 119 _
      by_cases hkd : fk = 1 ∨ fk = 2
      · cases hnm : nmB fs with
        | false =>
          obtain rfl | rfl := hkd
          all_goals
            go_wp2_with (go_at_call 57; refine (hN _ _).mono ?_; rw [hnm]; rintro E w2 ⟨rfl, hb2⟩; have HB2 := Hid.in (below_step hBB.out hb2); clear hb2)
            go_ret
            exact ⟨ret_bool (by rw [← HR.out, HRS.out, HST.out]; simp [fixB, hnm]), HB2.out⟩
        | true =>
          by_cases hlow : fa < z
          · obtain rfl | rfl := hkd
            all_goals
              go_upto_region 7 with (go_at_call 57; refine (hN _ _).mono ?_; rw [hnm]; rintro E w2 ⟨rfl, hb2⟩; have HB2 := Hid.in (below_step hBB.out hb2); have s1 : w2.cell? ⟨wr.heap.size, 1, none⟩ = some (.int .i64 fa) := (HS1.out.grow hb2).cell 1; clear hb2)
              go_quiet (fail)
              go_wp2_with fail
              go_ret
              exact ⟨ret_bool (by rw [← HR.out, HRS.out, HST.out]; simp [fixB, show ¬ z ≤ fa by omega]), below_draws HB2.out nq⟩
          · obtain ⟨st, hst⟩ : ∃ st, stB bs fa [0, 0, 0, 0] = st := ⟨_, rfl⟩
            have HFB : Hid (fixB bs z ⟨fk, fa, fs⟩ = st) := by
              have : fixB bs z ⟨fk, fa, fs⟩ = st := by simp [fixB, hnm, hst, hkd, show z ≤ fa by omega]
              exact this
            have HTOP : Hid (st = true → fa ≤ 65536) := fun e => by
              rw [e] at hst
              unfold stB at hst
              have h4 := (of_decide_eq_true hst).2.1
              have hl4 : ([0, 0, 0, 0] : List Int).length = 4 := rfl
              have := HLB.out
              omega
            obtain rfl | rfl := hkd
            all_goals
              go_upto_region 7 with (go_at_call 57; refine (hN _ _).mono ?_; rw [hnm]; rintro E w2 ⟨rfl, hb2⟩; have HB2 := Hid.in (below_step hBB.out hb2); have HK2 := Hid.in (HK1.out.grow hb2); have HS2 := Hid.in (HS1.out.grow hb2); have s1 : w2.cell? ⟨wr.heap.size, 1, none⟩ = some (.int .i64 fa) := (HS1.out.grow hb2).cell 1; have o0 : w2.cell? ⟨w.heap.size, 0, none⟩ = some (.slice pb nb cb) := (HK1.out.grow hb2).cell 0; clear hb2)
              have hd : decide (fa < z) = false := decide_eq_false (by omega)
              have s1d : (w2.alloc (.cells zero4 5)).cell? ⟨wr.heap.size, 1, none⟩ = some (.int .i64 fa) := (HS2.out.grow (new_alloc w2 _)).cell 1
              have o0d : (w2.alloc (.cells zero4 5)).cell? ⟨w.heap.size, 0, none⟩ = some (.slice pb nb cb) := (HK2.out.grow (new_alloc w2 _)).cell 0
              have HO3 : Hid (Own ((w2.alloc (.cells zero4 5)).drew) w2.heap.size w2.heap.size 4 [0, 0, 0, 0]) := (Own.new4 w2).drewN 1
              have HB3 : Hid (Below w.heap.size w ((w2.alloc (.cells zero4 5)).drew)) := below_draws (below_alloc HB2.out _) 1
              have HK3 : Hid (Blk ((w2.alloc (.cells zero4 5)).drew) w.heap.size 97 _) := (HK2.out.grow (new_alloc w2 _)).grow (below_draws (below_self _) 1)
              go_region_law (go_simp; go_at_call 58; refine (hH fa _ _ (by omega) hsa1 (HRB.out.below HB3.out) HO3.out.row).mono ?_; rw [hst]; rintro E w4 ⟨rfl, rfl⟩)
              all_goals
                clear hH hN hmk
                cases st with
                | false =>
                  go_wp2_with fail
                  go_ret
                  exact ⟨ret_bool (by rw [← HR.out, HRS.out, HST.out, HFB.out]; rfl), HB3.out⟩
                | true =>
                  have htop := HTOP.out rfl
                  go_wp2_with fail
                  go_roundw
                  case rel => exact ⟨fa + 4, k + 1, by go_num, by go_num, by omega, by rw [HRS.out, HST.out, HFB.out, Bool.true_and], by omega, by omega, HK3.out, HB3.out⟩
                  case measure => simp [intOf]; omega
      · go_wp2_with (first
          | (refine step_store_new rfl 119 (.tmp 5) (.tmp 12) rfl rfl rfl #[.int .u8 fk, .int .i64 fa, .string fs] rfl Try.sz119 rfl rfl ?_))
        go_ret
        exact ⟨ret_bool (by rw [← HR.out, HRS.out, HST.out]; simp [fixB, hkd]), hBB.out⟩
    · have hkn : k = nf := by omega
      subst hkn
      go_wp2_with fail
      go_ret
      exact ⟨ret_bool (by rw [← HR.out, HRS.out, List.drop_eq_nil_of_le (by rw [HN.out]; exact Nat.le_refl _)]; rfl), HB.out⟩

end Go.Proofs.Ytgblohjdiheemaa

/- What isa.Encode answers, for every instruction. -/
namespace Go.Proofs.Ytgblohjdiheemaa
open Go.RowKit

theorem cd_cells (o : Nat) (h : o < 17) : Lib.byteCells (cd o).data.toList = byts (cdL o) := by
  have : ∀ o : Fin 17, Lib.byteCells (cd o.1).data.toList = byts (cdL o.1) := fun o => by
    obtain ⟨o, ho⟩ := o
    revert ho
    exact fun ho => match o, ho with
      | 0, _ => rfl | 1, _ => rfl | 2, _ => rfl | 3, _ => rfl | 4, _ => rfl | 5, _ => rfl | 6, _ => rfl | 7, _ => rfl | 8, _ => rfl
      | 9, _ => rfl | 10, _ => rfl | 11, _ => rfl | 12, _ => rfl | 13, _ => rfl | 14, _ => rfl | 15, _ => rfl | 16, _ => rfl
      | n + 17, h => absurd h (by omega)
  exact this ⟨o, h⟩

theorem copy_code {w1 : World} {B g n : Nat} (c : ByteArray) (cs : List Int) (hcs : Lib.byteCells c.data.toList = byts cs) (hsz : c.size = cs.length) (hle : cs.length ≤ n) (hown : Own w1 B g n (List.replicate n 0)) :
    ∃ w2, (Builtin.copy_ #[25, 9] 3 #[.slice (some ⟨g, 0, none⟩) n n, .string c]).run Try.prog w1 = .ok (.int .i64 cs.length) w2 ∧ Own w2 B g n (cs ++ List.replicate (n - cs.length) 0) ∧ ∀ w0, Below B w0 w1 → Below B w0 w2 := by
  have hwh := Own.whole (w := w1) (B := B) (g := g) (xs := List.replicate n 0) (by simpa using hown)
  obtain ⟨cur, h1, h2, h3, h4, h5, h6⟩ := hown.parts
  have hr := Lib.run_copy_row_string (P := Try.prog) w1 25 9 3 5 g 0 n n c (byts (List.replicate n 0)).toArray 5 Try.underlying25 Try.size5 hwh (by omega) (by simp; omega)
  rw [hcs] at hr
  refine ⟨_, ?_, Own.mk (cur := (byts (cs ++ List.replicate (n - cs.length) 0)).toArray) h1 (setRow_heap w1 g _ _ 5 (0, 0) h2) (by simp; omega) h4 (by simp; omega) (by rw [List.take_of_length_le (by simp)]), fun w0 hb => below_setRow hb h1 _⟩
  rw [hr, hsz]
  have e : (byts (List.replicate n 0)).toArray.toList.take 0 ++ byts cs ++ (byts (List.replicate n 0)).toArray.toList.drop (0 + cs.length) = byts (cs ++ List.replicate (n - cs.length) 0) := by
    simp [byts]
  rw [e]
  rfl

theorem cell_far {w : World} {g h i j : Nat} {v : Value} (hne : h ≠ g) : (w.setCell ⟨h, i, none⟩ v).cell? ⟨g, j, none⟩ = w.cell? ⟨g, j, none⟩ :=
  World.cell?_setCell_other _ _ _ _ fun e => hne (congrArg Addr.block e)
/-- the list with the first k registers laid -/
def stL (base : List Int) (cl : Nat) (a b : Int) (k : Nat) : List Int := if k = 0 then base else if k = 1 then base.set cl a else (base.set cl a).set (cl + 1) b
theorem stL_length (base : List Int) (cl : Nat) (a b : Int) (k : Nat) : (stL base cl a b k).length = base.length := by
  unfold stL
  split
  · rfl
  · split <;> simp
/-- a store elsewhere -/
theorem At4.store {w : World} {g h i : Nat} {v x0 x1 x2 x3 : Value} (ha : At4 w g x0 x1 x2 x3) (hne : h ≠ g) : At4 (w.setCell ⟨h, i, none⟩ v) g x0 x1 x2 x3 :=
  ⟨(cell_far hne).trans ha.1, (cell_far hne).trans ha.2.1, (cell_far hne).trans ha.2.2.1, (cell_far hne).trans ha.2.2.2⟩

/-- an int32's four bytes, the lowest first -/
def le4 (n : Int) : List Int := [n % 4294967296 % 256, n % 4294967296 / 256 % 256, n % 4294967296 / 65536 % 256, n % 4294967296 / 16777216]
/-- an instruction's bytes -/
def encG (cs : List Int) (r : Nat) (q a b n : Int) : List Int := cs ++ (if 1 ≤ r then [a] else []) ++ (if 2 ≤ r then [b] else []) ++ (if q = 0 then [] else le4 n)
def encL (o : Nat) (a b n : Int) : List Int := encG (cdL o) (rg o) (kd o) a b n

theorem encG_zero (cs : List Int) (k : Nat) (a b n : Int) (h : k ≤ 2) : stL (cs ++ List.replicate k 0) cs.length a b k = encG cs k 0 a b n := by
  obtain rfl | rfl | rfl : k = 0 ∨ k = 1 ∨ k = 2 := by omega
  · simp [stL, encG]
  · simp [stL, encG]
  · simp [stL, encG, List.replicate]
theorem put_tail (xs : List Int) (v : Int) : putL (xs ++ [0, 0, 0, 0]) xs.length v = xs ++ [v % 256, v / 256 % 256, v / 65536 % 256, v / 16777216] := by
  simp [putL]
theorem encG_num (cs : List Int) (k : Nat) (q a b n : Int) (h : k ≤ 2) (hq : q ≠ 0) : putL (stL (cs ++ List.replicate (k + 4) 0) cs.length a b k) (cs.length + k) (n % 4294967296) = encG cs k q a b n := by
  obtain rfl | rfl | rfl : k = 0 ∨ k = 1 ∨ k = 2 := by omega
  · have e : stL (cs ++ List.replicate (0 + 4) 0) cs.length a b 0 = cs ++ [0, 0, 0, 0] := by simp [stL, List.replicate]
    rw [e, Nat.add_zero, put_tail]
    simp [encG, le4, hq]
  · have e : stL (cs ++ List.replicate (1 + 4) 0) cs.length a b 1 = (cs ++ [a]) ++ [0, 0, 0, 0] := by simp [stL, List.replicate]
    rw [e, show cs.length + 1 = (cs ++ [a]).length by simp, put_tail]
    simp [encG, le4, hq]
  · have e : stL (cs ++ List.replicate (2 + 4) 0) cs.length a b 2 = (cs ++ [a, b]) ++ [0, 0, 0, 0] := by simp [stL, List.replicate]
    rw [e, show cs.length + 2 = (cs ++ [a, b]).length by simp, put_tail]
    simp [encG, le4, hq]

set_option maxHeartbeats 2000000 in
set_option maxRecDepth 4000 in
theorem encode_gen (s c : ByteArray) (cs : List Int) (r L : Nat) (q o a b n : Int) (w : World)
    (hidx : ∀ w, (Instr.index 128 (.agg tab) (.int .u8 o)).run Try.prog w = .ok (.agg #[.string s, .string c, .int .i64 r, .int .u8 q]) w)
    (hright : ∀ w, Calls Try.prog 60 #[ins o a b n] w fun e w' => e = .returned (.bool true) ∧ Below w.heap.size w w')
    (hlen : ∀ w, Calls Try.prog 62 #[shp s c r q] w fun e w' => e = .returned (.int .i64 L) ∧ Below w.heap.size w w')
    (hcs : Lib.byteCells c.data.toList = byts cs) (hsz : c.size = cs.length) (hcl : cs.length ≤ 5) (hr : r ≤ 2) (hq : q = 0 ∨ q = 1 ∨ q = 2) (hL : L = cs.length + r + if q = 0 then 0 else 4) :
    Calls Try.prog 51 #[ins o a b n] w fun e w' => ∃ g cap, e = .returned (.tuple #[.slice (some ⟨g, 0, none⟩) L cap, .int .i64 0]) ∧ Own w' w.heap.size g cap (encG cs r q a b n) ∧ Below w.heap.size w w' := by
  obtain ⟨i0, hi, hz0, hz1, hz2⟩ := info_parts Try.info5
  have HS : Hid (c.size = cs.length) := hsz
  have HLL : Hid (L = cs.length + r + if q = 0 then 0 else 4) := hL
  have hL11 : L ≤ 11 := by rw [hL]; split <;> omega
  clear hL hsz
  go_enter Try.func51, Try.ntmps51
  go_wp2_with fail
  refine (hright _).mono ?_
  rintro e w1 ⟨rfl, hb1⟩
  have hbox := (At4.new w (.int .u8 o) (.int .u8 a) (.int .u8 b) (.int .i32 n) 109).below hb1
  have hbw := below_step (new_alloc w _) hb1
  clear hb1 hright
  have c0 := hbox.1
  have l0 : w.heap.size < w1.heap.size := cell_lt c0
  have c1 : ∀ ob, (w1.alloc ob).cell? ⟨w.heap.size, 0, none⟩ = some (.int .u8 o) := cell_push c0
  go_upto_region 3 with fail
  go_cut [4] from 12 to 15 (fun p wx => ∃ g, p = .pointer (some ⟨g, 0, none⟩) ∧ At4 wx g (.string s) (.string c) (.int .i64 r) (.int .u8 q) ∧ Below w1.heap.size w1 wx)
  case first =>
    go_region_with (go_at_call 61; refine (shapes_any _).mono ?_; rintro e w2 ⟨rfl, hb2⟩; first | (have c9 := (hb2.cell (p := ⟨w.heap.size, 0, none⟩) l0).trans c0; have c8 := cell_push c9; have hA := hb2) | (have c9 := (hb2.cell (p := ⟨w.heap.size, 0, none⟩) (lt_push l0 _)).trans (c1 _); obtain ⟨d0, d1, d2, d3, f0, f1, f2, f3⟩ := kept_new4 hb2; have hB := hb2))
    all_goals
      go_wp2_with fail
      go_meet
      case rel => first | exact ⟨_, rfl, met_A hA _ _ _ _ _⟩ | exact ⟨_, rfl, met_B hB _ _ _ _⟩
  case rest =>
    obtain ⟨g, rfl, hat, hbx⟩ := hcut
    have hbox2 := hbox.below hbx
    have hbc := below_step hbw hbx
    clear hbx hbw hbox c0 l0 c1 hidx
    have HA : Hid (At4 wc g (.string s) (.string c) (.int .i64 r) (.int .u8 q)) := hat
    have HB : Hid (At4 wc w.heap.size (.int .u8 o) (.int .u8 a) (.int .u8 b) (.int .i32 n)) := hbox2
    clear hbox2
    obtain ⟨q0, q1, q2, q3⟩ := hat
    go_wp2_with fail
    refine (hlen _).mono ?_
    rintro e w3 ⟨rfl, hb3⟩
    have HA3 : Hid (At4 w3 g (.string s) (.string c) (.int .i64 r) (.int .u8 q)) := HA.out.below hb3
    have HB3 : Hid (At4 w3 w.heap.size (.int .u8 o) (.int .u8 a) (.int .u8 b) (.int .i32 n)) := HB.out.below hb3
    have hb4 := below_step hbc hb3
    clear hb3 hbc HA HB q0 q1 q2 q3 hlen
    go_wp2_with (at_make; refine wpList_make_full _ rfl _ _ 25 rfl _ 5 i0 (.int .u8 0) 1 Try.underlying25 hi hz0 hz1 _ _ _ _ L rfl rfl rfl rfl (by rw [hz2]; omega) (by unfold maxLen; omega) (Nat.le_refl _) ?_; intro w4 hown hgrow; have hb5 := (Below.refl w3.heap.size w3).grown hgrow (Nat.le_refl _) (by simp); obtain ⟨w5, hcp, hown2, hb6⟩ := copy_code c cs hcs HS.out (by have := HLL.out; omega) (Own.of_made hown); have hb7 := hb6 _ hb5; obtain ⟨q0, q1, q2, q3⟩ := HA3.out.below hb5; have HA5 : Hid (At4 w5 g (.string s) (.string c) (.int .i64 r) (.int .u8 q)) := HA3.out.below hb7; have HB5 : Hid (At4 w5 w.heap.size (.int .u8 o) (.int .u8 a) (.int .u8 b) (.int .i32 n)) := HB3.out.below hb7; obtain ⟨p0, p1, p2, p3⟩ := HB3.out.below hb7; have q5 := cell_push HA5.out.2.2.1; have hb8 := below_step hb4 hb7; have HO : Hid (Own w5 w3.heap.size w3.heap.size L (cs ++ List.replicate (L - cs.length) 0)) := hown2; clear hown hgrow hb5 hb6 hb7 hown2)
    have HO6 : Hid (Own (w5.alloc (.cells #[.int .u8 a, .int .u8 b] 131)) w3.heap.size w3.heap.size L (cs ++ List.replicate (L - cs.length) 0)) := HO.out.below (new_alloc _ _)
    have HA6 : Hid (At4 (w5.alloc (.cells #[.int .u8 a, .int .u8 b] 131)) g (.string s) (.string c) (.int .i64 r) (.int .u8 q)) := HA5.out.below (new_alloc _ _)
    have HB6 : Hid (At4 (w5.alloc (.cells #[.int .u8 a, .int .u8 b] 131)) w.heap.size (.int .u8 o) (.int .u8 a) (.int .u8 b) (.int .i32 n)) := HB5.out.below (new_alloc _ _)
    have hb9 := below_alloc hb8 (.cells #[.int .u8 a, .int .u8 b] 131)
    have m0 : (w5.alloc (.cells #[.int .u8 a, .int .u8 b] 131)).cell? ⟨w5.heap.size, 0, none⟩ = some (.int .u8 a) := by simp
    have m1 : (w5.alloc (.cells #[.int .u8 a, .int .u8 b] 131)).cell? ⟨w5.heap.size, 1, none⟩ = some (.int .u8 b) := by simp
    have hG : w3.heap.size < w5.heap.size := HO.out.lt
    have hg3 : g < w3.heap.size := cell_lt HA3.out.1
    have hw3 : w.heap.size < w3.heap.size := cell_lt HB3.out.1
    clear q0 q1 q2 q3 p0 p1 p2 p3 q5 hb4 HO HA5 HB5 HA3 HB3 hcp hb8 hcs HS w1 wc
    generalize w5.alloc (.cells #[.int .u8 a, .int .u8 b] 131) = w6 at *
    generalize w5.heap.size = g7 at *
    generalize w3.heap.size = G at *
    clear w3 w4 w5
    have HBL : Hid ((cs ++ List.replicate (L - cs.length) 0).length = L) := by
      have := HLL.out
      show (cs ++ List.replicate (L - cs.length) 0).length = L
      simp; omega
    generalize hbase : cs ++ List.replicate (L - cs.length) 0 = base at *
    have HBASE : Hid (cs ++ List.replicate (L - cs.length) 0 = base) := hbase
    clear hbase
    go_loopw [30] (fun i wr => ∃ k : Nat, k ≤ r ∧ i = .int .i64 k ∧ Own wr G G L (stL base cs.length a b k) ∧ At4 wr g (.string s) (.string c) (.int .i64 r) (.int .u8 q) ∧ At4 wr w.heap.size (.int .u8 o) (.int .u8 a) (.int .u8 b) (.int .i32 n) ∧ wr.cell? ⟨g7, 0, none⟩ = some (.int .u8 a) ∧ wr.cell? ⟨g7, 1, none⟩ = some (.int .u8 b) ∧ Below w.heap.size w wr) (fun i _ => r - (intOf i).toNat)
    case atStart => exact ⟨0, Nat.zero_le _, rfl, HO6.out, HA6.out, HB6.out, m0, m1, hb9⟩
    case round =>
      obtain ⟨k, hk, rfl, hown, hat, hbox, k0, k1, hbk⟩ := hrel
      clear HO6 HA6 HB6 m0 m1 hb9
      by_cases hlt : k < r
      · have hkl : cs.length + k < L := by have := HLL.out; omega
        have d0 := hown.cell (cs.length + k) (by rw [stL_length, HBL.out]; exact hkl)
        have f0 := hown.free (cs.length + k)
        generalize (stL base cs.length a b k).getD (cs.length + k) 0 = z at *
        obtain rfl | rfl : k = 0 ∨ k = 1 := by omega
        · simp only [Nat.add_zero] at d0 f0 hkl
          go_wp2
          go_roundw
          case rel => exact ⟨1, by omega, by go_num, hown.store cs.length a, hat.store (by omega), hbox.store (by omega), (cell_far (by omega)).trans k0, (cell_far (by omega)).trans k1, hbk.setCell (Nat.le_of_lt hw3) _⟩
          case measure => simp [intOf]; omega
        · go_wp2
          go_roundw
          case rel => exact ⟨2, by omega, by go_num, hown.store (cs.length + 1) b, hat.store (by omega), hbox.store (by omega), (cell_far (by omega)).trans k0, (cell_far (by omega)).trans k1, hbk.setCell (Nat.le_of_lt hw3) _⟩
          case measure => simp [intOf]; omega
      · obtain rfl : k = r := by omega
        have HA : Hid (At4 wr g (.string s) (.string c) (.int .i64 k) (.int .u8 q)) := hat
        have HB : Hid (At4 wr w.heap.size (.int .u8 o) (.int .u8 a) (.int .u8 b) (.int .i32 n)) := hbox
        obtain ⟨q0, q1, q2, q3⟩ := hat
        obtain ⟨p0, p1, p2, p3⟩ := hbox
        by_cases hq0 : q = 0
        · subst hq0
          go_wp2
          go_ret2
          have hb : base = cs ++ List.replicate k 0 := by rw [← HBASE.out, show L - cs.length = k by have := HLL.out; simp at this; omega]
          rw [hb, encG_zero cs k a b n (by omega)] at hown
          exact ⟨_, _, rfl, hown.lower (Nat.le_of_lt hw3), hbk⟩
        · have hq1 : (q == 0) = false := by simpa using hq0
          have hLk : L = cs.length + k + 4 := by have := HLL.out; rw [if_neg hq0] at this; exact this
          have hb : base = cs ++ List.replicate (k + 4) 0 := by rw [← HBASE.out, show L - cs.length = k + 4 by omega]
          have HLk : Hid (L = cs.length + k + 4) := hLk
          clear hLk
          go_wp2_with fail
          refine (put32_ex _ L L (cs.length + k) (n % 4294967296) (stL base cs.length a b k) _ (by rw [stL_length, HBL.out]) (by omega) hown.row (by omega) (by omega) (by have := HLk.out; omega)).mono ?_
          rw [show ((cs.length : Int) + (k : Int)).toNat = cs.length + k by omega, hb, encG_num cs k q a b n (by omega) hq0]
          rintro e w7 ⟨g8, rfl, hown7, hb7⟩
          go_wp2
          go_ret2
          exact ⟨_, _, rfl, hown7.lower hbk.size, below_step hbk hb7⟩

theorem encG_length (cs : List Int) (r : Nat) (q a b n : Int) (hr : r ≤ 2) : (encG cs r q a b n).length = cs.length + r + if q = 0 then 0 else 4 := by
  obtain rfl | rfl | rfl : r = 0 ∨ r = 1 ∨ r = 2 := by omega
  all_goals (by_cases hq : q = 0 <;> simp [encG, le4, hq])
theorem encL_length (o : Nat) (a b n : Int) (h : o < 17) : (encL o a b n).length = lenN o := encG_length _ _ _ _ _ _ (rg_le o h)

theorem encode_yes (o : Nat) (a b n : Int) (w : World) (ha : 0 ≤ a ∧ a ≤ 255) (hb : 0 ≤ b ∧ b ≤ 255) (hR : rightB o a b n = true) :
    Calls Try.prog 51 #[ins o a b n] w fun e w' => ∃ g cap, e = .returned (.tuple #[.slice (some ⟨g, 0, none⟩) (lenN o) cap, .int .i64 0]) ∧ Own w' w.heap.size g cap (encL o a b n) ∧ Below w.heap.size w w' := by
  have ho : 1 ≤ o ∧ o < 17 := by
    simp only [rightB, Bool.and_eq_true, decide_eq_true_eq] at hR
    exact hR.1
  have hl := cdL_len o ho.2
  refine encode_gen (nm o) (cd o) (cdL o) (rg o) (lenN o) (kd o) o a b n w (idx_any o ho.2) (fun w => ?_) (length_op o ho.2) (cd_cells o ho.2) (cd_size o ho.2) hl (rg_le o ho.2) (kd_in o ho.2) rfl
  have := right_op o a b n w ho.1 ho.2 ha hb
  rw [hR] at this
  exact this

set_option maxHeartbeats 400000 in
theorem encode_no (o : Nat) (a b n : Int) (w : World) (ho : o ≤ 255) (ha : 0 ≤ a ∧ a ≤ 255) (hb : 0 ≤ b ∧ b ≤ 255) (hR : rightB o a b n = false) :
    Calls Try.prog 51 #[ins o a b n] w fun e w' => e = .returned (.tuple #[.slice none 0 0, .int .i64 2]) ∧ Below w.heap.size w w' := by
  have hcon := right_any o a b n (w.alloc (.cells #[.int .u8 o, .int .u8 a, .int .u8 b, .int .i32 n] 109)) ho ha hb
  rw [hR] at hcon
  clear hR
  go_enter Try.func51, Try.ntmps51
  go_wp2_with fail
  refine hcon.mono ?_
  rintro e w1 ⟨rfl, hb1⟩
  clear hcon
  go_wp2
  go_ret2
  exact ⟨rfl, below_step (new_alloc w _) hb1⟩
end Go.Proofs.Ytgblohjdiheemaa
