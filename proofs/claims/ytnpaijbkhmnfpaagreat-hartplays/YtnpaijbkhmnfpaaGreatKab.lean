/- Texts put together: Put, Same, Lit, Copy, Lent, Mem, ApartA, Mem2, Mem3. -/
import Derived.Test.YtnpaijbkhmnfpaaGreatKaa
import Derived.Test.YtnpaijbkhmnfpaaGreatProg
import Derived.Laws.BytesArg
import Derived.Deep.QuietTactic
import Derived.BigQuiet
import Derived.Lib.Strings
import Derived.Laws.CopyOwn
import Derived.Deep.RegionHeld3

/- What octets.Put32 answers, for every slice of bytes, every place, every number. -/
namespace Go.Proofs.YtnpaijbkhmnfpaaGreat
open Go.RowKit

theorem put32_no (p : Option Addr) (n c : Nat) (a v : Int) (w : World) (hn : n ≤ 9223372036854775807) (h : a < 0 ∨ n - 4 < a) :
    Calls Tryz.prog 115 #[.slice p n c, .int .i64 a, .int .u32 v] w fun e w' => e = .returned (.tuple #[.slice none 0 0, .int .i64 2]) ∧ w' = w := by
  go_enter Tryz.func115, Tryz.ntmps115
  go_wp2_with (go_at_call 131; refine (inside_no _ _ _ _ _ _ hn (by decide) (by decide) h).mono ?_; rintro e w' ⟨rfl, rfl⟩)
  go_ret2
  exact ⟨rfl, rfl⟩

def putL (xs : List Int) (a : Nat) (v : Int) : List Int :=
  (((xs.set a (v % 256)).set (a + 1) (v / 256 % 256)).set (a + 2) (v / 65536 % 256)).set (a + 3) (v / 16777216)

theorem Own.of_made {w : World} {B g n : Nat} (h : w.ownsRow B 5 1 (.slice (some ⟨g, 0, none⟩) n n) n (madeCells (Value.int .u8 0).cells (n * 1)).toList) : Own w B g n (List.replicate n 0) := by
  unfold Own
  have e : (madeCells (Value.int .u8 0).cells (n * 1)).toList = byts (List.replicate n 0) := by
    rw [show (Value.int .u8 0).cells = #[Value.int .u8 0] from rfl, toList_madeCells_one]; simp [byts]
  rw [e] at h
  simpa using h

theorem Own.whole {w : World} {B g : Nat} {xs : List Int} (h : Own w B g xs.length xs) : w.heap[g]? = some (.cells (byts xs).toArray 5 (0, 0)) := by
  obtain ⟨cur, _, h2, _, _, h5, h6⟩ := h.parts
  rw [h2, ← h6, List.take_of_length_le (by rw [Array.length_toList]; omega)]

theorem copy_into {w1 : World} {B g n c b o : Nat} {xs : List Int} (hx : xs.length = n) (hown : Own w1 B g n (List.replicate n 0))
    (hc : ∀ i, i < n → w1.cell? ⟨b, o + i, none⟩ = some (.int .u8 (xs.getD i 0))) :
    ∃ w2, (Builtin.copy_ #[26, 26] 3 #[.slice (some ⟨g, 0, none⟩) n n, .slice (some ⟨b, o, none⟩) n c]).run Tryz.prog w1 = .ok (.int .i64 n) w2 ∧ Own w2 B g n xs ∧ ∀ w0, Below B w0 w1 → Below B w0 w2 := by
  obtain ⟨cur, h1, h2, h3, h4, h5, h6⟩ := hown.parts
  have hr := run_copy_row (P := Tryz.prog) w1 26 26 3 5 g 0 n n ⟨b, o, none⟩ n c cur 5 (byts xs) Tryz.underlying26 Tryz.size5 h2 (by simp [hx]) (fun j u hj => by
    have hjl : j < xs.length := by
      rcases Nat.lt_or_ge j xs.length with h | h
      · exact h
      · rw [List.getElem?_eq_none (by simpa using h)] at hj; cases hj
    rw [getD_byts xs j hjl] at hj
    rw [← hj, ← hc j (by omega), Go.WideShapes.add_plain]) (by simp [hx, h5]) (fun u hu => by
    simp only [byts, List.mem_map] at hu
    obtain ⟨z, _, rfl⟩ := hu
    rfl)
  have e : cur.toList.take 0 ++ byts xs ++ cur.toList.drop (0 + (byts xs).length) = byts xs := by
    simp [List.drop_eq_nil_of_le, hx, h5]
  rw [e] at hr
  refine ⟨_, ?_, Own.mk (cur := (byts xs).toArray) h1 (setRow_heap w1 g cur _ 5 (0, 0) h2) (by omega) h4 (by simp [hx]) (by rw [List.take_of_length_le (by simp)]), fun w0 hb => below_setRow hb h1 _⟩
  simpa [hx, goInt] using hr

set_option maxHeartbeats 400000 in
theorem put32_at (b o n c a : Nat) (v : Int) (xs : List Int) (w : World) (hx : xs.length = n) (hn : n ≤ 140737488355328) (h : a + 4 ≤ n) (hv : 0 ≤ v ∧ v ≤ 4294967295)
    (hc : ∀ i, i < n → w.cell? ⟨b, o + i, none⟩ = some (.int .u8 (xs.getD i 0))) :
    Calls Tryz.prog 115 #[.slice (some ⟨b, o, none⟩) n c, .int .i64 a, .int .u32 v] w fun e w' => e = .returned (.tuple #[.slice (some ⟨w.heap.size, 0, none⟩) n n, .int .i64 0]) ∧ Own w' w.heap.size w.heap.size n (putL xs a v) ∧ Below w.heap.size w w' := by
  obtain ⟨i0, hi, hz0, hz1, hz2⟩ := info_parts Tryz.info5
  have HX : Hid (xs.length = n) := hx
  have HC : Hid (∀ i, i < n → w.cell? ⟨b, o + i, none⟩ = some (.int .u8 (xs.getD i 0))) := hc
  clear hx hc
  go_enter Tryz.func115, Tryz.ntmps115
  go_wp2_with (first | (go_at_call 131; refine (inside_yes _ _ _ _ _ _ (by omega) (by decide) (by decide) (by omega) (by omega)).mono ?_; rintro e w' ⟨rfl, rfl⟩) | (at_make; refine wpList_make_full _ rfl _ _ 26 rfl _ 5 i0 (.int .u8 0) 1 Tryz.underlying26 hi hz0 hz1 _ _ _ _ n rfl rfl rfl rfl (by rw [hz2]; omega) (by unfold maxLen; omega) (Nat.le_refl _) ?_; intro w1 hown hgrow; have hb1 := (Below.refl w'.heap.size w').grown hgrow (Nat.le_refl _) (by simp); obtain ⟨w2, hcp, hown2, hb2⟩ := copy_into (c := c) HX.out (Own.of_made hown) (fun i hi => by rw [hb1.cell (p := ⟨b, o + i, none⟩) (cell_lt (HC.out i hi))]; exact HC.out i hi); have hb3 := hb2 _ hb1; have HO : Hid (Own w2 w'.heap.size w'.heap.size n xs) := hown2; have HB : Hid (Below w'.heap.size w' w2) := hb3; clear hown hgrow hb1 hb2 hb3 hown2))
  have c0 := HO.out.cell a (by have := HX.out; omega)
  have c1 := HO.out.cell (a + 1) (by have := HX.out; omega)
  have c2 := HO.out.cell (a + 2) (by have := HX.out; omega)
  have c3 := HO.out.cell (a + 3) (by have := HX.out; omega)
  have f0 := HO.out.free a
  have f1 := HO.out.free (a + 1)
  have f2 := HO.out.free (a + 2)
  have f3 := HO.out.free (a + 3)
  generalize xs.getD a 0 = z0 at c0
  generalize xs.getD (a + 1) 0 = z1 at c1
  generalize xs.getD (a + 2) 0 = z2 at c2
  generalize xs.getD (a + 3) 0 = z3 at c3
  refine wp_loop_rounds 5 ?_
  rw [rounds_succ]; go_wp2
  rw [rounds_succ]; go_wp2
  rw [rounds_succ]; go_wp2
  rw [rounds_succ]; go_wp2
  rw [rounds_succ]; go_wp2
  go_ret2
  exact ⟨rfl, (((HO.out.store a _).store (a + 1) _).store (a + 2) _).store (a + 3) _, (((HB.out.setCell (Nat.le_refl _) _).setCell (Nat.le_refl _) _).setCell (Nat.le_refl _) _).setCell (Nat.le_refl _) _⟩

theorem put32_yes (p : Option Addr) (n c : Nat) (a v : Int) (xs : List Int) (w : World) (hx : xs.length = n) (hn : n ≤ 140737488355328) (hr : Row w p xs) (hv : 0 ≤ v ∧ v ≤ 4294967295) (h0 : 0 ≤ a) (h1 : a + 4 ≤ n) :
    Calls Tryz.prog 115 #[.slice p n c, .int .i64 a, .int .u32 v] w fun e w' => e = .returned (.tuple #[.slice (some ⟨w.heap.size, 0, none⟩) n n, .int .i64 0]) ∧ Own w' w.heap.size w.heap.size n (putL xs a.toNat v) ∧ Below w.heap.size w w' := by
  obtain ⟨k, rfl⟩ := Int.eq_ofNat_of_zero_le h0
  obtain ⟨b, o, rfl, hc⟩ := hr (by omega)
  rw [Int.toNat_natCast]
  exact put32_at b o n c k v xs w hx hn (by omega) hv (fun i hi => hc i (by omega))

/-- the same, the block's number left open -/
theorem put32_ex (p : Option Addr) (n c : Nat) (a v : Int) (xs : List Int) (w : World) (hx : xs.length = n) (hn : n ≤ 140737488355328) (hr : Row w p xs) (hv : 0 ≤ v ∧ v ≤ 4294967295) (h0 : 0 ≤ a) (h1 : a + 4 ≤ n) :
    Calls Tryz.prog 115 #[.slice p n c, .int .i64 a, .int .u32 v] w fun e w' => ∃ g, e = .returned (.tuple #[.slice (some ⟨g, 0, none⟩) n n, .int .i64 0]) ∧ Own w' w.heap.size g n (putL xs a.toNat v) ∧ Below w.heap.size w w' :=
  (put32_yes p n c a v xs w hx hn hr hv h0 h1).mono fun _ _ h => ⟨_, h⟩

/-! ### what is put: plain facts -/
theorem putL_length (xs : List Int) (a : Nat) (v : Int) : (putL xs a v).length = xs.length := by simp [putL]
theorem putL_getD (xs : List Int) (a : Nat) (v : Int) (h : a + 4 ≤ xs.length) (i : Nat) :
    (putL xs a v).getD i 0 = if i = a then v % 256 else if i = a + 1 then v / 256 % 256 else if i = a + 2 then v / 65536 % 256 else if i = a + 3 then v / 16777216 else xs.getD i 0 := by
  simp only [putL, List.getD, List.getElem?_set, List.length_set]
  by_cases e3 : a + 3 = i
  · subst e3; simp [show a + 3 < xs.length by omega]
  · by_cases e2 : a + 2 = i
    · subst e2; simp [show a + 2 < xs.length by omega]
    · by_cases e1 : a + 1 = i
      · subst e1; simp [show a + 1 < xs.length by omega]
      · by_cases e0 : a = i
        · subst e0; simp [show a < xs.length by omega]
        · simp [e0, e1, e2, e3, Ne.symm e0, Ne.symm e1, Ne.symm e2, Ne.symm e3]
theorem putL_byt {xs : List Int} {a : Nat} {v : Int} (hb : Byt xs) (h : a + 4 ≤ xs.length) (hv : 0 ≤ v ∧ v ≤ 4294967295) : Byt (putL xs a v) := fun i => by
  rw [putL_getD xs a v h i]
  have := hb i
  split
  · omega
  · split
    · omega
    · split
      · omega
      · split
        · omega
        · exact this
theorem putL_n4 {xs : List Int} {a : Nat} {v : Int} (h : a + 4 ≤ xs.length) : n4 (putL xs a v) a = v := by
  simp only [n4, putL_getD xs a v h, num4]
  simp
  omega
theorem putL_n2 {xs : List Int} {a : Nat} {v : Int} (h : a + 4 ≤ xs.length) : n2 (putL xs a v) a = v % 65536 := by
  simp only [n2, putL_getD xs a v h, num2]
  simp
  omega
theorem putL_n2' {xs : List Int} {a : Nat} {v : Int} (h : a + 4 ≤ xs.length) : n2 (putL xs a v) (a + 2) = v / 65536 := by
  simp only [n2, putL_getD xs a v h, num2]
  simp
  omega
theorem putL_other {xs : List Int} {a : Nat} {v : Int} (h : a + 4 ≤ xs.length) (i : Nat) (hi : i < a ∨ a + 4 ≤ i) : (putL xs a v).getD i 0 = xs.getD i 0 := by
  rw [putL_getD xs a v h i, if_neg (by omega), if_neg (by omega), if_neg (by omega), if_neg (by omega)]
theorem list_ext_getD {xs ys : List Int} (hl : xs.length = ys.length) (h : ∀ i, xs.getD i 0 = ys.getD i 0) : xs = ys :=
  List.ext_getElem hl fun j h1 h2 => by have := h j; simpa [List.getD, h1, h2] using this
theorem putL_back {xs : List Int} {a : Nat} {v : Int} (hb : Byt xs) (h : a + 4 ≤ xs.length) : putL (putL xs a v) a (n4 xs a) = xs := by
  refine list_ext_getD (by simp [putL_length]) fun i => ?_
  rw [putL_getD _ a _ (by rw [putL_length]; exact h) i]
  have b0 := hb a; have b1 := hb (a + 1); have b2 := hb (a + 2); have b3 := hb (a + 3)
  simp only [n4, num4]
  split
  · next e => subst e; omega
  · split
    · next e => subst e; omega
    · split
      · next e => subst e; omega
      · split
        · next e => subst e; omega
        · exact putL_other h i (by omega)
end Go.Proofs.YtnpaijbkhmnfpaaGreat

/- What bytes.Equal, octets.Same and switchyardkit.SameBytes answer, for every two slices of bytes. -/
namespace Go.Proofs.YtnpaijbkhmnfpaaGreat
open Go.RowKit

theorem convert_zero (w : World) (p : Option Addr) (c : Nat) :
    (convert 26 9 (.slice p 0 c)).run Tryz.prog w = .ok (.string ByteArray.empty) w := by
  rw [run_convert_bytes_string w 26 9 5 _ 0 c Tryz.underlying26 Tryz.underlying5 Tryz.underlying9]
  cases p <;> simp [Conv.bytesToString, loadCells]
  all_goals rfl

theorem Row.convert {w : World} {p : Option Addr} {n : Nat} {xs : List Int} (h : Row w p xs) (hx : xs.length = n) (c : Nat) :
    (convert 26 9 (.slice p n c)).run Tryz.prog w = .ok (.string (strOfNums xs)) w := by
  rcases Nat.eq_zero_or_pos n with hn | hn
  · subst hn
    obtain rfl : xs = [] := List.eq_nil_of_length_eq_zero hx
    exact convert_zero w p c
  · obtain ⟨b, o, rfl, hc⟩ := h (by omega)
    exact run_convert_bytes_arg (P := Tryz.prog) w 26 5 Tryz.underlying26 Tryz.underlying5 b o n c xs hx (fun i hi => hc i (by omega)) 9 Tryz.underlying9

def sameB (xs ys : List Int) : Bool := decide (xs = ys)
theorem sameB_self (xs : List Int) : sameB xs xs = true := by simp [sameB]
theorem sameB_yes {xs ys : List Int} (h : xs = ys) : sameB xs ys = true := by simp [sameB, h]
theorem sameB_no {xs ys : List Int} (h : xs ≠ ys) : sameB xs ys = false := by simp [sameB, h]

theorem Byt.mem {xs : List Int} (h : Byt xs) : ∀ x ∈ xs, 0 ≤ x ∧ x ≤ 255 := by
  intro x hx
  obtain ⟨i, hi, rfl⟩ := List.mem_iff_getElem.1 hx
  have := h i
  simpa [List.getD, hi] using this

theorem ofNat_inj {a b : Int} (ha : 0 ≤ a ∧ a ≤ 255) (hb : 0 ≤ b ∧ b ≤ 255) (h : UInt8.ofNat a.toNat = UInt8.ofNat b.toNat) : a = b := by
  have e := congrArg UInt8.toNat h
  simp only [UInt8.toNat_ofNat'] at e
  omega

theorem map_inj : ∀ (xs ys : List Int), (∀ x ∈ xs, 0 ≤ x ∧ x ≤ 255) → (∀ x ∈ ys, 0 ≤ x ∧ x ≤ 255) → (xs.map fun n => UInt8.ofNat n.toNat) = (ys.map fun n => UInt8.ofNat n.toNat) → xs = ys
  | [], [], _, _, _ => rfl
  | [], _ :: _, _, _, h => by simp at h
  | _ :: _, [], _, _, h => by simp at h
  | x :: xs, y :: ys, h1, h2, h => by
    simp only [List.map_cons, List.cons.injEq] at h
    rw [ofNat_inj (h1 x (by simp)) (h2 y (by simp)) h.1, map_inj xs ys (fun z hz => h1 z (by simp [hz])) (fun z hz => h2 z (by simp [hz])) h.2]

theorem str_same {xs ys : List Int} (b1 : Byt xs) (b2 : Byt ys) : ((strOfNums xs).toList == (strOfNums ys).toList) = sameB xs ys := by
  rw [Lib.toList_data, Lib.toList_data, strOfNums_data, strOfNums_data]
  by_cases h : xs = ys
  · subst h; simp [sameB]
  · rw [sameB_no h]
    exact beq_eq_false_iff_ne.2 fun e => h (map_inj _ _ b1.mem b2.mem e)

theorem ret_bool {a b : Bool} (h : a = b) : Ending.returned (.bool a) = .returned (.bool b) := by rw [h]

/-! ### switchyardkit.SameBytes -/
theorem sameB_len {xs ys : List Int} (h : xs.length ≠ ys.length) : sameB xs ys = false := sameB_no fun e => h (by rw [e])
theorem sameB_at {xs ys : List Int} (k : Nat) (h : xs.getD k 0 ≠ ys.getD k 0) : sameB xs ys = false := sameB_no fun e => h (by rw [e])
theorem sameB_all {xs ys : List Int} (hl : xs.length = ys.length) (h : ∀ j, j < xs.length → xs.getD j 0 = ys.getD j 0) : sameB xs ys = true :=
  sameB_yes (List.ext_getElem hl fun j h1 h2 => by have := h j h1; simpa [List.getD, h1, h2] using this)

set_option maxHeartbeats 400000 in
theorem sameBytes_len (p q : Option Addr) (n c m d : Nat) (w : World) (h : n ≠ m) :
    Calls Tryz.prog 29 #[.slice p n c, .slice q m d] w fun e w' => e = .returned (.bool false) ∧ w' = w := by
  have hne : ((n : Int) != (m : Int)) = true := by rw [bne_iff_ne]; omega
  go_enter Tryz.func29, Tryz.ntmps29
  go_wp2
  go_ret
  exact ⟨rfl, rfl⟩

set_option maxHeartbeats 400000 in
theorem sameBytes_zero (p q : Option Addr) (c d : Nat) (w : World) :
    Calls Tryz.prog 29 #[.slice p 0 c, .slice q 0 d] w fun e w' => e = .returned (.bool true) ∧ w' = w := by
  go_enter Tryz.func29, Tryz.ntmps29
  go_wp2
  refine wp_loop_rounds 1 ?_
  rw [rounds_succ]; go_wp2
  go_ret
  exact ⟨rfl, rfl⟩

set_option maxHeartbeats 400000 in
theorem sameBytes_at (b o b' o' n c d : Nat) (xs ys : List Int) (w : World) (hn : n ≤ 9223372036854775807) (hx : xs.length = n) (hy : ys.length = n)
    (h1 : ∀ i, i < n → w.cell? ⟨b, o + i, none⟩ = some (.int .u8 (xs.getD i 0))) (h2 : ∀ i, i < n → w.cell? ⟨b', o' + i, none⟩ = some (.int .u8 (ys.getD i 0))) :
    Calls Tryz.prog 29 #[.slice (some ⟨b, o, none⟩) n c, .slice (some ⟨b', o', none⟩) n d] w fun e w' => e = .returned (.bool (sameB xs ys)) ∧ ∃ m, w' = w.drewN m := by
  have hne : ((n : Int) != (n : Int)) = false := by simp
  have H1 : Hid (∀ i, i < n → w.cell? ⟨b, o + i, none⟩ = some (.int .u8 (xs.getD i 0))) := h1
  have H2 : Hid (∀ i, i < n → w.cell? ⟨b', o' + i, none⟩ = some (.int .u8 (ys.getD i 0))) := h2
  have HX : Hid (xs.length = n) := hx
  have HY : Hid (ys.length = n) := hy
  clear h1 h2 hx hy
  go_enter Tryz.func29, Tryz.ntmps29
  go_wp2
  go_loopw [5] (fun i wr => ∃ k m : Nat, k ≤ n ∧ i = .int .i64 k ∧ wr = w.drewN m ∧ ∀ j, j < k → xs.getD j 0 = ys.getD j 0) (fun i _ => n - (intOf i).toNat)
  case atStart => exact ⟨0, 0, Nat.zero_le _, rfl, rfl, fun j hj => absurd hj (Nat.not_lt_zero _)⟩
  case round =>
    obtain ⟨k, m, hk, rfl, rfl, hs⟩ := hrel
    have HS : Hid (∀ j, j < k → xs.getD j 0 = ys.getD j 0) := hs
    clear hs
    by_cases hlt : k < n
    · have c1 := H1.out k hlt
      have c2 := H2.out k hlt
      obtain ⟨x, hx⟩ : ∃ x, x = xs.getD k 0 := ⟨_, rfl⟩
      obtain ⟨y, hy⟩ : ∃ y, y = ys.getD k 0 := ⟨_, rfl⟩
      rw [← hx] at c1
      rw [← hy] at c2
      have E1 : Hid (x = xs.getD k 0) := hx
      have E2 : Hid (y = ys.getD k 0) := hy
      clear hx hy
      cases hb : (x != y)
      · go_wp2
        go_quiet (fail)
        go_wp2
        go_roundw
        case rel =>
          refine ⟨k + 1, _, by omega, by go_num, rfl, fun j hj => ?_⟩
          by_cases e : j = k
          · subst e; rw [← E1.out, ← E2.out]; simpa using hb
          · exact HS.out j (by omega)
        case measure => simp [intOf]; omega
      · go_wp2
        go_quiet (fail)
        go_wp2
        go_ret
        exact ⟨ret_bool (sameB_at k (by rw [← E1.out, ← E2.out]; simpa using hb)).symm, m + nq, World.drewN_drewN ..⟩
    · go_wp2
      go_ret
      exact ⟨ret_bool (sameB_all (by rw [HX.out, HY.out]) fun j hj => HS.out j (by have := HX.out; omega)).symm, _, rfl⟩

theorem sameBytes_any (p q : Option Addr) (n c m d : Nat) (xs ys : List Int) (w : World) (hx : xs.length = n) (hy : ys.length = m) (hn : n ≤ 9223372036854775807) (h1 : Row w p xs) (h2 : Row w q ys) :
    Calls Tryz.prog 29 #[.slice p n c, .slice q m d] w fun e w' => e = .returned (.bool (sameB xs ys)) ∧ ∃ m, w' = w.drewN m := by
  by_cases h : n = m
  · subst h
    rcases Nat.eq_zero_or_pos n with h0 | h0
    · subst h0
      obtain rfl : xs = [] := List.eq_nil_of_length_eq_zero hx
      obtain rfl : ys = [] := List.eq_nil_of_length_eq_zero hy
      exact (sameBytes_zero p q c d w).mono fun e w' h => ⟨h.1, 0, h.2⟩
    · obtain ⟨b, o, rfl, e1⟩ := h1 (by omega)
      obtain ⟨b', o', rfl, e2⟩ := h2 (by omega)
      exact sameBytes_at b o b' o' n c d xs ys w hn hx hy (fun i hi => e1 i (by omega)) (fun i hi => e2 i (by omega))
  · rw [sameB_len (by omega)]
    exact (sameBytes_len p q n c m d w h).mono fun e w' h => ⟨h.1, 0, h.2⟩

end Go.Proofs.YtnpaijbkhmnfpaaGreat

/- A literal slice of bytes; a list all of whose numbers are bytes. -/
namespace Go.Proofs.YtnpaijbkhmnfpaaGreat
open Go.RowKit

theorem Own.lit (w : World) (xs : List Int) (hm : xs.length ≤ maxLen) : Own (w.alloc (.cells (byts xs).toArray 5)) w.heap.size w.heap.size xs.length xs :=
  Own.mk (Nat.le_refl _) (heap_alloc_new w _) (Nat.le_refl _) hm (by simp) (by rw [List.take_of_length_le (by simp)])

theorem byt_of (xs : List Int) (h : (xs.all fun x => decide (0 ≤ x ∧ x ≤ 255)) = true) : Byt xs := fun i => by
  simp only [List.all_eq_true, decide_eq_true_eq] at h
  by_cases hi : i < xs.length
  · have := h xs[i] (List.getElem_mem hi)
    simpa [List.getD, hi] using this
  · simp [List.getD, List.getElem?_eq_none (show xs.length ≤ i by omega)]

end Go.Proofs.YtnpaijbkhmnfpaaGreat

/- What switchyardkit.CopyBytes, LentBytes and KeptBytes do, for every slice of bytes. -/
namespace Go.Proofs.YtnpaijbkhmnfpaaGreat
open Go.RowKit

/-- a slice of bytes that the call has made, or nil -/
def OwnV (w : World) (B : Nat) (v : Value) (xs : List Int) : Prop := w.ownsRow B 5 1 v xs.length (byts xs)
theorem OwnV.nil (w : World) (B : Nat) : OwnV w B (.slice none 0 0) [] := World.ownsRow_nil _ _ _ _
theorem OwnV.alloc {w : World} {B : Nat} {v : Value} {xs : List Int} (h : OwnV w B v xs) (o : Obj) : OwnV (w.alloc o) B v xs := World.ownsRow.alloc h o
theorem OwnV.drewN {w : World} {B : Nat} {v : Value} {xs : List Int} (h : OwnV w B v xs) (n : Nat) : OwnV (w.drewN n) B v xs := h
theorem Own.val {w : World} {B g cap : Nat} {xs : List Int} (h : Own w B g cap xs) : OwnV w B (.slice (some ⟨g, 0, none⟩) xs.length cap) xs := h
theorem OwnV.shape {w : World} {B : Nat} {v : Value} {xs : List Int} (h : OwnV w B v xs) : (v = .slice none 0 0 ∧ xs = []) ∨ ∃ g cap, v = .slice (some ⟨g, 0, none⟩) xs.length cap ∧ Own w B g cap xs := by
  rcases h.2 with ⟨h1, h2⟩ | ⟨g, cap, cur, h1, h2⟩
  · exact .inl ⟨h1, List.eq_nil_of_length_eq_zero h2⟩
  · subst h1
    exact .inr ⟨g, cap, rfl, h⟩
theorem OwnV.below {w w' : World} {B : Nat} {v : Value} {xs : List Int} (h : OwnV w B v xs) (hb : Below w.heap.size w w') : OwnV w' B v xs := by
  rcases h.shape with ⟨rfl, rfl⟩ | ⟨g, cap, rfl, ho⟩
  · exact OwnV.nil _ _
  · exact (ho.below hb).val
theorem OwnV.slice {w : World} {B : Nat} {v : Value} {xs : List Int} (h : OwnV w B v xs) : ∃ p cap, v = .slice p xs.length cap ∧ Row w p xs ∧ (p = none → cap = 0) := by
  rcases h.shape with ⟨rfl, rfl⟩ | ⟨g, cap, rfl, ho⟩
  · exact ⟨none, 0, rfl, fun h => absurd h (Nat.lt_irrefl 0), fun _ => rfl⟩
  · exact ⟨_, cap, rfl, ho.row, fun h => by cases h⟩

/-- 'append(out, ..)' on such a slice: the law of the kit in these words -/
theorem wp_push {ops : Array Oper} {rest : List Oper} {o : Oper} {a : Act} {Q : Exit → Act → World → Prop} (w : World) (hgd : o.guard = none) (s x : Operand)
    (ho : o.op = .call { callee := .builtin .append, args := #[s, x], argTypes := #[26, 26] }) (B : Nat) (v : Value) (xs : List Int) (hs : a.eval s = v) (hown : OwnV w B v xs)
    (ad : Addr) (m c : Nat) (ns : List Int) (hx : a.eval x = .slice (some ad) m c) (hl : ns.length = m) (hnews : ∀ j u, (byts ns)[j]? = some u → w.cell? (ad.add j) = some u)
    (hlen : xs.length + m ≤ 140737488355328) (hB : B ≤ w.heap.size)
    (h : ∀ v' w', OwnV w' B v' (xs ++ ns) → w.grownBy w' v.ownBlock → (∀ w0, Below B w0 w → Below B w0 w') → (v' = .slice none 0 0 ↔ v = .slice none 0 0 ∧ m = 0) → wpList Tryz.prog ops Q rest (a.put o.dst v') w') :
    wpList Tryz.prog ops Q (o :: rest) a w := by
  obtain ⟨i0, hi, hz0, hz1, hz2⟩ := info_parts Tryz.info5
  refine wpList_append_own w hgd s x 26 ho B 5 i0 (.int .u8 0) 1 1 Tryz.underlying26 hi hz0 hz1 hz2 rfl (by decide) v xs.length (byts xs) hs hown ad m c (byts ns) hx (by simp [hl]) hnews (fun u hu => ?_) (by unfold maxLen; omega) (by omega) hB ?_
  · simp only [byts, List.mem_map] at hu
    obtain ⟨z, _, rfl⟩ := hu
    rfl
  · intro v' w' h1 h2 h3
    refine h v' w' ?_ h2 (fun w0 hb => hb.grown h2 hB fun k hk => ?_) h3
    · unfold OwnV
      rw [List.length_append, hl]
      simpa [byts] using h1
    · rcases hown.shape with ⟨rfl, _⟩ | ⟨g, cap, rfl, ho⟩
      · simp [Value.ownBlock] at hk
      · simp [Value.ownBlock] at hk
        subst hk
        exact ho.base

theorem take_getD (xs : List Int) (k : Nat) (h : k < xs.length) : xs.take (k + 1) = xs.take k ++ [xs.getD k 0] := by
  rw [List.take_succ_eq_append_getElem h]
  simp [List.getD, h]

set_option maxHeartbeats 400000 in
theorem copy_at (b o n c : Nat) (xs : List Int) (w : World) (hx : xs.length = n) (hn : n ≤ 140737488355328)
    (hc : ∀ i, i < n → w.cell? ⟨b, o + i, none⟩ = some (.int .u8 (xs.getD i 0))) :
    Calls Tryz.prog 21 #[.slice (some ⟨b, o, none⟩) n c] w fun e w' => ∃ v, e = .returned v ∧ OwnV w' w.heap.size v xs ∧ Below w.heap.size w w' := by
  have HX : Hid (xs.length = n) := hx
  have HC : Hid (∀ i, i < n → w.cell? ⟨b, o + i, none⟩ = some (.int .u8 (xs.getD i 0))) := hc
  clear hx hc
  go_enter Tryz.func21, Tryz.ntmps21
  go_wp2
  go_loopw [3, 4] (fun v i wr => ∃ k : Nat, k ≤ n ∧ i = .int .i64 k ∧ OwnV wr w.heap.size v (xs.take k) ∧ Below w.heap.size w wr) (fun _ i _ => n - (intOf i).toNat)
  case atStart => exact ⟨0, Nat.zero_le _, rfl, OwnV.nil _ _, Below.refl _ _⟩
  case round =>
    obtain ⟨k, hk, rfl, hown, hbk⟩ := hrel
    by_cases hlt : k < n
    · have hcd := HC.out k hlt
      have hcl := cell_lt hcd
      have c1 : wr.cell? ⟨b, o + k, none⟩ = some (.int .u8 (xs.getD k 0)) := by rw [hbk.cell (p := ⟨b, o + k, none⟩) hcl]; exact hcd
      have hsz := hbk.size
      have hl : (xs.take k).length + 1 ≤ 140737488355328 := by rw [List.length_take]; omega
      have HT : Hid (xs.take (k + 1) = xs.take k ++ [xs.getD k 0]) := take_getD xs k (by rw [HX.out]; exact hlt)
      clear hcd hcl
      generalize xs.getD k 0 = z at *
      generalize xs.take k = ys at *
      go_wp2_with (at_builtin; refine wp_push _ rfl _ _ rfl w.heap.size _ ys rfl (hown.alloc _) ⟨wr.heap.size, 0, none⟩ 1 1 [z] rfl rfl (cell_one_new _ _ _) hl (by simp; omega) ?_; intro v' w1 hown' _hgrow hbel _hnil)
      go_roundw
      case rel => exact ⟨k + 1, by omega, by go_num, by rw [HT.out]; exact hown', hbel _ (hbk.alloc hsz _)⟩
      case measure => simp [intOf]; omega
    · have HT : Hid (xs.take k = xs) := List.take_of_length_le (by rw [HX.out]; omega)
      go_wp2
      go_ret
      exact ⟨_, rfl, by rw [HT.out] at hown; exact hown, hbk⟩

set_option maxHeartbeats 400000 in
theorem copy_zero (p : Option Addr) (c : Nat) (w : World) :
    Calls Tryz.prog 21 #[.slice p 0 c] w fun e w' => e = .returned (.slice none 0 0) ∧ w' = w := by
  go_enter Tryz.func21, Tryz.ntmps21
  go_wp2
  refine wp_loop_rounds 1 ?_
  rw [rounds_succ]; go_wp2
  go_ret
  exact ⟨rfl, rfl⟩

theorem copy_any (p : Option Addr) (n c : Nat) (xs : List Int) (w : World) (hx : xs.length = n) (hn : n ≤ 140737488355328) (hr : Row w p xs) :
    Calls Tryz.prog 21 #[.slice p n c] w fun e w' => ∃ v, e = .returned v ∧ OwnV w' w.heap.size v xs ∧ Below w.heap.size w w' := by
  rcases Nat.eq_zero_or_pos n with h0 | h0
  · subst h0
    obtain rfl : xs = [] := List.eq_nil_of_length_eq_zero hx
    exact (copy_zero p c w).mono fun e w' h => ⟨_, h.1, OwnV.nil _ _, by rw [h.2]; exact below_self w⟩
  · obtain ⟨b, o, rfl, hc⟩ := hr (by omega)
    exact copy_at b o n c xs w hx hn (fun i hi => hc i (by omega))

end Go.Proofs.YtnpaijbkhmnfpaaGreat

/- What switchyardkit.LentBytes and KeptBytes do, for every slice of bytes. -/
namespace Go.Proofs.YtnpaijbkhmnfpaaGreat
open Go.RowKit

theorem OwnV.held {w : World} {B : Nat} {v : Value} {xs : List Int} (h : OwnV w B v xs) (hv : v ≠ .slice none 0 0) : ∃ g cap, v = .slice (some ⟨g, 0, none⟩) xs.length cap ∧ Own w B g cap xs := by
  rcases h.shape with ⟨h1, _⟩ | h1
  · exact absurd h1 hv
  · exact h1

theorem getD_left (xs ys : List Int) (i : Nat) (h : i < xs.length) : (xs ++ ys).getD i 0 = xs.getD i 0 := by
  simp [List.getD, List.getElem?_append_left h]
theorem getD_right (xs ys : List Int) (i : Nat) : (xs ++ ys).getD (xs.length + i) 0 = ys.getD i 0 := by
  simp [List.getD, List.getElem?_append_right]

theorem Own.front {w : World} {B g cap : Nat} {xs ys : List Int} (h : Own w B g cap (xs ++ ys)) : Own w B g cap xs := by
  obtain ⟨cur, h1, h2, h3, h4, h5, h6⟩ := h.parts
  rw [List.length_append] at h3
  refine Own.mk h1 h2 (by omega) h4 h5 ?_
  have e : cur.toList.take xs.length = (cur.toList.take (xs ++ ys).length).take xs.length := by
    rw [List.take_take, List.length_append, Nat.min_eq_left (by omega)]
  rw [e, h6]
  simp [byts]

end Go.Proofs.YtnpaijbkhmnfpaaGreat

/- What memory.copied answers, for every slice of bytes. -/
namespace Go.Proofs.YtnpaijbkhmnfpaaGreat
open Go.RowKit

theorem one_byts (xs : List Int) : ∀ v ∈ byts xs, v.oneCell' = true := fun u hu => by
  simp only [byts, List.mem_map] at hu
  obtain ⟨z, _, rfl⟩ := hu
  rfl

theorem Row.src {w : World} {p : Option Addr} {xs : List Int} (h : Row w p xs) (h0 : 0 < xs.length) : ∃ ad, p = some ad ∧ ∀ j v, (byts xs)[j]? = some v → w.cell? (ad.add j) = some v := by
  obtain ⟨b, o, rfl, hc⟩ := h h0
  refine ⟨_, rfl, fun j v hj => ?_⟩
  have hjl : j < xs.length := by
    rcases Nat.lt_or_ge j xs.length with h | h
    · exact h
    · rw [List.getElem?_eq_none (by simpa using h)] at hj; cases hj
  rw [getD_byts xs j hjl] at hj
  rw [← hj, ← hc j hjl, Go.WideShapes.add_plain]

theorem splice_all (cur cs : List Value) (h : cs.length = cur.length) : splice cur 0 cs = cs := by
  simp [splice, h]

theorem Own.block {w : World} {B g n : Nat} {xs : List Int} (h : Own w B g n xs) (hn : xs.length = n) : w.heap[g]? = some (.cells (byts xs).toArray 5 (0, 0)) := by
  subst hn
  exact h.whole

set_option maxHeartbeats 400000 in
theorem copied_any (p : Option Addr) (n c : Nat) (xs : List Int) (w : World) (hx : xs.length = n) (hn : n ≤ 140737488355328) (hr : Row w p xs) :
    Calls Tryz.prog 39 #[.slice p n c] w fun e w' => ∃ g, e = .returned (.slice (some ⟨g, 0, none⟩) n n) ∧ Own w' w.heap.size g n xs ∧ Below w.heap.size w w' := by
  obtain ⟨i0, hi, hz0, hz1, hz2⟩ := info_parts Tryz.info5
  subst hx
  go_enter Tryz.func39, Tryz.ntmps39
  go_wp2_with (first
    | (at_make; refine wpList_make_full _ rfl _ _ 26 rfl _ 5 i0 (.int .u8 0) 1 Tryz.underlying26 hi hz0 hz1 _ _ _ _ xs.length rfl rfl rfl rfl (by rw [hz2]; omega) (by unfold maxLen; omega) (Nat.le_refl _) ?_; intro w1 hown hgrow; have hb1 := (Below.refl w.heap.size w).grown hgrow (Nat.le_refl _) (by simp); have hr1 := hr.below hb1; have HO : Hid (Own w1 w.heap.size w.heap.size xs.length (List.replicate xs.length 0)) := Own.of_made hown; clear hown hgrow hr)
    | (have hw := HO.out.block (List.length_replicate ..); refine wpList_copy_splice rfl _ _ 26 26 rfl 5 Tryz.underlying26 Tryz.size5 _ _ _ _ _ _ rfl rfl w.heap.size 0 _ 5 hw (byts xs) (by simp) (fun h0 => ⟨rfl, hr1.src (by simpa using h0)⟩) (by simp) (one_byts xs) w.heap.size w hb1 (Nat.le_refl _) ?_; intro w2 hw2 hb2; rw [splice_all _ _ (by simp)] at hw2; have HW : Hid (w2.heap[w.heap.size]? = some (.cells (byts xs).toArray 5 (0, 0))) := hw2; clear hw hw2 HO hb1 hr1))
  go_ret
  exact ⟨_, rfl, Own.mk (Nat.le_refl _) HW.out (Nat.le_refl _) (by unfold maxLen; omega) (by simp) (by rw [List.take_of_length_le (by simp)]), hb2⟩

end Go.Proofs.YtnpaijbkhmnfpaaGreat

/- Lists of bytes that lie apart: what stores and appends leave as it was. Plain facts on worlds. -/
namespace Go.Proofs.YtnpaijbkhmnfpaaGreat
open Go.RowKit

theorem Tryz.info26 : (Tryz.prog.info? 26).map (fun i => (i.zero, i.size, i.bytes)) = some (some (.slice none 0 0), 1, 24) := by kernel_rfl

/-- all old blocks but those of G are as they were -/
structure Keeps (G : Nat → Prop) (w w' : World) : Prop where
  os : w'.os = w.os
  tape : w'.tape = w.tape
  output : w'.output = w.output
  size : w.heap.size ≤ w'.heap.size
  block : ∀ j, j < w.heap.size → ¬ G j → w'.heap[j]? = w.heap[j]?

theorem Keeps.refl (G : Nat → Prop) (w : World) : Keeps G w w := ⟨rfl, rfl, rfl, Nat.le_refl _, fun _ _ _ => rfl⟩
theorem Keeps.drewN {G : Nat → Prop} {a w : World} (h : Keeps G a w) (n : Nat) : Keeps G a (w.drewN n) := ⟨h.os, h.tape, h.output, h.size, h.block⟩
theorem Keeps.drew {G : Nat → Prop} {a w : World} (h : Keeps G a w) : Keeps G a w.drew := ⟨h.os, h.tape, h.output, h.size, h.block⟩
theorem Keeps.grown {G : Nat → Prop} {a w w' : World} {row : Option Nat} (h : Keeps G a w) (hg : w.grownBy w' row) (hr : ∀ k, row = some k → G k ∨ a.heap.size ≤ k) : Keeps G a w' :=
  ⟨hg.os.trans h.os, hg.tape.trans h.tape, hg.output.trans h.output, Nat.le_trans h.size hg.size, fun j hj hn => by
    rw [hg.block j (Nat.lt_of_lt_of_le hj h.size) (fun e => by
      rcases hr j e.symm with h1 | h1
      · exact hn h1
      · omega), h.block j hj hn]⟩
theorem Keeps.alloc {G : Nat → Prop} {a w : World} (h : Keeps G a w) (o : Obj) : Keeps G a (w.alloc o) := h.grown (World.grownBy_alloc w o none) (fun _ e => by cases e)
theorem Keeps.setCell {G : Nat → Prop} {a w : World} (h : Keeps G a w) (b i : Nat) (v : Value) (hb : G b ∨ a.heap.size ≤ b) : Keeps G a (w.setCell ⟨b, i, none⟩ v) :=
  ⟨h.os, h.tape, h.output, by rw [World.size_setCell]; exact h.size, fun j hj hn => by
    rw [heap_setCell_other w ⟨b, i, none⟩ j v (fun e => by
      simp only at e
      subst e
      rcases hb with h1 | h1
      · exact hn h1
      · omega), h.block j hj hn]⟩
theorem Keeps.below {G : Nat → Prop} {B : Nat} {w w' : World} (h : Keeps G w w') (hB : B ≤ w.heap.size) (hG : ∀ j, G j → B ≤ j) : Below B w w' :=
  ⟨h.os, h.tape, h.output, h.size, fun k hk => h.block k (by omega) fun hg => by have := hG k hg; omega⟩

theorem Own.kept {w w' : World} {B g cap : Nat} {xs : List Int} {row : Option Nat} (h : Own w B g cap xs) (hg : w.grownBy w' row) (hne : some g ≠ row) : Own w' B g cap xs := by
  obtain ⟨cur, h1, h2, h3, h4, h5, h6⟩ := h.parts
  exact Own.mk h1 (by rw [hg.block g h.lt hne]; exact h2) h3 h4 h5 h6
theorem Own.store_other {w : World} {B g cap : Nat} {xs : List Int} (h : Own w B g cap xs) (b i : Nat) (v : Value) (hne : g ≠ b) : Own (w.setCell ⟨b, i, none⟩ v) B g cap xs := by
  obtain ⟨cur, h1, h2, h3, h4, h5, h6⟩ := h.parts
  exact Own.mk h1 (by rw [heap_setCell_other w ⟨b, i, none⟩ g v hne]; exact h2) h3 h4 h5 h6
theorem Own.caps {w : World} {B B' g cap cap' : Nat} {xs ys : List Int} (h : Own w B g cap xs) (h' : Own w B' g cap' ys) : cap = cap' := by
  obtain ⟨cur, _, h2, _, _, h5, _⟩ := h.parts
  obtain ⟨cur', _, h2', _, _, h5', _⟩ := h'.parts
  rw [h2] at h2'
  cases h2'
  omega

/-- a table of K values (slices of bytes) in a block of its own -/
def TabOf (w : World) (L K : Nat) (f : Nat → Value) : Prop := w.heap[L]? = some (.cells ((List.range K).map f).toArray 26 (0, 0))
theorem TabOf.cell {w : World} {L K : Nat} {f : Nat → Value} (h : TabOf w L K f) (k : Nat) (hk : k < K) : w.cell? ⟨L, k, none⟩ = some (f k) := by
  rw [cell_of_row w L k _ 26 (0, 0) h]
  simp [hk]
theorem TabOf.free {w : World} {L K : Nat} {f : Nat → Value} (h : TabOf w L K f) (k : Nat) : w.frozen? ⟨L, k, none⟩ = false := frozen_of_row w L k _ 26 h
theorem TabOf.lt {w : World} {L K : Nat} {f : Nat → Value} (h : TabOf w L K f) : L < w.heap.size := by
  rcases Nat.lt_or_ge L w.heap.size with h' | h'
  · exact h'
  · unfold TabOf at h; rw [Array.getElem?_eq_none h'] at h; cases h
theorem TabOf.ne {w : World} {L K : Nat} {f : Nat → Value} (h : TabOf w L K f) {B g cap : Nat} {xs : List Int} (ho : Own w B g cap xs) : L ≠ g := fun e => by
  obtain ⟨cur, _, h2, _⟩ := ho.parts
  subst e
  unfold TabOf at h
  rw [h2] at h
  simp at h
theorem TabOf.kept {w w' : World} {L K : Nat} {f : Nat → Value} {row : Option Nat} (h : TabOf w L K f) (hg : w.grownBy w' row) (hne : some L ≠ row) : TabOf w' L K f := by
  unfold TabOf; rw [hg.block L h.lt hne]; exact h
theorem TabOf.alloc {w : World} {L K : Nat} {f : Nat → Value} (h : TabOf w L K f) (o : Obj) : TabOf (w.alloc o) L K f := h.kept (World.grownBy_alloc w o none) (by simp)
theorem TabOf.drewN {w : World} {L K : Nat} {f : Nat → Value} (h : TabOf w L K f) (n : Nat) : TabOf (w.drewN n) L K f := h
theorem TabOf.drew {w : World} {L K : Nat} {f : Nat → Value} (h : TabOf w L K f) : TabOf w.drew L K f := h
theorem TabOf.store_other {w : World} {L K : Nat} {f : Nat → Value} (h : TabOf w L K f) (b i : Nat) (v : Value) (hne : L ≠ b) : TabOf (w.setCell ⟨b, i, none⟩ v) L K f := by
  unfold TabOf; rw [heap_setCell_other w ⟨b, i, none⟩ L v hne]; exact h
theorem TabOf.store {w : World} {L K : Nat} {f : Nat → Value} (h : TabOf w L K f) (k : Nat) (v : Value) : TabOf (w.setCell ⟨L, k, none⟩ v) L K (fun i => if i = k then v else f i) := by
  unfold TabOf
  rw [heap_setCell_same w L k _ 26 v h]
  congr 2
  apply Array.ext'
  rw [Array.toList_setIfInBounds]
  apply List.ext_getElem?
  intro j
  simp only [List.getElem?_set, List.length_map, List.length_range, List.getElem?_map]
  by_cases e : k = j
  · subst e
    by_cases hk : k < K <;> simp [hk]
  · by_cases hj : j < K <;> simp [e, hj, Ne.symm e]
theorem TabOf.made {w : World} {B g n : Nat} (h : w.ownsRow B 26 1 (.slice (some ⟨g, 0, none⟩) n n) n (madeCells (Value.slice none 0 0).cells (n * 1)).toList) : TabOf w g n (fun _ => .slice none 0 0) := by
  rcases h.2 with ⟨h', _⟩ | ⟨g', cap', cur, h', h1, h2, h3, h4, h5, h6⟩
  · simp at h'
  · simp only [Value.slice.injEq, Option.some.injEq, Addr.mk.injEq, and_true, true_and] at h'
    obtain ⟨rfl, rfl⟩ := h'
    unfold TabOf
    rw [h2]
    congr 2
    apply Array.ext'
    rw [List.take_of_length_le (by rw [Array.length_toList, h5]; exact Nat.le_refl _)] at h6
    rw [h6, show (Value.slice none 0 0).cells = #[Value.slice none 0 0] from rfl, toList_madeCells_one]
    apply List.ext_getElem?
    intro j
    by_cases hj : j < n <;> simp [hj]

/-- lists apart: each in a block of its own -/
def AllOwn (w : World) (B K : Nat) (g c : Nat → Nat) (ct : Nat → List Int) : Prop := ∀ j, j < K → Own w B (g j) (c j) (ct j)
def Apart (K : Nat) (g : Nat → Nat) : Prop := ∀ i j, i < K → j < K → i ≠ j → g i ≠ g j
theorem AllOwn.kept {w w' : World} {B K : Nat} {g c : Nat → Nat} {ct : Nat → List Int} {row : Option Nat} (h : AllOwn w B K g c ct) (hg : w.grownBy w' row) (hne : ∀ j, j < K → some (g j) ≠ row) : AllOwn w' B K g c ct :=
  fun j hj => (h j hj).kept hg (hne j hj)
theorem AllOwn.store_other {w : World} {B K : Nat} {g c : Nat → Nat} {ct : Nat → List Int} (h : AllOwn w B K g c ct) (b i : Nat) (v : Value) (hne : ∀ j, j < K → g j ≠ b) : AllOwn (w.setCell ⟨b, i, none⟩ v) B K g c ct :=
  fun j hj => (h j hj).store_other b i v (hne j hj)
theorem AllOwn.store {w : World} {B K : Nat} {g c : Nat → Nat} {ct ct' : Nat → List Int} (h : AllOwn w B K g c ct) (ha : Apart K g) (k i : Nat) (hk : k < K) (z : Int) (h1 : ct' k = (ct k).set i z) (h2 : ∀ j, j ≠ k → ct' j = ct j) : AllOwn (w.setCell ⟨g k, i, none⟩ (.int .u8 z)) B K g c ct' := fun j hj => by
  by_cases e : j = k
  · subst e; rw [h1]; exact (h j hj).store i z
  · rw [h2 j e]; exact (h j hj).store_other (g k) i _ (ha j k hj hk e)
theorem AllOwn.drewN {w : World} {B K : Nat} {g c : Nat → Nat} {ct : Nat → List Int} (h : AllOwn w B K g c ct) (n : Nat) : AllOwn (w.drewN n) B K g c ct := h
theorem AllOwn.drew {w : World} {B K : Nat} {g c : Nat → Nat} {ct : Nat → List Int} (h : AllOwn w B K g c ct) : AllOwn w.drew B K g c ct := h

end Go.Proofs.YtnpaijbkhmnfpaaGreat

/- What memory's New, Len, Read, Write, Bytes and Copy answer, for every memory that a call has made. -/
namespace Go.Proofs.YtnpaijbkhmnfpaaGreat
open Go.RowKit


/-- a memory in block q, its bytes in block g -/
structure Mem (w : World) (B q g : Nat) (xs : List Int) : Prop where
  blk : w.heap[q]? = some (.cells #[.bool true, .slice (some ⟨g, 0, none⟩) xs.length xs.length] 53 (0, 0))
  own : Own w B g xs.length xs
  base : B ≤ q
  ne : q ≠ g

theorem Mem.c0 {w : World} {B q g : Nat} {xs : List Int} (h : Mem w B q g xs) : w.cell? ⟨q, 0, none⟩ = some (.bool true) := by
  simp [World.cell?, h.blk]
theorem Mem.c1 {w : World} {B q g : Nat} {xs : List Int} (h : Mem w B q g xs) : w.cell? ⟨q, 1, none⟩ = some (.slice (some ⟨g, 0, none⟩) xs.length xs.length) := by
  simp [World.cell?, h.blk]
theorem Mem.lt {w : World} {B q g : Nat} {xs : List Int} (h : Mem w B q g xs) : q < w.heap.size := cell_lt h.c0
theorem Mem.below {w w' : World} {B q g : Nat} {xs : List Int} (h : Mem w B q g xs) (hb : Below w.heap.size w w') : Mem w' B q g xs :=
  ⟨by rw [hb.block q h.lt]; exact h.blk, h.own.below hb, h.base, h.ne⟩
theorem Mem.drewN {w : World} {B q g : Nat} {xs : List Int} (h : Mem w B q g xs) (n : Nat) : Mem (w.drewN n) B q g xs := ⟨h.blk, h.own, h.base, h.ne⟩
theorem Mem.len {w : World} {B q g : Nat} {xs : List Int} (h : Mem w B q g xs) : xs.length ≤ maxLen := by
  obtain ⟨_, _, _, _, h4, _⟩ := h.own.parts; exact h4
/-- a world in which all blocks but G's are as they were -/
theorem Mem.keeps {G : Nat → Prop} {w w' : World} {B q g : Nat} {xs : List Int} (h : Mem w B q g xs) (hk : Keeps G w w') (h1 : ¬ G q) (h2 : ¬ G g) : Mem w' B q g xs := by
  obtain ⟨cur, a1, a2, a3, a4, a5, a6⟩ := h.own.parts
  exact ⟨by rw [hk.block q h.lt h1]; exact h.blk, Own.mk a1 (by rw [hk.block g h.own.lt h2]; exact a2) a3 a4 a5 a6, h.base, h.ne⟩

set_option maxHeartbeats 400000 in
theorem none_no (q : Nat) (w : World) (hc : w.cell? ⟨q, 0, none⟩ = some (.bool true)) :
    Calls Tryz.prog 61 #[.pointer (some ⟨q, 0, none⟩)] w fun e w' => e = .returned (.bool false) ∧ w' = w := by
  go_enter Tryz.func61, Tryz.ntmps61
  go_wp2
  go_ret
  exact ⟨rfl, rfl⟩

set_option maxHeartbeats 400000 in
theorem none_zero (q : Nat) (w : World) (hc : w.cell? ⟨q, 0, none⟩ = some (.bool false)) :
    Calls Tryz.prog 61 #[.pointer (some ⟨q, 0, none⟩)] w fun e w' => e = .returned (.bool true) ∧ w' = w := by
  go_enter Tryz.func61, Tryz.ntmps61
  go_wp2
  go_ret
  exact ⟨rfl, rfl⟩

set_option maxHeartbeats 400000 in
theorem none_nil (w : World) :
    Calls Tryz.prog 61 #[.pointer none] w fun e w' => e = .returned (.bool true) ∧ w' = w := by
  go_enter Tryz.func61, Tryz.ntmps61
  go_wp2
  go_ret
  exact ⟨rfl, rfl⟩

set_option maxHeartbeats 400000 in
theorem holds_any (q g l : Nat) (a n : Int) (w : World) (hl : l ≤ 9223372036854775807) (hn : 0 ≤ n) (hm : n ≤ 9223372036854775807) (hc : w.cell? ⟨q, 1, none⟩ = some (.slice (some ⟨g, 0, none⟩) l l)) :
    Calls Tryz.prog 62 #[.pointer (some ⟨q, 0, none⟩), .int .i64 a, .int .i64 n] w fun e w' => e = .returned (.bool (decide (0 ≤ a ∧ a ≤ (l : Int) - n))) ∧ w' = w := by
  by_cases h0 : 0 ≤ a
  · have g0 : decide (0 ≤ a) = true := by simpa using h0
    go_enter Tryz.func62, Tryz.ntmps62
    go_wp2
    go_ret
    refine ⟨ret_bool ?_, rfl⟩
    simp [h0]
  · have g0 : decide (0 ≤ a) = false := by simpa using h0
    go_enter Tryz.func62, Tryz.ntmps62
    go_wp2
    go_ret
    refine ⟨ret_bool ?_, rfl⟩
    simp

set_option maxHeartbeats 400000 in
theorem new_long (p : Option Addr) (n c : Nat) (w : World) (hn : n ≤ 9223372036854775807) (h : 65536 < n) :
    Calls Tryz.prog 8 #[.slice p n c] w fun e w' => e = .returned (.tuple #[.pointer none, .int .i64 3]) ∧ w' = w := by
  go_enter Tryz.func8, Tryz.ntmps8
  go_wp2
  go_ret2
  exact ⟨rfl, rfl⟩

theorem Mem.new {w : World} {B g : Nat} {xs : List Int} (h : Own w B g xs.length xs) (hB : B ≤ w.heap.size) :
    Mem (w.alloc (.cells #[.bool true, .slice (some ⟨g, 0, none⟩) xs.length xs.length] 53)) B w.heap.size g xs :=
  ⟨heap_alloc_new w _, h.below (new_alloc _ _), hB, fun e => by have := h.lt; omega⟩

set_option maxHeartbeats 400000 in
theorem new_ok (p : Option Addr) (n c : Nat) (xs : List Int) (w : World) (hx : xs.length = n) (hn : n ≤ 65536) (hr : Row w p xs) :
    Calls Tryz.prog 8 #[.slice p n c] w fun e w' => ∃ q g, e = .returned (.tuple #[.pointer (some ⟨q, 0, none⟩), .int .i64 0]) ∧ Mem w' w.heap.size q g xs ∧ Below w.heap.size w w' := by
  have hcon := copied_any p n c xs w hx (by omega) hr
  subst hx
  clear hr
  go_enter Tryz.func8, Tryz.ntmps8
  go_wp2_with (go_at_call 39; refine hcon.mono ?_; rintro e w1 ⟨g, rfl, ho, hb⟩; clear hcon; have HO := Hid.in ho; have HB := Hid.in hb; have hsz := hb.size; clear ho hb)
  go_ret2
  exact ⟨_, g, rfl, Mem.new HO.out hsz, below_alloc HB.out _⟩

theorem Row.cut {w : World} {g o : Nat} {xs : List Int} (h : Row w (some ⟨g, o, none⟩) xs) (a n : Nat) (hn : a + n ≤ xs.length) : Row w (some ⟨g, o + a, none⟩) ((xs.drop a).take n) := fun h0 => by
  rw [List.length_take, List.length_drop] at h0
  obtain ⟨b, o', e, hc⟩ := h (by omega)
  cases e
  refine ⟨g, o + a, rfl, fun i hi => ?_⟩
  rw [List.length_take, List.length_drop] at hi
  rw [Nat.add_assoc, hc (a + i) (by omega)]
  simp [List.getD, List.getElem?_drop, show i < n by omega]

/-- what is written over -/
def putA (xs : List Int) (a : Nat) (ys : List Int) : List Int := xs.take a ++ (ys ++ xs.drop (a + ys.length))
theorem putA_len {xs ys : List Int} {a : Nat} (h : a + ys.length ≤ xs.length) : (putA xs a ys).length = xs.length := by
  simp [putA]; omega
theorem putA_splice (xs ys : List Int) (a : Nat) : splice (byts xs) a (byts ys) = byts (putA xs a ys) := by
  simp [splice, putA, byts]

/-- copy, over a row of a block of its own: all other blocks stay -/
theorem wp_copy_keeps {w : World} {ops : Array Oper} {rest : List Oper} {o : Oper} {a : Act} {Q : Exit → Act → World → Prop} (hgd : o.guard = none) (d s : Operand)
    (ho : o.op = .call { callee := .builtin .copy, args := #[d, s], argTypes := #[26, 26] })
    (dp sp : Option Addr) (dLen dCap sLen sCap : Nat) (hd : a.eval d = .slice dp dLen dCap) (hs : a.eval s = .slice sp sLen sCap)
    (g off : Nat) (cur : List Value) (t : TypeId) (hg : w.heap[g]? = some (.cells cur.toArray t (0, 0))) (cs : List Value) (hn : cs.length = Nat.min sLen dLen)
    (hpos : 0 < cs.length → dp = some ⟨g, off, none⟩ ∧ ∃ ad, sp = some ad ∧ ∀ j v, cs[j]? = some v → w.cell? (ad.add j) = some v)
    (hfit : off + cs.length ≤ cur.length) (h1 : ∀ v ∈ cs, v.oneCell' = true)
    (h : ∀ w', Hid (w'.heap[g]? = some (.cells (splice cur off cs).toArray t (0, 0))) → Hid (Keeps (fun b => b = g) w w') → wpList Tryz.prog ops Q rest (a.put o.dst (goInt cs.length)) w') :
    wpList Tryz.prog ops Q (o :: rest) a w := by
  by_cases h0 : cs.length = 0
  · obtain rfl : cs = [] := List.eq_nil_of_length_eq_zero h0
    refine wpList_copy_nothing hgd d s 26 26 ho 5 Tryz.underlying26 Tryz.size5 dp sp dLen dCap sLen sCap hd hs (by simpa using hn.symm) ?_
    exact h w (show _ = _ by simpa [splice] using hg) (Keeps.refl _ _)
  · obtain ⟨rfl, ad, rfl, hsrc⟩ := hpos (by omega)
    refine wpList_copy_own hgd d s 26 26 ho 5 Tryz.underlying26 Tryz.size5 g off dLen dCap ad sLen sCap hd hs cur.toArray t hg cs hn hsrc (by simpa using hfit) h1 ?_
    exact h _ (show _ = _ by simpa [splice] using setRow_heap w g _ _ t _ hg) ⟨rfl, rfl, rfl, by simp [World.setRow], fun k _ hk => setRow_other w g k _ hk⟩

set_option maxHeartbeats 400000 in
theorem write_out (q g B n c : Nat) (p : Option Addr) (a : Int) (xs : List Int) (w : World) (hm : Mem w B q g xs) (hn : n ≤ 9223372036854775807) (ho : ¬ (0 ≤ a ∧ a ≤ (xs.length : Int) - n)) :
    Calls Tryz.prog 26 #[.pointer (some ⟨q, 0, none⟩), .int .i64 a, .slice p n c] w fun e w' => e = .returned (.int .i64 210) ∧ w' = w := by
  have hc := none_no q w hm.c0
  have hl := hm.len
  unfold maxLen at hl
  have hh := holds_any q g xs.length a n w (by omega) (by omega) (by omega) hm.c1
  rw [decide_eq_false ho] at hh
  clear hm
  go_enter Tryz.func26, Tryz.ntmps26
  go_wp2_with (first | (go_at_call 61; refine hc.mono ?_; rintro e w1 ⟨rfl, rfl⟩) | (go_at_call 62; refine hh.mono ?_; rintro e w1 ⟨rfl, rfl⟩))
  go_ret
  exact ⟨rfl, rfl⟩

theorem Mem.written {w w' : World} {B q g : Nat} {xs ys : List Int} (h : Mem w B q g xs) (hw : w'.heap[g]? = some (.cells (byts ys).toArray 5 (0, 0))) (hl : ys.length = xs.length) (hk : Keeps (fun b => b = g) w w') : Mem w' B q g ys :=
  ⟨by rw [hk.block q h.lt h.ne, hl]; exact h.blk, Own.mk h.own.base hw (Nat.le_refl _) (by rw [hl]; exact h.len) (by simp) (by rw [List.take_of_length_le (by simp)]), h.base, h.ne⟩

set_option maxHeartbeats 800000 in
theorem write_ok (q g B a c : Nat) (p : Option Addr) (xs ys : List Int) (w : World) (hm : Mem w B q g xs) (hr : Row w p ys) (hfit : a + ys.length ≤ xs.length) (hl : xs.length ≤ 65536) :
    Calls Tryz.prog 26 #[.pointer (some ⟨q, 0, none⟩), .int .i64 a, .slice p ys.length c] w fun e w' => e = .returned (.int .i64 0) ∧ Mem w' B q g (putA xs a ys) ∧ Keeps (fun b => b = g) w w' := by
  have hc := none_no q w hm.c0
  have hh := holds_any q g xs.length a ys.length w (by omega) (by omega) (by omega) hm.c1
  rw [decide_eq_true (by omega)] at hh
  have h1 := hm.c1
  have HM := Hid.in hm
  have hblk := Hid.in (hm.own.block rfl)
  clear hm
  go_enter Tryz.func26, Tryz.ntmps26
  go_wp2_with (first | (go_at_call 61; refine hc.mono ?_; rintro e w1 ⟨rfl, rfl⟩) | (go_at_call 62; refine hh.mono ?_; rintro e w1 ⟨rfl, rfl⟩) | (refine wp_copy_keeps rfl _ _ rfl _ _ _ _ _ _ rfl rfl g a (byts xs) 5 hblk.out (byts ys) (by rw [List.length_map]; exact (Nat.min_eq_left (by omega)).symm) (fun h0 => ⟨by first | rfl | (rw [if_neg (by simp at h0; omega)]) | (exfalso; simp at h0; omega), hr.src (by simpa using h0)⟩) (by simp only [List.length_map]; exact hfit) (one_byts ys) ?_; intro w2 HW2 HK2; rw [putA_splice] at HW2))
  all_goals
    go_ret
    exact ⟨rfl, HM.out.written HW2.out (putA_len hfit) HK2.out, HK2.out⟩

end Go.Proofs.YtnpaijbkhmnfpaaGreat

/- What memory's Read and Copy answer. -/
namespace Go.Proofs.YtnpaijbkhmnfpaaGreat
open Go.RowKit

set_option maxHeartbeats 400000 in
theorem mcopy_any (q g B : Nat) (xs : List Int) (w : World) (hm : Mem w B q g xs) (hn : xs.length ≤ 65536) :
    Calls Tryz.prog 28 #[.pointer (some ⟨q, 0, none⟩)] w fun e w' => ∃ q' h, e = .returned (.pointer (some ⟨q', 0, none⟩)) ∧ Mem w' w.heap.size q' h xs ∧ Below w.heap.size w w' := by
  have hc := none_no q w hm.c0
  have h1 := hm.c1
  have hcon := copied_any (some ⟨g, 0, none⟩) xs.length xs.length xs w rfl (by omega) hm.own.row
  clear hm
  go_enter Tryz.func28, Tryz.ntmps28
  go_wp2_with (first | (go_at_call 61; refine hc.mono ?_; rintro e w1 ⟨rfl, rfl⟩) | (go_at_call 39; refine hcon.mono ?_; rintro e w1 ⟨h, rfl, ho, hb⟩; clear hcon; have HO := Hid.in ho; have HB := Hid.in hb; have hsz := hb.size; clear ho hb))
  go_ret
  exact ⟨_, h, rfl, Mem.new HO.out hsz, below_alloc HB.out _⟩

set_option maxHeartbeats 400000 in
theorem read_neg (q g B : Nat) (a n : Int) (xs : List Int) (w : World) (hm : Mem w B q g xs) (h : n < 0) :
    Calls Tryz.prog 69 #[.pointer (some ⟨q, 0, none⟩), .int .i64 a, .int .i64 n] w fun e w' => e = .returned (.tuple #[.slice none 0 0, .int .i64 2]) ∧ w' = w := by
  have hc := none_no q w hm.c0
  clear hm
  have g0 : decide (n < 0) = true := by simpa using h
  go_enter Tryz.func69, Tryz.ntmps69
  go_wp2_with (go_at_call 61; refine hc.mono ?_; rintro e w1 ⟨rfl, rfl⟩)
  go_ret2
  exact ⟨rfl, rfl⟩

set_option maxHeartbeats 400000 in
theorem read_out (q g B : Nat) (a n : Int) (xs : List Int) (w : World) (hm : Mem w B q g xs) (h : 0 ≤ n) (hn : n ≤ 9223372036854775807) (ho : ¬ (0 ≤ a ∧ a ≤ (xs.length : Int) - n)) :
    Calls Tryz.prog 69 #[.pointer (some ⟨q, 0, none⟩), .int .i64 a, .int .i64 n] w fun e w' => e = .returned (.tuple #[.slice none 0 0, .int .i64 210]) ∧ w' = w := by
  have hc := none_no q w hm.c0
  have hl := hm.len
  unfold maxLen at hl
  have hh := holds_any q g xs.length a n w (by omega) h hn hm.c1
  rw [decide_eq_false ho] at hh
  clear hm
  have g0 : decide (n < 0) = false := by simpa using h
  go_enter Tryz.func69, Tryz.ntmps69
  go_wp2_with (first | (go_at_call 61; refine hc.mono ?_; rintro e w1 ⟨rfl, rfl⟩) | (go_at_call 62; refine hh.mono ?_; rintro e w1 ⟨rfl, rfl⟩))
  go_ret2
  exact ⟨rfl, rfl⟩

set_option maxHeartbeats 800000 in
theorem read_ok (q g B a n : Nat) (xs : List Int) (w : World) (hm : Mem w B q g xs) (h : a + n ≤ xs.length) (hl : xs.length ≤ 65536) :
    Calls Tryz.prog 69 #[.pointer (some ⟨q, 0, none⟩), .int .i64 a, .int .i64 n] w fun e w' => ∃ k, e = .returned (.tuple #[.slice (some ⟨k, 0, none⟩) n n, .int .i64 0]) ∧ Own w' w.heap.size k n ((xs.drop a).take n) ∧ Below w.heap.size w w' := by
  have hc := none_no q w hm.c0
  have hh := holds_any q g xs.length a n w (by omega) (by omega) (by omega) hm.c1
  rw [decide_eq_true (by omega)] at hh
  have h1 := hm.c1
  have hr : Row w (if xs.length = a then some ⟨g, 0, none⟩ else some ⟨g, a, none⟩) ((xs.drop a).take n) := by
    split
    · intro h0; rw [List.length_take, List.length_drop] at h0; omega
    · have := hm.own.row.cut a n h; rwa [Nat.zero_add] at this
  have hlen : ((xs.drop a).take n).length = n := by rw [List.length_take, List.length_drop]; omega
  have hcon := copied_any _ n (xs.length - a) _ w hlen (by omega) hr
  clear hm
  have g0 : decide ((n : Int) < 0) = false := decide_eq_false (by omega)
  go_enter Tryz.func69, Tryz.ntmps69
  go_wp2_with (first | (go_at_call 61; refine hc.mono ?_; rintro e w1 ⟨rfl, rfl⟩) | (go_at_call 62; refine hh.mono ?_; rintro e w1 ⟨rfl, rfl⟩) | (go_at_call 39; refine hcon.mono ?_; rintro e w1 ⟨k, rfl, ho, hb⟩; clear hcon; have HO := Hid.in ho; have HB := Hid.in hb; clear ho hb))
  all_goals
    go_ret2
    exact ⟨k, rfl, HO.out, HB.out⟩

end Go.Proofs.YtnpaijbkhmnfpaaGreat
