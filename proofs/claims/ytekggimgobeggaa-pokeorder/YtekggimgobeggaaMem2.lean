/- What memory's New, Len, Read, Write, Bytes and Copy answer, for every memory that a call has made. -/
import Derived.Test.YtekggimgobeggaaBas
import Derived.Test.YtekggimgobeggaaMem
import Derived.Test.YtekggimgobeggaaApartA
namespace Go.Proofs.Ytekggimgobeggaa
open Go.RowKit


/-- a memory in block q, its bytes in block g -/
structure Mem (w : World) (B q g : Nat) (xs : List Int) : Prop where
  blk : w.heap[q]? = some (.cells #[.bool true, .slice (some ⟨g, 0, none⟩) xs.length xs.length] 93 (0, 0))
  own : Own w B g xs.length xs
  base : B ≤ q
  ne : q ≠ g

theorem Mem.c0 {w : World} {B q g : Nat} {xs : List Int} (h : Mem w B q g xs) : w.cell? ⟨q, 0, none⟩ = some (.bool true) := by
  simp [World.cell?, h.blk]
theorem Mem.c1 {w : World} {B q g : Nat} {xs : List Int} (h : Mem w B q g xs) : w.cell? ⟨q, 1, none⟩ = some (.slice (some ⟨g, 0, none⟩) xs.length xs.length) := by
  simp [World.cell?, h.blk]
theorem Mem.lt {w : World} {B q g : Nat} {xs : List Int} (h : Mem w B q g xs) : q < w.heap.size := cell_lt h.c0
theorem Mem.below {w w' : World} {B q g : Nat} {xs : List Int} (h : Mem w B q g xs) (hb : Below w.heap.size w w') : Mem w' B q g xs :=
  ⟨by rw [hb.block q h.lt]; exact h.blk, h.own.below hb, h.base, h.ne⟩
theorem Mem.drewN {w : World} {B q g : Nat} {xs : List Int} (h : Mem w B q g xs) (n : Nat) : Mem (w.drewN n) B q g xs := ⟨h.blk, h.own, h.base, h.ne⟩
theorem Mem.len {w : World} {B q g : Nat} {xs : List Int} (h : Mem w B q g xs) : xs.length ≤ maxLen := by
  obtain ⟨_, _, _, _, h4, _⟩ := h.own.parts; exact h4
/-- a world in which all blocks but G's are as they were -/
theorem Mem.keeps {G : Nat → Prop} {w w' : World} {B q g : Nat} {xs : List Int} (h : Mem w B q g xs) (hk : Keeps G w w') (h1 : ¬ G q) (h2 : ¬ G g) : Mem w' B q g xs := by
  obtain ⟨cur, a1, a2, a3, a4, a5, a6⟩ := h.own.parts
  exact ⟨by rw [hk.block q h.lt h1]; exact h.blk, Own.mk a1 (by rw [hk.block g h.own.lt h2]; exact a2) a3 a4 a5 a6, h.base, h.ne⟩

set_option maxHeartbeats 400000 in
theorem mnone_no (q : Nat) (w : World) (hc : w.cell? ⟨q, 0, none⟩ = some (.bool true)) :
    Calls Try.prog 55 #[.pointer (some ⟨q, 0, none⟩)] w fun e w' => e = .returned (.bool false) ∧ w' = w := by
  go_enter Try.func55, Try.ntmps55
  go_wp2
  go_ret
  exact ⟨rfl, rfl⟩

set_option maxHeartbeats 400000 in
theorem mnone_zero (q : Nat) (w : World) (hc : w.cell? ⟨q, 0, none⟩ = some (.bool false)) :
    Calls Try.prog 55 #[.pointer (some ⟨q, 0, none⟩)] w fun e w' => e = .returned (.bool true) ∧ w' = w := by
  go_enter Try.func55, Try.ntmps55
  go_wp2
  go_ret
  exact ⟨rfl, rfl⟩

set_option maxHeartbeats 400000 in
theorem mnone_nil (w : World) :
    Calls Try.prog 55 #[.pointer none] w fun e w' => e = .returned (.bool true) ∧ w' = w := by
  go_enter Try.func55, Try.ntmps55
  go_wp2
  go_ret
  exact ⟨rfl, rfl⟩

set_option maxHeartbeats 400000 in
theorem holds_any (q g l : Nat) (a n : Int) (w : World) (hl : l ≤ 9223372036854775807) (hn : 0 ≤ n) (hm : n ≤ 9223372036854775807) (hc : w.cell? ⟨q, 1, none⟩ = some (.slice (some ⟨g, 0, none⟩) l l)) :
    Calls Try.prog 71 #[.pointer (some ⟨q, 0, none⟩), .int .i64 a, .int .i64 n] w fun e w' => e = .returned (.bool (decide (0 ≤ a ∧ a ≤ (l : Int) - n))) ∧ w' = w := by
  by_cases h0 : 0 ≤ a
  · have g0 : decide (0 ≤ a) = true := by simpa using h0
    go_enter Try.func71, Try.ntmps71
    go_wp2
    go_ret
    refine ⟨ret_bool ?_, rfl⟩
    simp [h0]
  · have g0 : decide (0 ≤ a) = false := by simpa using h0
    go_enter Try.func71, Try.ntmps71
    go_wp2
    go_ret
    refine ⟨ret_bool ?_, rfl⟩
    simp

set_option maxHeartbeats 400000 in
theorem mnew_long (p : Option Addr) (n c : Nat) (w : World) (hn : n ≤ 9223372036854775807) (h : 65536 < n) :
    Calls Try.prog 14 #[.slice p n c] w fun e w' => e = .returned (.tuple #[.pointer none, .int .i64 3]) ∧ w' = w := by
  go_enter Try.func14, Try.ntmps14
  go_wp2
  go_ret2
  exact ⟨rfl, rfl⟩

theorem Mem.new {w : World} {B g : Nat} {xs : List Int} (h : Own w B g xs.length xs) (hB : B ≤ w.heap.size) :
    Mem (w.alloc (.cells #[.bool true, .slice (some ⟨g, 0, none⟩) xs.length xs.length] 93)) B w.heap.size g xs :=
  ⟨heap_alloc_new w _, h.below (new_alloc _ _), hB, fun e => by have := h.lt; omega⟩

set_option maxHeartbeats 400000 in
theorem mnew_ok (p : Option Addr) (n c : Nat) (xs : List Int) (w : World) (hx : xs.length = n) (hn : n ≤ 65536) (hr : Row w p xs) :
    Calls Try.prog 14 #[.slice p n c] w fun e w' => ∃ q g, e = .returned (.tuple #[.pointer (some ⟨q, 0, none⟩), .int .i64 0]) ∧ Mem w' w.heap.size q g xs ∧ Below w.heap.size w w' := by
  have hcon := copied_any p n c xs w hx (by omega) hr
  subst hx
  clear hr
  go_enter Try.func14, Try.ntmps14
  go_wp2_with (go_at_call 51; refine hcon.mono ?_; rintro e w1 ⟨g, rfl, ho, hb⟩; clear hcon; have HO := Hid.in ho; have HB := Hid.in hb; have hsz := hb.size; clear ho hb)
  go_ret2
  exact ⟨_, g, rfl, Mem.new HO.out hsz, below_alloc HB.out _⟩

set_option maxHeartbeats 400000 in
theorem mlen_any (q g B : Nat) (xs : List Int) (w : World) (hm : Mem w B q g xs) :
    Calls Try.prog 49 #[.pointer (some ⟨q, 0, none⟩)] w fun e w' => e = .returned (.int .i64 xs.length) ∧ w' = w := by
  have hc := mnone_no q w hm.c0
  have h1 := hm.c1
  clear hm
  go_enter Try.func49, Try.ntmps49
  go_wp2_with (go_at_call 55; refine hc.mono ?_; rintro e w1 ⟨rfl, rfl⟩)
  go_ret
  exact ⟨rfl, rfl⟩

set_option maxHeartbeats 400000 in
theorem mbytes_any (q g B : Nat) (xs : List Int) (w : World) (hm : Mem w B q g xs) (hn : xs.length ≤ 65536) :
    Calls Try.prog 34 #[.pointer (some ⟨q, 0, none⟩)] w fun e w' => ∃ h, e = .returned (.slice (some ⟨h, 0, none⟩) xs.length xs.length) ∧ Own w' w.heap.size h xs.length xs ∧ Below w.heap.size w w' := by
  have hc := mnone_no q w hm.c0
  have h1 := hm.c1
  have hcon := copied_any (some ⟨g, 0, none⟩) xs.length xs.length xs w rfl (by omega) hm.own.row
  clear hm
  go_enter Try.func34, Try.ntmps34
  go_wp2_with (first | (go_at_call 55; refine hc.mono ?_; rintro e w1 ⟨rfl, rfl⟩) | (go_at_call 51; refine hcon.mono ?_; rintro e w1 ⟨h, rfl, ho, hb⟩; clear hcon; have HO := Hid.in ho; have HB := Hid.in hb; clear ho hb))
  go_ret
  exact ⟨h, rfl, HO.out, HB.out⟩

set_option maxHeartbeats 400000 in
theorem mcopy_any (q g B : Nat) (xs : List Int) (w : World) (hm : Mem w B q g xs) (hn : xs.length ≤ 65536) :
    Calls Try.prog 17 #[.pointer (some ⟨q, 0, none⟩)] w fun e w' => ∃ q' h, e = .returned (.pointer (some ⟨q', 0, none⟩)) ∧ Mem w' w.heap.size q' h xs ∧ Below w.heap.size w w' := by
  have hc := mnone_no q w hm.c0
  have h1 := hm.c1
  have hcon := copied_any (some ⟨g, 0, none⟩) xs.length xs.length xs w rfl (by omega) hm.own.row
  clear hm
  go_enter Try.func17, Try.ntmps17
  go_wp2_with (first | (go_at_call 55; refine hc.mono ?_; rintro e w1 ⟨rfl, rfl⟩) | (go_at_call 51; refine hcon.mono ?_; rintro e w1 ⟨h, rfl, ho, hb⟩; clear hcon; have HO := Hid.in ho; have HB := Hid.in hb; have hsz := hb.size; clear ho hb))
  go_ret
  exact ⟨_, h, rfl, Mem.new HO.out hsz, below_alloc HB.out _⟩

set_option maxHeartbeats 400000 in
theorem read_neg (q g B : Nat) (a n : Int) (xs : List Int) (w : World) (hm : Mem w B q g xs) (h : n < 0) :
    Calls Try.prog 84 #[.pointer (some ⟨q, 0, none⟩), .int .i64 a, .int .i64 n] w fun e w' => e = .returned (.tuple #[.slice none 0 0, .int .i64 2]) ∧ w' = w := by
  have hc := mnone_no q w hm.c0
  clear hm
  have g0 : decide (n < 0) = true := by simpa using h
  go_enter Try.func84, Try.ntmps84
  go_wp2_with (go_at_call 55; refine hc.mono ?_; rintro e w1 ⟨rfl, rfl⟩)
  go_ret2
  exact ⟨rfl, rfl⟩

set_option maxHeartbeats 400000 in
theorem read_out (q g B : Nat) (a n : Int) (xs : List Int) (w : World) (hm : Mem w B q g xs) (h : 0 ≤ n) (hn : n ≤ 9223372036854775807) (ho : ¬ (0 ≤ a ∧ a ≤ (xs.length : Int) - n)) :
    Calls Try.prog 84 #[.pointer (some ⟨q, 0, none⟩), .int .i64 a, .int .i64 n] w fun e w' => e = .returned (.tuple #[.slice none 0 0, .int .i64 210]) ∧ w' = w := by
  have hc := mnone_no q w hm.c0
  have hl := hm.len
  unfold maxLen at hl
  have hh := holds_any q g xs.length a n w (by omega) h hn hm.c1
  rw [decide_eq_false ho] at hh
  clear hm
  have g0 : decide (n < 0) = false := by simpa using h
  go_enter Try.func84, Try.ntmps84
  go_wp2_with (first | (go_at_call 55; refine hc.mono ?_; rintro e w1 ⟨rfl, rfl⟩) | (go_at_call 71; refine hh.mono ?_; rintro e w1 ⟨rfl, rfl⟩))
  go_ret2
  exact ⟨rfl, rfl⟩

theorem Row.cut {w : World} {g o : Nat} {xs : List Int} (h : Row w (some ⟨g, o, none⟩) xs) (a n : Nat) (hn : a + n ≤ xs.length) : Row w (some ⟨g, o + a, none⟩) ((xs.drop a).take n) := fun h0 => by
  rw [List.length_take, List.length_drop] at h0
  obtain ⟨b, o', e, hc⟩ := h (by omega)
  cases e
  refine ⟨g, o + a, rfl, fun i hi => ?_⟩
  rw [List.length_take, List.length_drop] at hi
  rw [Nat.add_assoc, hc (a + i) (by omega)]
  simp [List.getD, List.getElem?_drop, show i < n by omega]

set_option maxHeartbeats 800000 in
theorem read_ok (q g B a n : Nat) (xs : List Int) (w : World) (hm : Mem w B q g xs) (h : a + n ≤ xs.length) (hl : xs.length ≤ 65536) :
    Calls Try.prog 84 #[.pointer (some ⟨q, 0, none⟩), .int .i64 a, .int .i64 n] w fun e w' => ∃ k, e = .returned (.tuple #[.slice (some ⟨k, 0, none⟩) n n, .int .i64 0]) ∧ Own w' w.heap.size k n ((xs.drop a).take n) ∧ Below w.heap.size w w' := by
  have hc := mnone_no q w hm.c0
  have hh := holds_any q g xs.length a n w (by omega) (by omega) (by omega) hm.c1
  rw [decide_eq_true (by omega)] at hh
  have h1 := hm.c1
  have hr : Row w (if xs.length = a then some ⟨g, 0, none⟩ else some ⟨g, a, none⟩) ((xs.drop a).take n) := by
    split
    · intro h0; rw [List.length_take, List.length_drop] at h0; omega
    · have := hm.own.row.cut a n h; rwa [Nat.zero_add] at this
  have hlen : ((xs.drop a).take n).length = n := by rw [List.length_take, List.length_drop]; omega
  have hcon := copied_any _ n (xs.length - a) _ w hlen (by omega) hr
  clear hm
  have g0 : decide ((n : Int) < 0) = false := decide_eq_false (by omega)
  go_enter Try.func84, Try.ntmps84
  go_wp2_with (first | (go_at_call 55; refine hc.mono ?_; rintro e w1 ⟨rfl, rfl⟩) | (go_at_call 71; refine hh.mono ?_; rintro e w1 ⟨rfl, rfl⟩) | (go_at_call 51; refine hcon.mono ?_; rintro e w1 ⟨k, rfl, ho, hb⟩; clear hcon; have HO := Hid.in ho; have HB := Hid.in hb; clear ho hb))
  all_goals
    go_ret2
    exact ⟨k, rfl, HO.out, HB.out⟩

/-- what is written over -/
def putA (xs : List Int) (a : Nat) (ys : List Int) : List Int := xs.take a ++ (ys ++ xs.drop (a + ys.length))
theorem putA_len {xs ys : List Int} {a : Nat} (h : a + ys.length ≤ xs.length) : (putA xs a ys).length = xs.length := by
  simp [putA]; omega
theorem putA_splice (xs ys : List Int) (a : Nat) : splice (byts xs) a (byts ys) = byts (putA xs a ys) := by
  simp [splice, putA, byts]

/-- copy, over a row of a block of its own: all other blocks stay -/
theorem wp_copy_keeps {w : World} {ops : Array Oper} {rest : List Oper} {o : Oper} {a : Act} {Q : Exit → Act → World → Prop} (hgd : o.guard = none) (d s : Operand)
    (ho : o.op = .call { callee := .builtin .copy, args := #[d, s], argTypes := #[54, 54] })
    (dp sp : Option Addr) (dLen dCap sLen sCap : Nat) (hd : a.eval d = .slice dp dLen dCap) (hs : a.eval s = .slice sp sLen sCap)
    (g off : Nat) (cur : List Value) (t : TypeId) (hg : w.heap[g]? = some (.cells cur.toArray t (0, 0))) (cs : List Value) (hn : cs.length = Nat.min sLen dLen)
    (hpos : 0 < cs.length → dp = some ⟨g, off, none⟩ ∧ ∃ ad, sp = some ad ∧ ∀ j v, cs[j]? = some v → w.cell? (ad.add j) = some v)
    (hfit : off + cs.length ≤ cur.length) (h1 : ∀ v ∈ cs, v.oneCell' = true)
    (h : ∀ w', Hid (w'.heap[g]? = some (.cells (splice cur off cs).toArray t (0, 0))) → Hid (Keeps (fun b => b = g) w w') → wpList Try.prog ops Q rest (a.put o.dst (goInt cs.length)) w') :
    wpList Try.prog ops Q (o :: rest) a w := by
  by_cases h0 : cs.length = 0
  · obtain rfl : cs = [] := List.eq_nil_of_length_eq_zero h0
    refine wpList_copy_nothing hgd d s 54 54 ho 5 Try.underlying54 Try.size5 dp sp dLen dCap sLen sCap hd hs (by simpa using hn.symm) ?_
    exact h w (show _ = _ by simpa [splice] using hg) (Keeps.refl _ _)
  · obtain ⟨rfl, ad, rfl, hsrc⟩ := hpos (by omega)
    refine wpList_copy_own hgd d s 54 54 ho 5 Try.underlying54 Try.size5 g off dLen dCap ad sLen sCap hd hs cur.toArray t hg cs hn hsrc (by simpa using hfit) h1 ?_
    exact h _ (show _ = _ by simpa [splice] using setRow_heap w g _ _ t _ hg) ⟨rfl, rfl, rfl, by simp [World.setRow], fun k _ hk => setRow_other w g k _ hk⟩

set_option maxHeartbeats 400000 in
theorem write_out (q g B n c : Nat) (p : Option Addr) (a : Int) (xs : List Int) (w : World) (hm : Mem w B q g xs) (hn : n ≤ 9223372036854775807) (ho : ¬ (0 ≤ a ∧ a ≤ (xs.length : Int) - n)) :
    Calls Try.prog 31 #[.pointer (some ⟨q, 0, none⟩), .int .i64 a, .slice p n c] w fun e w' => e = .returned (.int .i64 210) ∧ w' = w := by
  have hc := mnone_no q w hm.c0
  have hl := hm.len
  unfold maxLen at hl
  have hh := holds_any q g xs.length a n w (by omega) (by omega) (by omega) hm.c1
  rw [decide_eq_false ho] at hh
  clear hm
  go_enter Try.func31, Try.ntmps31
  go_wp2_with (first | (go_at_call 55; refine hc.mono ?_; rintro e w1 ⟨rfl, rfl⟩) | (go_at_call 71; refine hh.mono ?_; rintro e w1 ⟨rfl, rfl⟩))
  go_ret
  exact ⟨rfl, rfl⟩

theorem Mem.written {w w' : World} {B q g : Nat} {xs ys : List Int} (h : Mem w B q g xs) (hw : w'.heap[g]? = some (.cells (byts ys).toArray 5 (0, 0))) (hl : ys.length = xs.length) (hk : Keeps (fun b => b = g) w w') : Mem w' B q g ys :=
  ⟨by rw [hk.block q h.lt h.ne, hl]; exact h.blk, Own.mk h.own.base hw (Nat.le_refl _) (by rw [hl]; exact h.len) (by simp) (by rw [List.take_of_length_le (by simp)]), h.base, h.ne⟩

set_option maxHeartbeats 800000 in
theorem write_ok (q g B a c : Nat) (p : Option Addr) (xs ys : List Int) (w : World) (hm : Mem w B q g xs) (hr : Row w p ys) (hfit : a + ys.length ≤ xs.length) (hl : xs.length ≤ 65536) :
    Calls Try.prog 31 #[.pointer (some ⟨q, 0, none⟩), .int .i64 a, .slice p ys.length c] w fun e w' => e = .returned (.int .i64 0) ∧ Mem w' B q g (putA xs a ys) ∧ Keeps (fun b => b = g) w w' := by
  have hc := mnone_no q w hm.c0
  have hh := holds_any q g xs.length a ys.length w (by omega) (by omega) (by omega) hm.c1
  rw [decide_eq_true (by omega)] at hh
  have h1 := hm.c1
  have HM := Hid.in hm
  have hblk := Hid.in (hm.own.block rfl)
  clear hm
  go_enter Try.func31, Try.ntmps31
  go_wp2_with (first | (go_at_call 55; refine hc.mono ?_; rintro e w1 ⟨rfl, rfl⟩) | (go_at_call 71; refine hh.mono ?_; rintro e w1 ⟨rfl, rfl⟩) | (refine wp_copy_keeps rfl _ _ rfl _ _ _ _ _ _ rfl rfl g a (byts xs) 5 hblk.out (byts ys) (by rw [List.length_map]; exact (Nat.min_eq_left (by omega)).symm) (fun h0 => ⟨by first | rfl | (rw [if_neg (by simp at h0; omega)]) | (exfalso; simp at h0; omega), hr.src (by simpa using h0)⟩) (by simp only [List.length_map]; exact hfit) (one_byts ys) ?_; intro w2 HW2 HK2; rw [putA_splice] at HW2))
  all_goals
    go_ret
    exact ⟨rfl, HM.out.written HW2.out (putA_len hfit) HK2.out, HK2.out⟩

end Go.Proofs.Ytekggimgobeggaa
