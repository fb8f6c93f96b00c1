/- Texts put together: W7, Mem3, HrtA, HrtB, EvS. -/
import Derived.Test.YtnpaijbkhmnfpaaGreatBas
import Derived.Test.YtnpaijbkhmnfpaaGreatBlk
import Derived.Deep.AppendLies
import Derived.Test.YtnpaijbkhmnfpaaGreatMem2
import Derived.Test.YtnpaijbkhmnfpaaGreatGa
import Derived.Lib.Hide
import Derived.Recover
import Derived.Test.YtnpaijbkhmnfpaaGreatKps
import Derived.Test.YtnpaijbkhmnfpaaGreatEq4

/- Rows of events: elements of seven cells. -/
namespace Go.Proofs.YtnpaijbkhmnfpaaGreat
open Go.RowKit

/-- an event: Step and Key are 0 -/
structure Ev where
  k : Int
  h : Int
  p : Int
  o : Int
  n : Int
def l7 (q : Ev) : List Value := [.int .u8 q.k, .int .i64 0, .int .i64 q.h, .int .i64 q.p, .int .u8 q.o, .int .i64 0, .int .i64 q.n]
def evA (q : Ev) : Array Value := #[.int .u8 q.k, .int .i64 0, .int .i64 q.h, .int .i64 q.p, .int .u8 q.o, .int .i64 0, .int .i64 q.n]
/-- the cells of a list of such elements -/
def c7 (L : List Ev) : List Value := L.flatMap l7
theorem c7_len (L : List Ev) : (c7 L).length = L.length * 7 := by
  induction L with
  | nil => rfl
  | cons q L ih =>
    unfold c7 at *
    rw [List.flatMap_cons, List.length_append, ih, List.length_cons]
    have : (l7 q).length = 7 := rfl
    omega
theorem c7_two (L M : List Ev) : c7 (L ++ M) = c7 L ++ c7 M := by simp [c7]
theorem c7_at : ∀ (L : List Ev) (i : Nat) (h : i < L.length) (j : Nat), j < 7 → (c7 L)[i * 7 + j]? = (l7 L[i])[j]?
  | [], i, h, _, _ => absurd h (by simp)
  | q :: L, 0, _, j, hj => by
    unfold c7
    rw [List.flatMap_cons, Nat.zero_mul, Nat.zero_add, List.getElem?_append_left (by show j < 7; exact hj)]
    rfl
  | q :: L, i + 1, h, j, hj => by
    have h' : i < L.length := by simpa using h
    have ih := c7_at L i h' j hj
    unfold c7 at *
    have h7 : (l7 q).length = 7 := rfl
    rw [List.flatMap_cons, List.getElem?_append_right (by rw [h7]; omega), h7, show (i + 1) * 7 + j - 7 = i * 7 + j by omega, ih]
    rfl
/-- a list that the call has made, nil or not -/
def EOwn (T : TypeId) (w : World) (B : Nat) (v : Value) (L : List Ev) : Prop := w.ownsRow B T 7 v L.length (c7 L)
theorem EOwn.nil (T : TypeId) (w : World) (B : Nat) : EOwn T w B (.slice none 0 0) [] := World.ownsRow_nil _ _ _ _
theorem EOwn.below {T : TypeId} {w w' : World} {B : Nat} {v : Value} {L : List Ev} (h : EOwn T w B v L) (hb : Below w.heap.size w w') : EOwn T w' B v L := by
  obtain ⟨h0, h1⟩ := h
  refine ⟨h0, h1.imp id ?_⟩
  rintro ⟨g, cap, cur, e1, e2, e3, e4⟩
  exact ⟨g, cap, cur, e1, e2, (hb.block g (Array.getElem?_eq_some_iff.1 e3).1).trans e3, e4⟩
theorem EOwn.alloc {T : TypeId} {w : World} {B : Nat} {v : Value} {L : List Ev} (h : EOwn T w B v L) (o : Obj) : EOwn T (w.alloc o) B v L := h.below (new_alloc w o)
theorem EOwn.drewN {T : TypeId} {w : World} {B : Nat} {v : Value} {L : List Ev} (h : EOwn T w B v L) (n : Nat) : EOwn T (w.drewN n) B v L := h
theorem EOwn.shape {T : TypeId} {w : World} {B : Nat} {v : Value} {L : List Ev} (h : EOwn T w B v L) : ∃ p cap, v = .slice p L.length cap ∧ L.length ≤ cap ∧ cap ≤ maxLen ∧ (0 < L.length → ∃ g, p = some ⟨g, 0, none⟩ ∧ B ≤ g ∧ g < w.heap.size ∧ ∀ i (hi : i < L.length) j, j < 7 → w.cell? ⟨g, i * 7 + j, none⟩ = (l7 L[i])[j]?) := by
  rcases h.2 with ⟨e1, e2⟩ | ⟨g, cap, cur, e1, e2, e3, e4, e5, _⟩
  · exact ⟨none, 0, by rw [e1, e2], by omega, Nat.zero_le _, fun h0 => by omega⟩
  · refine ⟨_, cap, e1, e4, e5, fun _ => ⟨g, rfl, e2, (Array.getElem?_eq_some_iff.1 e3).1, fun i hi j hj => ?_⟩⟩
    have hr : w.ownsRow B T 7 v L.length (c7 L) := h
    rw [e1] at hr
    rw [hr.cellAt (i * 7 + j) (by omega), c7_at L i hi j hj]
def Elem7 (t T : TypeId) (by_ : Nat) : Prop := Tryz.prog.underlying t = some (.slice T) ∧ ∃ z, z.cells.size = 7 ∧ (Tryz.prog.info? T).map (fun i => (i.zero, i.size, i.bytes)) = some (some z, 7, by_)
theorem Tryz.elemEv : Elem7 32 41 56 := ⟨Tryz.underlying32, .agg #[.int .u8 0, .int .i64 0, .int .i64 0, .int .i64 0, .int .u8 0, .int .i64 0, .int .i64 0], rfl, by kernel_rfl⟩
theorem one7_mem (q : Ev) : ∀ u ∈ l7 q, u.oneCell' = true := by
  intro u hu
  simp only [l7, List.mem_cons, List.not_mem_nil, or_false] at hu
  rcases hu with rfl | rfl | rfl | rfl | rfl | rfl | rfl <;> rfl
theorem news7 (w : World) (q : Ev) (T : TypeId) : ∀ j u, (l7 q)[j]? = some u → (w.alloc (.cells (evA q) T)).cell? ((⟨w.heap.size, 0, none⟩ : Addr).add j) = some u := by
  intro j u hj
  rw [Go.WideShapes.add_plain]
  match j, hj with
  | 0, hj => simpa [l7, evA] using hj
  | 1, hj => simpa [l7, evA] using hj
  | 2, hj => simpa [l7, evA] using hj
  | 3, hj => simpa [l7, evA] using hj
  | 4, hj => simpa [l7, evA] using hj
  | 5, hj => simpa [l7, evA] using hj
  | 6, hj => simpa [l7, evA] using hj
  | j + 7, hj => simp [l7] at hj

/-- 'append(l, x)' -/
theorem epush {ops : Array Oper} {rest : List Oper} {o : Oper} {a : Act} {Q : Exit → Act → World → Prop} {t T : TypeId} {by_ : Nat} (he : Elem7 t T by_) (w : World) (hgd : o.guard = none) (s x : Operand)
    (ho : o.op = .call { callee := .builtin .append, args := #[s, x], argTypes := #[t, t] }) (B : Nat) (v : Value) (L : List Ev) (hs : a.eval s = v) (hown : EOwn T w B v L)
    (ad : Addr) (c : Nat) (q : Ev) (hx : a.eval x = .slice (some ad) 1 c) (hnews : ∀ j u, (l7 q)[j]? = some u → w.cell? (ad.add j) = some u)
    (hlen : L.length ≤ 1048576) (hby : by_ ≤ 100) (hB : B ≤ w.heap.size)
    (h : ∀ v' w', EOwn T w' B v' (L ++ [q]) → w.grownBy w' v.ownBlock → (∀ w0, Below B w0 w → Below B w0 w') → wpList Tryz.prog ops Q rest (a.put o.dst v') w') :
    wpList Tryz.prog ops Q (o :: rest) a w := by
  obtain ⟨hu, z, hzc, hinfo⟩ := he
  obtain ⟨i0, hi, hz0, hz1, hz2⟩ := info_parts hinfo
  refine wpList_append_own w hgd s x t ho B T i0 z 7 by_ hu hi hz0 hz1 hz2 hzc (by decide) v L.length (c7 L) hs hown ad 1 c (l7 q) hx rfl hnews (one7_mem q) (by unfold maxLen; omega) (Nat.le_trans (Nat.mul_le_mul (show L.length + 1 ≤ 1048577 by omega) hby) (by decide)) hB ?_
  intro v' w' h2 h3 _
  refine h v' w' ?_ h3 (fun w0 hb => hb.grown h3 hB fun k hk => (World.ownsRow.lt hown k hk).1)
  unfold EOwn
  rw [List.length_append, c7_two]
  have e : c7 [q] = l7 q := by simp [c7]
  rw [e]
  exact h2
/-- .. in a region that draws -/
theorem step_epush {ops : Array Oper} {o : Oper} {a : Act} {K : Act → World → Prop} {Q : Exit → Act → World → Prop} {E : Prop} {t T : TypeId} {by_ : Nat} (he : Elem7 t T by_) (w : World) (hgd : o.guard = none) (s x : Operand)
    (ho : o.op = .call { callee := .builtin .append, args := #[s, x], argTypes := #[t, t] }) (B : Nat) (v : Value) (L : List Ev) (hs : a.eval s = v) (hown : EOwn T w B v L)
    (ad : Addr) (c : Nat) (q : Ev) (hx : a.eval x = .slice (some ad) 1 c) (hnews : ∀ j u, (l7 q)[j]? = some u → w.cell? (ad.add j) = some u)
    (hlen : L.length ≤ 1048576) (hby : by_ ≤ 100) (hB : B ≤ w.heap.size)
    (h : ∀ g cap w', EOwn T w' B (.slice (some ⟨g, 0, none⟩) (L.length + 1) cap) (L ++ [q]) → w.grownBy w' v.ownBlock → (∀ w0, Below B w0 w → Below B w0 w') → K (a.put o.dst (.slice (some ⟨g, 0, none⟩) (L.length + 1) cap)) w') :
    if Region.wanted o (yielded ops a.tmps) = true then Oper.wp Tryz.prog o a w K Q else E := by
  obtain ⟨hu, z, hzc, hinfo⟩ := he
  obtain ⟨i0, hi, hz0, hz1, hz2⟩ := info_parts hinfo
  refine step_append_lies w hgd s x t ho B T i0 z 7 by_ hu hi hz0 hz1 hz2 hzc (by decide) v L.length (c7 L) hs hown ad 1 c (l7 q) hx rfl hnews (one7_mem q) (by decide) (by unfold maxLen; omega) (Nat.le_trans (Nat.mul_le_mul (show L.length + 1 ≤ 1048577 by omega) hby) (by decide)) hB w.heap.size rfl ?_
  intro g cap w' h2 h3 _ _
  refine h g cap w' ?_ h3 (fun w0 hb => hb.grown h3 hB fun k hk => (World.ownsRow.lt hown k hk).1)
  unfold EOwn
  rw [List.length_append, c7_two]
  have e : c7 [q] = l7 q := by simp [c7]
  rw [e]
  exact h2

/-- a list of one event that was made just now -/
theorem EOwn.one (w : World) (q : Ev) : EOwn 41 (w.alloc (.cells (evA q) 41)) w.heap.size (.slice (some ⟨w.heap.size, 0, none⟩) 1 1) [q] :=
  ⟨rfl, .inr ⟨w.heap.size, 1, evA q, rfl, Nat.le_refl _, Blk.new w 41 (evA q), Nat.le_refl _, by unfold maxLen; decide, rfl, rfl⟩⟩
theorem EOwn.lower {T : TypeId} {w : World} {B B' : Nat} {v : Value} {L : List Ev} (h : EOwn T w B v L) (hB : B' ≤ B) : EOwn T w B' v L := by
  obtain ⟨h0, h1⟩ := h
  refine ⟨h0, h1.imp id ?_⟩
  rintro ⟨g, cap, cur, e1, e2, e3⟩
  exact ⟨g, cap, cur, e1, Nat.le_trans hB e2, e3⟩

end Go.Proofs.YtnpaijbkhmnfpaaGreat

/- What memory's Read and Copy answer. -/
namespace Go.Proofs.YtnpaijbkhmnfpaaGreat
open Go.RowKit

set_option maxHeartbeats 400000 in
theorem mcopy_any (q g B : Nat) (xs : List Int) (w : World) (hm : Mem w B q g xs) (hn : xs.length ≤ 65536) :
    Calls Tryz.prog 28 #[.pointer (some ⟨q, 0, none⟩)] w fun e w' => ∃ q' h, e = .returned (.pointer (some ⟨q', 0, none⟩)) ∧ Mem w' w.heap.size q' h xs ∧ Below w.heap.size w w' := by
  have hc := none_no q w hm.c0
  have h1 := hm.c1
  have hcon := copied_any (some ⟨g, 0, none⟩) xs.length xs.length xs w rfl (by omega) hm.own.row
  clear hm
  go_enter Tryz.func28, Tryz.ntmps28
  go_wp2_with (first | (go_at_call 61; refine hc.mono ?_; rintro e w1 ⟨rfl, rfl⟩) | (go_at_call 39; refine hcon.mono ?_; rintro e w1 ⟨h, rfl, ho, hb⟩; clear hcon; have HO := Hid.in ho; have HB := Hid.in hb; have hsz := hb.size; clear ho hb))
  go_ret
  exact ⟨_, h, rfl, Mem.new HO.out hsz, below_alloc HB.out _⟩

set_option maxHeartbeats 400000 in
theorem read_neg (q g B : Nat) (a n : Int) (xs : List Int) (w : World) (hm : Mem w B q g xs) (h : n < 0) :
    Calls Tryz.prog 69 #[.pointer (some ⟨q, 0, none⟩), .int .i64 a, .int .i64 n] w fun e w' => e = .returned (.tuple #[.slice none 0 0, .int .i64 2]) ∧ w' = w := by
  have hc := none_no q w hm.c0
  clear hm
  have g0 : decide (n < 0) = true := by simpa using h
  go_enter Tryz.func69, Tryz.ntmps69
  go_wp2_with (go_at_call 61; refine hc.mono ?_; rintro e w1 ⟨rfl, rfl⟩)
  go_ret2
  exact ⟨rfl, rfl⟩

set_option maxHeartbeats 400000 in
theorem read_out (q g B : Nat) (a n : Int) (xs : List Int) (w : World) (hm : Mem w B q g xs) (h : 0 ≤ n) (hn : n ≤ 9223372036854775807) (ho : ¬ (0 ≤ a ∧ a ≤ (xs.length : Int) - n)) :
    Calls Tryz.prog 69 #[.pointer (some ⟨q, 0, none⟩), .int .i64 a, .int .i64 n] w fun e w' => e = .returned (.tuple #[.slice none 0 0, .int .i64 210]) ∧ w' = w := by
  have hc := none_no q w hm.c0
  have hl := hm.len
  unfold maxLen at hl
  have hh := holds_any q g xs.length a n w (by omega) h hn hm.c1
  rw [decide_eq_false ho] at hh
  clear hm
  have g0 : decide (n < 0) = false := by simpa using h
  go_enter Tryz.func69, Tryz.ntmps69
  go_wp2_with (first | (go_at_call 61; refine hc.mono ?_; rintro e w1 ⟨rfl, rfl⟩) | (go_at_call 62; refine hh.mono ?_; rintro e w1 ⟨rfl, rfl⟩))
  go_ret2
  exact ⟨rfl, rfl⟩

set_option maxHeartbeats 800000 in
theorem read_ok (q g B a n : Nat) (xs : List Int) (w : World) (hm : Mem w B q g xs) (h : a + n ≤ xs.length) (hl : xs.length ≤ 65536) :
    Calls Tryz.prog 69 #[.pointer (some ⟨q, 0, none⟩), .int .i64 a, .int .i64 n] w fun e w' => ∃ k, e = .returned (.tuple #[.slice (some ⟨k, 0, none⟩) n n, .int .i64 0]) ∧ Own w' w.heap.size k n ((xs.drop a).take n) ∧ Below w.heap.size w w' := by
  have hc := none_no q w hm.c0
  have hh := holds_any q g xs.length a n w (by omega) (by omega) (by omega) hm.c1
  rw [decide_eq_true (by omega)] at hh
  have h1 := hm.c1
  have hr : Row w (if xs.length = a then some ⟨g, 0, none⟩ else some ⟨g, a, none⟩) ((xs.drop a).take n) := by
    split
    · intro h0; rw [List.length_take, List.length_drop] at h0; omega
    · have := hm.own.row.cut a n h; rwa [Nat.zero_add] at this
  have hlen : ((xs.drop a).take n).length = n := by rw [List.length_take, List.length_drop]; omega
  have hcon := copied_any _ n (xs.length - a) _ w hlen (by omega) hr
  clear hm
  have g0 : decide ((n : Int) < 0) = false := decide_eq_false (by omega)
  go_enter Tryz.func69, Tryz.ntmps69
  go_wp2_with (first | (go_at_call 61; refine hc.mono ?_; rintro e w1 ⟨rfl, rfl⟩) | (go_at_call 62; refine hh.mono ?_; rintro e w1 ⟨rfl, rfl⟩) | (go_at_call 39; refine hcon.mono ?_; rintro e w1 ⟨k, rfl, ho, hb⟩; clear hcon; have HO := Hid.in ho; have HB := Hid.in hb; clear ho hb))
  all_goals
    go_ret2
    exact ⟨k, rfl, HO.out, HB.out⟩

end Go.Proofs.YtnpaijbkhmnfpaaGreat

/- How a hart lies in memory; its small methods. -/
namespace Go.Proofs.YtnpaijbkhmnfpaaGreat
open Go.RowKit Go.Maps
/-- a hart's cells -/
def hrA (id st pc : Int) (R : List Int) (vS vH : Value) (l : Nat) : Array Value :=
  #[.int .i64 id, .int .u8 st, .int .u32 pc, .int .u32 (R.getD 0 0), .int .u32 (R.getD 1 0), .int .u32 (R.getD 2 0), .int .u32 (R.getD 3 0), .int .u32 (R.getD 4 0), .int .u32 (R.getD 5 0), .int .u32 (R.getD 6 0), .int .u32 (R.getD 7 0), vS, vH, .pointer (some ⟨l, 0, none⟩)]

abbrev zEv : Array Value := #[.int .u8 0, .int .i64 0, .int .i64 0, .int .i64 0, .int .u8 0, .int .i64 0, .int .i64 0]
theorem Tryz.sz41 : (Tryz.prog.info? 41).map (·.size) = some 7 := by kernel_rfl
set_option maxHeartbeats 400000 in
theorem event_any (h : Nat) (id k a n : Int) (w : World) (hc : w.cell? ⟨h, 0, none⟩ = some (.int .i64 id)) (ha : 0 ≤ a ∧ a ≤ 4294967295) (hn : 0 ≤ n ∧ n ≤ 4294967295) :
    Calls Tryz.prog 80 #[.pointer (some ⟨h, 0, none⟩), .int .u8 k, .int .u32 a, .int .u32 n] w fun e w' => e = .returned (.agg (evA ⟨k, id, a, 0, n⟩)) ∧ Below w.heap.size w w' := by
  have hc' : (w.alloc (.cells zEv 41)).cell? ⟨h, 0, none⟩ = some (.int .i64 id) := by rw [(new_alloc w _).cell (p := ⟨h, 0, none⟩) (cell_lt hc)]; exact hc
  have HB := Hid.in (Blk.new w 41 zEv)
  have HN := Hid.in (new_alloc w (.cells zEv 41))
  have e1 : a % 18446744073709551616 = a := by omega
  have e2 : n % 18446744073709551616 = n := by omega
  go_enter Tryz.func80, Tryz.ntmps80
  go_upto_region 1 with fail
  generalize w.alloc (.cells zEv 41) = w1 at *
  have z : ∀ i, w1.frozen? ⟨w.heap.size, i, none⟩ = false := fun i => HB.out.free i
  have c0 : w1.cell? ⟨w.heap.size, 0, none⟩ = some (.int .u8 0) := HB.out.cell 0
  have c1 : w1.cell? ⟨w.heap.size, 1, none⟩ = some (.int .i64 0) := HB.out.cell 1
  have c2 : w1.cell? ⟨w.heap.size, 2, none⟩ = some (.int .i64 0) := HB.out.cell 2
  have c3 : w1.cell? ⟨w.heap.size, 3, none⟩ = some (.int .i64 0) := HB.out.cell 3
  have c4 : w1.cell? ⟨w.heap.size, 4, none⟩ = some (.int .u8 0) := HB.out.cell 4
  have c5 : w1.cell? ⟨w.heap.size, 5, none⟩ = some (.int .i64 0) := HB.out.cell 5
  have c6 : w1.cell? ⟨w.heap.size, 6, none⟩ = some (.int .i64 0) := HB.out.cell 6
  go_wp2
  have hB := HB.out.setAll (evA ⟨k, id, a, 0, n⟩) rfl
  have hG := grown_setCells w.heap.size (evA ⟨k, id, a, 0, n⟩).toList 0 w1
  have hld := hB.load 41 _ Tryz.underlying41 rfl Tryz.sz41
  exact bodyPost_ret (v := .agg (evA ⟨k, id, a, 0, n⟩)) (by simpa [results, Tryz.results80, asAddr, World.setCells, evA] using hld) rfl ⟨rfl, HN.out.grown hG (Nat.le_of_lt (HB.out.lt)) (fun k hk => by cases hk; exact Nat.le_refl _)⟩

set_option maxHeartbeats 400000 in
theorem hcopied_any (p : Option Addr) (n c : Nat) (xs : List Int) (w : World) (hx : xs.length = n) (hn : n ≤ 140737488355328) (hr : Row w p xs) :
    Calls Tryz.prog 48 #[.slice p n c] w fun e w' => ∃ g, e = .returned (.slice (some ⟨g, 0, none⟩) n n) ∧ Own w' w.heap.size g n xs ∧ Below w.heap.size w w' := by
  obtain ⟨i0, hi, hz0, hz1, hz2⟩ := info_parts Tryz.info5
  subst hx
  go_enter Tryz.func48, Tryz.ntmps48
  go_wp2_with (first
    | (at_make; refine wpList_make_full _ rfl _ _ 26 rfl _ 5 i0 (.int .u8 0) 1 Tryz.underlying26 hi hz0 hz1 _ _ _ _ xs.length rfl rfl rfl rfl (by rw [hz2]; omega) (by unfold maxLen; omega) (Nat.le_refl _) ?_; intro w1 hown hgrow; have hb1 := (Below.refl w.heap.size w).grown hgrow (Nat.le_refl _) (by simp); have hr1 := hr.below hb1; have HO : Hid (Own w1 w.heap.size w.heap.size xs.length (List.replicate xs.length 0)) := Own.of_made hown; clear hown hgrow hr)
    | (have hw := HO.out.block (List.length_replicate ..); refine wpList_copy_splice rfl _ _ 26 26 rfl 5 Tryz.underlying26 Tryz.size5 _ _ _ _ _ _ rfl rfl w.heap.size 0 _ 5 hw (byts xs) (by simp) (fun h0 => ⟨rfl, hr1.src (by simpa using h0)⟩) (by simp) (one_byts xs) w.heap.size w hb1 (Nat.le_refl _) ?_; intro w2 hw2 hb2; rw [splice_all _ _ (by simp)] at hw2; have HW : Hid (w2.heap[w.heap.size]? = some (.cells (byts xs).toArray 5 (0, 0))) := hw2; clear hw hw2 HO hb1 hr1))
  go_ret
  exact ⟨_, rfl, Own.mk (Nat.le_refl _) HW.out (Nat.le_refl _) (by unfold maxLen; omega) (by simp) (by rw [List.take_of_length_le (by simp)]), hb2⟩

set_option maxHeartbeats 400000 in
theorem pcopied_any (p : Option Addr) (n c : Nat) (xs : List Int) (w : World) (hx : xs.length = n) (hn : n * 4 ≤ 140737488355328) (hr : PRow w p xs) :
    Calls Tryz.prog 47 #[.slice p n c] w fun e w' => ∃ g, e = .returned (.slice (some ⟨g, 0, none⟩) n n) ∧ POwn w' w.heap.size g n xs ∧ Below w.heap.size w w' := by
  obtain ⟨i0, hi, hz0, hz1, hz2⟩ := info_parts Tryz.info31
  subst hx
  go_enter Tryz.func47, Tryz.ntmps47
  go_wp2_with (first
    | (at_make; refine wpList_make_full _ rfl _ _ 45 rfl _ 31 i0 (.int .u32 0) 1 Tryz.underlying45 hi hz0 hz1 _ _ _ _ xs.length rfl rfl rfl rfl (by rw [hz2]; omega) (by unfold maxLen; omega) (Nat.le_refl _) ?_; intro w1 hown hgrow; have hb1 := (Below.refl w.heap.size w).grown hgrow (Nat.le_refl _) (by simp); have hr1 := hr.below hb1; have HO : Hid (POwn w1 w.heap.size w.heap.size xs.length (List.replicate xs.length 0)) := POwn.of_made hown; clear hown hgrow hr)
    | (have hw := HO.out.block (List.length_replicate ..); refine wpList_copy_splice rfl _ _ 45 45 rfl 31 Tryz.underlying45 Tryz.size31 _ _ _ _ _ _ rfl rfl w.heap.size 0 _ 31 hw (wrds xs) (by simp) (fun h0 => ⟨rfl, hr1.src (by simpa using h0)⟩) (by simp) (one_wrds xs) w.heap.size w hb1 (Nat.le_refl _) ?_; intro w2 hw2 hb2; rw [splice_allP _ _ (by simp)] at hw2; have HW : Hid (w2.heap[w.heap.size]? = some (.cells (wrds xs).toArray 31 (0, 0))) := hw2; clear hw hw2 HO hb1 hr1))
  go_ret
  exact ⟨_, rfl, POwn.mk (Nat.le_refl _) HW.out (Nat.le_refl _) (by unfold maxLen; omega) (by simp) (by rw [List.take_of_length_le (by simp)]), hb2⟩

set_option maxHeartbeats 400000 in
theorem hnone_no (h l : Nat) (w : World) (hc : w.cell? ⟨h, 13, none⟩ = some (.pointer (some ⟨l, 0, none⟩))) :
    Calls Tryz.prog 41 #[.pointer (some ⟨h, 0, none⟩)] w fun e w' => e = .returned (.bool false) ∧ w' = w := by
  go_enter Tryz.func41, Tryz.ntmps41
  go_wp2
  go_ret
  exact ⟨rfl, rfl⟩
set_option maxHeartbeats 400000 in
theorem hnone_zero (h : Nat) (w : World) (hc : w.cell? ⟨h, 13, none⟩ = some (.pointer none)) :
    Calls Tryz.prog 41 #[.pointer (some ⟨h, 0, none⟩)] w fun e w' => e = .returned (.bool true) ∧ w' = w := by
  go_enter Tryz.func41, Tryz.ntmps41
  go_wp2
  go_ret
  exact ⟨rfl, rfl⟩
set_option maxHeartbeats 400000 in
theorem hnone_nil (w : World) :
    Calls Tryz.prog 41 #[.pointer none] w fun e w' => e = .returned (.bool true) ∧ w' = w := by
  go_enter Tryz.func41, Tryz.ntmps41
  go_wp2
  go_ret
  exact ⟨rfl, rfl⟩
set_option maxHeartbeats 400000 in
theorem running_any (h l : Nat) (st : Int) (w : World) (h1 : w.cell? ⟨h, 1, none⟩ = some (.int .u8 st)) (hc : w.cell? ⟨h, 13, none⟩ = some (.pointer (some ⟨l, 0, none⟩))) :
    Calls Tryz.prog 13 #[.pointer (some ⟨h, 0, none⟩)] w fun e w' => e = .returned (.bool (decide (st = 0))) ∧ w' = w := by
  have hN := hnone_no h l w hc
  go_enter Tryz.func13, Tryz.ntmps13
  go_wp2_with (go_at_call 41; refine hN.mono ?_; rintro e w1 ⟨rfl, rfl⟩)
  go_ret
  refine ⟨?_, rfl⟩
  by_cases h0 : st = 0 <;> simp [h0]
set_option maxHeartbeats 400000 in
theorem missing_no (q g B : Nat) (xs : List Int) (w : World) (hm : Mem w B q g xs) (hl : xs.length ≤ 65536) :
    Calls Tryz.prog 42 #[.pointer (some ⟨q, 0, none⟩)] w fun e w' => e = .returned (.bool false) ∧ Below w.heap.size w w' := by
  have hR : Calls Tryz.prog 69 #[.pointer (some ⟨q, 0, none⟩), .int .i64 0, .int .i64 0] w fun e w' => ∃ k, e = .returned (.tuple #[.slice (some ⟨k, 0, none⟩) 0 0, .int .i64 0]) ∧ Own w' w.heap.size k 0 ((xs.drop 0).take 0) ∧ Below w.heap.size w w' := read_ok q g B 0 0 xs w hm (by omega) hl
  go_enter Tryz.func42, Tryz.ntmps42
  go_wp2_with (go_at_call 69; (with_reducible refine hR.mono ?_); rintro e w1 ⟨k, rfl, -, hb⟩)
  go_ret
  exact ⟨rfl, hb⟩

/-- a hart's state is turned -/
theorem hrA_st (id st pc : Int) (R : List Int) (vS vH : Value) (l : Nat) (st' : Int) : (hrA id st pc R vS vH l).setIfInBounds 1 (.int .u8 st') = hrA id st' pc R vS vH l := rfl
theorem hrA_pc (id st pc : Int) (R : List Int) (vS vH : Value) (l : Nat) (pc' : Int) : (hrA id st pc R vS vH l).setIfInBounds 2 (.int .u32 pc') = hrA id st pc' R vS vH l := rfl
theorem hrA_hv (id st pc : Int) (R : List Int) (vS vH : Value) (l : Nat) (v : Value) : (hrA id st pc R vS vH l).setIfInBounds 12 v = hrA id st pc R vS v l := rfl

set_option maxHeartbeats 800000 in
theorem hfault_any (h l : Nat) (id st pc e : Int) (R : List Int) (vS vH : Value) (w : World) (hB : Blk w h 56 (hrA id st pc R vS vH l)) (hpc : 0 ≤ pc ∧ pc ≤ 4294967295) (he : 0 ≤ e ∧ e ≤ 4294967295) :
    Calls Tryz.prog 79 #[.pointer (some ⟨h, 0, none⟩), .int .i64 e] w fun E w' => ∃ g, E = .returned (.slice (some ⟨g, 0, none⟩) 1 1) ∧ EOwn 41 w' w.heap.size (.slice (some ⟨g, 0, none⟩) 1 1) [⟨4, id, pc, 0, e⟩] ∧ Blk w' h 56 (hrA id 2 pc R vS vH l) ∧ Keeps (fun j => j = h) w w' := by
  have z : w.frozen? ⟨h, 1, none⟩ = false := hB.free 1
  have c1 : w.cell? ⟨h, 1, none⟩ = some (.int .u8 st) := hB.cell 1
  have HB2 : Hid (Blk (w.setCell ⟨h, 1, none⟩ (.int .u8 2)) h 56 (hrA id 2 pc R vS vH l)) := hB.set 1 (.int .u8 2)
  have HK := Hid.in ((Keeps.refl (fun j => j = h) w).setCell h 1 (.int .u8 2) (.inl rfl))
  have e1 : e % 4294967296 = e := by omega
  clear hB
  go_enter Tryz.func79, Tryz.ntmps79
  go_upto_region 2 with fail
  generalize w.setCell ⟨h, 1, none⟩ (.int .u8 2) = w1 at *
  have d0 : w1.cell? ⟨h, 0, none⟩ = some (.int .i64 id) := HB2.out.cell 0
  have d2 : w1.cell? ⟨h, 2, none⟩ = some (.int .u32 pc) := HB2.out.cell 2
  have hE := event_any h id 4 pc e w1 d0 hpc he
  go_wp2_with (go_at_call 80; refine Hid.out ?_)
  refine Lib.hid ?_
  (with_reducible refine hE.mono ?_)
  rintro E w2 ⟨rfl, hb2⟩
  have HS := Hid.in (Nat.le_trans HK.out.size hb2.size)
  have HB3 := Hid.in ((HB2.out.grow hb2).grow (new_alloc w2 (.cells (evA ⟨4, id, pc, 0, e⟩) 41)))
  have HK3 : Hid (Keeps (fun j => j = h) w (w2.alloc (.cells (evA ⟨4, id, pc, 0, e⟩) 41))) := (HK.out.grown (row := none) ⟨hb2.os, hb2.tape, hb2.output, hb2.size, fun k hk _ => hb2.block k hk⟩ (fun _ e => by cases e)).alloc _
  have HO3 := Hid.in ((EOwn.one w2 ⟨4, id, pc, 0, e⟩).lower HS.out)
  clear hE hb2
  simp only [evA] at HB3 HK3 HO3 ⊢
  go_wp2_with fail
  go_ret
  exact ⟨_, rfl, HO3.out, HB3.out, HK3.out⟩

end Go.Proofs.YtnpaijbkhmnfpaaGreat

/- A trap that is asked; what a breakpoint leads to. -/
namespace Go.Proofs.YtnpaijbkhmnfpaaGreat
open Go.RowKit Go.Maps

set_option maxHeartbeats 400000 in
theorem told_yes (c : Nat) (to_ a : Int) (w : World) (hc : w.cell? ⟨c, 0, none⟩ = some (.int .i32 to_)) (h0 : 0 ≤ to_) (h1 : to_ ≤ 2147483647) :
    Calls Tryz.prog 46 #[.int .u32 a, .pointer (some ⟨c, 0, none⟩)] w fun e w' => e = .returned (.tuple #[.int .u32 to_, .bool true]) ∧ w' = w := by
  have e1 : to_ % 4294967296 = to_ := by omega
  have g0 : decide (to_ < 0) = false := decide_eq_false (by omega)
  go_enter Tryz.func46, Tryz.ntmps46
  go_wp2
  go_ret2
  exact ⟨rfl, rfl⟩
set_option maxHeartbeats 400000 in
theorem told_no (c : Nat) (to_ a : Int) (w : World) (hc : w.cell? ⟨c, 0, none⟩ = some (.int .i32 to_)) (h0 : to_ < 0) :
    Calls Tryz.prog 46 #[.int .u32 a, .pointer (some ⟨c, 0, none⟩)] w fun e w' => e = .returned (.tuple #[.int .u32 0, .bool false]) ∧ w' = w := by
  have g0 : decide (to_ < 0) = true := decide_eq_true h0
  go_enter Tryz.func46, Tryz.ntmps46
  go_wp2
  go_ret2
  exact ⟨rfl, rfl⟩
theorem catch_idle (p q : Addr) (w : World) :
    CallsD Tryz.prog 130 #[.pointer (some p), .pointer (some q)] .returning w fun e u' w' => e = .returned (.tuple #[]) ∧ u' = .returning ∧ w' = w := by
  refine callsD_of_wpS Tryz.func130 rfl fun c₀ cs hu => ?_
  apply wpS_seq
  apply wpS_region
  simp [wpOpsS, go_sem, recoverD, hu, Tryz.ntmps130, Exit.thenS]
  refine wpS_cond (t := false) (by simp [Act.eval, Array.replicate]) ?_
  simp only [Bool.false_eq_true, if_false]
  refine wpS_of_wp (wp_skip ?_)
  cases c₀
  simp_all [bodyPostS, results, Tryz.results130]

theorem eql_nilF (w : World) : (binOp .eql 36 .nilFunc .nilFunc).run Tryz.prog w = .ok (.bool true) w := by kernel_rfl
theorem eql_func (f : Fn) (x y : Array Value) (w : World) : (binOp .eql 36 (.func f x y) .nilFunc).run Tryz.prog w = .ok (.bool false) w := by kernel_rfl

set_option maxRecDepth 100000 in
set_option maxHeartbeats 1600000 in
theorem ask_nil (a : Int) (w : World) :
    Calls Tryz.prog 114 #[.nilFunc, .int .u32 a] w fun e w' => e = .returned (.tuple #[.int .u32 0, .bool false]) ∧ Below w.heap.size w w' := by
  have hq := eql_nilF
  go_enter_defers Tryz.func114, Tryz.ntmps114
  go_wp2
  simp [Leaves, results, Tryz.results114, go_sem, bodyPostD]
  exact below_alloc (new_alloc w _) _
set_option maxRecDepth 100000 in
set_option maxHeartbeats 1600000 in
theorem ask_yes (c : Nat) (to_ a : Int) (w : World) (hc : w.cell? ⟨c, 0, none⟩ = some (.int .i32 to_)) (h0 : 0 ≤ to_) (h1 : to_ ≤ 2147483647) :
    Calls Tryz.prog 114 #[.func (.func 46) #[] #[.pointer (some ⟨c, 0, none⟩)], .int .u32 a] w fun e w' => e = .returned (.tuple #[.int .u32 to_, .bool true]) ∧ Below w.heap.size w w' := by
  have hmf : ∀ (fn : Fn) (first cap : Array Value) (w : World), (Instr.makeFunc fn first cap).run Tryz.prog w = .ok (.func fn first cap) w := fun _ _ _ _ => rfl
  have hq := fun x y => eql_func (.func 46) x y
  have hT := told_yes c to_ a ((w.alloc (.cells #[.int .u32 0] 31)).alloc (.cells #[.bool false] 4)) (by rw [(below_alloc (new_alloc w _) _).cell (p := ⟨c, 0, none⟩) (cell_lt hc)]; exact hc) h0 h1
  go_enter_defers Tryz.func114, Tryz.ntmps114
  go_wp2_with (go_at_call 46; (with_reducible refine hT.mono ?_); rintro e w1 ⟨rfl, rfl⟩)
  refine leaves_cons (f := 130) (args := #[.pointer (some ⟨w.heap.size, 0, none⟩), .pointer (some ⟨w.heap.size + 1, 0, none⟩)]) (by simp) (by simp [go_sem]) ?_
  refine (catch_idle ⟨w.heap.size, 0, none⟩ ⟨w.heap.size + 1, 0, none⟩ _).mono ?_
  rintro e u' w'' ⟨rfl, rfl, rfl⟩
  simp [Leaves, settle, results, Tryz.results114, go_sem]
  exact below_alloc (new_alloc w _) _
set_option maxRecDepth 100000 in
set_option maxHeartbeats 1600000 in
theorem ask_no (c : Nat) (to_ a : Int) (w : World) (hc : w.cell? ⟨c, 0, none⟩ = some (.int .i32 to_)) (h0 : to_ < 0) :
    Calls Tryz.prog 114 #[.func (.func 46) #[] #[.pointer (some ⟨c, 0, none⟩)], .int .u32 a] w fun e w' => e = .returned (.tuple #[.int .u32 0, .bool false]) ∧ Below w.heap.size w w' := by
  have hmf : ∀ (fn : Fn) (first cap : Array Value) (w : World), (Instr.makeFunc fn first cap).run Tryz.prog w = .ok (.func fn first cap) w := fun _ _ _ _ => rfl
  have hq := fun x y => eql_func (.func 46) x y
  have hT := told_no c to_ a ((w.alloc (.cells #[.int .u32 0] 31)).alloc (.cells #[.bool false] 4)) (by rw [(below_alloc (new_alloc w _) _).cell (p := ⟨c, 0, none⟩) (cell_lt hc)]; exact hc) h0
  go_enter_defers Tryz.func114, Tryz.ntmps114
  go_wp2_with (go_at_call 46; (with_reducible refine hT.mono ?_); rintro e w1 ⟨rfl, rfl⟩)
  refine leaves_cons (f := 130) (args := #[.pointer (some ⟨w.heap.size, 0, none⟩), .pointer (some ⟨w.heap.size + 1, 0, none⟩)]) (by simp) (by simp [go_sem]) ?_
  refine (catch_idle ⟨w.heap.size, 0, none⟩ ⟨w.heap.size + 1, 0, none⟩ _).mono ?_
  rintro e u' w'' ⟨rfl, rfl, rfl⟩
  simp [Leaves, settle, results, Tryz.results114, go_sem]
  exact below_alloc (new_alloc w _) _

/-- a trap: none, or one that tells the same of each place -/
def TrV (w : World) (v : Value) (tr : Option Nat) : Prop :=
  (v = .nilFunc ∧ tr = none) ∨ ∃ (c : Nat) (to_ : Int), v = .func (.func 46) #[] #[.pointer (some ⟨c, 0, none⟩)] ∧ w.cell? ⟨c, 0, none⟩ = some (.int .i32 to_) ∧ to_ ≤ 2147483647 ∧ tr = if to_ < 0 then none else some to_.toNat
theorem TrV.below {w w' : World} {v : Value} {tr : Option Nat} (h : TrV w v tr) (hb : Below w.heap.size w w') : TrV w' v tr := by
  rcases h with h | ⟨c, t, h1, h2, h3⟩
  · exact .inl h
  · exact .inr ⟨c, t, h1, by rw [hb.cell (p := ⟨c, 0, none⟩) (cell_lt h2)]; exact h2, h3⟩
theorem ask_none {v : Value} (a : Int) (w : World) (h : TrV w v none) : Calls Tryz.prog 114 #[v, .int .u32 a] w fun e w' => e = .returned (.tuple #[.int .u32 0, .bool false]) ∧ Below w.heap.size w w' := by
  rcases h with ⟨rfl, -⟩ | ⟨c, t, rfl, h2, h3, h4⟩
  · exact ask_nil a w
  · by_cases h0 : t < 0
    · exact ask_no c t a w h2 h0
    · rw [if_neg h0] at h4; cases h4
theorem ask_some {v : Value} (a : Int) (z : Nat) (w : World) (h : TrV w v (some z)) : (Calls Tryz.prog 114 #[v, .int .u32 a] w fun e w' => e = .returned (.tuple #[.int .u32 z, .bool true]) ∧ Below w.heap.size w w') ∧ z ≤ 2147483647 := by
  rcases h with ⟨rfl, h⟩ | ⟨c, t, rfl, h2, h3, h4⟩
  · cases h
  · by_cases h0 : t < 0
    · rw [if_pos h0] at h4; cases h4
    · rw [if_neg h0] at h4
      injection h4 with h4
      subst h4
      have e : ((t.toNat : Nat) : Int) = t := by omega
      rw [e]
      exact ⟨ask_yes c t a w h2 (by omega) h3, by omega⟩

theorem EOwn.kept {T : TypeId} {w w' : World} {B h : Nat} {v : Value} {L : List Ev} (h0 : EOwn T w B v L) (hg : w.grownBy w' (some h)) (hh : h < B) : EOwn T w' B v L := by
  refine ⟨h0.1, h0.2.imp id ?_⟩
  rintro ⟨g, cap, cur, e1, e2, e3, e4⟩
  exact ⟨g, cap, cur, e1, e2, (hg.block g (Array.getElem?_eq_some_iff.1 e3).1 (fun e => by injection e with e; omega)).trans e3, e4⟩

set_option maxHeartbeats 800000 in
theorem follow_none (h l : Nat) (id st pc : Int) (R : List Int) (vS vH v : Value) (w : World) (hB : Blk w h 56 (hrA id st pc R vS vH l)) (hpc : 0 ≤ pc ∧ pc ≤ 4294967295) (ht : TrV w v none) :
    Calls Tryz.prog 81 #[.pointer (some ⟨h, 0, none⟩), v] w fun E w' => ∃ g, E = .returned (.slice (some ⟨g, 0, none⟩) 1 1) ∧ EOwn 41 w' w.heap.size (.slice (some ⟨g, 0, none⟩) 1 1) [⟨4, id, pc, 0, 120⟩] ∧ Blk w' h 56 (hrA id 2 pc R vS vH l) ∧ Keeps (fun j => j = h) w w' := by
  have c2 : w.cell? ⟨h, 2, none⟩ = some (.int .u32 pc) := hB.cell 2
  have hA1 := ask_none pc w ht
  have HF := fun W (hb : Below w.heap.size w W) => hfault_any h l id st pc 120 R vS vH W (hB.grow hb) hpc (by decide)
  clear hB
  go_enter Tryz.func81, Tryz.ntmps81
  go_wp2_with (go_at_call 114; refine Hid.out ?_)
  refine Lib.hid ?_
  (with_reducible refine hA1.mono ?_)
  rintro e w1 ⟨rfl, hb1⟩
  have hF := HF w1 hb1
  have HB1 := Hid.in hb1
  clear HF hA1 hb1
  go_wp2_with (go_at_call 79; refine Hid.out ?_)
  refine Lib.hid ?_
  (with_reducible refine hF.mono ?_)
  rintro e w2 ⟨g, rfl, ho, hb, hk⟩
  have HK : Hid (Keeps (fun j => j = h) w w2) := (Keeps.ofBelow HB1.out).trans' hk
  have HO := Hid.in (ho.lower HB1.out.size)
  have HBB := Hid.in hb
  clear ho hb hk hF
  go_wp2_with fail
  go_ret
  exact ⟨g, rfl, HO.out, HBB.out, HK.out⟩

set_option maxHeartbeats 800000 in
theorem follow_some (h l z : Nat) (id st pc : Int) (R : List Int) (vS vH v : Value) (w : World) (hB : Blk w h 56 (hrA id st pc R vS vH l)) (hpc : 0 ≤ pc ∧ pc ≤ 4294967295) (ht : TrV w v (some z)) :
    Calls Tryz.prog 81 #[.pointer (some ⟨h, 0, none⟩), v] w fun E w' => ∃ g, E = .returned (.slice (some ⟨g, 0, none⟩) 1 1) ∧ EOwn 41 w' w.heap.size (.slice (some ⟨g, 0, none⟩) 1 1) [⟨3, id, pc, 0, z⟩] ∧ Blk w' h 56 (hrA id st z R vS vH l) ∧ Keeps (fun j => j = h) w w' := by
  have c2 : w.cell? ⟨h, 2, none⟩ = some (.int .u32 pc) := hB.cell 2
  obtain ⟨hA1, hz⟩ := ask_some pc z w ht
  have HB := Hid.in hB
  clear hB
  go_enter Tryz.func81, Tryz.ntmps81
  go_wp2_with (go_at_call 114; refine Hid.out ?_)
  refine Lib.hid ?_
  (with_reducible refine hA1.mono ?_)
  rintro e w1 ⟨rfl, hb1⟩
  have HB1 := Hid.in hb1
  have HH1 := Hid.in (HB.out.grow hb1)
  clear hA1 hb1
  have d0 : w1.cell? ⟨h, 0, none⟩ = some (.int .i64 id) := HH1.out.cell 0
  have d2 : w1.cell? ⟨h, 2, none⟩ = some (.int .u32 pc) := HH1.out.cell 2
  have hE := event_any h id 3 pc z w1 d0 hpc (by omega)
  go_wp2_with (go_at_call 80; refine Hid.out ?_)
  refine Lib.hid ?_
  (with_reducible refine hE.mono ?_)
  rintro e w2 ⟨rfl, hb2⟩
  have HB3 := Hid.in (below_alloc (below_step HB1.out hb2) (.cells (evA ⟨3, id, pc, 0, z⟩) 41))
  have HH3 := Hid.in ((HH1.out.grow hb2).grow (new_alloc w2 (.cells (evA ⟨3, id, pc, 0, z⟩) 41)))
  have HO3 := Hid.in ((EOwn.one w2 ⟨3, id, pc, 0, z⟩).lower (Nat.le_trans HB1.out.size hb2.size))
  have HLT : Hid (h < w.heap.size) := HB.out.lt
  clear hE hb2
  simp only [evA] at HB3 HH3 HO3 ⊢
  go_upto_region 5 with fail
  generalize w2.heap.size = g at *
  generalize w2.alloc (.cells #[.int .u8 3, .int .i64 0, .int .i64 id, .int .i64 pc, .int .u8 0, .int .i64 0, .int .i64 z] 41) = w3 at *
  have f2 : w3.cell? ⟨h, 2, none⟩ = some (.int .u32 pc) := HH3.out.cell 2
  have zz : w3.frozen? ⟨h, 2, none⟩ = false := HH3.out.free 2
  go_wp2_with fail
  go_ret
  exact ⟨g, rfl, HO3.out.kept (grown_setCell _ _ _ _) HLT.out, HH3.out.set 2 (.int .u32 z), (Keeps.ofBelow HB3.out).setCell h 2 (.int .u32 z) (.inl rfl)⟩
end Go.Proofs.YtnpaijbkhmnfpaaGreat

/- Lists of events: SameEvents, append. -/
namespace Go.Proofs.YtnpaijbkhmnfpaaGreat
open Go.RowKit Go.Maps

/-- a list of events in memory, whoever made it -/
def ERow (w : World) (p : Option Addr) (L : List Ev) : Prop :=
  0 < L.length → ∃ b o, p = some ⟨b, o, none⟩ ∧ ∀ i (hi : i < L.length) j, j < 7 → w.cell? ⟨b, o + i * 7 + j, none⟩ = (l7 L[i])[j]?
theorem ERow.below {w w' : World} {p : Option Addr} {L : List Ev} (h : ERow w p L) (hb : Below w.heap.size w w') : ERow w' p L := fun h0 => by
  obtain ⟨b, o, e, h1⟩ := h h0
  refine ⟨b, o, e, fun i hi j hj => ?_⟩
  have h2 := h1 i hi j hj
  obtain ⟨u, hu⟩ : ∃ u, (l7 L[i])[j]? = some u := ⟨_, List.getElem?_eq_getElem (show j < 7 from hj)⟩
  rw [hu] at h2 ⊢
  exact (hb.cell (p := ⟨b, o + i * 7 + j, none⟩) (cell_lt h2)).trans h2
theorem ERow.seven {w : World} {p : Option Addr} {L : List Ev} (h : ERow w p L) (h0 : 0 < L.length) : ∃ b o, p = some ⟨b, o, none⟩ ∧ ∀ i (hi : i < L.length), w.cell? ⟨b, o + i * 7, none⟩ = some (.int .u8 L[i].k) ∧ w.cell? ⟨b, o + i * 7 + 1, none⟩ = some (.int .i64 0) ∧ w.cell? ⟨b, o + i * 7 + 2, none⟩ = some (.int .i64 L[i].h) ∧ w.cell? ⟨b, o + i * 7 + 3, none⟩ = some (.int .i64 L[i].p) ∧ w.cell? ⟨b, o + i * 7 + 4, none⟩ = some (.int .u8 L[i].o) ∧ w.cell? ⟨b, o + i * 7 + 5, none⟩ = some (.int .i64 0) ∧ w.cell? ⟨b, o + i * 7 + 6, none⟩ = some (.int .i64 L[i].n) := by
  obtain ⟨b, o, e, hc⟩ := h h0
  exact ⟨b, o, e, fun i hi => ⟨hc i hi 0 (by omega), hc i hi 1 (by omega), hc i hi 2 (by omega), hc i hi 3 (by omega), hc i hi 4 (by omega), hc i hi 5 (by omega), hc i hi 6 (by omega)⟩⟩
theorem EOwn.row7 {T : TypeId} {w : World} {B : Nat} {v : Value} {L : List Ev} (h : EOwn T w B v L) : ∃ p cap, v = .slice p L.length cap ∧ L.length ≤ cap ∧ cap ≤ maxLen ∧ ERow w p L := by
  obtain ⟨p, cap, e, h1, h2, h3⟩ := h.shape
  refine ⟨p, cap, e, h1, h2, fun h0 => ?_⟩
  obtain ⟨g, e2, -, -, h4⟩ := h3 h0
  exact ⟨g, 0, e2, fun i hi j hj => by rw [Nat.zero_add]; exact h4 i hi j hj⟩

set_option maxHeartbeats 2000000 in
theorem sameEvents_self (p q : Option Addr) (n c d : Nat) (L : List Ev) (w : World) (hn : L.length = n) (hn6 : n ≤ 9223372036854775807) (h1 : ERow w p L) (h2 : ERow w q L) :
    Calls Tryz.prog 24 #[.slice p n c, .slice q n d] w fun e w' => e = .returned (.bool true) ∧ ∃ m, w' = w.drewN m := by
  have HN := Hid.in hn
  have HR := Hid.in h1
  have HQ := Hid.in h2
  clear hn h1 h2
  have g0 : (n != n) = false := by simp
  go_enter Tryz.func24, Tryz.ntmps24
  go_wp2_with fail
  go_loopw [5] (fun vi wr => ∃ j m : Nat, vi = .int .i64 j ∧ j ≤ n ∧ wr = w.drewN m) (fun vi _ => n - (intOf vi).toNat)
  case atStart => exact ⟨0, 0, rfl, Nat.zero_le _, rfl⟩
  case round =>
    obtain ⟨j, m, rfl, hj, rfl⟩ := hrel
    by_cases hlt : j < n
    · have hjL : j < L.length := by rw [HN.out]; exact hlt
      obtain ⟨b, o, rfl, hcc⟩ := HR.out.seven (by omega)
      obtain ⟨b', o', rfl, hcd⟩ := HQ.out.seven (by omega)
      obtain ⟨c0, c1, c2, c3, c4, c5, c6⟩ := hcc j hjL
      obtain ⟨d0, d1, d2, d3, d4, d5, d6⟩ := hcd j hjL
      clear hcc hcd
      generalize L[j] = x at *
      obtain ⟨xk, xh, xp, xo, xn⟩ := x
      dsimp only at *
      have g1 : (xk == xk) = true := by simp
      have g2 : (xh == xh) = true := by simp
      have g3 : (xp == xp) = true := by simp
      have g4 : (xo == xo) = true := by simp
      have g5 : (xn == xn) = true := by simp
      go_wp2_with fail
      go_quiet (fail)
      go_wp2_with fail
      go_roundw
      case rel => exact ⟨j + 1, _, by go_num, by omega, rfl⟩
      case measure => simp [intOf]; omega
    · go_wp2_with fail
      go_ret
      exact ⟨rfl, _, rfl⟩

theorem one7_all (M : List Ev) : ∀ u ∈ c7 M, u.oneCell' = true := fun u hu => by
  unfold c7 at hu
  rw [List.mem_flatMap] at hu
  obtain ⟨q, _, hq⟩ := hu
  exact one7_mem q u hq
/-- 'append(l, more...)', where there are more -/
theorem epushL {ops : Array Oper} {rest : List Oper} {o : Oper} {a : Act} {Q : Exit → Act → World → Prop} {t T : TypeId} {by_ : Nat} (he : Elem7 t T by_) (w : World) (hgd : o.guard = none) (s x : Operand)
    (ho : o.op = .call { callee := .builtin .append, args := #[s, x], argTypes := #[t, t] }) (B : Nat) (v : Value) (L M : List Ev) (hs : a.eval s = v) (hown : EOwn T w B v L)
    (p : Option Addr) (m c : Nat) (hm : M.length = m) (hx : a.eval x = .slice p m c) (h0 : 0 < M.length) (hrow : ERow w p M)
    (hlen : L.length ≤ 1048576) (hlm : M.length ≤ 1048576) (hby : by_ ≤ 100) (hB : B ≤ w.heap.size)
    (h : ∀ g cap w', EOwn T w' B (.slice (some ⟨g, 0, none⟩) (L ++ M).length cap) (L ++ M) → w.grownBy w' v.ownBlock → (v.ownBlock = some g ∨ g = w.heap.size) → g < w'.heap.size → wpList Tryz.prog ops Q rest (a.put o.dst (.slice (some ⟨g, 0, none⟩) (L ++ M).length cap)) w') :
    wpList Tryz.prog ops Q (o :: rest) a w := by
  subst hm
  obtain ⟨hu, z, hzc, hinfo⟩ := he
  obtain ⟨i0, hi, hz0, hz1, hz2⟩ := info_parts hinfo
  obtain ⟨b, o', rfl, hc⟩ := hrow h0
  have hnews : ∀ j u, (c7 M)[j]? = some u → w.cell? ((⟨b, o', none⟩ : Addr).add j) = some u := fun j u hj => by
    have hjl : j < M.length * 7 := by rw [← c7_len]; exact (List.getElem?_eq_some_iff.1 hj).1
    rw [Go.WideShapes.add_plain]
    have h1 := hc (j / 7) (by omega) (j % 7) (Nat.mod_lt _ (by decide))
    have h2 := c7_at M (j / 7) (by omega) (j % 7) (Nat.mod_lt _ (by decide))
    rw [show j / 7 * 7 + j % 7 = j by omega] at h2
    rw [show o' + j / 7 * 7 + j % 7 = o' + j by omega] at h1
    rw [← h2, hj] at h1
    exact h1
  refine wpList_append_lies w hgd s x t ho B T i0 z 7 by_ hu hi hz0 hz1 hz2 hzc (by decide) v L.length (c7 L) hs hown ⟨b, o', none⟩ M.length c (c7 M) hx (c7_len M) hnews (one7_all M) h0 (by unfold maxLen; omega) (Nat.le_trans (Nat.mul_le_mul (show L.length + M.length ≤ 2097152 by omega) hby) (by decide)) hB w.heap.size rfl ?_
  intro g cap w' h2 h3 h4 h5
  have := h g cap w' (by unfold EOwn; rw [List.length_append, c7_two]; exact h2) h3 h4 h5
  rwa [List.length_append] at this

end Go.Proofs.YtnpaijbkhmnfpaaGreat
