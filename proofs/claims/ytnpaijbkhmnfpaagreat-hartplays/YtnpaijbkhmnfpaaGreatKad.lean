/- Texts put together: W5, Gran, Eq4, RefN. -/
import Derived.Test.YtnpaijbkhmnfpaaGreatKaa
import Derived.Deep.AppendLies
import Derived.Test.YtnpaijbkhmnfpaaGreatKab
import Derived.Deep.RegionHeld3
import Derived.BigQuiet
import Derived.ChangeKeysEq

/- Rows of granules, as cache.All answers them: elements of five cells. -/
namespace Go.Proofs.YtnpaijbkhmnfpaaGreat
open Go.RowKit

def l5 (q : Ln) : List Value := [.int .i64 q.g, .int .u8 q.f.a, .int .u8 q.f.b, .int .u8 q.f.c, .int .u8 q.f.d]
/-- the cells of a list of such elements -/
def c5 (L : List Ln) : List Value := L.flatMap l5
theorem c5_len (L : List Ln) : (c5 L).length = L.length * 5 := by
  induction L with
  | nil => rfl
  | cons q L ih =>
    unfold c5 at *
    rw [List.flatMap_cons, List.length_append, ih, List.length_cons]
    have : (l5 q).length = 5 := rfl
    omega
theorem c5_two (L M : List Ln) : c5 (L ++ M) = c5 L ++ c5 M := by simp [c5]
theorem c5_at : ∀ (L : List Ln) (i : Nat) (h : i < L.length) (j : Nat), j < 5 → (c5 L)[i * 5 + j]? = (l5 L[i])[j]?
  | [], i, h, _, _ => absurd h (by simp)
  | q :: L, 0, _, j, hj => by
    unfold c5
    rw [List.flatMap_cons, Nat.zero_mul, Nat.zero_add, List.getElem?_append_left (by show j < 5; exact hj)]
    rfl
  | q :: L, i + 1, h, j, hj => by
    have h' : i < L.length := by simpa using h
    have ih := c5_at L i h' j hj
    unfold c5 at *
    have h5 : (l5 q).length = 5 := rfl
    rw [List.flatMap_cons, List.getElem?_append_right (by rw [h5]; omega), h5, show (i + 1) * 5 + j - 5 = i * 5 + j by omega, ih]
    rfl
/-- a list that the call has made, nil or not -/
def LOwn (T : TypeId) (w : World) (B : Nat) (v : Value) (L : List Ln) : Prop := w.ownsRow B T 5 v L.length (c5 L)
theorem LOwn.nil (T : TypeId) (w : World) (B : Nat) : LOwn T w B (.slice none 0 0) [] := World.ownsRow_nil _ _ _ _
theorem LOwn.below {T : TypeId} {w w' : World} {B : Nat} {v : Value} {L : List Ln} (h : LOwn T w B v L) (hb : Below w.heap.size w w') : LOwn T w' B v L := by
  obtain ⟨h0, h1⟩ := h
  refine ⟨h0, h1.imp id ?_⟩
  rintro ⟨g, cap, cur, e1, e2, e3, e4⟩
  exact ⟨g, cap, cur, e1, e2, (hb.block g (Array.getElem?_eq_some_iff.1 e3).1).trans e3, e4⟩
theorem LOwn.alloc {T : TypeId} {w : World} {B : Nat} {v : Value} {L : List Ln} (h : LOwn T w B v L) (o : Obj) : LOwn T (w.alloc o) B v L := h.below (new_alloc w o)
theorem LOwn.drewN {T : TypeId} {w : World} {B : Nat} {v : Value} {L : List Ln} (h : LOwn T w B v L) (n : Nat) : LOwn T (w.drewN n) B v L := h
theorem LOwn.shape {T : TypeId} {w : World} {B : Nat} {v : Value} {L : List Ln} (h : LOwn T w B v L) : ∃ p cap, v = .slice p L.length cap ∧ L.length ≤ cap ∧ cap ≤ maxLen ∧ (0 < L.length → ∃ g, p = some ⟨g, 0, none⟩ ∧ B ≤ g ∧ g < w.heap.size ∧ ∀ i (hi : i < L.length) j, j < 5 → w.cell? ⟨g, i * 5 + j, none⟩ = (l5 L[i])[j]?) := by
  rcases h.2 with ⟨e1, e2⟩ | ⟨g, cap, cur, e1, e2, e3, e4, e5, _⟩
  · exact ⟨none, 0, by rw [e1, e2], by omega, Nat.zero_le _, fun h0 => by omega⟩
  · refine ⟨_, cap, e1, e4, e5, fun _ => ⟨g, rfl, e2, (Array.getElem?_eq_some_iff.1 e3).1, fun i hi j hj => ?_⟩⟩
    have hr : w.ownsRow B T 5 v L.length (c5 L) := h
    rw [e1] at hr
    rw [hr.cellAt (i * 5 + j) (by omega), c5_at L i hi j hj]
def Elem5 (t T : TypeId) (by_ : Nat) : Prop := Tryz.prog.underlying t = some (.slice T) ∧ ∃ z, z.cells.size = 5 ∧ (Tryz.prog.info? T).map (fun i => (i.zero, i.size, i.bytes)) = some (some z, 5, by_)
theorem Tryz.elemLine : Elem5 48 94 16 := ⟨Tryz.underlying48, .agg #[.int .i64 0, .int .u8 0, .int .u8 0, .int .u8 0, .int .u8 0], rfl, by kernel_rfl⟩
theorem one5_mem (q : Ln) : ∀ u ∈ l5 q, u.oneCell' = true := by
  intro u hu
  simp only [l5, List.mem_cons, List.not_mem_nil, or_false] at hu
  rcases hu with rfl | rfl | rfl | rfl | rfl <;> rfl
theorem news5 (w : World) (q : Ln) (T : TypeId) : ∀ j u, (l5 q)[j]? = some u → (w.alloc (.cells #[.int .i64 q.g, .int .u8 q.f.a, .int .u8 q.f.b, .int .u8 q.f.c, .int .u8 q.f.d] T)).cell? ((⟨w.heap.size, 0, none⟩ : Addr).add j) = some u := by
  intro j u hj
  rw [Go.WideShapes.add_plain]
  match j, hj with
  | 0, hj => simpa [l5] using hj
  | 1, hj => simpa [l5] using hj
  | 2, hj => simpa [l5] using hj
  | 3, hj => simpa [l5] using hj
  | 4, hj => simpa [l5] using hj
  | j + 5, hj => simp [l5] at hj

/-- 'append(l, x)' -/
theorem lpush {ops : Array Oper} {rest : List Oper} {o : Oper} {a : Act} {Q : Exit → Act → World → Prop} {t T : TypeId} {by_ : Nat} (he : Elem5 t T by_) (w : World) (hgd : o.guard = none) (s x : Operand)
    (ho : o.op = .call { callee := .builtin .append, args := #[s, x], argTypes := #[t, t] }) (B : Nat) (v : Value) (L : List Ln) (hs : a.eval s = v) (hown : LOwn T w B v L)
    (ad : Addr) (c : Nat) (q : Ln) (hx : a.eval x = .slice (some ad) 1 c) (hnews : ∀ j u, (l5 q)[j]? = some u → w.cell? (ad.add j) = some u)
    (hlen : L.length ≤ 1048576) (hby : by_ ≤ 100) (hB : B ≤ w.heap.size)
    (h : ∀ v' w', LOwn T w' B v' (L ++ [q]) → w.grownBy w' v.ownBlock → (∀ w0, Below B w0 w → Below B w0 w') → wpList Tryz.prog ops Q rest (a.put o.dst v') w') :
    wpList Tryz.prog ops Q (o :: rest) a w := by
  obtain ⟨hu, z, hzc, hinfo⟩ := he
  obtain ⟨i0, hi, hz0, hz1, hz2⟩ := info_parts hinfo
  refine wpList_append_own w hgd s x t ho B T i0 z 5 by_ hu hi hz0 hz1 hz2 hzc (by decide) v L.length (c5 L) hs hown ad 1 c (l5 q) hx rfl hnews (one5_mem q) (by unfold maxLen; omega) (Nat.le_trans (Nat.mul_le_mul (show L.length + 1 ≤ 1048577 by omega) hby) (by decide)) hB ?_
  intro v' w' h2 h3 _
  refine h v' w' ?_ h3 (fun w0 hb => hb.grown h3 hB fun k hk => (World.ownsRow.lt hown k hk).1)
  unfold LOwn
  rw [List.length_append, c5_two]
  have e : c5 [q] = l5 q := by simp [c5]
  rw [e]
  exact h2
/-- .. in a region that draws -/
theorem step_lpush {ops : Array Oper} {o : Oper} {a : Act} {K : Act → World → Prop} {Q : Exit → Act → World → Prop} {E : Prop} {t T : TypeId} {by_ : Nat} (he : Elem5 t T by_) (w : World) (hgd : o.guard = none) (s x : Operand)
    (ho : o.op = .call { callee := .builtin .append, args := #[s, x], argTypes := #[t, t] }) (B : Nat) (v : Value) (L : List Ln) (hs : a.eval s = v) (hown : LOwn T w B v L)
    (ad : Addr) (c : Nat) (q : Ln) (hx : a.eval x = .slice (some ad) 1 c) (hnews : ∀ j u, (l5 q)[j]? = some u → w.cell? (ad.add j) = some u)
    (hlen : L.length ≤ 1048576) (hby : by_ ≤ 100) (hB : B ≤ w.heap.size)
    (h : ∀ g cap w', LOwn T w' B (.slice (some ⟨g, 0, none⟩) (L.length + 1) cap) (L ++ [q]) → w.grownBy w' v.ownBlock → (∀ w0, Below B w0 w → Below B w0 w') → K (a.put o.dst (.slice (some ⟨g, 0, none⟩) (L.length + 1) cap)) w') :
    if Region.wanted o (yielded ops a.tmps) = true then Oper.wp Tryz.prog o a w K Q else E := by
  obtain ⟨hu, z, hzc, hinfo⟩ := he
  obtain ⟨i0, hi, hz0, hz1, hz2⟩ := info_parts hinfo
  refine step_append_lies w hgd s x t ho B T i0 z 5 by_ hu hi hz0 hz1 hz2 hzc (by decide) v L.length (c5 L) hs hown ad 1 c (l5 q) hx rfl hnews (one5_mem q) (by decide) (by unfold maxLen; omega) (Nat.le_trans (Nat.mul_le_mul (show L.length + 1 ≤ 1048577 by omega) hby) (by decide)) hB w.heap.size rfl ?_
  intro g cap w' h2 h3 _ _
  refine h g cap w' ?_ h3 (fun w0 hb => hb.grown h3 hB fun k hk => (World.ownsRow.lt hown k hk).1)
  unfold LOwn
  rw [List.length_append, c5_two]
  have e : c5 [q] = l5 q := by simp [c5]
  rw [e]
  exact h2

end Go.Proofs.YtnpaijbkhmnfpaaGreat

/- What memory's Granule answers, for every memory that a call has made. -/
namespace Go.Proofs.YtnpaijbkhmnfpaaGreat
open Go.RowKit

/-- four bytes as a value -/
def fourV (a b c d : Int) : Value := .agg #[.int .u8 a, .int .u8 b, .int .u8 c, .int .u8 d]
/-- what a granule holds -/
def granV (xs : List Int) (k : Nat) : Value := fourV (xs.getD (4 * k) 0) (xs.getD (4 * k + 1) 0) (xs.getD (4 * k + 2) 0) (xs.getD (4 * k + 3) 0)

set_option maxHeartbeats 400000 in
theorem gran_bad (q g B : Nat) (k : Int) (xs : List Int) (w : World) (hm : Mem w B q g xs) (h : k < 0 ∨ 16384 ≤ k) :
    Calls Tryz.prog 129 #[.pointer (some ⟨q, 0, none⟩), .int .i64 k] w fun e w' => e = .returned (.tuple #[fourV 0 0 0 0, .int .i64 2]) ∧ Below w.heap.size w w' := by
  have hc := none_no q _ (hm.below (new_alloc w (.cells #[.int .u8 0, .int .u8 0, .int .u8 0, .int .u8 0] 92))).c0
  clear hm
  rcases (by omega : k < 0 ∨ (0 ≤ k ∧ 16384 ≤ k)) with h | ⟨h', h⟩
  · have g0 : decide (k < 0) = true := by simpa using h
    go_enter Tryz.func129, Tryz.ntmps129
    go_wp2_with (go_at_call 61; refine hc.mono ?_; rintro e w1 ⟨rfl, rfl⟩)
    exact bodyPost_ret (v := .tuple #[fourV 0 0 0 0, .int .i64 2]) (by simp [results, Tryz.results129, go_sem, fourV]) rfl ⟨rfl, new_alloc _ _⟩
  · have g0 : decide (k < 0) = false := by simpa using h'
    have g1 : decide (16384 ≤ k) = true := by simpa using h
    go_enter Tryz.func129, Tryz.ntmps129
    go_wp2_with (go_at_call 61; refine hc.mono ?_; rintro e w1 ⟨rfl, rfl⟩)
    exact bodyPost_ret (v := .tuple #[fourV 0 0 0 0, .int .i64 2]) (by simp [results, Tryz.results129, go_sem, fourV]) rfl ⟨rfl, new_alloc _ _⟩

def zero4 : List Value := [.int .u8 0, .int .u8 0, .int .u8 0, .int .u8 0]

theorem splice_four (xs : List Int) (m : Nat) : splice zero4 0 (byts ((xs.drop m).take 4)) = [.int .u8 (xs.getD m 0), .int .u8 (xs.getD (m + 1) 0), .int .u8 (xs.getD (m + 2) 0), .int .u8 (xs.getD (m + 3) 0)] := by
  have e : ∀ i, xs.getD (m + i) 0 = (xs.drop m).getD i 0 := fun i => by simp [List.getD, List.getElem?_drop]
  have e0 := e 0
  rw [Nat.add_zero] at e0
  rw [e0, e 1, e 2, e 3]
  generalize xs.drop m = ys
  rcases ys with _ | ⟨a, _ | ⟨b, _ | ⟨c, _ | ⟨d, ys⟩⟩⟩⟩ <;> simp [splice, zero4, byts]

set_option maxHeartbeats 1000000 in
theorem gran_in (q g B k : Nat) (xs : List Int) (w : World) (hm : Mem w B q g xs) (h : k < 16384) (hin : 4 * k < xs.length) :
    Calls Tryz.prog 129 #[.pointer (some ⟨q, 0, none⟩), .int .i64 k] w fun e w' => e = .returned (.tuple #[granV xs k, .int .i64 0]) ∧ Below w.heap.size w w' := by
  have hm1 := hm.below (new_alloc w (.cells #[.int .u8 0, .int .u8 0, .int .u8 0, .int .u8 0] 92))
  have hc := none_no q _ hm1.c0
  have hm2 := hm1.below (new_alloc _ (.cells #[.int .u8 0, .int .u8 0, .int .u8 0, .int .u8 0] 92))
  have c2 := hm2.c1
  have hs0 := new_alloc w (.cells #[.int .u8 0, .int .u8 0, .int .u8 0, .int .u8 0] 92)
  have HB := Hid.in (below_alloc hs0 (.cells #[.int .u8 0, .int .u8 0, .int .u8 0, .int .u8 0] 92))
  have HZ := Hid.in (heap_alloc_new (w.alloc (.cells #[.int .u8 0, .int .u8 0, .int .u8 0, .int .u8 0] 92)) (.cells #[.int .u8 0, .int .u8 0, .int .u8 0, .int .u8 0] 92))
  rw [size_one] at HZ
  have HZ0 : Hid (((w.alloc (.cells #[.int .u8 0, .int .u8 0, .int .u8 0, .int .u8 0] 92)).alloc (.cells #[.int .u8 0, .int .u8 0, .int .u8 0, .int .u8 0] 92)).heap[w.heap.size]? = some (.cells #[.int .u8 0, .int .u8 0, .int .u8 0, .int .u8 0] 92)) := (by
    have := (new_alloc (w.alloc (.cells #[.int .u8 0, .int .u8 0, .int .u8 0, .int .u8 0] 92)) (.cells #[.int .u8 0, .int .u8 0, .int .u8 0, .int .u8 0] 92)).block w.heap.size (by rw [size_one]; omega)
    exact this.trans (heap_alloc_new _ _))
  have g0 : decide ((k : Int) < 0) = false := decide_eq_false (by omega)
  have g1 : decide (16384 ≤ (k : Int)) = false := decide_eq_false (by omega)
  have hwr : IntKind.i64.wrap (4 * (k : Int)) = ((4 * k : Nat) : Int) := by rw [IntKind.wrap_i64]; omega
  have HR := Hid.in (hm2.own.row.cut (4 * k) (min 4 (xs.length - 4 * k)) (by omega))
  clear hm1 hm hs0 hm2
  unfold granV
  obtain ⟨m, hmk⟩ : ∃ m, m = 4 * k := ⟨_, rfl⟩
  rw [← hmk] at hin hwr HR ⊢
  clear hmk
  obtain ⟨z0, E0⟩ : ∃ z, xs.getD m 0 = z := ⟨_, rfl⟩
  obtain ⟨z1, E1⟩ : ∃ z, xs.getD (m + 1) 0 = z := ⟨_, rfl⟩
  obtain ⟨z2, E2⟩ : ∃ z, xs.getD (m + 2) 0 = z := ⟨_, rfl⟩
  obtain ⟨z3, E3⟩ : ∃ z, xs.getD (m + 3) 0 = z := ⟨_, rfl⟩
  rw [E0, E1, E2, E3]
  have hsp := splice_four xs m
  rw [E0, E1, E2, E3] at hsp
  have HSP := Hid.in hsp
  clear hsp E0 E1 E2 E3
  go_enter Tryz.func129, Tryz.ntmps129
  go_wp2_with (go_at_call 61; refine hc.mono ?_; rintro e w1 ⟨rfl, rfl⟩)
  generalize hw2 : (w.alloc (.cells #[.int .u8 0, .int .u8 0, .int .u8 0, .int .u8 0] 92)).alloc (.cells #[.int .u8 0, .int .u8 0, .int .u8 0, .int .u8 0] 92) = w2 at *
  clear hw2 hc
  have hnl : ¬ xs.length < m := by omega
  have hne : ¬ xs.length = m := by omega
  have hle : m ≤ xs.length := by omega
  have hcl : (byts ((xs.drop m).take 4)).length = Nat.min (xs.length - m) 4 := by simp [List.length_take, Nat.min_comm]
  have hsrc : ∀ j v, (byts ((xs.drop m).take 4))[j]? = some v → w2.cell? ((⟨g, m, none⟩ : Addr).add j) = some v := by
    intro j v hj
    have e : (xs.drop m).take (min 4 (xs.length - m)) = (xs.drop m).take 4 := by
      rw [← List.take_take, List.take_of_length_le (l := xs.drop m) (by simp)]
    have hr := HR.out
    rw [e, Nat.zero_add] at hr
    have hp : 0 < ((xs.drop m).take 4).length := by
      have := hcl
      rw [List.length_map] at this
      rw [this]
      exact Nat.lt_min.2 ⟨by omega, by omega⟩
    obtain ⟨ad, e1, h1⟩ := hr.src hp
    cases e1
    exact h1 j v hj
  clear HR
  go_region_law (refine step_copy_splice (by rfl) _ _ 26 26 (by rfl) 5 Tryz.underlying26 Tryz.size5 _ _ _ _ _ _ (by rfl) (by rfl) (w.heap.size + 1) 0 zero4 92 HZ.out (byts ((xs.drop m).take 4)) hcl (fun _ => ⟨rfl, ⟨g, m, none⟩, rfl, hsrc⟩) (by rw [hcl]; exact Nat.le_trans (by rw [Nat.zero_add]; exact Nat.min_le_right _ _) (Nat.le_refl 4)) (one_byts _) (w.heap.size + 1) w2 (below_drewN (Below.refl (w.heap.size + 1) w2) 1) (Nat.le_refl _) ?_; intro w3 HW3 HB3; rw [HSP.out] at HW3)
  all_goals
    have HZ3 := Hid.in ((HB3.block w.heap.size (by omega)).trans HZ0.out)
    have HBB := Hid.in (HB.out.trans (HB3.mono (by omega)))
    clear HZ HZ0 HB3 hsrc hcl HB
    have d0 : w3.cell? ⟨w.heap.size + 1, 0, none⟩ = some (.int .u8 z0) := by simp [World.cell?, HW3.out]
    have d1 : w3.cell? ⟨w.heap.size + 1, 1, none⟩ = some (.int .u8 z1) := by simp [World.cell?, HW3.out]
    have d2 : w3.cell? ⟨w.heap.size + 1, 2, none⟩ = some (.int .u8 z2) := by simp [World.cell?, HW3.out]
    have d3 : w3.cell? ⟨w.heap.size + 1, 3, none⟩ = some (.int .u8 z3) := by simp [World.cell?, HW3.out]
    have f0 : w3.frozen? ⟨w.heap.size, 0, none⟩ = false := frozen_of_row w3 _ 0 _ 92 HZ3.out
    have f1 : w3.frozen? ⟨w.heap.size, 1, none⟩ = false := frozen_of_row w3 _ 1 _ 92 HZ3.out
    have f2 : w3.frozen? ⟨w.heap.size, 2, none⟩ = false := frozen_of_row w3 _ 2 _ 92 HZ3.out
    have f3 : w3.frozen? ⟨w.heap.size, 3, none⟩ = false := frozen_of_row w3 _ 3 _ 92 HZ3.out
    have e0 : w3.cell? ⟨w.heap.size, 0, none⟩ = some (.int .u8 0) := by simp [World.cell?, HZ3.out]
    have e1 : w3.cell? ⟨w.heap.size, 1, none⟩ = some (.int .u8 0) := by simp [World.cell?, HZ3.out]
    have e2 : w3.cell? ⟨w.heap.size, 2, none⟩ = some (.int .u8 0) := by simp [World.cell?, HZ3.out]
    have e3 : w3.cell? ⟨w.heap.size, 3, none⟩ = some (.int .u8 0) := by simp [World.cell?, HZ3.out]
    go_wp2
    exact bodyPost_ret (v := .tuple #[fourV z0 z1 z2 z3, .int .i64 0]) (by simp [results, Tryz.results129, go_sem, fourV, e0, e1, e2, e3]) rfl ⟨rfl, (((HBB.out.setCell (Nat.le_refl _) _).setCell (Nat.le_refl _) _).setCell (Nat.le_refl _) _).setCell (Nat.le_refl _) _⟩

set_option maxHeartbeats 1000000 in
theorem gran_far (q g B k : Nat) (xs : List Int) (w : World) (hm : Mem w B q g xs) (h : k < 16384) (hin : xs.length ≤ 4 * k) :
    Calls Tryz.prog 129 #[.pointer (some ⟨q, 0, none⟩), .int .i64 k] w fun e w' => e = .returned (.tuple #[granV xs k, .int .i64 0]) ∧ Below w.heap.size w w' := by
  have hm1 := hm.below (new_alloc w (.cells #[.int .u8 0, .int .u8 0, .int .u8 0, .int .u8 0] 92))
  have hc := none_no q _ hm1.c0
  have hm2 := hm1.below (new_alloc _ (.cells #[.int .u8 0, .int .u8 0, .int .u8 0, .int .u8 0] 92))
  have c2 := hm2.c1
  have hs0 := new_alloc w (.cells #[.int .u8 0, .int .u8 0, .int .u8 0, .int .u8 0] 92)
  have HB := Hid.in (below_alloc hs0 (.cells #[.int .u8 0, .int .u8 0, .int .u8 0, .int .u8 0] 92))
  have HZ := Hid.in (heap_alloc_new (w.alloc (.cells #[.int .u8 0, .int .u8 0, .int .u8 0, .int .u8 0] 92)) (.cells #[.int .u8 0, .int .u8 0, .int .u8 0, .int .u8 0] 92))
  rw [size_one] at HZ
  have HZ0 : Hid (((w.alloc (.cells #[.int .u8 0, .int .u8 0, .int .u8 0, .int .u8 0] 92)).alloc (.cells #[.int .u8 0, .int .u8 0, .int .u8 0, .int .u8 0] 92)).heap[w.heap.size]? = some (.cells #[.int .u8 0, .int .u8 0, .int .u8 0, .int .u8 0] 92)) := (by
    have := (new_alloc (w.alloc (.cells #[.int .u8 0, .int .u8 0, .int .u8 0, .int .u8 0] 92)) (.cells #[.int .u8 0, .int .u8 0, .int .u8 0, .int .u8 0] 92)).block w.heap.size (by rw [size_one]; omega)
    exact this.trans (heap_alloc_new _ _))
  have g0 : decide ((k : Int) < 0) = false := decide_eq_false (by omega)
  have g1 : decide (16384 ≤ (k : Int)) = false := decide_eq_false (by omega)
  have hwr : IntKind.i64.wrap (4 * (k : Int)) = ((4 * k : Nat) : Int) := by rw [IntKind.wrap_i64]; omega
  clear hm1 hm hs0 hm2
  have hz : granV xs k = fourV 0 0 0 0 := by
    simp [granV, List.getD, List.getElem?_eq_none (show xs.length ≤ 4 * k by omega), List.getElem?_eq_none (show xs.length ≤ 4 * k + 1 by omega), List.getElem?_eq_none (show xs.length ≤ 4 * k + 2 by omega), List.getElem?_eq_none (show xs.length ≤ 4 * k + 3 by omega)]
  rw [hz]
  clear hz
  obtain ⟨m, hmk⟩ : ∃ m, m = 4 * k := ⟨_, rfl⟩
  rw [← hmk] at hin hwr
  clear hmk
  obtain ⟨l, hlk⟩ : ∃ l, l = xs.length := ⟨_, rfl⟩
  rw [← hlk] at hin c2
  clear hlk
  go_enter Tryz.func129, Tryz.ntmps129
  go_wp2_with (go_at_call 61; refine hc.mono ?_; rintro e w1 ⟨rfl, rfl⟩)
  generalize hw2 : (w.alloc (.cells #[.int .u8 0, .int .u8 0, .int .u8 0, .int .u8 0] 92)).alloc (.cells #[.int .u8 0, .int .u8 0, .int .u8 0, .int .u8 0] 92) = w2 at *
  clear hw2 hc
  rcases (by omega : l < m ∨ l = m) with hnl | hnl
  · have hne : ¬ m ≤ l := by omega
    go_region_law (refine step_copy_splice (by rfl) _ _ 26 26 (by rfl) 5 Tryz.underlying26 Tryz.size5 _ _ _ _ _ _ (by rfl) (by rfl) (w.heap.size + 1) 0 zero4 92 HZ.out [] (by simp) (fun h => absurd h (Nat.lt_irrefl 0)) (by simp) (fun _ h => by cases h) (w.heap.size + 1) w2 (below_drewN (Below.refl (w.heap.size + 1) w2) 1) (Nat.le_refl _) ?_; intro w3 HW3 HB3; rw [show splice zero4 0 [] = zero4 from rfl, zero4] at HW3)
    all_goals
      have HZ3 := Hid.in ((HB3.block w.heap.size (by omega)).trans HZ0.out)
      have HBB := Hid.in (HB.out.trans (HB3.mono (by omega)))
      clear HZ HZ0 HB3 HB
      have d0 : w3.cell? ⟨w.heap.size + 1, 0, none⟩ = some (.int .u8 0) := by simp [World.cell?, HW3.out]
      have d1 : w3.cell? ⟨w.heap.size + 1, 1, none⟩ = some (.int .u8 0) := by simp [World.cell?, HW3.out]
      have d2 : w3.cell? ⟨w.heap.size + 1, 2, none⟩ = some (.int .u8 0) := by simp [World.cell?, HW3.out]
      have d3 : w3.cell? ⟨w.heap.size + 1, 3, none⟩ = some (.int .u8 0) := by simp [World.cell?, HW3.out]
      have f0 : w3.frozen? ⟨w.heap.size, 0, none⟩ = false := frozen_of_row w3 _ 0 _ 92 HZ3.out
      have f1 : w3.frozen? ⟨w.heap.size, 1, none⟩ = false := frozen_of_row w3 _ 1 _ 92 HZ3.out
      have f2 : w3.frozen? ⟨w.heap.size, 2, none⟩ = false := frozen_of_row w3 _ 2 _ 92 HZ3.out
      have f3 : w3.frozen? ⟨w.heap.size, 3, none⟩ = false := frozen_of_row w3 _ 3 _ 92 HZ3.out
      have e0 : w3.cell? ⟨w.heap.size, 0, none⟩ = some (.int .u8 0) := by simp [World.cell?, HZ3.out]
      have e1 : w3.cell? ⟨w.heap.size, 1, none⟩ = some (.int .u8 0) := by simp [World.cell?, HZ3.out]
      have e2 : w3.cell? ⟨w.heap.size, 2, none⟩ = some (.int .u8 0) := by simp [World.cell?, HZ3.out]
      have e3 : w3.cell? ⟨w.heap.size, 3, none⟩ = some (.int .u8 0) := by simp [World.cell?, HZ3.out]
      go_wp2
      exact bodyPost_ret (v := .tuple #[fourV 0 0 0 0, .int .i64 0]) (by simp [results, Tryz.results129, go_sem, fourV, e0, e1, e2, e3]) rfl ⟨rfl, (((HBB.out.setCell (Nat.le_refl _) _).setCell (Nat.le_refl _) _).setCell (Nat.le_refl _) _).setCell (Nat.le_refl _) _⟩
  · subst hnl
    go_region_law (refine step_copy_splice (by rfl) _ _ 26 26 (by rfl) 5 Tryz.underlying26 Tryz.size5 _ _ _ _ _ _ (by rfl) (by rfl) (w.heap.size + 1) 0 zero4 92 HZ.out [] (by simp) (fun h => absurd h (Nat.lt_irrefl 0)) (by simp) (fun _ h => by cases h) (w.heap.size + 1) w2 (below_drewN (Below.refl (w.heap.size + 1) w2) 1) (Nat.le_refl _) ?_; intro w3 HW3 HB3; rw [show splice zero4 0 [] = zero4 from rfl, zero4] at HW3)
    all_goals
      have HZ3 := Hid.in ((HB3.block w.heap.size (by omega)).trans HZ0.out)
      have HBB := Hid.in (HB.out.trans (HB3.mono (by omega)))
      clear HZ HZ0 HB3 HB
      have d0 : w3.cell? ⟨w.heap.size + 1, 0, none⟩ = some (.int .u8 0) := by simp [World.cell?, HW3.out]
      have d1 : w3.cell? ⟨w.heap.size + 1, 1, none⟩ = some (.int .u8 0) := by simp [World.cell?, HW3.out]
      have d2 : w3.cell? ⟨w.heap.size + 1, 2, none⟩ = some (.int .u8 0) := by simp [World.cell?, HW3.out]
      have d3 : w3.cell? ⟨w.heap.size + 1, 3, none⟩ = some (.int .u8 0) := by simp [World.cell?, HW3.out]
      have f0 : w3.frozen? ⟨w.heap.size, 0, none⟩ = false := frozen_of_row w3 _ 0 _ 92 HZ3.out
      have f1 : w3.frozen? ⟨w.heap.size, 1, none⟩ = false := frozen_of_row w3 _ 1 _ 92 HZ3.out
      have f2 : w3.frozen? ⟨w.heap.size, 2, none⟩ = false := frozen_of_row w3 _ 2 _ 92 HZ3.out
      have f3 : w3.frozen? ⟨w.heap.size, 3, none⟩ = false := frozen_of_row w3 _ 3 _ 92 HZ3.out
      have e0 : w3.cell? ⟨w.heap.size, 0, none⟩ = some (.int .u8 0) := by simp [World.cell?, HZ3.out]
      have e1 : w3.cell? ⟨w.heap.size, 1, none⟩ = some (.int .u8 0) := by simp [World.cell?, HZ3.out]
      have e2 : w3.cell? ⟨w.heap.size, 2, none⟩ = some (.int .u8 0) := by simp [World.cell?, HZ3.out]
      have e3 : w3.cell? ⟨w.heap.size, 3, none⟩ = some (.int .u8 0) := by simp [World.cell?, HZ3.out]
      go_wp2
      exact bodyPost_ret (v := .tuple #[fourV 0 0 0 0, .int .i64 0]) (by simp [results, Tryz.results129, go_sem, fourV, e0, e1, e2, e3]) rfl ⟨rfl, (((HBB.out.setCell (Nat.le_refl _) _).setCell (Nat.le_refl _) _).setCell (Nat.le_refl _) _).setCell (Nat.le_refl _) _⟩

theorem gran_any (q g B k : Nat) (xs : List Int) (w : World) (hm : Mem w B q g xs) (h : k < 16384) :
    Calls Tryz.prog 129 #[.pointer (some ⟨q, 0, none⟩), .int .i64 k] w fun e w' => e = .returned (.tuple #[granV xs k, .int .i64 0]) ∧ Below w.heap.size w w' := by
  by_cases hin : 4 * k < xs.length
  · exact gran_in q g B k xs w hm h hin
  · exact gran_far q g B k xs w hm h (by omega)

end Go.Proofs.YtnpaijbkhmnfpaaGreat

/- Four bytes are the same as themselves. -/
namespace Go.Proofs.YtnpaijbkhmnfpaaGreat
open Go.RowKit

theorem Tryz.und92 : Tryz.prog.underlying 92 = some (.array 4 5) := by kernel_rfl
theorem Tryz.plain5 : Tryz.prog.plainKey 5 = true := by kernel_rfl

theorem Tryz.cells5' : Tryz.prog.cellsOf 5 = 1 := by kernel_rfl

theorem u8_wf {x : Int} (h : 0 ≤ x ∧ x ≤ 255) : (Lit.int .u8 x).wf = true := by
  have h1 : IntKind.u8.min = 0 := rfl
  have h2 : IntKind.u8.max = 255 := rfl
  simp only [Lit.wf, Bool.and_eq_true, decide_eq_true_eq]
  omega

theorem eq_four_self (a b c d : Int) (w : World) (ha : 0 ≤ a ∧ a ≤ 255) (hb : 0 ≤ b ∧ b ≤ 255) (hc : 0 ≤ c ∧ c ≤ 255) (hd : 0 ≤ d ∧ d ≤ 255) : (Op.equalIn 10000 92 (.agg #[.int .u8 a, .int .u8 b, .int .u8 c, .int .u8 d]) (.agg #[.int .u8 a, .int .u8 b, .int .u8 c, .int .u8 d])).run Tryz.prog w = .ok true w := by
  obtain ⟨i0, hi, hz0, hz1, hz2⟩ := info_parts Tryz.info5
  rw [run_equalIn_array (P := Tryz.prog) w 9999 (e := 5) (n := 4) _ _ Tryz.und92 hi]
  obtain ⟨r, h1, h2⟩ := run_eqItems_plain (P := Tryz.prog) w 9998 Tryz.plain5 #[.int .u8 a, .int .u8 b, .int .u8 c, .int .u8 d] #[.int .u8 a, .int .u8 b, .int .u8 c, .int .u8 d] (D := 1) (D' := 1) (List.range 4) [[.int .u8 a], [.int .u8 b], [.int .u8 c], [.int .u8 d]] [[.int .u8 a], [.int .u8 b], [.int .u8 c], [.int .u8 d]] (by simp [Tryz.cells5', List.range, List.range.loop, Program.keyLits, Tryz.underlying5, u8_wf ha, u8_wf hb, u8_wf hc, u8_wf hd]) (by simp [Tryz.cells5', List.range, List.range.loop, Program.keyLits, Tryz.underlying5, u8_wf ha, u8_wf hb, u8_wf hc, u8_wf hd])
  rw [h1, h2.2 rfl]

end Go.Proofs.YtnpaijbkhmnfpaaGreat

/- What switchyardref11.Write and Granule answer, for every slice of bytes. -/
namespace Go.Proofs.YtnpaijbkhmnfpaaGreat
open Go.RowKit

theorem putA_get (xs ys : List Int) (a i : Nat) (h : a + ys.length ≤ xs.length) (h1 : a ≤ i) (h2 : i - a < ys.length) : (putA xs a ys).getD i 0 = ys.getD (i - a) 0 := by
  have e : (xs.take a).length = a := by rw [List.length_take]; omega
  have e2 : (xs.take a ++ (ys ++ xs.drop (a + ys.length)))[i]? = ys[i - a]? := by
    rw [List.getElem?_append_right (by omega), e, List.getElem?_append_left h2]
  simp [putA, List.getD, e2]
theorem putA_not (xs ys : List Int) (a i : Nat) (h : a + ys.length ≤ xs.length) (hi : i < a ∨ a + ys.length ≤ i) : (putA xs a ys).getD i 0 = xs.getD i 0 := by
  have e : (xs.take a).length = a := by rw [List.length_take]; omega
  unfold putA
  rcases hi with hi | hi
  · simp [List.getD, List.getElem?_append_left (show i < (xs.take a).length by omega), hi]
  · have e2 : (xs.take a ++ (ys ++ xs.drop (a + ys.length)))[i]? = xs[i]? := by
      rw [List.getElem?_append_right (by omega), e, List.getElem?_append_right (by omega), List.getElem?_drop]
      congr 1
      omega
    simp [List.getD, e2]

/-- the first i of four bytes, noughts behind -/
def arrV (xs : List Int) (k i : Nat) : Array Value := ((List.range 4).map fun j => Value.int .u8 (if j < i then xs.getD (4 * k + j) 0 else 0)).toArray
theorem arrV_zero (xs : List Int) (k : Nat) : arrV xs k 0 = #[.int .u8 0, .int .u8 0, .int .u8 0, .int .u8 0] := rfl
theorem arrV_four (xs : List Int) (k : Nat) : arrV xs k 4 = #[.int .u8 (xs.getD (4 * k) 0), .int .u8 (xs.getD (4 * k + 1) 0), .int .u8 (xs.getD (4 * k + 2) 0), .int .u8 (xs.getD (4 * k + 3) 0)] := rfl
theorem arrV_set (xs : List Int) (k i : Nat) (hi : i < 4) : (arrV xs k i).setIfInBounds i (.int .u8 (xs.getD (4 * k + i) 0)) = arrV xs k (i + 1) := by
  rcases (by omega : i = 0 ∨ i = 1 ∨ i = 2 ∨ i = 3) with rfl | rfl | rfl | rfl <;> rfl
theorem arrV_same (xs : List Int) (k i : Nat) (h : xs.length ≤ 4 * k + i) : arrV xs k (i + 1) = arrV xs k i := by
  have e : ∀ j, ¬ j < i → xs.getD (4 * k + j) 0 = 0 := fun j hj => by simp [List.getD, List.getElem?_eq_none (show xs.length ≤ 4 * k + j by omega)]
  unfold arrV
  congr 1
  refine List.map_congr_left fun j _ => ?_
  by_cases h1 : j < i
  · rw [if_pos h1, if_pos (by omega)]
  · rw [if_neg h1]
    by_cases h2 : j < i + 1
    · rw [if_pos h2, e j h1]
    · rw [if_neg h2]
theorem arrV_cell (xs : List Int) (k i : Nat) (hi : i < 4) : (arrV xs k i)[i]? = some (.int .u8 0) := by
  rcases (by omega : i = 0 ∨ i = 1 ∨ i = 2 ∨ i = 3) with rfl | rfl | rfl | rfl <;> rfl

set_option maxHeartbeats 400000 in
theorem refGran_bad (p : Option Addr) (c l : Nat) (k : Int) (w : World) (h : k < 0 ∨ 16384 ≤ k) :
    Calls Tryz.prog 121 #[.slice p l c, .int .i64 k] w fun e w' => e = .returned (.tuple #[fourV 0 0 0 0, .int .i64 2]) ∧ Below w.heap.size w w' := by
  rcases (by omega : k < 0 ∨ (0 ≤ k ∧ 16384 ≤ k)) with h | ⟨h', h⟩
  · go_enter Tryz.func121, Tryz.ntmps121
    go_wp2
    exact bodyPost_ret (v := .tuple #[fourV 0 0 0 0, .int .i64 2]) (by simp [results, Tryz.results121, go_sem, fourV]) rfl ⟨rfl, below_alloc (new_alloc _ _) _⟩
  · go_enter Tryz.func121, Tryz.ntmps121
    go_wp2
    exact bodyPost_ret (v := .tuple #[fourV 0 0 0 0, .int .i64 2]) (by simp [results, Tryz.results121, go_sem, fourV]) rfl ⟨rfl, below_alloc (new_alloc _ _) _⟩

set_option maxHeartbeats 1000000 in
theorem refGran_any (p : Option Addr) (c k : Nat) (xs : List Int) (w : World) (hr : Row w p xs) (h : k < 16384) (hl : xs.length ≤ 65536) :
    Calls Tryz.prog 121 #[.slice p xs.length c, .int .i64 k] w fun e w' => e = .returned (.tuple #[granV xs k, .int .i64 0]) ∧ Below w.heap.size w w' := by
  have g0 : decide ((k : Int) < 0) = false := decide_eq_false (by omega)
  have g1 : decide (16384 ≤ (k : Int)) = false := decide_eq_false (by omega)
  have HR : Hid (∀ W, Below w.heap.size w W → Row W p xs) := fun W hW => hr.below hW
  clear hr
  obtain ⟨z0, E0⟩ : ∃ z, xs.getD (4 * k) 0 = z := ⟨_, rfl⟩
  obtain ⟨z1, E1⟩ : ∃ z, xs.getD (4 * k + 1) 0 = z := ⟨_, rfl⟩
  obtain ⟨z2, E2⟩ : ∃ z, xs.getD (4 * k + 2) 0 = z := ⟨_, rfl⟩
  obtain ⟨z3, E3⟩ : ∃ z, xs.getD (4 * k + 3) 0 = z := ⟨_, rfl⟩
  have H4 : Hid (arrV xs k 4 = #[.int .u8 z0, .int .u8 z1, .int .u8 z2, .int .u8 z3]) := by rw [← E0, ← E1, ← E2, ← E3]; exact arrV_four xs k
  rw [granV, E0, E1, E2, E3]
  clear E0 E1 E2 E3
  go_enter Tryz.func121, Tryz.ntmps121
  go_wp2
  have HB : Hid (Below w.heap.size w ((w.alloc (.cells #[.int .u8 0, .int .u8 0, .int .u8 0, .int .u8 0] 92)).alloc (.cells #[.int .u8 0, .int .u8 0, .int .u8 0, .int .u8 0] 92))) := below_alloc (new_alloc _ _) _
  have HV : Hid (Blk ((w.alloc (.cells #[.int .u8 0, .int .u8 0, .int .u8 0, .int .u8 0] 92)).alloc (.cells #[.int .u8 0, .int .u8 0, .int .u8 0, .int .u8 0] 92)) (w.heap.size + 1) 92 (arrV xs k 0)) := (by
    have := Blk.new (w.alloc (.cells #[.int .u8 0, .int .u8 0, .int .u8 0, .int .u8 0] 92)) 92 (arrV xs k 0)
    rw [size_one] at this; exact this)
  have HZ : Hid (Blk ((w.alloc (.cells #[.int .u8 0, .int .u8 0, .int .u8 0, .int .u8 0] 92)).alloc (.cells #[.int .u8 0, .int .u8 0, .int .u8 0, .int .u8 0] 92)) w.heap.size 92 (arrV xs k 0)) := (Blk.new w 92 _).grow (new_alloc _ _)
  generalize (w.alloc (.cells #[.int .u8 0, .int .u8 0, .int .u8 0, .int .u8 0] 92)).alloc (.cells #[.int .u8 0, .int .u8 0, .int .u8 0, .int .u8 0] 92) = w2 at *
  go_loopw [7] (fun i wr => ∃ j : Nat, j ≤ 4 ∧ i = .int .i64 j ∧ Blk wr (w.heap.size + 1) 92 (arrV xs k j) ∧ Blk wr w.heap.size 92 (arrV xs k 0) ∧ Below w.heap.size w wr) (fun i _ => 4 - (intOf i).toNat)
  case atStart => exact ⟨0, by omega, rfl, HV.out, HZ.out, HB.out⟩
  case round =>
    obtain ⟨j, hj, rfl, hv, hz, hb⟩ := hrel
    clear HB HV HZ
    by_cases hj4 : j < 4
    · have hwr : IntKind.i64.wrap (4 * (k : Int)) = ((4 * k : Nat) : Int) := by rw [IntKind.wrap_i64]; omega
      by_cases hin : 4 * k + j < xs.length
      · obtain ⟨b0, o0, rfl, hc⟩ := HR.out wr hb (by omega)
        have c1 := hc (4 * k + j) hin
        clear hc
        have c2 := (hv.cell j).trans (arrV_cell xs k j hj4)
        have f2 := hv.free j
        have HS := Hid.in (hv.set j (.int .u8 (xs.getD (4 * k + j) 0)))
        have HZ2 := Hid.in (hz.other (show w.heap.size ≠ w.heap.size + 1 by omega) j (.int .u8 (xs.getD (4 * k + j) 0)))
        have HB2 := Hid.in (hb.setCell (p := ⟨w.heap.size + 1, j, none⟩) (by simp) (.int .u8 (xs.getD (4 * k + j) 0)))
        rw [arrV_set xs k j hj4] at HS
        clear hv hz hb
        generalize xs.getD (4 * k + j) 0 = z at *
        go_wp2
        go_roundw
        case rel => exact ⟨j + 1, by omega, by go_num, HS.out, HZ2.out, HB2.out⟩
        case measure => simp [intOf]; omega
      · have HS : Hid (Blk wr (w.heap.size + 1) 92 (arrV xs k (j + 1))) := by rw [arrV_same xs k j (by omega)]; exact hv
        have HZ2 := Hid.in hz
        have HB2 := Hid.in hb
        clear hv hz hb
        go_wp2
        go_roundw
        case rel => exact ⟨j + 1, by omega, by go_num, HS.out, HZ2.out, HB2.out⟩
        case measure => simp [intOf]; omega
    · obtain rfl : j = 4 := by omega
      rw [H4.out] at hv
      rw [arrV_zero] at hz
      have HB2 := Hid.in hb
      have d0 := hv.cell 0
      have d1 := hv.cell 1
      have d2 := hv.cell 2
      have d3 := hv.cell 3
      have e0 := hz.cell 0
      have e1 := hz.cell 1
      have e2 := hz.cell 2
      have e3 := hz.cell 3
      have f0 := hz.free 0
      have f1 := hz.free 1
      have f2 := hz.free 2
      have f3 := hz.free 3
      simp only [List.getElem?_toArray, List.getElem?_cons_zero, List.getElem?_cons_succ] at d0 d1 d2 d3 e0 e1 e2 e3
      clear hv hz hb H4
      go_wp2
      exact bodyPost_ret (v := .tuple #[fourV z0 z1 z2 z3, .int .i64 0]) (by simp [results, Tryz.results121, go_sem, fourV, e0, e1, e2, e3]) rfl ⟨rfl, (((HB2.out.setCell (Nat.le_refl _) _).setCell (Nat.le_refl _) _).setCell (Nat.le_refl _) _).setCell (Nat.le_refl _) _⟩

end Go.Proofs.YtnpaijbkhmnfpaaGreat
