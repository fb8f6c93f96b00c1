/- What switchyardlaw11.does answers: true, and the bytes as they are then. -/
import Derived.Test.YtammbaamkechhaaRefN
import Derived.Test.YtammbaamkechhaaOver
namespace Go.Proofs.Ytammbaamkechhaa
open Go.RowKit

theorem Keeps.trans {G : Nat → Prop} {a b c : World} (h : Keeps G a b) (k : Keeps G b c) : Keeps G a c :=
  ⟨k.os.trans h.os, k.tape.trans h.tape, k.output.trans h.output, Nat.le_trans h.size k.size, fun j hj hn => (k.block j (Nat.lt_of_lt_of_le hj h.size) hn).trans (h.block j hj hn)⟩
theorem Keeps.ofBelow {G : Nat → Prop} {a b : World} (h : Below a.heap.size a b) : Keeps G a b := ⟨h.os, h.tape, h.output, h.size, fun j hj _ => h.block j hj⟩

/-- a slice's block is none of G -/
def Off (G : Nat → Prop) (p : Option Addr) : Prop := ∀ b o, p = some ⟨b, o, none⟩ → ¬ G b
theorem Row.keeps {G : Nat → Prop} {w w' : World} {p : Option Addr} {xs : List Int} (h : Row w p xs) (hk : Keeps G w w') (hp : 0 < xs.length → Off G p) : Row w' p xs := fun h0 => by
  obtain ⟨b, o, rfl, hc⟩ := h h0
  refine ⟨b, o, rfl, fun i hi => ?_⟩
  have hb := hk.block b (cell_lt (hc i hi)) (hp h0 b o rfl)
  have := hc i hi
  simp only [World.cell?, hb] at this ⊢
  exact this

/-- bytes as a value of Go's: a slice, where they lie -/
structure Sl (w : World) (p : Option Addr) (c : Nat) (xs : List Int) : Prop where
  row : Row w p xs
  le : xs.length ≤ c
  cap : c ≤ 9223372036854775807
  nil : p = none → c = 0

theorem Sl.keeps {G : Nat → Prop} {w w' : World} {p : Option Addr} {c : Nat} {xs : List Int} (h : Sl w p c xs) (hk : Keeps G w w') (hp : 0 < xs.length → Off G p) : Sl w' p c xs := ⟨h.row.keeps hk hp, h.le, h.cap, h.nil⟩
theorem Sl.below {w w' : World} {p : Option Addr} {c : Nat} {xs : List Int} (h : Sl w p c xs) (hb : Below w.heap.size w w') : Sl w' p c xs := ⟨h.row.below hb, h.le, h.cap, h.nil⟩

theorem OwnV.sl {w : World} {B : Nat} {v : Value} {xs : List Int} (h : OwnV w B v xs) : ∃ p c, v = .slice p xs.length c ∧ Sl w p c xs ∧ ∀ b o, p = some ⟨b, o, none⟩ → B ≤ b := by
  rcases h.shape with ⟨rfl, rfl⟩ | ⟨g, cap, rfl, ho⟩
  · exact ⟨none, 0, rfl, ⟨fun h => absurd h (Nat.lt_irrefl 0), Nat.le_refl _, by decide, fun _ => rfl⟩, fun b o e => by cases e⟩
  · refine ⟨some ⟨g, 0, none⟩, cap, rfl, ⟨ho.row, ho.cap, ?_, fun e => by cases e⟩, fun b o e => ?_⟩
    · obtain ⟨_, _, _, _, h4, _⟩ := ho.parts; unfold maxLen at h4; omega
    · cases e; exact ho.base

/-- what a call leaves -/
structure Did (W w' : World) (B q g : Nat) (p : Option Addr) (c : Nat) (xs : List Int) (p' : Option Addr) (c' : Nat) (xs' : List Int) : Prop where
  len : xs'.length = xs.length
  byt : Byt xs'
  mem : Mem w' B q g xs'
  keeps : Keeps (fun b => b = g) W w'
  sl : Sl w' p' c' xs'
  off : (p' = p ∧ c' = c) ∨ ∀ b o, p' = some ⟨b, o, none⟩ → W.heap.size ≤ b

abbrev opV (kind on a n : Int) (r : Option Addr) (m d : Nat) : Value := .agg #[.int .i64 kind, .int .i64 on, .int .i64 a, .int .i64 n, .slice r m d]

theorem Did.same {W w' : World} {B q g : Nat} {p : Option Addr} {c : Nat} {xs : List Int} (hm : Mem W B q g xs) (hs : Sl W p c xs) (hby : Byt xs) (hb : Below W.heap.size W w') : Did W w' B q g p c xs p c xs :=
  ⟨rfl, hby, hm.below hb, .ofBelow hb, hs.below hb, .inl ⟨rfl, rfl⟩⟩

set_option maxHeartbeats 1000000 in
theorem does_len (q g B : Nat) (p r : Option Addr) (c m d : Nat) (xs : List Int) (on a n : Int) (W : World) (hm : Mem W B q g xs) (hs : Sl W p c xs) (hby : Byt xs) :
    Calls Try.prog 20 #[.pointer (some ⟨q, 0, none⟩), .slice p xs.length c, opV 5 on a n r m d] W fun e w' => ∃ p' c' xs', e = .returned (.tuple #[.slice p' xs'.length c', .bool true]) ∧ Did W w' B q g p c xs p' c' xs' := by
  have hl := fun W' hM => len_any q g B xs W' hM
  have HM := Hid.in (hm.below (new_alloc W (.cells #[.int .i64 5, .int .i64 on, .int .i64 a, .int .i64 n, .slice r m d] 46)))
  have HD := Hid.in (fun w' hb => Did.same (w' := w') hm hs hby hb)
  clear hm hs hby
  go_enter Try.func20, Try.ntmps20
  go_wp2_with (go_at_call 8; refine (hl _ HM.out).mono ?_; rintro e w1 ⟨rfl, rfl⟩)
  go_ret2
  exact ⟨p, c, xs, by simp, HD.out _ (new_alloc _ _)⟩

set_option maxHeartbeats 1000000 in
theorem does_bytes (q g B : Nat) (p r : Option Addr) (c m d : Nat) (xs : List Int) (on a n : Int) (W : World) (hm : Mem W B q g xs) (hs : Sl W p c xs) (hby : Byt xs) (hlen : xs.length ≤ 65536) :
    Calls Try.prog 20 #[.pointer (some ⟨q, 0, none⟩), .slice p xs.length c, opV 4 on a n r m d] W fun e w' => ∃ p' c' xs', e = .returned (.tuple #[.slice p' xs'.length c', .bool true]) ∧ Did W w' B q g p c xs p' c' xs' := by
  have HM := Hid.in (hm.below (new_alloc W (.cells #[.int .i64 4, .int .i64 on, .int .i64 a, .int .i64 n, .slice r m d] 46)))
  have HS := Hid.in (hs.below (new_alloc W (.cells #[.int .i64 4, .int .i64 on, .int .i64 a, .int .i64 n, .slice r m d] 46)))
  have HD := Hid.in (fun w' hb => Did.same (w' := w') hm hs hby hb)
  clear hm hs hby
  go_enter Try.func20, Try.ntmps20
  go_wp2_with (first
    | (go_at_call 13; refine (bytes_any q g _ xs _ HM.out hlen).mono ?_; rintro e w1 ⟨k1, rfl, ho, hb⟩; have HO := Hid.in ho; have HS1 := Hid.in (HS.out.below hb); have HB1 := Hid.in (below_step (new_alloc W _) hb); clear ho hb HM HS)
    | (go_at_call 12; refine (sameBytes_any _ _ xs.length _ xs.length _ xs xs _ rfl rfl (by omega) HO.out.row HS1.out.row).mono ?_; rw [sameB_self]; rintro e w2 ⟨rfl, m2, hw2⟩; have HB2 : Hid (Below W.heap.size W w2) := (by rw [hw2]; exact below_draws HB1.out _); clear hw2))
  go_ret2
  exact ⟨p, c, xs, rfl, HD.out _ HB2.out⟩

set_option maxHeartbeats 1000000 in
theorem does_else (q g B : Nat) (p r : Option Addr) (c m d : Nat) (xs : List Int) (k on a n : Int) (W : World) (hk : k ≠ 1 ∧ k ≠ 2 ∧ k ≠ 3 ∧ k ≠ 4 ∧ k ≠ 5) (hm : Mem W B q g xs) (hs : Sl W p c xs) (hby : Byt xs) :
    Calls Try.prog 20 #[.pointer (some ⟨q, 0, none⟩), .slice p xs.length c, opV k on a n r m d] W fun e w' => ∃ p' c' xs', e = .returned (.tuple #[.slice p' xs'.length c', .bool true]) ∧ Did W w' B q g p c xs p' c' xs' := by
  have HD := Hid.in (fun w' hb => Did.same (w' := w') hm hs hby hb)
  obtain ⟨k1, k2, k3, k4, k5⟩ := hk
  clear hm hs hby
  go_enter Try.func20, Try.ntmps20
  go_wp2
  go_ret2
  exact ⟨p, c, xs, rfl, HD.out _ (new_alloc _ _)⟩

abbrev opC (kind on a n : Int) (r : Option Addr) (m d : Nat) : Obj := .cells #[.int .i64 kind, .int .i64 on, .int .i64 a, .int .i64 n, .slice r m d] 46
theorem op_cell {W w' : World} (kind on a n : Int) (r : Option Addr) (m d : Nat) (hb : Below (W.alloc (opC kind on a n r m d)).heap.size (W.alloc (opC kind on a n r m d)) w') (i : Nat) : w'.cell? ⟨W.heap.size, i, none⟩ = #[Value.int .i64 kind, .int .i64 on, .int .i64 a, .int .i64 n, .slice r m d][i]? := by
  rw [hb.cell (p := ⟨W.heap.size, i, none⟩) (by rw [size_one]; simp), cell_of_row _ _ _ _ 46 (0, 0) (heap_alloc_new W _)]

set_option maxHeartbeats 1000000 in
theorem does_read_err (q g B : Nat) (p r : Option Addr) (c m d : Nat) (xs : List Int) (on a n E : Int) (W : World) (hm : Mem W B q g xs) (hs : Sl W p c xs) (hby : Byt xs)
    (h1 : ∀ W, Mem W B q g xs → Calls Try.prog 9 #[.pointer (some ⟨q, 0, none⟩), .int .i64 a, .int .i64 n] W fun e w' => e = .returned (.tuple #[.slice none 0 0, .int .i64 E]) ∧ w' = W)
    (h2 : ∀ W, Calls Try.prog 26 #[.slice p xs.length c, .int .i64 a, .int .i64 n] W fun e w' => e = .returned (.tuple #[.slice none 0 0, .int .i64 E]) ∧ w' = W) :
    Calls Try.prog 20 #[.pointer (some ⟨q, 0, none⟩), .slice p xs.length c, opV 1 on a n r m d] W fun e w' => ∃ p' c' xs', e = .returned (.tuple #[.slice p' xs'.length c', .bool true]) ∧ Did W w' B q g p c xs p' c' xs' := by
  have HM := Hid.in (hm.below (new_alloc W (opC 1 on a n r m d)))
  have HD := Hid.in (fun w' hb => Did.same (w' := w') hm hs hby hb)
  clear hm hs hby
  go_enter Try.func20, Try.ntmps20
  go_wp2_with (first
    | (go_at_call 9; refine (h1 _ HM.out).mono ?_; rintro e w1 ⟨rfl, rfl⟩)
    | (go_at_call 26; refine (h2 _).mono ?_; rintro e w1 ⟨rfl, rfl⟩)
    | (go_at_call 12; refine (sameBytes_any none none 0 0 0 0 [] [] _ rfl rfl (by decide) (fun h => absurd h (Nat.lt_irrefl 0)) (fun h => absurd h (Nat.lt_irrefl 0))).mono ?_; rw [sameB_self]; rintro e w2 ⟨rfl, m2, hw2⟩; have HB2 : Hid (Below W.heap.size W w2) := (by rw [hw2]; exact below_draws (new_alloc W _) _); clear hw2))
  go_ret2
  exact ⟨p, c, xs, by simp, HD.out _ HB2.out⟩

set_option maxHeartbeats 1000000 in
theorem does_read_ok (q g B : Nat) (p r : Option Addr) (c m d a n : Nat) (xs : List Int) (on : Int) (W : World) (hm : Mem W B q g xs) (hs : Sl W p c xs) (hby : Byt xs) (hlen : xs.length ≤ 65536) (h : a + n ≤ xs.length) :
    Calls Try.prog 20 #[.pointer (some ⟨q, 0, none⟩), .slice p xs.length c, opV 1 on a n r m d] W fun e w' => ∃ p' c' xs', e = .returned (.tuple #[.slice p' xs'.length c', .bool true]) ∧ Did W w' B q g p c xs p' c' xs' := by
  have HM := Hid.in (hm.below (new_alloc W (opC 1 on a n r m d)))
  have HS := Hid.in (hs.below (new_alloc W (opC 1 on a n r m d)))
  have HD := Hid.in (fun w' hb => Did.same (w' := w') hm hs hby hb)
  have hlt : ((xs.drop a).take n).length = n := by rw [List.length_take, List.length_drop]; omega
  have HLT := Hid.in hlt
  clear hm hs hby hlt
  go_enter Try.func20, Try.ntmps20
  go_wp2_with (first
    | (go_at_call 9; refine (read_ok q g B a n xs _ HM.out h hlen).mono ?_; rintro e w1 ⟨k1, rfl, ho, hb⟩; have c2 := op_cell 1 on a n r m d hb 2; have c3 := op_cell 1 on a n r m d hb 3; have HO := Hid.in ho; have HS1 := Hid.in (HS.out.below hb); have HB1 := Hid.in (below_step (new_alloc W _) hb); simp at c2 c3; clear ho hb HM HS)
    | (go_at_call 26; refine (refRead_ok p c a n xs _ HS1.out.row HS1.out.le HS1.out.cap (by omega) HS1.out.nil h).mono ?_; rintro e w2 ⟨v2, rfl, ho, hb⟩; obtain ⟨p2, d2, hv2, hs2, _⟩ := ho.sl; rw [HLT.out] at hv2; subst hv2; have HS2 := Hid.in hs2; have HO2 := Hid.in (HO.out.below hb); have HB2 := Hid.in (below_step HB1.out hb); clear ho hb hs2 HO c2 c3)
    | (go_at_call 12; refine (sameBytes_any _ _ n _ n _ _ _ _ HLT.out HLT.out (by omega) HO2.out.row HS2.out.row).mono ?_; rw [sameB_self]; rintro e w3 ⟨rfl, m3, hw3⟩; have HB3 : Hid (Below W.heap.size W w3) := (by rw [hw3]; exact below_draws HB2.out _); clear hw3))
  go_ret2
  exact ⟨p, c, xs, by simp, HD.out _ HB3.out⟩

theorem does_read (q g B : Nat) (p r : Option Addr) (c m d : Nat) (xs : List Int) (on a n : Int) (W : World) (hn : n ≤ 9223372036854775807) (hm : Mem W B q g xs) (hs : Sl W p c xs) (hby : Byt xs) (hlen : xs.length ≤ 65536) :
    Calls Try.prog 20 #[.pointer (some ⟨q, 0, none⟩), .slice p xs.length c, opV 1 on a n r m d] W fun e w' => ∃ p' c' xs', e = .returned (.tuple #[.slice p' xs'.length c', .bool true]) ∧ Did W w' B q g p c xs p' c' xs' := by
  by_cases h0 : n < 0
  · exact does_read_err q g B p r c m d xs on a n 2 W hm hs hby (fun W' h => read_neg q g B a n xs W' h h0) (fun W' => refRead_neg p c _ a n W' h0)
  · by_cases ho : 0 ≤ a ∧ a ≤ (xs.length : Int) - n
    · obtain ⟨x, rfl⟩ := Int.eq_ofNat_of_zero_le ho.1
      obtain ⟨y, rfl⟩ := Int.eq_ofNat_of_zero_le (show 0 ≤ n by omega)
      exact does_read_ok q g B p r c m d x y xs on W hm hs hby hlen (by omega)
    · exact does_read_err q g B p r c m d xs on a n 210 W hm hs hby (fun W' h => read_out q g B a n xs W' h (by omega) hn ho) (fun W' => refRead_out p c _ a n W' (by omega) (by omega) hn ho)

set_option maxHeartbeats 2000000 in
theorem does_gran_at (q g B : Nat) (p r : Option Addr) (c m d : Nat) (xs : List Int) (on k n E z0 z1 z2 z3 : Int) (W : World) (hm : Mem W B q g xs) (hs : Sl W p c xs) (hby : Byt xs) (b0 : 0 ≤ z0 ∧ z0 ≤ 255) (b1 : 0 ≤ z1 ∧ z1 ≤ 255) (b2 : 0 ≤ z2 ∧ z2 ≤ 255) (b3 : 0 ≤ z3 ∧ z3 ≤ 255)
    (h1 : ∀ W, Mem W B q g xs → Calls Try.prog 10 #[.pointer (some ⟨q, 0, none⟩), .int .i64 k] W fun e w' => e = .returned (.tuple #[fourV z0 z1 z2 z3, .int .i64 E]) ∧ Below W.heap.size W w')
    (h2 : ∀ W, Sl W p c xs → Calls Try.prog 28 #[.slice p xs.length c, .int .i64 k] W fun e w' => e = .returned (.tuple #[fourV z0 z1 z2 z3, .int .i64 E]) ∧ Below W.heap.size W w') :
    Calls Try.prog 20 #[.pointer (some ⟨q, 0, none⟩), .slice p xs.length c, opV 3 on k n r m d] W fun e w' => ∃ p' c' xs', e = .returned (.tuple #[.slice p' xs'.length c', .bool true]) ∧ Did W w' B q g p c xs p' c' xs' := by
  have HM := Hid.in (hm.below (new_alloc W (opC 3 on k n r m d)))
  have HS := Hid.in (hs.below (new_alloc W (opC 3 on k n r m d)))
  have HD := Hid.in (fun w' hb => Did.same (w' := w') hm hs hby hb)
  have HQ := Hid.in (fun W => eq_four_self z0 z1 z2 z3 W b0 b1 b2 b3)
  clear hm hs hby b0 b1 b2 b3
  unfold fourV at h1 h2
  go_enter Try.func20, Try.ntmps20
  go_wp2_with (first
    | (go_at_call 10; refine (h1 _ HM.out).mono ?_; rintro e w1 ⟨rfl, hb⟩; have c2 := op_cell 3 on k n r m d (below_alloc hb (.cells #[.int .u8 z0, .int .u8 z1, .int .u8 z2, .int .u8 z3] 32)) 2; have HS1 := Hid.in ((HS.out.below hb).below (new_alloc w1 (.cells #[.int .u8 z0, .int .u8 z1, .int .u8 z2, .int .u8 z3] 32))); have HB1 := Hid.in (below_alloc (below_step (new_alloc W _) hb) (.cells #[.int .u8 z0, .int .u8 z1, .int .u8 z2, .int .u8 z3] 32)); have HV1 := Hid.in (Blk.new w1 32 #[.int .u8 z0, .int .u8 z1, .int .u8 z2, .int .u8 z3]); rw [show #[Value.int .i64 3, .int .i64 on, .int .i64 k, .int .i64 n, .slice r m d][2]? = some (.int .i64 k) from rfl] at c2; clear hb HM HS h1)
    | (go_at_call 28; refine (h2 _ HS1.out).mono ?_; rintro e w3 ⟨rfl, hb⟩; have HV3 := Hid.in ((HV1.out.grow hb).grow (new_alloc w3 (.cells #[.int .u8 z0, .int .u8 z1, .int .u8 z2, .int .u8 z3] 32))); have HU3 := Hid.in (Blk.new w3 32 #[.int .u8 z0, .int .u8 z1, .int .u8 z2, .int .u8 z3]); have HB3 := Hid.in (below_alloc (below_step HB1.out hb) (.cells #[.int .u8 z0, .int .u8 z1, .int .u8 z2, .int .u8 z3] 32)); clear hb h2 HV1 HS1 HB1 c2))
  generalize w3.alloc (.cells #[.int .u8 z0, .int .u8 z1, .int .u8 z2, .int .u8 z3] 32) = w4 at *
  have d0 := HV3.out.cell 0
  have d1 := HV3.out.cell 1
  have d2 := HV3.out.cell 2
  have d3 := HV3.out.cell 3
  have e0 := HU3.out.cell 0
  have e1 := HU3.out.cell 1
  have e2 := HU3.out.cell 2
  have e3 := HU3.out.cell 3
  simp only [List.getElem?_toArray, List.getElem?_cons_zero, List.getElem?_cons_succ] at d0 d1 d2 d3 e0 e1 e2 e3
  have hq := HQ.out
  have hE : (E == E) = true := by simp
  clear HQ HV3 HU3
  go_quiet (fail)
  go_wp2
  go_ret2
  exact ⟨p, c, xs, by simp, HD.out _ (below_draws HB3.out _)⟩

theorem does_gran (q g B : Nat) (p r : Option Addr) (c m d : Nat) (xs : List Int) (on k n : Int) (W : World) (hm : Mem W B q g xs) (hs : Sl W p c xs) (hby : Byt xs) (hlen : xs.length ≤ 65536) :
    Calls Try.prog 20 #[.pointer (some ⟨q, 0, none⟩), .slice p xs.length c, opV 3 on k n r m d] W fun e w' => ∃ p' c' xs', e = .returned (.tuple #[.slice p' xs'.length c', .bool true]) ∧ Did W w' B q g p c xs p' c' xs' := by
  by_cases h : k < 0 ∨ 16384 ≤ k
  · exact does_gran_at q g B p r c m d xs on k n 2 0 0 0 0 W hm hs hby (by decide) (by decide) (by decide) (by decide) (fun W' h' => gran_bad q g B k xs W' h' h) (fun W' _ => refGran_bad p c _ k W' h)
  · obtain ⟨x, rfl⟩ := Int.eq_ofNat_of_zero_le (show 0 ≤ k by omega)
    exact does_gran_at q g B p r c m d xs on x n 0 _ _ _ _ W hm hs hby (hby _) (hby _) (hby _) (hby _) (fun W' h' => gran_any q g B x xs W' h' (by omega)) (fun W' h' => refGran_any p c x xs W' h'.row (by omega) hlen)

end Go.Proofs.Ytammbaamkechhaa
