/- What isa.Encode answers, for every instruction. -/
import Derived.Test.YtekggimgobeggaaRight
import Derived.Test.YtekggimgobeggaaPut
import Derived.Lib.BufferWrite
namespace Go.Proofs.Ytekggimgobeggaa
open Go.RowKit

theorem cd_cells (o : Nat) (h : o < 17) : Lib.byteCells (cd o).data.toList = byts (cdL o) := by
  have : ∀ o : Fin 17, Lib.byteCells (cd o.1).data.toList = byts (cdL o.1) := fun o => by
    obtain ⟨o, ho⟩ := o
    revert ho
    exact fun ho => match o, ho with
      | 0, _ => rfl | 1, _ => rfl | 2, _ => rfl | 3, _ => rfl | 4, _ => rfl | 5, _ => rfl | 6, _ => rfl | 7, _ => rfl | 8, _ => rfl
      | 9, _ => rfl | 10, _ => rfl | 11, _ => rfl | 12, _ => rfl | 13, _ => rfl | 14, _ => rfl | 15, _ => rfl | 16, _ => rfl
      | n + 17, h => absurd h (by omega)
  exact this ⟨o, h⟩

theorem copy_code {w1 : World} {B g n : Nat} (c : ByteArray) (cs : List Int) (hcs : Lib.byteCells c.data.toList = byts cs) (hsz : c.size = cs.length) (hle : cs.length ≤ n) (hown : Own w1 B g n (List.replicate n 0)) :
    ∃ w2, (Builtin.copy_ #[54, 9] 3 #[.slice (some ⟨g, 0, none⟩) n n, .string c]).run Try.prog w1 = .ok (.int .i64 cs.length) w2 ∧ Own w2 B g n (cs ++ List.replicate (n - cs.length) 0) ∧ ∀ w0, Below B w0 w1 → Below B w0 w2 := by
  have hwh := Own.whole (w := w1) (B := B) (g := g) (xs := List.replicate n 0) (by simpa using hown)
  obtain ⟨cur, h1, h2, h3, h4, h5, h6⟩ := hown.parts
  have hr := Lib.run_copy_row_string (P := Try.prog) w1 54 9 3 5 g 0 n n c (byts (List.replicate n 0)).toArray 5 Try.underlying54 Try.size5 hwh (by omega) (by simp; omega)
  rw [hcs] at hr
  refine ⟨_, ?_, Own.mk (cur := (byts (cs ++ List.replicate (n - cs.length) 0)).toArray) h1 (setRow_heap w1 g _ _ 5 (0, 0) h2) (by simp; omega) h4 (by simp; omega) (by rw [List.take_of_length_le (by simp)]), fun w0 hb => below_setRow hb h1 _⟩
  rw [hr, hsz]
  have e : (byts (List.replicate n 0)).toArray.toList.take 0 ++ byts cs ++ (byts (List.replicate n 0)).toArray.toList.drop (0 + cs.length) = byts (cs ++ List.replicate (n - cs.length) 0) := by
    simp [byts]
  rw [e]
  rfl

theorem cell_far {w : World} {g h i j : Nat} {v : Value} (hne : h ≠ g) : (w.setCell ⟨h, i, none⟩ v).cell? ⟨g, j, none⟩ = w.cell? ⟨g, j, none⟩ :=
  World.cell?_setCell_other _ _ _ _ fun e => hne (congrArg Addr.block e)
/-- the list with the first k registers laid -/
def stL (base : List Int) (cl : Nat) (a b : Int) (k : Nat) : List Int := if k = 0 then base else if k = 1 then base.set cl a else (base.set cl a).set (cl + 1) b
theorem stL_length (base : List Int) (cl : Nat) (a b : Int) (k : Nat) : (stL base cl a b k).length = base.length := by
  unfold stL
  split
  · rfl
  · split <;> simp
/-- a store elsewhere -/
theorem At4.store {w : World} {g h i : Nat} {v x0 x1 x2 x3 : Value} (ha : At4 w g x0 x1 x2 x3) (hne : h ≠ g) : At4 (w.setCell ⟨h, i, none⟩ v) g x0 x1 x2 x3 :=
  ⟨(cell_far hne).trans ha.1, (cell_far hne).trans ha.2.1, (cell_far hne).trans ha.2.2.1, (cell_far hne).trans ha.2.2.2⟩

/-- an int32's four bytes, the lowest first -/
def le4 (n : Int) : List Int := [n % 4294967296 % 256, n % 4294967296 / 256 % 256, n % 4294967296 / 65536 % 256, n % 4294967296 / 16777216]
/-- an instruction's bytes -/
def encG (cs : List Int) (r : Nat) (q a b n : Int) : List Int := cs ++ (if 1 ≤ r then [a] else []) ++ (if 2 ≤ r then [b] else []) ++ (if q = 0 then [] else le4 n)
def encL (o : Nat) (a b n : Int) : List Int := encG (cdL o) (rg o) (kd o) a b n

theorem encG_zero (cs : List Int) (k : Nat) (a b n : Int) (h : k ≤ 2) : stL (cs ++ List.replicate k 0) cs.length a b k = encG cs k 0 a b n := by
  obtain rfl | rfl | rfl : k = 0 ∨ k = 1 ∨ k = 2 := by omega
  · simp [stL, encG]
  · simp [stL, encG]
  · simp [stL, encG, List.replicate]
theorem put_tail (xs : List Int) (v : Int) : putL (xs ++ [0, 0, 0, 0]) xs.length v = xs ++ [v % 256, v / 256 % 256, v / 65536 % 256, v / 16777216] := by
  simp [putL]
theorem encG_num (cs : List Int) (k : Nat) (q a b n : Int) (h : k ≤ 2) (hq : q ≠ 0) : putL (stL (cs ++ List.replicate (k + 4) 0) cs.length a b k) (cs.length + k) (n % 4294967296) = encG cs k q a b n := by
  obtain rfl | rfl | rfl : k = 0 ∨ k = 1 ∨ k = 2 := by omega
  · have e : stL (cs ++ List.replicate (0 + 4) 0) cs.length a b 0 = cs ++ [0, 0, 0, 0] := by simp [stL, List.replicate]
    rw [e, Nat.add_zero, put_tail]
    simp [encG, le4, hq]
  · have e : stL (cs ++ List.replicate (1 + 4) 0) cs.length a b 1 = (cs ++ [a]) ++ [0, 0, 0, 0] := by simp [stL, List.replicate]
    rw [e, show cs.length + 1 = (cs ++ [a]).length by simp, put_tail]
    simp [encG, le4, hq]
  · have e : stL (cs ++ List.replicate (2 + 4) 0) cs.length a b 2 = (cs ++ [a, b]) ++ [0, 0, 0, 0] := by simp [stL, List.replicate]
    rw [e, show cs.length + 2 = (cs ++ [a, b]).length by simp, put_tail]
    simp [encG, le4, hq]

set_option maxHeartbeats 2000000 in
set_option maxRecDepth 4000 in
theorem encode_gen (s c : ByteArray) (cs : List Int) (r L : Nat) (q o a b n : Int) (w : World)
    (hidx : ∀ w, (Instr.index 155 (.agg tab) (.int .u8 o)).run Try.prog w = .ok (.agg #[.string s, .string c, .int .i64 r, .int .u8 q]) w)
    (hright : ∀ w, Calls Try.prog 99 #[ins o a b n] w fun e w' => e = .returned (.bool true) ∧ Below w.heap.size w w')
    (hlen : ∀ w, Calls Try.prog 101 #[shp s c r q] w fun e w' => e = .returned (.int .i64 L) ∧ Below w.heap.size w w')
    (hcs : Lib.byteCells c.data.toList = byts cs) (hsz : c.size = cs.length) (hcl : cs.length ≤ 5) (hr : r ≤ 2) (hq : q = 0 ∨ q = 1 ∨ q = 2) (hL : L = cs.length + r + if q = 0 then 0 else 4) :
    Calls Try.prog 91 #[ins o a b n] w fun e w' => ∃ g cap, e = .returned (.tuple #[.slice (some ⟨g, 0, none⟩) L cap, .int .i64 0]) ∧ Own w' w.heap.size g cap (encG cs r q a b n) ∧ Below w.heap.size w w' := by
  obtain ⟨i0, hi, hz0, hz1, hz2⟩ := info_parts Try.info5
  have HS : Hid (c.size = cs.length) := hsz
  have HLL : Hid (L = cs.length + r + if q = 0 then 0 else 4) := hL
  have hL11 : L ≤ 11 := by rw [hL]; split <;> omega
  clear hL hsz
  go_enter Try.func91, Try.ntmps91
  go_wp2_with fail
  refine (hright _).mono ?_
  rintro e w1 ⟨rfl, hb1⟩
  have hbox := (At4.new w (.int .u8 o) (.int .u8 a) (.int .u8 b) (.int .i32 n) 146).below hb1
  have hbw := below_step (new_alloc w _) hb1
  clear hb1 hright
  have c0 := hbox.1
  have l0 : w.heap.size < w1.heap.size := cell_lt c0
  have c1 : ∀ ob, (w1.alloc ob).cell? ⟨w.heap.size, 0, none⟩ = some (.int .u8 o) := cell_push c0
  go_upto_region 3 with fail
  go_cut [4] from 12 to 15 (fun p wx => ∃ g, p = .pointer (some ⟨g, 0, none⟩) ∧ At4 wx g (.string s) (.string c) (.int .i64 r) (.int .u8 q) ∧ Below w1.heap.size w1 wx)
  case first =>
    go_region_with (go_at_call 100; refine (shapes_any _).mono ?_; rintro e w2 ⟨rfl, hb2⟩; first | (have c9 := (hb2.cell (p := ⟨w.heap.size, 0, none⟩) l0).trans c0; have c8 := cell_push c9; have hA := hb2) | (have c9 := (hb2.cell (p := ⟨w.heap.size, 0, none⟩) (lt_push l0 _)).trans (c1 _); obtain ⟨d0, d1, d2, d3, f0, f1, f2, f3⟩ := kept_new4 hb2; have hB := hb2))
    all_goals
      go_wp2_with fail
      go_meet
      case rel => first | exact ⟨_, rfl, met_A hA _ _ _ _ _⟩ | exact ⟨_, rfl, met_B hB _ _ _ _⟩
  case rest =>
    obtain ⟨g, rfl, hat, hbx⟩ := hcut
    have hbox2 := hbox.below hbx
    have hbc := below_step hbw hbx
    clear hbx hbw hbox c0 l0 c1 hidx
    have HA : Hid (At4 wc g (.string s) (.string c) (.int .i64 r) (.int .u8 q)) := hat
    have HB : Hid (At4 wc w.heap.size (.int .u8 o) (.int .u8 a) (.int .u8 b) (.int .i32 n)) := hbox2
    clear hbox2
    obtain ⟨q0, q1, q2, q3⟩ := hat
    go_wp2_with fail
    refine (hlen _).mono ?_
    rintro e w3 ⟨rfl, hb3⟩
    have HA3 : Hid (At4 w3 g (.string s) (.string c) (.int .i64 r) (.int .u8 q)) := HA.out.below hb3
    have HB3 : Hid (At4 w3 w.heap.size (.int .u8 o) (.int .u8 a) (.int .u8 b) (.int .i32 n)) := HB.out.below hb3
    have hb4 := below_step hbc hb3
    clear hb3 hbc HA HB q0 q1 q2 q3 hlen
    go_wp2_with (at_make; refine wpList_make_full _ rfl _ _ 54 rfl _ 5 i0 (.int .u8 0) 1 Try.underlying54 hi hz0 hz1 _ _ _ _ L rfl rfl rfl rfl (by rw [hz2]; omega) (by unfold maxLen; omega) (Nat.le_refl _) ?_; intro w4 hown hgrow; have hb5 := (Below.refl w3.heap.size w3).grown hgrow (Nat.le_refl _) (by simp); obtain ⟨w5, hcp, hown2, hb6⟩ := copy_code c cs hcs HS.out (by have := HLL.out; omega) (Own.of_made hown); have hb7 := hb6 _ hb5; obtain ⟨q0, q1, q2, q3⟩ := HA3.out.below hb5; have HA5 : Hid (At4 w5 g (.string s) (.string c) (.int .i64 r) (.int .u8 q)) := HA3.out.below hb7; have HB5 : Hid (At4 w5 w.heap.size (.int .u8 o) (.int .u8 a) (.int .u8 b) (.int .i32 n)) := HB3.out.below hb7; obtain ⟨p0, p1, p2, p3⟩ := HB3.out.below hb7; have q5 := cell_push HA5.out.2.2.1; have hb8 := below_step hb4 hb7; have HO : Hid (Own w5 w3.heap.size w3.heap.size L (cs ++ List.replicate (L - cs.length) 0)) := hown2; clear hown hgrow hb5 hb6 hb7 hown2)
    have HO6 : Hid (Own (w5.alloc (.cells #[.int .u8 a, .int .u8 b] 157)) w3.heap.size w3.heap.size L (cs ++ List.replicate (L - cs.length) 0)) := HO.out.below (new_alloc _ _)
    have HA6 : Hid (At4 (w5.alloc (.cells #[.int .u8 a, .int .u8 b] 157)) g (.string s) (.string c) (.int .i64 r) (.int .u8 q)) := HA5.out.below (new_alloc _ _)
    have HB6 : Hid (At4 (w5.alloc (.cells #[.int .u8 a, .int .u8 b] 157)) w.heap.size (.int .u8 o) (.int .u8 a) (.int .u8 b) (.int .i32 n)) := HB5.out.below (new_alloc _ _)
    have hb9 := below_alloc hb8 (.cells #[.int .u8 a, .int .u8 b] 157)
    have m0 : (w5.alloc (.cells #[.int .u8 a, .int .u8 b] 157)).cell? ⟨w5.heap.size, 0, none⟩ = some (.int .u8 a) := by simp
    have m1 : (w5.alloc (.cells #[.int .u8 a, .int .u8 b] 157)).cell? ⟨w5.heap.size, 1, none⟩ = some (.int .u8 b) := by simp
    have hG : w3.heap.size < w5.heap.size := HO.out.lt
    have hg3 : g < w3.heap.size := cell_lt HA3.out.1
    have hw3 : w.heap.size < w3.heap.size := cell_lt HB3.out.1
    clear q0 q1 q2 q3 p0 p1 p2 p3 q5 hb4 HO HA5 HB5 HA3 HB3 hcp hb8 hcs HS w1 wc
    generalize w5.alloc (.cells #[.int .u8 a, .int .u8 b] 157) = w6 at *
    generalize w5.heap.size = g7 at *
    generalize w3.heap.size = G at *
    clear w3 w4 w5
    have HBL : Hid ((cs ++ List.replicate (L - cs.length) 0).length = L) := by
      have := HLL.out
      show (cs ++ List.replicate (L - cs.length) 0).length = L
      simp; omega
    generalize hbase : cs ++ List.replicate (L - cs.length) 0 = base at *
    have HBASE : Hid (cs ++ List.replicate (L - cs.length) 0 = base) := hbase
    clear hbase
    go_loopw [30] (fun i wr => ∃ k : Nat, k ≤ r ∧ i = .int .i64 k ∧ Own wr G G L (stL base cs.length a b k) ∧ At4 wr g (.string s) (.string c) (.int .i64 r) (.int .u8 q) ∧ At4 wr w.heap.size (.int .u8 o) (.int .u8 a) (.int .u8 b) (.int .i32 n) ∧ wr.cell? ⟨g7, 0, none⟩ = some (.int .u8 a) ∧ wr.cell? ⟨g7, 1, none⟩ = some (.int .u8 b) ∧ Below w.heap.size w wr) (fun i _ => r - (intOf i).toNat)
    case atStart => exact ⟨0, Nat.zero_le _, rfl, HO6.out, HA6.out, HB6.out, m0, m1, hb9⟩
    case round =>
      obtain ⟨k, hk, rfl, hown, hat, hbox, k0, k1, hbk⟩ := hrel
      clear HO6 HA6 HB6 m0 m1 hb9
      by_cases hlt : k < r
      · have hkl : cs.length + k < L := by have := HLL.out; omega
        have d0 := hown.cell (cs.length + k) (by rw [stL_length, HBL.out]; exact hkl)
        have f0 := hown.free (cs.length + k)
        generalize (stL base cs.length a b k).getD (cs.length + k) 0 = z at *
        obtain rfl | rfl : k = 0 ∨ k = 1 := by omega
        · simp only [Nat.add_zero] at d0 f0 hkl
          go_wp2
          go_roundw
          case rel => exact ⟨1, by omega, by go_num, hown.store cs.length a, hat.store (by omega), hbox.store (by omega), (cell_far (by omega)).trans k0, (cell_far (by omega)).trans k1, hbk.setCell (Nat.le_of_lt hw3) _⟩
          case measure => simp [intOf]; omega
        · go_wp2
          go_roundw
          case rel => exact ⟨2, by omega, by go_num, hown.store (cs.length + 1) b, hat.store (by omega), hbox.store (by omega), (cell_far (by omega)).trans k0, (cell_far (by omega)).trans k1, hbk.setCell (Nat.le_of_lt hw3) _⟩
          case measure => simp [intOf]; omega
      · obtain rfl : k = r := by omega
        have HA : Hid (At4 wr g (.string s) (.string c) (.int .i64 k) (.int .u8 q)) := hat
        have HB : Hid (At4 wr w.heap.size (.int .u8 o) (.int .u8 a) (.int .u8 b) (.int .i32 n)) := hbox
        obtain ⟨q0, q1, q2, q3⟩ := hat
        obtain ⟨p0, p1, p2, p3⟩ := hbox
        by_cases hq0 : q = 0
        · subst hq0
          go_wp2
          go_ret2
          have hb : base = cs ++ List.replicate k 0 := by rw [← HBASE.out, show L - cs.length = k by have := HLL.out; simp at this; omega]
          rw [hb, encG_zero cs k a b n (by omega)] at hown
          exact ⟨_, _, rfl, hown.lower (Nat.le_of_lt hw3), hbk⟩
        · have hq1 : (q == 0) = false := by simpa using hq0
          have hLk : L = cs.length + k + 4 := by have := HLL.out; rw [if_neg hq0] at this; exact this
          have hb : base = cs ++ List.replicate (k + 4) 0 := by rw [← HBASE.out, show L - cs.length = k + 4 by omega]
          have HLk : Hid (L = cs.length + k + 4) := hLk
          clear hLk
          go_wp2_with fail
          refine (put32_ex _ L L (cs.length + k) (n % 4294967296) (stL base cs.length a b k) _ (by rw [stL_length, HBL.out]) (by omega) hown.row (by omega) (by omega) (by have := HLk.out; omega)).mono ?_
          rw [show ((cs.length : Int) + (k : Int)).toNat = cs.length + k by omega, hb, encG_num cs k q a b n (by omega) hq0]
          rintro e w7 ⟨g8, rfl, hown7, hb7⟩
          go_wp2
          go_ret2
          exact ⟨_, _, rfl, hown7.lower hbk.size, below_step hbk hb7⟩

theorem encG_length (cs : List Int) (r : Nat) (q a b n : Int) (hr : r ≤ 2) : (encG cs r q a b n).length = cs.length + r + if q = 0 then 0 else 4 := by
  obtain rfl | rfl | rfl : r = 0 ∨ r = 1 ∨ r = 2 := by omega
  all_goals (by_cases hq : q = 0 <;> simp [encG, le4, hq])
theorem encL_length (o : Nat) (a b n : Int) (h : o < 17) : (encL o a b n).length = lenN o := encG_length _ _ _ _ _ _ (rg_le o h)

theorem encode_yes (o : Nat) (a b n : Int) (w : World) (ha : 0 ≤ a ∧ a ≤ 255) (hb : 0 ≤ b ∧ b ≤ 255) (hR : rightB o a b n = true) :
    Calls Try.prog 91 #[ins o a b n] w fun e w' => ∃ g cap, e = .returned (.tuple #[.slice (some ⟨g, 0, none⟩) (lenN o) cap, .int .i64 0]) ∧ Own w' w.heap.size g cap (encL o a b n) ∧ Below w.heap.size w w' := by
  have ho : 1 ≤ o ∧ o < 17 := by
    simp only [rightB, Bool.and_eq_true, decide_eq_true_eq] at hR
    exact hR.1
  have hl := cdL_len o ho.2
  refine encode_gen (nm o) (cd o) (cdL o) (rg o) (lenN o) (kd o) o a b n w (idx_any o ho.2) (fun w => ?_) (length_op o ho.2) (cd_cells o ho.2) (cd_size o ho.2) hl (rg_le o ho.2) (kd_in o ho.2) rfl
  have := right_op o a b n w ho.1 ho.2 ha hb
  rw [hR] at this
  exact this

set_option maxHeartbeats 400000 in
theorem encode_no (o : Nat) (a b n : Int) (w : World) (ho : o ≤ 255) (ha : 0 ≤ a ∧ a ≤ 255) (hb : 0 ≤ b ∧ b ≤ 255) (hR : rightB o a b n = false) :
    Calls Try.prog 91 #[ins o a b n] w fun e w' => e = .returned (.tuple #[.slice none 0 0, .int .i64 2]) ∧ Below w.heap.size w w' := by
  have hcon := right_any o a b n (w.alloc (.cells #[.int .u8 o, .int .u8 a, .int .u8 b, .int .i32 n] 146)) ho ha hb
  rw [hR] at hcon
  clear hR
  go_enter Try.func91, Try.ntmps91
  go_wp2_with fail
  refine hcon.mono ?_
  rintro e w1 ⟨rfl, hb1⟩
  clear hcon
  go_wp2
  go_ret2
  exact ⟨rfl, below_step (new_alloc w _) hb1⟩
end Go.Proofs.Ytekggimgobeggaa
