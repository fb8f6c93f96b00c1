/- Texts put together: Enc, RMrk, RObj, TabW. -/
import Derived.Test.YtgblohjdiheemaaGreatKab
import Derived.Test.YtgblohjdiheemaaGreatKae
import Derived.Lib.BufferWrite
import Derived.Deep.RegionLaw
import Derived.Lib.Hide
import Derived.BigQuiet
import Derived.Deep.QuietTactic
import Derived.Test.YtgblohjdiheemaaGreatKad

/- What isa.Encode answers, for every instruction. -/
namespace Go.Proofs.YtgblohjdiheemaaGreat
open Go.RowKit

theorem cd_cells (o : Nat) (h : o < 17) : Lib.byteCells (cd o).data.toList = byts (cdL o) := by
  have : ∀ o : Fin 17, Lib.byteCells (cd o.1).data.toList = byts (cdL o.1) := fun o => by
    obtain ⟨o, ho⟩ := o
    revert ho
    exact fun ho => match o, ho with
      | 0, _ => rfl | 1, _ => rfl | 2, _ => rfl | 3, _ => rfl | 4, _ => rfl | 5, _ => rfl | 6, _ => rfl | 7, _ => rfl | 8, _ => rfl
      | 9, _ => rfl | 10, _ => rfl | 11, _ => rfl | 12, _ => rfl | 13, _ => rfl | 14, _ => rfl | 15, _ => rfl | 16, _ => rfl
      | n + 17, h => absurd h (by omega)
  exact this ⟨o, h⟩

theorem copy_code {w1 : World} {B g n : Nat} (c : ByteArray) (cs : List Int) (hcs : Lib.byteCells c.data.toList = byts cs) (hsz : c.size = cs.length) (hle : cs.length ≤ n) (hown : Own w1 B g n (List.replicate n 0)) :
    ∃ w2, (Builtin.copy_ #[22, 9] 3 #[.slice (some ⟨g, 0, none⟩) n n, .string c]).run Tryz.prog w1 = .ok (.int .i64 cs.length) w2 ∧ Own w2 B g n (cs ++ List.replicate (n - cs.length) 0) ∧ ∀ w0, Below B w0 w1 → Below B w0 w2 := by
  have hwh := Own.whole (w := w1) (B := B) (g := g) (xs := List.replicate n 0) (by simpa using hown)
  obtain ⟨cur, h1, h2, h3, h4, h5, h6⟩ := hown.parts
  have hr := Lib.run_copy_row_string (P := Tryz.prog) w1 22 9 3 5 g 0 n n c (byts (List.replicate n 0)).toArray 5 Tryz.underlying22 Tryz.size5 hwh (by omega) (by simp; omega)
  rw [hcs] at hr
  refine ⟨_, ?_, Own.mk (cur := (byts (cs ++ List.replicate (n - cs.length) 0)).toArray) h1 (setRow_heap w1 g _ _ 5 (0, 0) h2) (by simp; omega) h4 (by simp; omega) (by rw [List.take_of_length_le (by simp)]), fun w0 hb => below_setRow hb h1 _⟩
  rw [hr, hsz]
  have e : (byts (List.replicate n 0)).toArray.toList.take 0 ++ byts cs ++ (byts (List.replicate n 0)).toArray.toList.drop (0 + cs.length) = byts (cs ++ List.replicate (n - cs.length) 0) := by
    simp [byts]
  rw [e]
  rfl

theorem cell_far {w : World} {g h i j : Nat} {v : Value} (hne : h ≠ g) : (w.setCell ⟨h, i, none⟩ v).cell? ⟨g, j, none⟩ = w.cell? ⟨g, j, none⟩ :=
  World.cell?_setCell_other _ _ _ _ fun e => hne (congrArg Addr.block e)
/-- the list with the first k registers laid -/
def stL (base : List Int) (cl : Nat) (a b : Int) (k : Nat) : List Int := if k = 0 then base else if k = 1 then base.set cl a else (base.set cl a).set (cl + 1) b
theorem stL_length (base : List Int) (cl : Nat) (a b : Int) (k : Nat) : (stL base cl a b k).length = base.length := by
  unfold stL
  split
  · rfl
  · split <;> simp
/-- a store elsewhere -/
theorem At4.store {w : World} {g h i : Nat} {v x0 x1 x2 x3 : Value} (ha : At4 w g x0 x1 x2 x3) (hne : h ≠ g) : At4 (w.setCell ⟨h, i, none⟩ v) g x0 x1 x2 x3 :=
  ⟨(cell_far hne).trans ha.1, (cell_far hne).trans ha.2.1, (cell_far hne).trans ha.2.2.1, (cell_far hne).trans ha.2.2.2⟩

/-- an int32's four bytes, the lowest first -/
def le4 (n : Int) : List Int := [n % 4294967296 % 256, n % 4294967296 / 256 % 256, n % 4294967296 / 65536 % 256, n % 4294967296 / 16777216]
/-- an instruction's bytes -/
def encG (cs : List Int) (r : Nat) (q a b n : Int) : List Int := cs ++ (if 1 ≤ r then [a] else []) ++ (if 2 ≤ r then [b] else []) ++ (if q = 0 then [] else le4 n)
def encL (o : Nat) (a b n : Int) : List Int := encG (cdL o) (rg o) (kd o) a b n

theorem encG_zero (cs : List Int) (k : Nat) (a b n : Int) (h : k ≤ 2) : stL (cs ++ List.replicate k 0) cs.length a b k = encG cs k 0 a b n := by
  obtain rfl | rfl | rfl : k = 0 ∨ k = 1 ∨ k = 2 := by omega
  · simp [stL, encG]
  · simp [stL, encG]
  · simp [stL, encG, List.replicate]
theorem put_tail (xs : List Int) (v : Int) : putL (xs ++ [0, 0, 0, 0]) xs.length v = xs ++ [v % 256, v / 256 % 256, v / 65536 % 256, v / 16777216] := by
  simp [putL]
theorem encG_num (cs : List Int) (k : Nat) (q a b n : Int) (h : k ≤ 2) (hq : q ≠ 0) : putL (stL (cs ++ List.replicate (k + 4) 0) cs.length a b k) (cs.length + k) (n % 4294967296) = encG cs k q a b n := by
  obtain rfl | rfl | rfl : k = 0 ∨ k = 1 ∨ k = 2 := by omega
  · have e : stL (cs ++ List.replicate (0 + 4) 0) cs.length a b 0 = cs ++ [0, 0, 0, 0] := by simp [stL, List.replicate]
    rw [e, Nat.add_zero, put_tail]
    simp [encG, le4, hq]
  · have e : stL (cs ++ List.replicate (1 + 4) 0) cs.length a b 1 = (cs ++ [a]) ++ [0, 0, 0, 0] := by simp [stL, List.replicate]
    rw [e, show cs.length + 1 = (cs ++ [a]).length by simp, put_tail]
    simp [encG, le4, hq]
  · have e : stL (cs ++ List.replicate (2 + 4) 0) cs.length a b 2 = (cs ++ [a, b]) ++ [0, 0, 0, 0] := by simp [stL, List.replicate]
    rw [e, show cs.length + 2 = (cs ++ [a, b]).length by simp, put_tail]
    simp [encG, le4, hq]

set_option maxHeartbeats 2000000 in
set_option maxRecDepth 4000 in
theorem encode_gen (s c : ByteArray) (cs : List Int) (r L : Nat) (q o a b n : Int) (w : World)
    (hidx : ∀ w, (Instr.index 151 (.agg tab) (.int .u8 o)).run Tryz.prog w = .ok (.agg #[.string s, .string c, .int .i64 r, .int .u8 q]) w)
    (hright : ∀ w, Calls Tryz.prog 93 #[ins o a b n] w fun e w' => e = .returned (.bool true) ∧ Below w.heap.size w w')
    (hlen : ∀ w, Calls Tryz.prog 95 #[shp s c r q] w fun e w' => e = .returned (.int .i64 L) ∧ Below w.heap.size w w')
    (hcs : Lib.byteCells c.data.toList = byts cs) (hsz : c.size = cs.length) (hcl : cs.length ≤ 5) (hr : r ≤ 2) (hq : q = 0 ∨ q = 1 ∨ q = 2) (hL : L = cs.length + r + if q = 0 then 0 else 4) :
    Calls Tryz.prog 84 #[ins o a b n] w fun e w' => ∃ g cap, e = .returned (.tuple #[.slice (some ⟨g, 0, none⟩) L cap, .int .i64 0]) ∧ Own w' w.heap.size g cap (encG cs r q a b n) ∧ Below w.heap.size w w' := by
  obtain ⟨i0, hi, hz0, hz1, hz2⟩ := info_parts Tryz.info5
  have HS : Hid (c.size = cs.length) := hsz
  have HLL : Hid (L = cs.length + r + if q = 0 then 0 else 4) := hL
  have hL11 : L ≤ 11 := by rw [hL]; split <;> omega
  clear hL hsz
  go_enter Tryz.func84, Tryz.ntmps84
  go_wp2_with fail
  refine (hright _).mono ?_
  rintro e w1 ⟨rfl, hb1⟩
  have hbox := (At4.new w (.int .u8 o) (.int .u8 a) (.int .u8 b) (.int .i32 n) 133).below hb1
  have hbw := below_step (new_alloc w _) hb1
  clear hb1 hright
  have c0 := hbox.1
  have l0 : w.heap.size < w1.heap.size := cell_lt c0
  have c1 : ∀ ob, (w1.alloc ob).cell? ⟨w.heap.size, 0, none⟩ = some (.int .u8 o) := cell_push c0
  go_upto_region 3 with fail
  go_cut [4] from 12 to 15 (fun p wx => ∃ g, p = .pointer (some ⟨g, 0, none⟩) ∧ At4 wx g (.string s) (.string c) (.int .i64 r) (.int .u8 q) ∧ Below w1.heap.size w1 wx)
  case first =>
    go_region_with (go_at_call 94; refine (shapes_any _).mono ?_; rintro e w2 ⟨rfl, hb2⟩; first | (have c9 := (hb2.cell (p := ⟨w.heap.size, 0, none⟩) l0).trans c0; have c8 := cell_push c9; have hA := hb2) | (have c9 := (hb2.cell (p := ⟨w.heap.size, 0, none⟩) (lt_push l0 _)).trans (c1 _); obtain ⟨d0, d1, d2, d3, f0, f1, f2, f3⟩ := kept_new4 hb2; have hB := hb2))
    all_goals
      go_wp2_with fail
      go_meet
      case rel => first | exact ⟨_, rfl, met_A hA _ _ _ _ _⟩ | exact ⟨_, rfl, met_B hB _ _ _ _⟩
  case rest =>
    obtain ⟨g, rfl, hat, hbx⟩ := hcut
    have hbox2 := hbox.below hbx
    have hbc := below_step hbw hbx
    clear hbx hbw hbox c0 l0 c1 hidx
    have HA : Hid (At4 wc g (.string s) (.string c) (.int .i64 r) (.int .u8 q)) := hat
    have HB : Hid (At4 wc w.heap.size (.int .u8 o) (.int .u8 a) (.int .u8 b) (.int .i32 n)) := hbox2
    clear hbox2
    obtain ⟨q0, q1, q2, q3⟩ := hat
    go_wp2_with fail
    refine (hlen _).mono ?_
    rintro e w3 ⟨rfl, hb3⟩
    have HA3 : Hid (At4 w3 g (.string s) (.string c) (.int .i64 r) (.int .u8 q)) := HA.out.below hb3
    have HB3 : Hid (At4 w3 w.heap.size (.int .u8 o) (.int .u8 a) (.int .u8 b) (.int .i32 n)) := HB.out.below hb3
    have hb4 := below_step hbc hb3
    clear hb3 hbc HA HB q0 q1 q2 q3 hlen
    go_wp2_with (at_make; refine wpList_make_full _ rfl _ _ 22 rfl _ 5 i0 (.int .u8 0) 1 Tryz.underlying22 hi hz0 hz1 _ _ _ _ L rfl rfl rfl rfl (by rw [hz2]; omega) (by unfold maxLen; omega) (Nat.le_refl _) ?_; intro w4 hown hgrow; have hb5 := (Below.refl w3.heap.size w3).grown hgrow (Nat.le_refl _) (by simp); obtain ⟨w5, hcp, hown2, hb6⟩ := copy_code c cs hcs HS.out (by have := HLL.out; omega) (Own.of_made hown); have hb7 := hb6 _ hb5; obtain ⟨q0, q1, q2, q3⟩ := HA3.out.below hb5; have HA5 : Hid (At4 w5 g (.string s) (.string c) (.int .i64 r) (.int .u8 q)) := HA3.out.below hb7; have HB5 : Hid (At4 w5 w.heap.size (.int .u8 o) (.int .u8 a) (.int .u8 b) (.int .i32 n)) := HB3.out.below hb7; obtain ⟨p0, p1, p2, p3⟩ := HB3.out.below hb7; have q5 := cell_push HA5.out.2.2.1; have hb8 := below_step hb4 hb7; have HO : Hid (Own w5 w3.heap.size w3.heap.size L (cs ++ List.replicate (L - cs.length) 0)) := hown2; clear hown hgrow hb5 hb6 hb7 hown2)
    have HO6 : Hid (Own (w5.alloc (.cells #[.int .u8 a, .int .u8 b] 154)) w3.heap.size w3.heap.size L (cs ++ List.replicate (L - cs.length) 0)) := HO.out.below (new_alloc _ _)
    have HA6 : Hid (At4 (w5.alloc (.cells #[.int .u8 a, .int .u8 b] 154)) g (.string s) (.string c) (.int .i64 r) (.int .u8 q)) := HA5.out.below (new_alloc _ _)
    have HB6 : Hid (At4 (w5.alloc (.cells #[.int .u8 a, .int .u8 b] 154)) w.heap.size (.int .u8 o) (.int .u8 a) (.int .u8 b) (.int .i32 n)) := HB5.out.below (new_alloc _ _)
    have hb9 := below_alloc hb8 (.cells #[.int .u8 a, .int .u8 b] 154)
    have m0 : (w5.alloc (.cells #[.int .u8 a, .int .u8 b] 154)).cell? ⟨w5.heap.size, 0, none⟩ = some (.int .u8 a) := by simp
    have m1 : (w5.alloc (.cells #[.int .u8 a, .int .u8 b] 154)).cell? ⟨w5.heap.size, 1, none⟩ = some (.int .u8 b) := by simp
    have hG : w3.heap.size < w5.heap.size := HO.out.lt
    have hg3 : g < w3.heap.size := cell_lt HA3.out.1
    have hw3 : w.heap.size < w3.heap.size := cell_lt HB3.out.1
    clear q0 q1 q2 q3 p0 p1 p2 p3 q5 hb4 HO HA5 HB5 HA3 HB3 hcp hb8 hcs HS w1 wc
    generalize w5.alloc (.cells #[.int .u8 a, .int .u8 b] 154) = w6 at *
    generalize w5.heap.size = g7 at *
    generalize w3.heap.size = G at *
    clear w3 w4 w5
    have HBL : Hid ((cs ++ List.replicate (L - cs.length) 0).length = L) := by
      have := HLL.out
      show (cs ++ List.replicate (L - cs.length) 0).length = L
      simp; omega
    generalize hbase : cs ++ List.replicate (L - cs.length) 0 = base at *
    have HBASE : Hid (cs ++ List.replicate (L - cs.length) 0 = base) := hbase
    clear hbase
    go_loopw [30] (fun i wr => ∃ k : Nat, k ≤ r ∧ i = .int .i64 k ∧ Own wr G G L (stL base cs.length a b k) ∧ At4 wr g (.string s) (.string c) (.int .i64 r) (.int .u8 q) ∧ At4 wr w.heap.size (.int .u8 o) (.int .u8 a) (.int .u8 b) (.int .i32 n) ∧ wr.cell? ⟨g7, 0, none⟩ = some (.int .u8 a) ∧ wr.cell? ⟨g7, 1, none⟩ = some (.int .u8 b) ∧ Below w.heap.size w wr) (fun i _ => r - (intOf i).toNat)
    case atStart => exact ⟨0, Nat.zero_le _, rfl, HO6.out, HA6.out, HB6.out, m0, m1, hb9⟩
    case round =>
      obtain ⟨k, hk, rfl, hown, hat, hbox, k0, k1, hbk⟩ := hrel
      clear HO6 HA6 HB6 m0 m1 hb9
      by_cases hlt : k < r
      · have hkl : cs.length + k < L := by have := HLL.out; omega
        have d0 := hown.cell (cs.length + k) (by rw [stL_length, HBL.out]; exact hkl)
        have f0 := hown.free (cs.length + k)
        generalize (stL base cs.length a b k).getD (cs.length + k) 0 = z at *
        obtain rfl | rfl : k = 0 ∨ k = 1 := by omega
        · simp only [Nat.add_zero] at d0 f0 hkl
          go_wp2
          go_roundw
          case rel => exact ⟨1, by omega, by go_num, hown.store cs.length a, hat.store (by omega), hbox.store (by omega), (cell_far (by omega)).trans k0, (cell_far (by omega)).trans k1, hbk.setCell (Nat.le_of_lt hw3) _⟩
          case measure => simp [intOf]; omega
        · go_wp2
          go_roundw
          case rel => exact ⟨2, by omega, by go_num, hown.store (cs.length + 1) b, hat.store (by omega), hbox.store (by omega), (cell_far (by omega)).trans k0, (cell_far (by omega)).trans k1, hbk.setCell (Nat.le_of_lt hw3) _⟩
          case measure => simp [intOf]; omega
      · obtain rfl : k = r := by omega
        have HA : Hid (At4 wr g (.string s) (.string c) (.int .i64 k) (.int .u8 q)) := hat
        have HB : Hid (At4 wr w.heap.size (.int .u8 o) (.int .u8 a) (.int .u8 b) (.int .i32 n)) := hbox
        obtain ⟨q0, q1, q2, q3⟩ := hat
        obtain ⟨p0, p1, p2, p3⟩ := hbox
        by_cases hq0 : q = 0
        · subst hq0
          go_wp2
          go_ret2
          have hb : base = cs ++ List.replicate k 0 := by rw [← HBASE.out, show L - cs.length = k by have := HLL.out; simp at this; omega]
          rw [hb, encG_zero cs k a b n (by omega)] at hown
          exact ⟨_, _, rfl, hown.lower (Nat.le_of_lt hw3), hbk⟩
        · have hq1 : (q == 0) = false := by simpa using hq0
          have hLk : L = cs.length + k + 4 := by have := HLL.out; rw [if_neg hq0] at this; exact this
          have hb : base = cs ++ List.replicate (k + 4) 0 := by rw [← HBASE.out, show L - cs.length = k + 4 by omega]
          have HLk : Hid (L = cs.length + k + 4) := hLk
          clear hLk
          go_wp2_with fail
          refine (put32_ex _ L L (cs.length + k) (n % 4294967296) (stL base cs.length a b k) _ (by rw [stL_length, HBL.out]) (by omega) hown.row (by omega) (by omega) (by have := HLk.out; omega)).mono ?_
          rw [show ((cs.length : Int) + (k : Int)).toNat = cs.length + k by omega, hb, encG_num cs k q a b n (by omega) hq0]
          rintro e w7 ⟨g8, rfl, hown7, hb7⟩
          go_wp2
          go_ret2
          exact ⟨_, _, rfl, hown7.lower hbk.size, below_step hbk hb7⟩

theorem encG_length (cs : List Int) (r : Nat) (q a b n : Int) (hr : r ≤ 2) : (encG cs r q a b n).length = cs.length + r + if q = 0 then 0 else 4 := by
  obtain rfl | rfl | rfl : r = 0 ∨ r = 1 ∨ r = 2 := by omega
  all_goals (by_cases hq : q = 0 <;> simp [encG, le4, hq])
theorem encL_length (o : Nat) (a b n : Int) (h : o < 17) : (encL o a b n).length = lenN o := encG_length _ _ _ _ _ _ (rg_le o h)

theorem encode_yes (o : Nat) (a b n : Int) (w : World) (ha : 0 ≤ a ∧ a ≤ 255) (hb : 0 ≤ b ∧ b ≤ 255) (hR : rightB o a b n = true) :
    Calls Tryz.prog 84 #[ins o a b n] w fun e w' => ∃ g cap, e = .returned (.tuple #[.slice (some ⟨g, 0, none⟩) (lenN o) cap, .int .i64 0]) ∧ Own w' w.heap.size g cap (encL o a b n) ∧ Below w.heap.size w w' := by
  have ho : 1 ≤ o ∧ o < 17 := by
    simp only [rightB, Bool.and_eq_true, decide_eq_true_eq] at hR
    exact hR.1
  have hl := cdL_len o ho.2
  refine encode_gen (nm o) (cd o) (cdL o) (rg o) (lenN o) (kd o) o a b n w (idx_any o ho.2) (fun w => ?_) (length_op o ho.2) (cd_cells o ho.2) (cd_size o ho.2) hl (rg_le o ho.2) (kd_in o ho.2) rfl
  have := right_op o a b n w ho.1 ho.2 ha hb
  rw [hR] at this
  exact this

set_option maxHeartbeats 400000 in
theorem encode_no (o : Nat) (a b n : Int) (w : World) (ho : o ≤ 255) (ha : 0 ≤ a ∧ a ≤ 255) (hb : 0 ≤ b ∧ b ≤ 255) (hR : rightB o a b n = false) :
    Calls Tryz.prog 84 #[ins o a b n] w fun e w' => e = .returned (.tuple #[.slice none 0 0, .int .i64 2]) ∧ Below w.heap.size w w' := by
  have hcon := right_any o a b n (w.alloc (.cells #[.int .u8 o, .int .u8 a, .int .u8 b, .int .i32 n] 133)) ho ha hb
  rw [hR] at hcon
  clear hR
  go_enter Tryz.func84, Tryz.ntmps84
  go_wp2_with fail
  refine hcon.mono ?_
  rintro e w1 ⟨rfl, hb1⟩
  clear hcon
  go_wp2
  go_ret2
  exact ⟨rfl, below_step (new_alloc w _) hb1⟩
end Go.Proofs.YtgblohjdiheemaaGreat

/- isa.Quiet; object.rightMarks. -/
namespace Go.Proofs.YtgblohjdiheemaaGreat
open Go.RowKit

theorem encode_quiet (w : World) : Calls Tryz.prog 84 #[ins 3 0 0 0] w fun e w' => ∃ g cap, e = .returned (.tuple #[.slice (some ⟨g, 0, none⟩) 5 cap, .int .i64 0]) ∧ Own w' w.heap.size g cap quiet ∧ Below w.heap.size w w' :=
  encode_yes 3 0 0 0 w (by decide) (by decide) (by decide)
theorem quiet_any (w : World) : Calls Tryz.prog 71 #[] w fun e w' => ∃ g cap, e = .returned (.slice (some ⟨g, 0, none⟩) 5 cap) ∧ Own w' w.heap.size g cap quiet ∧ Below w.heap.size w w' := by
  go_enter Tryz.func71, Tryz.ntmps71
  go_wp2_with fail
  refine (encode_quiet _).mono ?_
  rintro e w1 ⟨g, cap, rfl, ho, hb⟩
  go_wp2
  go_ret
  exact ⟨g, cap, rfl, ho, hb⟩
theorem byt_quiet : Byt quiet := fun i => by
  match i with
  | 0 => decide
  | 1 => decide
  | 2 => decide
  | 3 => decide
  | 4 => decide
  | i + 5 => simp [quiet]

/-- fixes that are right end within the bytes -/
theorem rf_high (bs : List Int) : ∀ (L : List Fx) (least : Int), rfL bs least L = true → ∀ f ∈ L, f.at_ + 4 ≤ bs.length
  | [], _, _, f, hf => by cases hf
  | g :: r, least, h, f, hf => by
    unfold rfL at h
    rw [Bool.and_eq_true] at h
    rcases List.mem_cons.1 hf with rfl | hf
    · have h1 := h.1
      unfold fixB stB at h1
      simp only [Bool.and_eq_true, decide_eq_true_eq] at h1
      have h4 := h1.2.2.1
      have hl4 : ([0, 0, 0, 0] : List Int).length = 4 := rfl
      have h0 := h1.2.1
      omega
    · exact rf_high bs r _ h.2 f hf

set_option maxRecDepth 20000 in
set_option maxHeartbeats 8000000 in
theorem rightMarks_any (pb ps pf pm : Option Addr) (nb cb ns cs nf cf nm cm : Nat) (bs : List Int) (fs : List Fx) (L : List Mk) (w : World) (hb : bs.length = nb) (hnc : nb ≤ cb) (hcb : cb ≤ 9223372036854775807) (hf : fs.length = nf) (hf4 : nf ≤ 4096) (hn : L.length = nm) (hn4 : nm ≤ 4096) (hnb : nb ≤ 65536) (hbt : Byt bs) (hL : ∀ s ∈ L, MkF s) (hr1 : Row w pb bs) (hrf : Row3 w pf (fs.map fxV)) (hx : Row3 w pm (L.map mkV)) (hrt : rfL bs 0 fs = true) :
    Calls Tryz.prog 83 #[.agg (obA pb ps pf pm nb cb ns cs nf cf nm cm)] w fun E w' => E = .returned (.bool (rmL bs fs 0 L)) ∧ Below w.heap.size w w' := by
  have hN := fun s W => name_any s W (nmB s) (nmB_iff s)
  have hQ := quiet_any
  have hH := fun (a : Int) q d W ha ha2 k1 k2 => oholds_any pb q nb cb 5 d a bs quiet W hb rfl hnc hcb (by decide) ha ha2 k1 k2 hbt byt_quiet
  obtain ⟨hlo, hst⟩ := rf_sorted bs fs 0 hrt
  have hhi := rf_high bs fs 0 hrt
  have hS := fun (a : Int) W (ha : 0 ≤ a) (ha2 : a ≤ 65536) k => shares_any pf nf cf a fs W hf (by omega) k hst ha ha2 (fun f hf => by have := hhi f hf; omega) (fun f hf => by obtain ⟨i, hi, rfl⟩ := List.getElem_of_mem hf; exact hlo i hi)
  have HX := Hid.in hx
  have HN := Hid.in hn
  have HL := Hid.in hL
  have HRB := Hid.in hr1
  have HRF := Hid.in hrf
  have HLB := Hid.in hb
  clear hx hn hL hr1 hb hbt hlo hst hhi hrt hrf hf
  obtain ⟨r, hr⟩ : ∃ r, rmL bs fs 0 L = r := ⟨_, rfl⟩
  rw [hr]
  have HR := Hid.in hr
  clear hr
  go_enter Tryz.func83, Tryz.ntmps83
  go_upto_region 2 with fail
  have HK0 : Hid (Blk (w.alloc (.cells (obA pb ps pf pm nb cb ns cs nf cf nm cm) 121)) w.heap.size 121 (obA pb ps pf pm nb cb ns cs nf cf nm cm)) := Blk.new w 121 _
  have HB0 : Hid (Below w.heap.size w (w.alloc (.cells (obA pb ps pf pm nb cb ns cs nf cf nm cm) 121))) := new_alloc w _
  generalize w.alloc (.cells (obA pb ps pf pm nb cb ns cs nf cf nm cm) 121) = w0 at *
  have c2 : w0.cell? ⟨w.heap.size, 3, none⟩ = some (.slice pm nm cm) := HK0.out.cell 3
  go_wp2_with fail
  clear c2
  go_loopw [3, 9] (fun vl vi wr => ∃ (z : Int) (k : Nat), vl = .int .i64 z ∧ vi = .int .i64 k ∧ k ≤ nm ∧ rmL bs fs 0 L = rmL bs fs z (L.drop k) ∧ 0 ≤ z ∧ z ≤ 65540 ∧ Blk wr w.heap.size 121 (obA pb ps pf pm nb cb ns cs nf cf nm cm) ∧ Below w.heap.size w wr) (fun _ vi _ => nm - (intOf vi).toNat)
  case atStart => exact ⟨0, 0, rfl, rfl, Nat.zero_le _, rfl, by omega, by omega, HK0.out, HB0.out⟩
  case round =>
    obtain ⟨z, k, rfl, rfl, hk, hrs, hz0', hz1', hK, hB⟩ := hrel
    have HRS := Hid.in hrs
    have HK := Hid.in hK
    have HB := Hid.in hB
    clear hrs hK hB HK0 HB0
    by_cases hlt : k < nm
    · have hkl : k < L.length := by rw [HN.out]; exact hlt
      obtain ⟨b, o, rfl, hc⟩ := (HX.out.below HB.out) (by rw [List.length_map]; omega)
      obtain ⟨c0, c1, c2⟩ := cells3 hc k (by rw [List.length_map]; exact hkl)
      simp only [List.getElem_map, mkV] at c0 c1 c2
      clear hc
      obtain ⟨hsn, hsn2, hsa0, hsa1⟩ := HL.out L[k] (List.getElem_mem hkl)
      have HST := Hid.in (rm_step bs fs L k hkl z)
      generalize L[k] = f at *
      obtain ⟨fa, fk, ft⟩ := f
      simp only at c0 c1 c2 hsn hsn2 hsa0 hsa1
      have hBB : Hid (Below w.heap.size w (wr.alloc (.cells #[.int .i64 fa, .string fk, .string ft] 145))) := below_alloc HB.out _
      have HK1 : Hid (Blk (wr.alloc (.cells #[.int .i64 fa, .string fk, .string ft] 145)) w.heap.size 121 _) := HK.out.grow (new_alloc wr _)
      have HS1 : Hid (Blk (wr.alloc (.cells #[.int .i64 fa, .string fk, .string ft] 145)) wr.heap.size 145 #[.int .i64 fa, .string fk, .string ft]) := Blk.new wr 145 _
      cases hnm : nmB fk with
      | false =>
        go_wp2_with (go_at_call 90; refine (hN _ _).mono ?_; rw [hnm]; rintro E w2 ⟨rfl, hb2⟩; have HB2 := Hid.in (below_step hBB.out hb2); clear hb2)
        go_ret
        exact ⟨ret_bool (by rw [← HR.out, HRS.out, HST.out]; simp [mrkB, hnm]), HB2.out⟩
      | true =>
        go_upto_region 5 with fail
        go_wp2_with (go_at_call 90; refine (hN fk _).mono ?_; rw [hnm]; rintro E w2 ⟨rfl, hb2⟩; have HB2 := Hid.in (below_step hBB.out hb2); have HK2 := Hid.in (HK1.out.grow hb2); have HS2 := Hid.in (HS1.out.grow hb2); have s2 : w2.cell? ⟨wr.heap.size, 2, none⟩ = some (.string ft) := (HS1.out.grow hb2).cell 2; clear hb2; refine Hid.out ?_)
        refine Lib.hid ?_
        cases hnt : nmB ft with
        | false =>
          go_wp2_with (go_at_call 90; refine (hN ft _).mono ?_; rw [hnt]; rintro E w3 ⟨rfl, hb3⟩; have HB3 := Hid.in (below_step HB2.out hb3); clear hb3)
          go_ret
          exact ⟨ret_bool (by rw [← HR.out, HRS.out, HST.out]; simp [mrkB, hnt]), HB3.out⟩
        | true =>
          go_upto_region 7 with (go_at_call 90; refine (hN ft _).mono ?_; rw [hnt]; rintro E w3 ⟨rfl, hb3⟩; have HB3 := Hid.in (below_step HB2.out hb3); have HK3 := Hid.in (HK2.out.grow hb3); have HS3 := Hid.in (HS2.out.grow hb3); have s3 : w3.cell? ⟨wr.heap.size, 0, none⟩ = some (.int .i64 fa) := (HS2.out.grow hb3).cell 0; have o30 : w3.cell? ⟨w.heap.size, 0, none⟩ = some (.slice pb nb cb) := (HK2.out.grow hb3).cell 0; have o32 : w3.cell? ⟨w.heap.size, 2, none⟩ = some (.slice pf nf cf) := (HK2.out.grow hb3).cell 2; clear hb3)
          by_cases hlow : fa < z
          · clear hH hQ hS hN s2
            go_quiet (fail)
            go_wp2_with fail
            go_ret
            exact ⟨ret_bool (by rw [← HR.out, HRS.out, HST.out]; simp [mrkB, show ¬ z ≤ fa by omega]), below_draws HB3.out nq⟩
          · have hd : decide (fa < z) = false := decide_eq_false hlow
            cases hst : stB bs fa quiet with
            | false =>
              first
                | go_region_law (first
                  | (go_simp; go_at_call 71; refine (hQ _).mono ?_; rintro E w4 ⟨g4, d4, rfl, ho4, hb4⟩; have HO4 := Hid.in ho4; have HW4 := Hid.in (below_step (below_draws (below_self w3) 1) hb4); have HK4 := Hid.in (HK3.out.grow HW4.out); have HS4 := Hid.in (HS3.out.grow HW4.out); have HB4 := Hid.in (below_step HB3.out HW4.out); have s4 : w4.cell? ⟨wr.heap.size, 0, none⟩ = some (.int .i64 fa) := (HS3.out.grow HW4.out).cell 0; have o40 : w4.cell? ⟨w.heap.size, 0, none⟩ = some (.slice pb nb cb) := (HK3.out.grow HW4.out).cell 0; have o42 : w4.cell? ⟨w.heap.size, 2, none⟩ = some (.slice pf nf cf) := (HK3.out.grow HW4.out).cell 2; clear ho4 hb4)
                  | (go_simp; go_at_call 91; refine (hH fa _ _ _ (by omega) hsa1 (HRB.out.below HB4.out) HO4.out.row).mono ?_; rw [hst]; rintro E w5 ⟨rfl, rfl⟩))
                | fail
              all_goals
                go_wp2_with fail
                go_ret
                exact ⟨ret_bool (by rw [← HR.out, HRS.out, HST.out]; simp [mrkB, hst]), HB4.out⟩
            | true =>
              have htop : fa ≤ 65536 := by
                unfold stB at hst
                have h4 := (of_decide_eq_true hst).2.1
                have := HLB.out
                omega
              obtain ⟨sh, hsh⟩ : ∃ sh, shB fs fa = sh := ⟨_, rfl⟩
              have HFB : Hid (mrkB bs fs z ⟨fa, fk, ft⟩ = !sh) := by
                have : mrkB bs fs z ⟨fa, fk, ft⟩ = !sh := by simp [mrkB, hnm, hnt, hst, hsh, show z ≤ fa by omega]
                exact this
              first
                | go_region_law (first
                  | (go_simp; go_at_call 71; refine (hQ _).mono ?_; rintro E w4 ⟨g4, d4, rfl, ho4, hb4⟩; have HO4 := Hid.in ho4; have HW4 := Hid.in (below_step (below_draws (below_self w3) 1) hb4); have HK4 := Hid.in (HK3.out.grow HW4.out); have HS4 := Hid.in (HS3.out.grow HW4.out); have HB4 := Hid.in (below_step HB3.out HW4.out); have s4 : w4.cell? ⟨wr.heap.size, 0, none⟩ = some (.int .i64 fa) := (HS3.out.grow HW4.out).cell 0; have o40 : w4.cell? ⟨w.heap.size, 0, none⟩ = some (.slice pb nb cb) := (HK3.out.grow HW4.out).cell 0; have o42 : w4.cell? ⟨w.heap.size, 2, none⟩ = some (.slice pf nf cf) := (HK3.out.grow HW4.out).cell 2; clear ho4 hb4)
                  | (go_simp; go_at_call 91; refine (hH fa _ _ _ (by omega) hsa1 (HRB.out.below HB4.out) HO4.out.row).mono ?_; rw [hst]; rintro E w5 ⟨rfl, rfl⟩)
                  | (go_simp; go_at_call 92; refine (hS fa _ (by omega) htop (HRF.out.below HB4.out)).mono ?_; rw [hsh]; rintro E w6 ⟨rfl, hb6⟩; have HB6 := Hid.in (below_step HB4.out hb6); have HK6 := Hid.in (HK4.out.grow hb6); have s6 : w6.cell? ⟨wr.heap.size, 0, none⟩ = some (.int .i64 fa) := (HS4.out.grow hb6).cell 0; clear hb6))
                | fail
              all_goals
                clear hH hN hS hQ
                cases sh with
                | true =>
                  go_wp2_with fail
                  go_ret
                  exact ⟨ret_bool (by rw [← HR.out, HRS.out, HST.out, HFB.out]; rfl), HB6.out⟩
                | false =>
                  go_wp2_with fail
                  go_roundw
                  case rel => exact ⟨fa, k + 1, rfl, by go_num, by omega, by rw [HRS.out, HST.out, HFB.out]; rfl, by omega, by omega, HK6.out, HB6.out⟩
                  case measure => simp [intOf]; omega
    · have hkn : k = nm := by omega
      subst hkn
      go_wp2_with fail
      go_ret
      exact ⟨ret_bool (by rw [← HR.out, HRS.out, List.drop_eq_nil_of_le (by rw [HN.out]; exact Nat.le_refl _)]; rfl), HB.out⟩

end Go.Proofs.YtgblohjdiheemaaGreat

/- object.Right, for every object. -/
namespace Go.Proofs.YtgblohjdiheemaaGreat
open Go.RowKit

/-- an object's lists in memory -/
structure ObIn (w : World) (o : Ob) (pb ps pf pm : Option Addr) (nb cb ns cs nf cf nm cm : Nat) : Prop where
  lb : o.bs.length = nb
  ls : o.sy.length = ns
  lf : o.fx.length = nf
  lm : o.mk_.length = nm
  kb : nb ≤ cb
  mb : cb ≤ maxLen
  ks : ns ≤ maxLen
  kf : nf ≤ maxLen
  km : nm ≤ maxLen
  rb : Row w pb o.bs
  rs : Row3 w ps (o.sy.map syV)
  rf : Row3 w pf (o.fx.map fxV)
  rm : Row3 w pm (o.mk_.map mkV)
  fit : ObF o
theorem ObIn.below {w w' : World} {o : Ob} {pb ps pf pm : Option Addr} {nb cb ns cs nf cf nm cm : Nat} (h : ObIn w o pb ps pf pm nb cb ns cs nf cf nm cm) (hb : Below w.heap.size w w') : ObIn w' o pb ps pf pm nb cb ns cs nf cf nm cm :=
  { h with rb := h.rb.below hb, rs := h.rs.below hb, rf := h.rf.below hb, rm := h.rm.below hb }

set_option maxRecDepth 20000 in
set_option maxHeartbeats 2000000 in
theorem oright_any (o : Ob) (pb ps pf pm : Option Addr) (nb cb ns cs nf cf nm cm : Nat) (w : World) (h : ObIn w o pb ps pf pm nb cb ns cs nf cf nm cm) :
    Calls Tryz.prog 70 #[.agg (obA pb ps pf pm nb cb ns cs nf cf nm cm)] w fun E w' => E = .returned (.bool (okO o)) ∧ Below w.heap.size w w' := by
  have H := Hid.in h
  have hcb : cb ≤ 9223372036854775807 := by have := h.mb; unfold maxLen at this; omega
  have hns : ns ≤ 9223372036854775807 := by have := h.ks; unfold maxLen at this; omega
  have hnf : nf ≤ 9223372036854775807 := by have := h.kf; unfold maxLen at this; omega
  have hnm : nm ≤ 9223372036854775807 := by have := h.km; unfold maxLen at this; omega
  have hkb := h.kb
  have HE : Hid (okO o = (decide (nb ≤ 65536 ∧ ns ≤ 4096 ∧ nf ≤ 4096 ∧ nm ≤ 4096) && rsL nb 0 [] o.sy && rfL o.bs 0 o.fx && rmL o.bs o.fx 0 o.mk_)) := by
    have : okO o = (decide (nb ≤ 65536 ∧ ns ≤ 4096 ∧ nf ≤ 4096 ∧ nm ≤ 4096) && rsL nb 0 [] o.sy && rfL o.bs 0 o.fx && rmL o.bs o.fx 0 o.mk_) := by
      unfold okO
      rw [h.lb, h.ls, h.lf, h.lm]
    exact this
  clear h
  obtain ⟨r, hr⟩ : ∃ r, okO o = r := ⟨_, rfl⟩
  rw [hr]
  have HR := Hid.in hr
  clear hr
  have HK0 : Hid (Blk (w.alloc (.cells (obA pb ps pf pm nb cb ns cs nf cf nm cm) 121)) w.heap.size 121 (obA pb ps pf pm nb cb ns cs nf cf nm cm)) := Blk.new w 121 _
  have HB0 : Hid (Below w.heap.size w (w.alloc (.cells (obA pb ps pf pm nb cb ns cs nf cf nm cm) 121))) := new_alloc w _
  by_cases hs : nb ≤ 65536 ∧ ns ≤ 4096 ∧ nf ≤ 4096 ∧ nm ≤ 4096
  · obtain ⟨h1, h2, h3, h4⟩ := hs
    have hS := fun W (k : ObIn W o pb ps pf pm nb cb ns cs nf cf nm cm) => rightSymbols_any pb ps pf pm nb cb ns cs nf cf nm cm o.sy W k.ls h2 h1 k.fit.sy k.rs
    have hF := fun W (k : ObIn W o pb ps pf pm nb cb ns cs nf cf nm cm) => rightFixes_any pb ps pf pm nb cb ns cs nf cf nm cm o.bs o.fx W k.lb hkb hcb k.lf h3 h1 k.fit.byt k.fit.fx k.rb k.rf
    have hM := fun W (k : ObIn W o pb ps pf pm nb cb ns cs nf cf nm cm) => rightMarks_any pb ps pf pm nb cb ns cs nf cf nm cm o.bs o.fx o.mk_ W k.lb hkb hcb k.lf h3 k.lm h4 h1 k.fit.byt k.fit.mk_ k.rb k.rf k.rm
    have hd : decide (nb ≤ 65536 ∧ ns ≤ 4096 ∧ nf ≤ 4096 ∧ nm ≤ 4096) = true := decide_eq_true ⟨h1, h2, h3, h4⟩
    rw [hd, Bool.true_and] at HE
    clear hd
    generalize rsL nb 0 [] o.sy = r1 at *
    generalize rfL o.bs 0 o.fx = r2 at *
    generalize rmL o.bs o.fx 0 o.mk_ = r3 at *
    go_enter Tryz.func70, Tryz.ntmps70
    go_upto_region 1 with fail
    generalize w.alloc (.cells (obA pb ps pf pm nb cb ns cs nf cf nm cm) 121) = w0 at *
    have o0 : w0.cell? ⟨w.heap.size, 0, none⟩ = some (.slice pb nb cb) := HK0.out.cell 0
    have o1 : w0.cell? ⟨w.heap.size, 1, none⟩ = some (.slice ps ns cs) := HK0.out.cell 1
    have o2 : w0.cell? ⟨w.heap.size, 2, none⟩ = some (.slice pf nf cf) := HK0.out.cell 2
    have o3 : w0.cell? ⟨w.heap.size, 3, none⟩ = some (.slice pm nm cm) := HK0.out.cell 3
    cases r1 with
    | false =>
      go_wp2_with (go_at_call 81; refine (hS _ (H.out.below HB0.out)).mono ?_; rintro E w1 ⟨rfl, hb1⟩; have HK1 := Hid.in (HK0.out.grow hb1); have HB1 := Hid.in (below_step HB0.out hb1); have o10 : w1.cell? ⟨w.heap.size, 0, none⟩ = some (.slice pb nb cb) := (HK0.out.grow hb1).cell 0; have o11 : w1.cell? ⟨w.heap.size, 1, none⟩ = some (.slice ps ns cs) := (HK0.out.grow hb1).cell 1; have o12 : w1.cell? ⟨w.heap.size, 2, none⟩ = some (.slice pf nf cf) := (HK0.out.grow hb1).cell 2; have o13 : w1.cell? ⟨w.heap.size, 3, none⟩ = some (.slice pm nm cm) := (HK0.out.grow hb1).cell 3; clear hb1)
      all_goals
        go_ret
        exact ⟨ret_bool (by rw [← HR.out, HE.out]; rfl), HB1.out⟩
    | true =>
      cases r2 with
      | false =>
        go_wp2_with (first
          | (go_at_call 81; refine (hS _ (H.out.below HB0.out)).mono ?_; rintro E w1 ⟨rfl, hb1⟩; have HK1 := Hid.in (HK0.out.grow hb1); have HB1 := Hid.in (below_step HB0.out hb1); have o10 : w1.cell? ⟨w.heap.size, 0, none⟩ = some (.slice pb nb cb) := (HK0.out.grow hb1).cell 0; have o11 : w1.cell? ⟨w.heap.size, 1, none⟩ = some (.slice ps ns cs) := (HK0.out.grow hb1).cell 1; have o12 : w1.cell? ⟨w.heap.size, 2, none⟩ = some (.slice pf nf cf) := (HK0.out.grow hb1).cell 2; have o13 : w1.cell? ⟨w.heap.size, 3, none⟩ = some (.slice pm nm cm) := (HK0.out.grow hb1).cell 3; clear hb1)
          | (go_at_call 82; refine (hF _ (H.out.below HB1.out)).mono ?_; rintro E w2 ⟨rfl, hb2⟩; have HK2 := Hid.in (HK1.out.grow hb2); have HB2 := Hid.in (below_step HB1.out hb2); have o20 : w2.cell? ⟨w.heap.size, 0, none⟩ = some (.slice pb nb cb) := (HK1.out.grow hb2).cell 0; have o21 : w2.cell? ⟨w.heap.size, 1, none⟩ = some (.slice ps ns cs) := (HK1.out.grow hb2).cell 1; have o22 : w2.cell? ⟨w.heap.size, 2, none⟩ = some (.slice pf nf cf) := (HK1.out.grow hb2).cell 2; have o23 : w2.cell? ⟨w.heap.size, 3, none⟩ = some (.slice pm nm cm) := (HK1.out.grow hb2).cell 3; clear hb2))
        all_goals
          go_ret
          exact ⟨ret_bool (by rw [← HR.out, HE.out]; rfl), HB2.out⟩
      | true =>
        go_wp2_with (first
          | (go_at_call 81; refine (hS _ (H.out.below HB0.out)).mono ?_; rintro E w1 ⟨rfl, hb1⟩; have HK1 := Hid.in (HK0.out.grow hb1); have HB1 := Hid.in (below_step HB0.out hb1); have o10 : w1.cell? ⟨w.heap.size, 0, none⟩ = some (.slice pb nb cb) := (HK0.out.grow hb1).cell 0; have o11 : w1.cell? ⟨w.heap.size, 1, none⟩ = some (.slice ps ns cs) := (HK0.out.grow hb1).cell 1; have o12 : w1.cell? ⟨w.heap.size, 2, none⟩ = some (.slice pf nf cf) := (HK0.out.grow hb1).cell 2; have o13 : w1.cell? ⟨w.heap.size, 3, none⟩ = some (.slice pm nm cm) := (HK0.out.grow hb1).cell 3; clear hb1)
          | (go_at_call 82; refine (hF _ (H.out.below HB1.out)).mono ?_; rintro E w2 ⟨rfl, hb2⟩; have HK2 := Hid.in (HK1.out.grow hb2); have HB2 := Hid.in (below_step HB1.out hb2); have o20 : w2.cell? ⟨w.heap.size, 0, none⟩ = some (.slice pb nb cb) := (HK1.out.grow hb2).cell 0; have o21 : w2.cell? ⟨w.heap.size, 1, none⟩ = some (.slice ps ns cs) := (HK1.out.grow hb2).cell 1; have o22 : w2.cell? ⟨w.heap.size, 2, none⟩ = some (.slice pf nf cf) := (HK1.out.grow hb2).cell 2; have o23 : w2.cell? ⟨w.heap.size, 3, none⟩ = some (.slice pm nm cm) := (HK1.out.grow hb2).cell 3; clear hb2)
          | (go_at_call 83; refine (hM _ (H.out.below HB2.out) (by trivial)).mono ?_; rintro E w3 ⟨rfl, hb3⟩; have HB3 := Hid.in (below_step HB2.out hb3); clear hb3))
        all_goals
          go_ret
          exact ⟨ret_bool (by rw [← HR.out, HE.out]; rfl), HB3.out⟩
  · have hd : decide (nb ≤ 65536 ∧ ns ≤ 4096 ∧ nf ≤ 4096 ∧ nm ≤ 4096) = false := decide_eq_false hs
    rw [hd, Bool.false_and, Bool.false_and, Bool.false_and] at HE
    clear hd
    go_enter Tryz.func70, Tryz.ntmps70
    go_upto_region 1 with fail
    generalize w.alloc (.cells (obA pb ps pf pm nb cb ns cs nf cf nm cm) 121) = w0 at *
    have o0 : w0.cell? ⟨w.heap.size, 0, none⟩ = some (.slice pb nb cb) := HK0.out.cell 0
    have o1 : w0.cell? ⟨w.heap.size, 1, none⟩ = some (.slice ps ns cs) := HK0.out.cell 1
    have o2 : w0.cell? ⟨w.heap.size, 2, none⟩ = some (.slice pf nf cf) := HK0.out.cell 2
    have o3 : w0.cell? ⟨w.heap.size, 3, none⟩ = some (.slice pm nm cm) := HK0.out.cell 3
    go_wp2_with fail
    all_goals (try (exfalso; simp_all; omega))
    all_goals
      go_ret
      exact ⟨ret_bool (by rw [← HR.out, HE.out]), HB0.out⟩

end Go.Proofs.YtgblohjdiheemaaGreat

/- symbols.Table, for every list of units. -/
namespace Go.Proofs.YtgblohjdiheemaaGreat
open Go.RowKit

/-- a unit in a list of units -/
def UnitIn (w : World) (b o i : Nat) (x : Ob) : Prop :=
  ∃ (pb ps pf pm : Option Addr) (cb cs cf cm : Nat), (w.cell? ⟨b, o + i * 4, none⟩ = some (.slice pb x.bs.length cb) ∧ w.cell? ⟨b, o + i * 4 + 1, none⟩ = some (.slice ps x.sy.length cs) ∧ w.cell? ⟨b, o + i * 4 + 2, none⟩ = some (.slice pf x.fx.length cf) ∧ w.cell? ⟨b, o + i * 4 + 3, none⟩ = some (.slice pm x.mk_.length cm)) ∧ ObIn w x pb ps pf pm x.bs.length cb x.sy.length cs x.fx.length cf x.mk_.length cm
def Units (w : World) (p : Option Addr) (xs : List Ob) : Prop := 0 < xs.length → ∃ b o, p = some ⟨b, o, none⟩ ∧ ∀ i (h : i < xs.length), UnitIn w b o i xs[i]
theorem Units.below {w w' : World} {p : Option Addr} {xs : List Ob} (h : Units w p xs) (hb : Below w.heap.size w w') : Units w' p xs := fun h0 => by
  obtain ⟨b, o, e, hc⟩ := h h0
  refine ⟨b, o, e, fun i hi => ?_⟩
  obtain ⟨pb, ps, pf, pm, cb, cs, cf, cm, ⟨c0, c1, c2, c3⟩, hI⟩ := hc i hi
  exact ⟨pb, ps, pf, pm, cb, cs, cf, cm, ⟨(hb.cell (cell_lt c0)).trans c0, (hb.cell (cell_lt c1)).trans c1, (hb.cell (cell_lt c2)).trans c2, (hb.cell (cell_lt c3)).trans c3⟩, hI.below hb⟩
def startsV (ss : List Nat) : List Value := ss.map fun (n : Nat) => .int .i64 (n : Int)
def TabIs (xs : List Ob) (w : World) (E : Ending) (w' : World) : Prop :=
  ∃ v2 v3, E = .returned (.tuple #[v2, v3, .int .i64 (tabL xs).e, .int .i64 ((tabL xs).u : Nat)]) ∧ GOwnV 3 w' w.heap.size v2 (startsV (tabL xs).ss) ∧ TOwn 116 w' w.heap.size v3 ((tabL xs).ts.map syV) ∧ Below w.heap.size w w'
theorem tabIs_err {xs : List Ob} {w w' : World} {e : Int} {u : Nat} (h : tabL xs = noTab e u) (hb : Below w.heap.size w w') : TabIs xs w (.returned (.tuple #[.slice none 0 0, .slice none 0 0, .int .i64 e, .int .i64 (u : Nat)])) w' := by
  refine ⟨_, _, by rw [h]; rfl, ?_, ?_, hb⟩
  · rw [h]; exact GOwnV.nil _ _ _
  · rw [h]; exact TOwn.nil _ _ _
theorem rs_good (n : Nat) : ∀ (L : List Sy) (least : Int) (seen : List ByteArray), rsL n least seen L = true → ∀ s ∈ L, least ≤ s.at_ ∧ s.at_ ≤ n ∧ NameP s.name
  | [], _, _, _, s, hs => by cases hs
  | x :: L, least, seen, h, s, hs => by
    unfold rsL at h
    rw [Bool.and_eq_true] at h
    obtain ⟨h1, h2⟩ := h
    have hx : least ≤ x.at_ ∧ x.at_ ≤ n ∧ NameP x.name := by
      unfold symB at h1
      simp only [Bool.and_eq_true, decide_eq_true_eq] at h1
      obtain ⟨⟨⟨_, ha⟩, hb⟩, hc⟩ := h1
      exact ⟨hb, hc, (nmB_iff _).1 ha⟩
    rcases List.mem_cons.1 hs with rfl | hs
    · exact hx
    · obtain ⟨i1, i2, i3⟩ := rs_good n L _ _ h2 s hs
      exact ⟨by omega, i2, i3⟩
theorem ok_parts {o : Ob} (h : okO o = true) : o.bs.length ≤ 65536 ∧ o.sy.length ≤ 4096 ∧ (names o.sy).Nodup ∧ (∀ s ∈ o.sy, 0 ≤ s.at_ ∧ s.at_ ≤ 65536) ∧ ∀ s ∈ o.sy, s.name.size ≤ 16 := by
  unfold okO at h
  simp only [Bool.and_eq_true, decide_eq_true_eq] at h
  obtain ⟨⟨⟨⟨h1, h2, -, -⟩, h3⟩, -⟩, -⟩ := h
  refine ⟨h1, h2, (rs_nodup _ _ _ _ h3).2, fun s hs => ?_, fun s hs => (rs_good _ _ _ _ h3 s hs).2.2.2.2⟩
  obtain ⟨i1, i2, -⟩ := rs_good _ _ _ _ h3 s hs
  exact ⟨i1, by omega⟩

theorem row_lower {w : World} {B B' : Nat} {T : TypeId} {z : Nat} {v : Value} {n : Nat} {xs : List Value} (h : w.ownsRow B T z v n xs) (hB : B' ≤ B) : w.ownsRow B' T z v n xs := by
  obtain ⟨h0, h1⟩ := h
  refine ⟨h0, h1.imp id ?_⟩
  rintro ⟨g, cap, cur, e1, e2, e3⟩
  exact ⟨g, cap, cur, e1, Nat.le_trans hB e2, e3⟩
theorem row_far {w : World} {B b : Nat} {T : TypeId} {z : Nat} {v : Value} {n : Nat} {xs : List Value} (h : w.ownsRow B T z v n xs) (hb : b < B) : v.ownBlock ≠ some b := fun e => absurd (World.ownsRow.lt h _ e).1 (by omega)
theorem gloS_len (L : List Sy) : (gloS L).length ≤ L.length := by unfold gloS; rw [List.length_map]; exact List.length_filter_le _ _

end Go.Proofs.YtgblohjdiheemaaGreat
