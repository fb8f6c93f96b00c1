/- Texts put together: Read1, Read2, Read3, Read4. -/
import Derived.Test.YtkianldkbfjehaaGreatDoorKi

/- What the readers of a field do: readReg, readName, holds. -/
namespace Go.Proofs.YtkianldkbfjehaaGreatDoor
open Go.RowKit

theorem list_two (f : ByteArray) (h : f.size = 2) : f.data.toList = [f[0]'(by omega), f[1]'(by omega)] := by
  obtain ⟨⟨l⟩⟩ := f
  have hl : l.length = 2 := h
  match l, hl with
  | [c, d], _ => rfl

set_option maxHeartbeats 1000000 in
theorem readReg_some (g i : Nat) (f : ByteArray) (r : Int) (hr : regL f.data.toList = some r) (w : World) (u : Value) (hc : w.cell? ⟨g, i, none⟩ = some u) (hf : w.frozen? ⟨g, i, none⟩ = false) :
    Calls Tryz.prog 115 #[.pointer (some ⟨g, i, none⟩), .string f] w fun e w' => e = .returned (.int .i64 0) ∧ w' = w.setCell ⟨g, i, none⟩ (.int .u8 r) := by
  have hsz : f.size = 2 := by
    rw [Lib.size_eq]
    unfold regL at hr
    split at hr
    · rename_i h; rw [h]; rfl
    · cases hr
  rw [list_two f hsz] at hr
  simp only [regL] at hr
  split at hr
  · rename_i h
    obtain ⟨h0, h1, h2⟩ := h
    injection hr with hr
    subst hr
    have h0' : ((f[0]'(by omega)).toNat : Int) = 114 := by rw [h0]; rfl
    have h1' : (48 : Int) ≤ ((f[1]'(by omega)).toNat : Int) := by omega
    have h2' : ((f[1]'(by omega)).toNat : Int) ≤ 55 := by omega
    clear h0 h1 h2
    go_enter Tryz.func115, Tryz.ntmps115
    go_wp2
    go_ret
    exact ⟨rfl, rfl⟩
  · cases hr

set_option maxHeartbeats 1000000 in
theorem readReg_none (g i : Nat) (f : ByteArray) (hr : regL f.data.toList = none) (w : World) :
    Calls Tryz.prog 115 #[.pointer (some ⟨g, i, none⟩), .string f] w fun e w' => e = .returned (.int .i64 140) ∧ w' = w := by
  by_cases hsz : f.size = 2
  · rw [list_two f hsz] at hr
    simp only [regL] at hr
    split at hr
    · cases hr
    · rename_i h
      clear hr
      by_cases h0 : f[0]'(by omega) = 114
      · have h0' : ((f[0]'(by omega)).toNat : Int) = 114 := by rw [h0]; rfl
        by_cases h1 : 48 ≤ (f[1]'(by omega)).toNat
        · have h1' : (48 : Int) ≤ ((f[1]'(by omega)).toNat : Int) := by omega
          have h2' : (55 : Int) < ((f[1]'(by omega)).toNat : Int) := by
            have : ¬ (f[1]'(by omega)).toNat ≤ 55 := fun e => h ⟨h0, h1, e⟩
            omega
          clear h h0 h1
          go_enter Tryz.func115, Tryz.ntmps115
          go_wp2
          go_ret
          exact ⟨rfl, rfl⟩
        · have h1' : ((f[1]'(by omega)).toNat : Int) < 48 := by omega
          clear h h0 h1
          go_enter Tryz.func115, Tryz.ntmps115
          go_wp2
          go_ret
          exact ⟨rfl, rfl⟩
      · have h0' : ¬ ((f[0]'(by omega)).toNat : Int) = 114 := fun e => h0 (by
          apply UInt8.toNat_inj.1
          have : ((114 : UInt8).toNat : Int) = 114 := rfl
          omega)
        clear h h0
        go_enter Tryz.func115, Tryz.ntmps115
        go_wp2
        go_ret
        exact ⟨rfl, rfl⟩
  · clear hr
    have hz : ¬ ((f.size : Int) = 2) := by omega
    go_enter Tryz.func115, Tryz.ntmps115
    go_wp2
    go_ret
    exact ⟨rfl, rfl⟩

set_option maxHeartbeats 1000000 in
theorem readName_yes (g i : Nat) (f : ByteArray) (hn : nameB f.data.toList = true) (w : World) (u : Value) (hc : w.cell? ⟨g, i, none⟩ = some u) (hf : w.frozen? ⟨g, i, none⟩ = false) :
    Calls Tryz.prog 116 #[.pointer (some ⟨g, i, none⟩), .string f] w fun e w' => e = .returned (.int .i64 0) ∧ ∃ w1, Below w.heap.size w w1 ∧ w' = w1.setCell ⟨g, i, none⟩ (.string f) := by
  have hN := fun W => name_any f W true ⟨fun _ => (nameB_iff f).1 hn, fun _ => rfl⟩
  have hlt := cell_lt hc
  clear hn
  go_enter Tryz.func116, Tryz.ntmps116
  go_wp2_with (go_at_call 67; refine (hN _).mono ?_; rintro e w1 ⟨rfl, hb1⟩; have hc1 := (hb1.cell (p := ⟨g, i, none⟩) hlt).trans hc; have hf1 := (hb1.frozen (p := ⟨g, i, none⟩) hlt).trans hf)
  go_ret
  exact ⟨rfl, w1, hb1, rfl⟩
set_option maxHeartbeats 1000000 in
theorem readName_no (g i : Nat) (f : ByteArray) (hn : nameB f.data.toList = false) (w : World) :
    Calls Tryz.prog 116 #[.pointer (some ⟨g, i, none⟩), .string f] w fun e w' => e = .returned (.int .i64 140) ∧ Below w.heap.size w w' := by
  have hN := fun W => name_any f W false ⟨fun h => (by cases h), fun h => by rw [← hn]; exact (nameB_iff f).2 h⟩
  clear hn
  go_enter Tryz.func116, Tryz.ntmps116
  go_wp2_with (go_at_call 67; refine (hN _).mono ?_; rintro e w1 ⟨rfl, hb1⟩)
  go_ret
  exact ⟨rfl, hb1⟩
end Go.Proofs.YtkianldkbfjehaaGreatDoor

/- What a number's place holds; what (place).read does. -/
namespace Go.Proofs.YtkianldkbfjehaaGreatDoor
open Go.RowKit

set_option maxHeartbeats 1000000 in
theorem holds_2 (v : Int) (w : World) :
    Calls Tryz.prog 118 #[.int .u8 2, .int .i64 v] w fun e w' => e = .returned (.bool (holdsB 2 v)) ∧ w' = w := by
  by_cases h1 : (-2147483648 : Int) ≤ v
  · go_enter Tryz.func118, Tryz.ntmps118
    go_wp2
    go_ret
    exact ⟨rname_ret (by simp [holdsB, h1]), rfl⟩
  · go_enter Tryz.func118, Tryz.ntmps118
    go_wp2
    go_ret
    exact ⟨rname_ret (by simp [holdsB]; omega), rfl⟩
set_option maxHeartbeats 1000000 in
theorem holds_5 (v : Int) (w : World) :
    Calls Tryz.prog 118 #[.int .u8 5, .int .i64 v] w fun e w' => e = .returned (.bool (holdsB 5 v)) ∧ w' = w := by
  by_cases h1 : (0 : Int) ≤ v
  · go_enter Tryz.func118, Tryz.ntmps118
    go_wp2
    go_ret
    exact ⟨rname_ret (by simp [holdsB, h1]), rfl⟩
  · go_enter Tryz.func118, Tryz.ntmps118
    go_wp2
    go_ret
    exact ⟨rname_ret (by simp [holdsB]; omega), rfl⟩
set_option maxHeartbeats 1000000 in
theorem holds_6 (v : Int) (w : World) :
    Calls Tryz.prog 118 #[.int .u8 6, .int .i64 v] w fun e w' => e = .returned (.bool (holdsB 6 v)) ∧ w' = w := by
  by_cases h1 : (0 : Int) ≤ v
  · go_enter Tryz.func118, Tryz.ntmps118
    go_wp2
    go_ret
    exact ⟨rname_ret (by simp [holdsB, h1]), rfl⟩
  · go_enter Tryz.func118, Tryz.ntmps118
    go_wp2
    go_ret
    exact ⟨rname_ret (by simp [holdsB]; omega), rfl⟩
theorem pow_two (v : Int) (h1 : 1 ≤ v) (h2 : v ≤ 64) : (bits BinOp.and IntKind.i64 v (v - 1) == 0) = holdsB 7 v := by
  have H : ∀ k : Fin 64, (bits BinOp.and IntKind.i64 ((k.val : Int) + 1) (((k.val : Int) + 1) - 1) == 0) = holdsB 7 ((k.val : Int) + 1) := by decide
  have h := H ⟨(v - 1).toNat, by omega⟩
  have e : (((v - 1).toNat : Nat) : Int) + 1 = v := by omega
  simp only [e] at h
  exact h
set_option maxHeartbeats 1000000 in
theorem holds_7 (v : Int) (w : World) :
    Calls Tryz.prog 118 #[.int .u8 7, .int .i64 v] w fun e w' => e = .returned (.bool (holdsB 7 v)) ∧ w' = w := by
  by_cases h1 : (1 : Int) ≤ v
  · by_cases h2 : v ≤ (64 : Int)
    · have hp := Hid.in (pow_two v h1 h2)
      go_enter Tryz.func118, Tryz.ntmps118
      go_wp2
      go_ret
      exact ⟨rname_ret hp.out, rfl⟩
    · have hp : Hid (false = holdsB 7 v) := by
        have : holdsB 7 v = false := by simp [holdsB]; omega
        exact this.symm
      go_enter Tryz.func118, Tryz.ntmps118
      go_wp2
      go_ret
      exact ⟨rname_ret hp.out, rfl⟩
  · have hp : Hid (false = holdsB 7 v) := by
        have : holdsB 7 v = false := by simp [holdsB]; omega
        exact this.symm
    go_enter Tryz.func118, Tryz.ntmps118
    go_wp2
    go_ret
    exact ⟨rname_ret hp.out, rfl⟩
theorem holds_any (p : Nat) (hp : p = 2 ∨ p = 5 ∨ p = 6 ∨ p = 7) (v : Int) (w : World) :
    Calls Tryz.prog 118 #[.int .u8 p, .int .i64 v] w fun e w' => e = .returned (.bool (holdsB p v)) ∧ w' = w := by
  rcases hp with rfl | rfl | rfl | rfl
  · exact holds_2 v w
  · exact holds_5 v w
  · exact holds_6 v w
  · exact holds_7 v w

theorem Tryz.elem26 : Elem 24 5 1 := ⟨Tryz.underlying24, .int .u8 0, rfl, Tryz.info5⟩
theorem Vars.keep {w w' : World} {B : Nat} (h : Vars w) (hb : Below B w w') (hB : 2 < B) : Vars w' := by
  obtain ⟨ev, h1, h2⟩ := h
  exact ⟨ev, by rw [hb.cell (p := ⟨2, 0, none⟩) hB]; exact h1, h2⟩

/-- an item x lies in block g, its data behind it -/
structure ItAt (w : World) (g : Nat) (x : Src) (d : Value) : Prop where
  blk : Blk w g 57 (cellsOf x d)
  own : GOwnV 5 w (g + 1) d (byts x.d)
theorem ItAt.grow {w w' : World} {g : Nat} {x : Src} {d : Value} (h : ItAt w g x d) (hb : Below w.heap.size w w') : ItAt w' g x d := ⟨h.blk.grow hb, h.own.below hb⟩
theorem own_set {w : World} {g i : Nat} {d : Value} {vs : List Value} (h : GOwnV 5 w (g + 1) d vs) (v : Value) : GOwnV 5 (w.setCell ⟨g, i, none⟩ v) (g + 1) d vs :=
  h.grownOther (grown_setCell w g i v) (.inr (h.not_low (Nat.lt_succ_self _)).symm)
theorem ItAt.set {w : World} {g : Nat} {x y : Src} {d : Value} (h : ItAt w g x d) (i : Nat) (v : Value) (hc : (cellsOf x d).setIfInBounds i v = cellsOf y d) (hd : y.d = x.d) : ItAt (w.setCell ⟨g, i, none⟩ v) g y d :=
  ⟨by rw [← hc]; exact h.blk.set i v, by rw [hd]; exact own_set h.own v⟩
/-- what is done to the item -/
def ReadIs (e : Int) (y : Src) (g : Nat) (w : World) (E : Ending) (w' : World) : Prop := E = .returned (.int .i64 e) ∧ (∃ d, ItAt w' g y d) ∧ Below g w w'
theorem low_set {w w1 : World} {g i : Nat} (hb : Below w.heap.size w w1) (hg : g ≤ w.heap.size) (v : Value) : Below g w (w1.setCell ⟨g, i, none⟩ v) :=
  (hb.mono hg).trans (below_grown (grown_setCell w1 g i v) (Nat.le_refl _) (Nat.le_trans hg hb.size))

end Go.Proofs.YtkianldkbfjehaaGreatDoor

/- What (place).read does to an item. -/
namespace Go.Proofs.YtkianldkbfjehaaGreatDoor
open Go.RowKit

set_option maxHeartbeats 1000000 in
theorem read_r0_no (g : Nat) (x : Src) (d : Value) (f : ByteArray) (w : World) (hx : ItAt w g x d) (hr : regL f.data.toList = none) :
    Calls Tryz.prog 94 #[.int .u8 0, .pointer (some ⟨g, 0, none⟩), .string f] w (ReadIs 140 x g w) := by
  have hN := fun W => readReg_none g 4 f hr W
  have HX := Hid.in hx
  clear hx hr
  go_enter Tryz.func94, Tryz.ntmps94
  go_wp2_with (go_at_call 115; refine (hN _).mono ?_; rintro e w1 ⟨rfl, rfl⟩)
  go_ret
  exact ⟨rfl, ⟨_, HX.out⟩, Below.refl _ _⟩
set_option maxHeartbeats 1000000 in
theorem read_r0_yes (g : Nat) (x : Src) (d : Value) (f : ByteArray) (w : World) (hx : ItAt w g x d) (r : Int) (hr : regL f.data.toList = some r) :
    Calls Tryz.prog 94 #[.int .u8 0, .pointer (some ⟨g, 0, none⟩), .string f] w (ReadIs 0 { x with a := r } g w) := by
  have hN := readReg_some g 4 f r hr w _ (hx.blk.cell 4) (hx.blk.free 4)
  have HX := Hid.in hx
  clear hx hr
  go_enter Tryz.func94, Tryz.ntmps94
  go_wp2_with (go_at_call 115; refine hN.mono ?_; rintro e w1 ⟨rfl, rfl⟩)
  go_ret
  exact ⟨rfl, ⟨_, HX.out.set (y := { x with a := r }) 4 _ rfl rfl⟩, low_set (below_self _) (Nat.le_of_lt HX.out.blk.lt) _⟩
set_option maxHeartbeats 1000000 in
theorem read_r1_no (g : Nat) (x : Src) (d : Value) (f : ByteArray) (w : World) (hx : ItAt w g x d) (hr : regL f.data.toList = none) :
    Calls Tryz.prog 94 #[.int .u8 1, .pointer (some ⟨g, 0, none⟩), .string f] w (ReadIs 140 x g w) := by
  have hN := fun W => readReg_none g 5 f hr W
  have HX := Hid.in hx
  clear hx hr
  go_enter Tryz.func94, Tryz.ntmps94
  go_wp2_with (go_at_call 115; refine (hN _).mono ?_; rintro e w1 ⟨rfl, rfl⟩)
  go_ret
  exact ⟨rfl, ⟨_, HX.out⟩, Below.refl _ _⟩
set_option maxHeartbeats 1000000 in
theorem read_r1_yes (g : Nat) (x : Src) (d : Value) (f : ByteArray) (w : World) (hx : ItAt w g x d) (r : Int) (hr : regL f.data.toList = some r) :
    Calls Tryz.prog 94 #[.int .u8 1, .pointer (some ⟨g, 0, none⟩), .string f] w (ReadIs 0 { x with b := r } g w) := by
  have hN := readReg_some g 5 f r hr w _ (hx.blk.cell 5) (hx.blk.free 5)
  have HX := Hid.in hx
  clear hx hr
  go_enter Tryz.func94, Tryz.ntmps94
  go_wp2_with (go_at_call 115; refine hN.mono ?_; rintro e w1 ⟨rfl, rfl⟩)
  go_ret
  exact ⟨rfl, ⟨_, HX.out.set (y := { x with b := r }) 5 _ rfl rfl⟩, low_set (below_self _) (Nat.le_of_lt HX.out.blk.lt) _⟩
set_option maxHeartbeats 1000000 in
theorem read_n3_no (g : Nat) (x : Src) (d : Value) (f : ByteArray) (w : World) (hx : ItAt w g x d) (hr : nameB f.data.toList = false) :
    Calls Tryz.prog 94 #[.int .u8 3, .pointer (some ⟨g, 0, none⟩), .string f] w (ReadIs 140 x g w) := by
  have hN := fun W => readName_no g 1 f hr W
  have HX := Hid.in hx
  clear hx hr
  go_enter Tryz.func94, Tryz.ntmps94
  go_wp2_with (go_at_call 116; refine (hN _).mono ?_; rintro e w1 ⟨rfl, hb1⟩)
  go_ret
  exact ⟨rfl, ⟨_, HX.out.grow hb1⟩, hb1.mono (Nat.le_of_lt HX.out.blk.lt)⟩
set_option maxHeartbeats 1000000 in
theorem read_n3_yes (g : Nat) (x : Src) (d : Value) (f : ByteArray) (w : World) (hx : ItAt w g x d) (hr : nameB f.data.toList = true) :
    Calls Tryz.prog 94 #[.int .u8 3, .pointer (some ⟨g, 0, none⟩), .string f] w (ReadIs 0 { x with name := f } g w) := by
  have hN := readName_yes g 1 f hr w _ (hx.blk.cell 1) (hx.blk.free 1)
  have HX := Hid.in hx
  clear hx hr
  go_enter Tryz.func94, Tryz.ntmps94
  go_wp2_with (go_at_call 116; refine hN.mono ?_; rintro e w1 ⟨rfl, w2, hb2, rfl⟩)
  go_ret
  exact ⟨rfl, ⟨_, (HX.out.grow hb2).set (y := { x with name := f }) 1 _ rfl rfl⟩, low_set hb2 (Nat.le_of_lt HX.out.blk.lt) _⟩
set_option maxHeartbeats 1000000 in
theorem read_n4_no (g : Nat) (x : Src) (d : Value) (f : ByteArray) (w : World) (hx : ItAt w g x d) (hr : nameB f.data.toList = false) :
    Calls Tryz.prog 94 #[.int .u8 4, .pointer (some ⟨g, 0, none⟩), .string f] w (ReadIs 140 x g w) := by
  have hN := fun W => readName_no g 2 f hr W
  have HX := Hid.in hx
  clear hx hr
  go_enter Tryz.func94, Tryz.ntmps94
  go_wp2_with (go_at_call 116; refine (hN _).mono ?_; rintro e w1 ⟨rfl, hb1⟩)
  go_ret
  exact ⟨rfl, ⟨_, HX.out.grow hb1⟩, hb1.mono (Nat.le_of_lt HX.out.blk.lt)⟩
set_option maxHeartbeats 1000000 in
theorem read_n4_yes (g : Nat) (x : Src) (d : Value) (f : ByteArray) (w : World) (hx : ItAt w g x d) (hr : nameB f.data.toList = true) :
    Calls Tryz.prog 94 #[.int .u8 4, .pointer (some ⟨g, 0, none⟩), .string f] w (ReadIs 0 { x with tg := f } g w) := by
  have hN := readName_yes g 2 f hr w _ (hx.blk.cell 2) (hx.blk.free 2)
  have HX := Hid.in hx
  clear hx hr
  go_enter Tryz.func94, Tryz.ntmps94
  go_wp2_with (go_at_call 116; refine hN.mono ?_; rintro e w1 ⟨rfl, w2, hb2, rfl⟩)
  go_ret
  exact ⟨rfl, ⟨_, (HX.out.grow hb2).set (y := { x with tg := f }) 2 _ rfl rfl⟩, low_set hb2 (Nat.le_of_lt HX.out.blk.lt) _⟩

set_option maxHeartbeats 1000000 in
theorem read_num_no (p : Nat) (hp : p = 2 ∨ p = 5 ∨ p = 6 ∨ p = 7) (g : Nat) (x : Src) (d : Value) (f : ByteArray) (w : World) (hx : ItAt w g x d) (hm : f.size ≤ 281474976710656) (hv : Vars w) (hr : numL f.data.toList = none) :
    Calls Tryz.prog 94 #[.int .u8 p, .pointer (some ⟨g, 0, none⟩), .string f] w (ReadIs 140 x g w) := by
  have hN := fun W hW => number_any f hm W hW
  rw [hr] at hN
  simp only [Option.isSome_none] at hN
  generalize numV f.data.toList = v at hN
  have HX := Hid.in hx
  clear hx hr
  rcases hp with rfl | rfl | rfl | rfl
  all_goals
    go_enter Tryz.func94, Tryz.ntmps94
    go_wp2_with (go_at_call 117; refine (hN _ hv).mono ?_; rintro e w1 ⟨rfl, hb1⟩)
    go_ret
    exact ⟨rfl, ⟨_, HX.out.grow hb1⟩, hb1.mono (Nat.le_of_lt HX.out.blk.lt)⟩
set_option maxHeartbeats 1000000 in
theorem read_num_range (p : Nat) (hp : p = 2 ∨ p = 5 ∨ p = 6 ∨ p = 7) (g : Nat) (x : Src) (d : Value) (f : ByteArray) (w : World) (hx : ItAt w g x d) (hm : f.size ≤ 281474976710656) (hv : Vars w) (v : Int) (hr : numL f.data.toList = some v) (hh : holdsB p v = false) :
    Calls Tryz.prog 94 #[.int .u8 p, .pointer (some ⟨g, 0, none⟩), .string f] w (ReadIs 150 x g w) := by
  have hN := fun W hW => number_any f hm W hW
  have hH := fun W => holds_any p hp v W
  rw [numV, hr] at hN
  rw [hh] at hH
  simp only [Option.isSome_some, Option.getD_some] at hN
  have HX := Hid.in hx
  clear hx hr hh
  rcases hp with rfl | rfl | rfl | rfl
  all_goals
    go_enter Tryz.func94, Tryz.ntmps94
    go_wp2_with (first
      | (go_at_call 117; refine (hN _ hv).mono ?_; rintro e w1 ⟨rfl, hb1⟩)
      | (go_at_call 118; refine (hH _).mono ?_; rintro e w2 ⟨rfl, rfl⟩))
    go_ret
    exact ⟨rfl, ⟨_, HX.out.grow hb1⟩, hb1.mono (Nat.le_of_lt HX.out.blk.lt)⟩
set_option maxHeartbeats 1000000 in
theorem read_num_two (g : Nat) (x : Src) (d : Value) (f : ByteArray) (w : World) (hx : ItAt w g x d) (hm : f.size ≤ 281474976710656) (hv : Vars w) (v : Int) (hr : numL f.data.toList = some v) (hh : holdsB 2 v = true) :
    Calls Tryz.prog 94 #[.int .u8 2, .pointer (some ⟨g, 0, none⟩), .string f] w (ReadIs 0 { x with m := v } g w) := by
  have hN := fun W hW => number_any f hm W hW
  have hH := fun W => holds_2 v W
  have hlo : -2147483648 ≤ v ∧ v ≤ 2147483647 := by simpa [holdsB] using hh
  rw [numV, hr] at hN
  rw [hh] at hH
  simp only [Option.isSome_some, Option.getD_some] at hN
  have HX := Hid.in hx
  clear hx hr hh
  go_enter Tryz.func94, Tryz.ntmps94
  go_wp2_with (first
    | (go_at_call 117; refine (hN _ hv).mono ?_; rintro e w1 ⟨rfl, hb1⟩; have hc := (HX.out.grow hb1).blk.cell 6; have hf := (HX.out.grow hb1).blk.free 6; simp only [cellsOf] at hc)
    | (go_at_call 118; refine (hH _).mono ?_; rintro e w2 ⟨rfl, rfl⟩))
  go_ret
  exact ⟨rfl, ⟨_, (HX.out.grow hb1).set (y := { x with m := v }) 6 _ rfl rfl⟩, low_set hb1 (Nat.le_of_lt HX.out.blk.lt) _⟩
set_option maxHeartbeats 1000000 in
theorem read_num_n (p : Nat) (hp : p = 6 ∨ p = 7) (g : Nat) (x : Src) (d : Value) (f : ByteArray) (w : World) (hx : ItAt w g x d) (hm : f.size ≤ 281474976710656) (hv : Vars w) (v : Int) (hr : numL f.data.toList = some v) (hh : holdsB p v = true) :
    Calls Tryz.prog 94 #[.int .u8 p, .pointer (some ⟨g, 0, none⟩), .string f] w (ReadIs 0 { x with n := v } g w) := by
  have hN := fun W hW => number_any f hm W hW
  have hH := fun W => holds_any p (by omega) v W
  rw [numV, hr] at hN
  rw [hh] at hH
  simp only [Option.isSome_some, Option.getD_some] at hN
  have HX := Hid.in hx
  clear hx hr hh
  rcases hp with rfl | rfl
  all_goals
    go_enter Tryz.func94, Tryz.ntmps94
    go_wp2_with (first
      | (go_at_call 117; refine (hN _ hv).mono ?_; rintro e w1 ⟨rfl, hb1⟩; have hc := (HX.out.grow hb1).blk.cell 7; have hf := (HX.out.grow hb1).blk.free 7; simp only [cellsOf] at hc)
      | (go_at_call 118; refine (hH _).mono ?_; rintro e w2 ⟨rfl, rfl⟩))
    go_ret
    exact ⟨rfl, ⟨_, (HX.out.grow hb1).set (y := { x with n := v }) 7 _ rfl rfl⟩, low_set hb1 (Nat.le_of_lt HX.out.blk.lt) _⟩

end Go.Proofs.YtkianldkbfjehaaGreatDoor

/- What (place).read does to an item: bytes; all places. -/
namespace Go.Proofs.YtkianldkbfjehaaGreatDoor
open Go.RowKit

theorem step8 {w w1 w3 : World} {g : Nat} {x : Src} {d v' : Value} {v : Int} {o : Obj} (hx : ItAt w g x d) (hb1 : Below w.heap.size w w1) (hown : GOwnV 5 w3 (g + 1) v' (byts x.d ++ [.int .u8 v])) (hgrow : (w1.alloc o).grownBy w3 d.ownBlock) (hbel : ∀ w0, Below (g + 1) w0 (w1.alloc o) → Below (g + 1) w0 w3) :
    Blk w3 g 57 (cellsOf x d) ∧ ItAt (w3.setCell ⟨g, 8, none⟩ v') g { x with d := x.d ++ [v] } v' ∧ Below g w (w3.setCell ⟨g, 8, none⟩ v') := by
  have h1 := (hx.grow hb1).grow (new_alloc w1 o)
  have h3 : Blk w3 g 57 (cellsOf x d) := h1.blk.kept hgrow (h1.own.not_low (Nat.lt_succ_self _))
  have hb : Below g w (w1.alloc o) := (below_alloc hb1 o).mono (Nat.le_of_lt hx.blk.lt)
  have hb0 : Below (g + 1) w (w1.alloc o) := (below_alloc hb1 o).mono hx.blk.lt
  have hb3 := hbel w hb0
  refine ⟨h3, ⟨h3.set 8 v', ?_⟩, (hb3.mono (Nat.le_succ g)).trans (below_grown (grown_setCell w3 g 8 v') (Nat.le_refl _) (Nat.le_of_lt h3.lt))⟩
  have := own_set (i := 8) hown v'
  simpa using this

set_option maxRecDepth 20000 in
set_option maxHeartbeats 1000000 in
theorem read_num_octet (g : Nat) (x : Src) (d : Value) (f : ByteArray) (w : World) (hx : ItAt w g x d) (hm : f.size ≤ 281474976710656) (hv : Vars w) (v : Int) (hr : numL f.data.toList = some v) (hh : holdsB 5 v = true) (hlen : x.d.length + 1 ≤ 140737488355328) :
    Calls Tryz.prog 94 #[.int .u8 5, .pointer (some ⟨g, 0, none⟩), .string f] w (ReadIs 0 { x with d := x.d ++ [v] } g w) := by
  have hN := fun W hW => number_any f hm W hW
  have hH := fun W => holds_5 v W
  have hlo : 0 ≤ v ∧ v ≤ 255 := by simpa [holdsB] using hh
  rw [numV, hr] at hN
  rw [hh] at hH
  simp only [Option.isSome_some, Option.getD_some] at hN
  have HX := Hid.in hx
  have hlt := hx.blk.lt
  have hbl : (byts x.d).length = x.d.length := List.length_map _
  obtain ⟨q, cap, hd, -, -, -⟩ := hx.own.slice
  rw [hbl] at hd
  subst hd
  have HL := Hid.in hbl
  clear hx hr hh hbl
  obtain ⟨n, hn⟩ : ∃ n, n = x.d.length := ⟨_, rfl⟩
  rw [← hn] at HX HL hlen
  have HN := Hid.in hn
  clear hn
  go_enter Tryz.func94, Tryz.ntmps94
  go_wp2_with (first
    | (go_at_call 117; refine (hN _ hv).mono ?_; rintro e w1 ⟨rfl, hb1⟩; have hc := (HX.out.grow hb1).blk.cell 8; simp only [cellsOf] at hc; have hs1 := hb1.size; have HB1 := Hid.in hb1; clear hb1)
    | (go_at_call 118; refine (hH _).mono ?_; rintro e w2 ⟨rfl, rfl⟩)
    | (at_builtin; refine gpush Tryz.elem26 _ rfl _ _ rfl (g + 1) _ (byts x.d) rfl ((HX.out.grow HB1.out).own.alloc _) ⟨w2.heap.size, 0, none⟩ 1 1 [.int .u8 v] rfl rfl (cell_one_new _ _ _) (by simp [Value.oneCell']) (by rw [HL.out]; omega) (by rw [HL.out]; omega) (by simp; omega) ?_; intro v' w3 hown hgrow hbel _hnil; obtain ⟨g2, cap2, hv2⟩ := ownsRow_succ' hown; rw [List.length_map] at hv2; subst hv2; obtain ⟨k1, k2, k3⟩ := step8 HX.out HB1.out hown hgrow hbel; have hc8 := k1.cell 8; have hf8 := k1.free 8; simp only [cellsOf] at hc8; have K2 := Hid.in k2; have K3 := Hid.in k3; clear k1 k2 k3 hown hgrow hbel))
  all_goals go_ret
  all_goals exact ⟨rfl, ⟨_, K2.out⟩, K3.out⟩

theorem read_any (p : Nat) (hp : p < 8) (g : Nat) (x : Src) (d : Value) (f : ByteArray) (w : World) (hx : ItAt w g x d) (hm : f.size ≤ 281474976710656) (hv : Vars w) (hlen : x.d.length + 1 ≤ 140737488355328) :
    Calls Tryz.prog 94 #[.int .u8 p, .pointer (some ⟨g, 0, none⟩), .string f] w (ReadIs (readL p x f.data.toList).1 (readL p x f.data.toList).2 g w) := by
  have : p = 0 ∨ p = 1 ∨ p = 3 ∨ p = 4 ∨ p = 2 ∨ p = 5 ∨ p = 6 ∨ p = 7 := by omega
  rcases this with rfl | rfl | rfl | rfl | h
  · cases hr : regL f.data.toList with
    | none => simpa [readL, hr] using read_r0_no g x d f w hx hr
    | some r => simpa [readL, hr] using read_r0_yes g x d f w hx r hr
  · cases hr : regL f.data.toList with
    | none => simpa [readL, hr] using read_r1_no g x d f w hx hr
    | some r => simpa [readL, hr] using read_r1_yes g x d f w hx r hr
  · cases hr : nameB f.data.toList with
    | false => simpa [readL, hr] using read_n3_no g x d f w hx hr
    | true => simpa [readL, hr, bytesOf_self] using read_n3_yes g x d f w hx hr
  · cases hr : nameB f.data.toList with
    | false => simpa [readL, hr] using read_n4_no g x d f w hx hr
    | true => simpa [readL, hr, bytesOf_self] using read_n4_yes g x d f w hx hr
  · have h0 : ¬ p = 0 := by omega
    have h1 : ¬ p = 1 := by omega
    have h3 : ¬ p = 3 := by omega
    have h4 : ¬ p = 4 := by omega
    cases hr : numL f.data.toList with
    | none =>
      have := read_num_no p (by omega) g x d f w hx hm hv hr
      simpa [readL, h0, h1, h3, h4, hr] using this
    | some v =>
      cases hh : holdsB p v with
      | false =>
        have := read_num_range p (by omega) g x d f w hx hm hv v hr hh
        simpa [readL, h0, h1, h3, h4, hr, hh] using this
      | true =>
        rcases h with rfl | rfl | h
        · have := read_num_two g x d f w hx hm hv v hr hh
          simpa [readL, hr, hh, putS] using this
        · have := read_num_octet g x d f w hx hm hv v hr hh hlen
          simpa [readL, hr, hh, putS] using this
        · have := read_num_n p (by omega) g x d f w hx hm hv v hr hh
          have h2 : ¬ p = 2 := by omega
          have h5 : ¬ p = 5 := by omega
          simpa [readL, h0, h1, h3, h4, hr, hh, putS, h2, h5] using this
theorem readL_len (p : Nat) (x : Src) (f : List UInt8) : (readL p x f).2.d.length ≤ x.d.length + 1 := by
  unfold readL
  split
  · split <;> simp
  split
  · split <;> simp
  split
  · split <;> simp
  split
  · split <;> simp
  split
  · simp
  split
  · unfold putS; split
    · simp
    split <;> simp
  · simp

end Go.Proofs.YtkianldkbfjehaaGreatDoor
