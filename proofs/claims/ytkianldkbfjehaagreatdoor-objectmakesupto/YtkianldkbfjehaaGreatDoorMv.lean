/- Texts put together: RefForm, RefOps, RefA, RefB, RefC, RefD, RefE, RefF, RefG. -/
import Derived.Test.YtkianldkbfjehaaGreatDoorKh
import Derived.Test.YtkianldkbfjehaaGreatDoorKj
import Derived.Test.YtkianldkbfjehaaGreatDoorKi
import Derived.Test.YtkianldkbfjehaaGreatDoorKk

/- What switchyardref02.Name, Op and FormOf answer. -/
namespace Go.Proofs.YtkianldkbfjehaaGreatDoor
open Go.RowKit

set_option maxHeartbeats 1000000 in
theorem rname_yes (o : Nat) (w : World) (h1 : 1 ≤ o) (h2 : o < 17) :
    Calls Tryz.prog 104 #[.int .u8 o] w fun e w' => e = .returned (.string (nm o)) ∧ w' = w := by
  obtain rfl | rfl | rfl | rfl | rfl | rfl | rfl | rfl | rfl | rfl | rfl | rfl | rfl | rfl | rfl | rfl : o = 1 ∨ o = 2 ∨ o = 3 ∨ o = 4 ∨ o = 5 ∨ o = 6 ∨ o = 7 ∨ o = 8 ∨ o = 9 ∨ o = 10 ∨ o = 11 ∨ o = 12 ∨ o = 13 ∨ o = 14 ∨ o = 15 ∨ o = 16 := by omega
  all_goals
    go_enter Tryz.func104, Tryz.ntmps104
    go_wp2
    go_ret
    exact ⟨rfl, rfl⟩

set_option maxHeartbeats 1000000 in
theorem rname_no (o : Int) (w : World) (h : o = 0 ∨ 17 ≤ o) :
    Calls Tryz.prog 104 #[.int .u8 o] w fun e w' => e = .returned (.string ⟨#[]⟩) ∧ w' = w := by
  have e1 : (o == 1) = false := by simp; omega
  have e2 : (o == 2) = false := by simp; omega
  have e3 : (o == 3) = false := by simp; omega
  have e4 : (o == 4) = false := by simp; omega
  have e5 : (o == 5) = false := by simp; omega
  have e6 : (o == 6) = false := by simp; omega
  have e7 : (o == 7) = false := by simp; omega
  have e8 : (o == 8) = false := by simp; omega
  have e9 : (o == 9) = false := by simp; omega
  have e10 : (o == 10) = false := by simp; omega
  have e11 : (o == 11) = false := by simp; omega
  have e12 : (o == 12) = false := by simp; omega
  have e13 : (o == 13) = false := by simp; omega
  have e14 : (o == 14) = false := by simp; omega
  have e15 : (o == 15) = false := by simp; omega
  have e16 : (o == 16) = false := by simp; omega
  clear h
  go_enter Tryz.func104, Tryz.ntmps104
  go_wp2
  go_ret
  exact ⟨rfl, rfl⟩

abbrev frm (f l : Int) (A B M D : Bool) : Value := .agg #[.int .u8 f, .int .i64 l, .bool A, .bool B, .bool M, .bool D]
def hA (o : Nat) : Bool := decide (1 ≤ rg o)
def hB (o : Nat) : Bool := decide (2 ≤ rg o)
def hM (o : Nat) : Bool := decide (kd o ≠ 0)
def hD (o : Nat) : Bool := decide (kd o = 2)

set_option maxHeartbeats 2000000 in
theorem form_yes (o : Nat) (w : World) (h1 : 1 ≤ o) (h2 : o < 17) :
    Calls Tryz.prog 31 #[.int .u8 o] w fun e w' => e = .returned (.tuple #[frm (fb o) (lenN o) (hA o) (hB o) (hM o) (hD o), .bool true]) ∧ Below w.heap.size w w' := by
  obtain rfl | rfl | rfl | rfl | rfl | rfl | rfl | rfl | rfl | rfl | rfl | rfl | rfl | rfl | rfl | rfl : o = 1 ∨ o = 2 ∨ o = 3 ∨ o = 4 ∨ o = 5 ∨ o = 6 ∨ o = 7 ∨ o = 8 ∨ o = 9 ∨ o = 10 ∨ o = 11 ∨ o = 12 ∨ o = 13 ∨ o = 14 ∨ o = 15 ∨ o = 16 := by omega
  · go_enter Tryz.func31, Tryz.ntmps31
    go_wp2
    exact bodyPost_ret (v := .tuple #[frm 0 1 false false false false, .bool true]) (by simp [results, Tryz.results31, go_sem]) rfl ⟨rfl, new_alloc _ _⟩
  · go_enter Tryz.func31, Tryz.ntmps31
    go_wp2
    exact bodyPost_ret (v := .tuple #[frm 144 1 false false false false, .bool true]) (by simp [results, Tryz.results31, go_sem]) rfl ⟨rfl, new_alloc _ _⟩
  · go_enter Tryz.func31, Tryz.ntmps31
    go_wp2
    exact bodyPost_ret (v := .tuple #[frm 15 5 false false false false, .bool true]) (by simp [results, Tryz.results31, go_sem]) rfl ⟨rfl, new_alloc _ _⟩
  · go_enter Tryz.func31, Tryz.ntmps31
    go_wp2
    exact bodyPost_ret (v := .tuple #[frm 204 1 false false false false, .bool true]) (by simp [results, Tryz.results31, go_sem]) rfl ⟨rfl, new_alloc _ _⟩
  · go_enter Tryz.func31, Tryz.ntmps31
    go_wp2
    exact bodyPost_ret (v := .tuple #[frm 184 6 true false true false, .bool true]) (by simp [results, Tryz.results31, go_sem]) rfl ⟨rfl, new_alloc _ _⟩
  · go_enter Tryz.func31, Tryz.ntmps31
    go_wp2
    exact bodyPost_ret (v := .tuple #[frm 137 3 true true false false, .bool true]) (by simp [results, Tryz.results31, go_sem]) rfl ⟨rfl, new_alloc _ _⟩
  · go_enter Tryz.func31, Tryz.ntmps31
    go_wp2
    exact bodyPost_ret (v := .tuple #[frm 1 3 true true false false, .bool true]) (by simp [results, Tryz.results31, go_sem]) rfl ⟨rfl, new_alloc _ _⟩
  · go_enter Tryz.func31, Tryz.ntmps31
    go_wp2
    exact bodyPost_ret (v := .tuple #[frm 41 3 true true false false, .bool true]) (by simp [results, Tryz.results31, go_sem]) rfl ⟨rfl, new_alloc _ _⟩
  · go_enter Tryz.func31, Tryz.ntmps31
    go_wp2
    exact bodyPost_ret (v := .tuple #[frm 116 6 true false true false, .bool true]) (by simp [results, Tryz.results31, go_sem]) rfl ⟨rfl, new_alloc _ _⟩
  · go_enter Tryz.func31, Tryz.ntmps31
    go_wp2
    exact bodyPost_ret (v := .tuple #[frm 117 6 true false true false, .bool true]) (by simp [results, Tryz.results31, go_sem]) rfl ⟨rfl, new_alloc _ _⟩
  · go_enter Tryz.func31, Tryz.ntmps31
    go_wp2
    exact bodyPost_ret (v := .tuple #[frm 233 5 false false true false, .bool true]) (by simp [results, Tryz.results31, go_sem]) rfl ⟨rfl, new_alloc _ _⟩
  · go_enter Tryz.func31, Tryz.ntmps31
    go_wp2
    exact bodyPost_ret (v := .tuple #[frm 232 5 false false true false, .bool true]) (by simp [results, Tryz.results31, go_sem]) rfl ⟨rfl, new_alloc _ _⟩
  · go_enter Tryz.func31, Tryz.ntmps31
    go_wp2
    exact bodyPost_ret (v := .tuple #[frm 195 1 false false false false, .bool true]) (by simp [results, Tryz.results31, go_sem]) rfl ⟨rfl, new_alloc _ _⟩
  · go_enter Tryz.func31, Tryz.ntmps31
    go_wp2
    exact bodyPost_ret (v := .tuple #[frm 139 6 true false true true, .bool true]) (by simp [results, Tryz.results31, go_sem]) rfl ⟨rfl, new_alloc _ _⟩
  · go_enter Tryz.func31, Tryz.ntmps31
    go_wp2
    exact bodyPost_ret (v := .tuple #[frm 136 6 true false true true, .bool true]) (by simp [results, Tryz.results31, go_sem]) rfl ⟨rfl, new_alloc _ _⟩
  · go_enter Tryz.func31, Tryz.ntmps31
    go_wp2
    exact bodyPost_ret (v := .tuple #[frm 230 2 true false false false, .bool true]) (by simp [results, Tryz.results31, go_sem]) rfl ⟨rfl, new_alloc _ _⟩

set_option maxHeartbeats 1000000 in
theorem form_no (o : Int) (w : World) (h : o = 0 ∨ 17 ≤ o) :
    Calls Tryz.prog 31 #[.int .u8 o] w fun e w' => e = .returned (.tuple #[frm 0 0 false false false false, .bool false]) ∧ Below w.heap.size w w' := by
  have e1 : (o == 1) = false := by simp; omega
  have e2 : (o == 2) = false := by simp; omega
  have e3 : (o == 3) = false := by simp; omega
  have e4 : (o == 4) = false := by simp; omega
  have e5 : (o == 5) = false := by simp; omega
  have e6 : (o == 6) = false := by simp; omega
  have e7 : (o == 7) = false := by simp; omega
  have e8 : (o == 8) = false := by simp; omega
  have e9 : (o == 9) = false := by simp; omega
  have e10 : (o == 10) = false := by simp; omega
  have e11 : (o == 11) = false := by simp; omega
  have e12 : (o == 12) = false := by simp; omega
  have e13 : (o == 13) = false := by simp; omega
  have e14 : (o == 14) = false := by simp; omega
  have e15 : (o == 15) = false := by simp; omega
  have e16 : (o == 16) = false := by simp; omega
  clear h
  go_enter Tryz.func31, Tryz.ntmps31
  go_wp2
  exact bodyPost_ret (v := .tuple #[frm 0 0 false false false false, .bool false]) (by simp [results, Tryz.results31, go_sem]) rfl ⟨rfl, new_alloc _ _⟩
end Go.Proofs.YtkianldkbfjehaaGreatDoor

/- What switchyardref02.ofByte, Op and Length answer. -/
namespace Go.Proofs.YtkianldkbfjehaaGreatDoor
open Go.RowKit

set_option maxHeartbeats 1000000 in
theorem rop_yes (p : Nat) (w : World) (hp : 1 ≤ p) (hp' : p < 17) :
    Calls Tryz.prog 124 #[.string (nm p)] w fun e w' => e = .returned (.tuple #[.int .u8 p, .bool true]) ∧ w' = w := by
  obtain ⟨y, hy⟩ : ∃ y, y = nm p := ⟨_, rfl⟩
  rw [← hy]
  have HY : Hid (y = nm p) := hy
  clear hy
  go_enter Tryz.func124, Tryz.ntmps124
  go_wp2
  go_loop [4] (fun i => ∃ k : Nat, 1 ≤ k ∧ k ≤ p ∧ i = .int .u8 k) (fun i => 17 - (intOf i).toNat)
  case atStart => exact ⟨1, by omega, hp, rfl⟩
  case round =>
    obtain ⟨k, hk0, hk, rfl⟩ := hrel
    have hlt : k < 17 := by omega
    have hcon := fun w => rname_yes k w hk0 hlt
    by_cases he : k = p
    · subst he
      rw [← HY.out] at hcon
      go_wp2_with (go_at_call 104; refine (hcon _).mono ?_; rintro e w1 ⟨rfl, rfl⟩)
      go_ret2
      exact ⟨rfl, rfl⟩
    · have hne : ((nm k).toList == y.toList) = false := by
        rw [HY.out]
        exact str_ne fun h => he (nm_inj k hk0 hlt p hp hp' h)
      generalize nm k = x at *
      go_wp2_with (go_at_call 104; refine (hcon _).mono ?_; rintro e w1 ⟨rfl, rfl⟩)
      go_round
      case rel => exact ⟨k + 1, by omega, by omega, by go_num⟩
      case measure => simp [intOf]; omega

set_option maxHeartbeats 1000000 in
theorem rop_no (y : ByteArray) (w : World) (hno : ∀ o, 1 ≤ o → o < 17 → nm o ≠ y) :
    Calls Tryz.prog 124 #[.string y] w fun e w' => e = .returned (.tuple #[.int .u8 0, .bool false]) ∧ w' = w := by
  have HN : Hid (∀ o, 1 ≤ o → o < 17 → nm o ≠ y) := hno
  clear hno
  go_enter Tryz.func124, Tryz.ntmps124
  go_wp2
  go_loop [4] (fun i => ∃ k : Nat, 1 ≤ k ∧ k ≤ 17 ∧ i = .int .u8 k) (fun i => 17 - (intOf i).toNat)
  case atStart => exact ⟨1, by omega, by omega, rfl⟩
  case round =>
    obtain ⟨k, hk0, hk, rfl⟩ := hrel
    by_cases hlt : k < 17
    · have hcon := fun w => rname_yes k w hk0 hlt
      have hne : ((nm k).toList == y.toList) = false := str_ne (HN.out k hk0 hlt)
      generalize nm k = x at *
      go_wp2_with (go_at_call 104; refine (hcon _).mono ?_; rintro e w1 ⟨rfl, rfl⟩)
      go_round
      case rel => exact ⟨k + 1, by omega, by omega, by go_num⟩
      case measure => simp [intOf]; omega
    · go_wp2
      go_ret2
      exact ⟨rfl, rfl⟩

end Go.Proofs.YtkianldkbfjehaaGreatDoor

/- switchyardref04: register, power. -/
namespace Go.Proofs.YtkianldkbfjehaaGreatDoor
open Go.RowKit

set_option maxHeartbeats 1000000 in
theorem register_some (f : ByteArray) (r : Int) (hr : regL f.data.toList = some r) (w : World) :
    Calls Tryz.prog 122 #[.string f] w fun e w' => e = .returned (.tuple #[.int .u8 r, .bool true]) ∧ w' = w := by
  have hsz : f.size = 2 := by
    rw [Lib.size_eq]
    unfold regL at hr
    split at hr
    · rename_i h; rw [h]; rfl
    · cases hr
  rw [list_two f hsz] at hr
  simp only [regL] at hr
  split at hr
  · rename_i h
    obtain ⟨h0, h1, h2⟩ := h
    injection hr with hr
    subst hr
    have h0' : ((f[0]'(by omega)).toNat : Int) = 114 := by rw [h0]; rfl
    have h1' : (48 : Int) ≤ ((f[1]'(by omega)).toNat : Int) := by omega
    have h2' : ((f[1]'(by omega)).toNat : Int) ≤ 55 := by omega
    clear h0 h1 h2
    go_enter Tryz.func122, Tryz.ntmps122
    go_wp2
    go_ret2
    exact ⟨rfl, rfl⟩
  · cases hr

set_option maxHeartbeats 1000000 in
theorem register_none (f : ByteArray) (hr : regL f.data.toList = none) (w : World) :
    Calls Tryz.prog 122 #[.string f] w fun e w' => e = .returned (.tuple #[.int .u8 0, .bool false]) ∧ w' = w := by
  by_cases hsz : f.size = 2
  · rw [list_two f hsz] at hr
    simp only [regL] at hr
    split at hr
    · cases hr
    · rename_i h
      clear hr
      by_cases h0 : f[0]'(by omega) = 114
      · have h0' : ((f[0]'(by omega)).toNat : Int) = 114 := by rw [h0]; rfl
        by_cases h1 : 48 ≤ (f[1]'(by omega)).toNat
        · have h1' : (48 : Int) ≤ ((f[1]'(by omega)).toNat : Int) := by omega
          have h2' : (55 : Int) < ((f[1]'(by omega)).toNat : Int) := by
            have : ¬ (f[1]'(by omega)).toNat ≤ 55 := fun e => h ⟨h0, h1, e⟩
            omega
          clear h h0 h1
          go_enter Tryz.func122, Tryz.ntmps122
          go_wp2
          go_ret2
          exact ⟨rfl, rfl⟩
        · have h1' : ((f[1]'(by omega)).toNat : Int) < 48 := by omega
          clear h h0 h1
          go_enter Tryz.func122, Tryz.ntmps122
          go_wp2
          go_ret2
          exact ⟨rfl, rfl⟩
      · have h0' : ¬ ((f[0]'(by omega)).toNat : Int) = 114 := fun e => h0 (by
          apply UInt8.toNat_inj.1
          have : ((114 : UInt8).toNat : Int) = 114 := rfl
          omega)
        clear h h0
        go_enter Tryz.func122, Tryz.ntmps122
        go_wp2
        go_ret2
        exact ⟨rfl, rfl⟩
  · clear hr
    have hz : ¬ ((f.size : Int) = 2) := by omega
    go_enter Tryz.func122, Tryz.ntmps122
    go_wp2
    go_ret2
    exact ⟨rfl, rfl⟩

set_option maxHeartbeats 2000000 in
theorem power_any (v : Int) (w : World) :
    Calls Tryz.prog 123 #[.int .i64 v] w fun e w' => e = .returned (.bool (holdsB 7 v)) ∧ w' = w := by
  have hD : holdsB 7 v = decide (v = 1 ∨ v = 2 ∨ v = 4 ∨ v = 8 ∨ v = 16 ∨ v = 32 ∨ v = 64) := by simp [holdsB]
  have HT : Hid ((v = 1 ∨ v = 2 ∨ v = 4 ∨ v = 8 ∨ v = 16 ∨ v = 32 ∨ v = 64) → holdsB 7 v = true) := fun h => by rw [hD]; exact decide_eq_true h
  have HF : Hid (¬ (v = 1 ∨ v = 2 ∨ v = 4 ∨ v = 8 ∨ v = 16 ∨ v = 32 ∨ v = 64) → holdsB 7 v = false) := fun h => by rw [hD]; exact decide_eq_false h
  clear hD
  generalize holdsB 7 v = hv at *
  go_enter Tryz.func123, Tryz.ntmps123
  go_wp2
  go_loop [3] (fun p => ∃ k : Int, p = .int .i64 k ∧ ((k = 1) ∨ (k = 2 ∧ ¬ v = 1) ∨ (k = 4 ∧ ¬ v = 1 ∧ ¬ v = 2) ∨ (k = 8 ∧ ¬ v = 1 ∧ ¬ v = 2 ∧ ¬ v = 4) ∨ (k = 16 ∧ ¬ v = 1 ∧ ¬ v = 2 ∧ ¬ v = 4 ∧ ¬ v = 8) ∨ (k = 32 ∧ ¬ v = 1 ∧ ¬ v = 2 ∧ ¬ v = 4 ∧ ¬ v = 8 ∧ ¬ v = 16) ∨ (k = 64 ∧ ¬ v = 1 ∧ ¬ v = 2 ∧ ¬ v = 4 ∧ ¬ v = 8 ∧ ¬ v = 16 ∧ ¬ v = 32) ∨ (k = 128 ∧ ¬ v = 1 ∧ ¬ v = 2 ∧ ¬ v = 4 ∧ ¬ v = 8 ∧ ¬ v = 16 ∧ ¬ v = 32 ∧ ¬ v = 64))) (fun p => (128 - intOf p).toNat)
  case atStart => exact ⟨1, rfl, .inl rfl⟩
  case round =>
    obtain ⟨k, rfl, hk⟩ := hrel
    rcases hk with rfl | hk | hk | hk | hk | hk | hk | hk
    · skip
      by_cases n1 : v = 1
      · have := HT.out (by omega)
        subst this
        go_wp2
        go_ret
        exact ⟨rfl, rfl⟩
      · go_wp2
        go_round
        case rel => exact ⟨2, rfl, by omega⟩
        case measure => simp [intOf]
    · obtain ⟨rfl, n1⟩ := hk
      by_cases n2 : v = 2
      · have := HT.out (by omega)
        subst this
        go_wp2
        go_ret
        exact ⟨rfl, rfl⟩
      · go_wp2
        go_round
        case rel => exact ⟨4, rfl, by omega⟩
        case measure => simp [intOf]
    · obtain ⟨rfl, n1, n2⟩ := hk
      by_cases n4 : v = 4
      · have := HT.out (by omega)
        subst this
        go_wp2
        go_ret
        exact ⟨rfl, rfl⟩
      · go_wp2
        go_round
        case rel => exact ⟨8, rfl, by omega⟩
        case measure => simp [intOf]
    · obtain ⟨rfl, n1, n2, n4⟩ := hk
      by_cases n8 : v = 8
      · have := HT.out (by omega)
        subst this
        go_wp2
        go_ret
        exact ⟨rfl, rfl⟩
      · go_wp2
        go_round
        case rel => exact ⟨16, rfl, by omega⟩
        case measure => simp [intOf]
    · obtain ⟨rfl, n1, n2, n4, n8⟩ := hk
      by_cases n16 : v = 16
      · have := HT.out (by omega)
        subst this
        go_wp2
        go_ret
        exact ⟨rfl, rfl⟩
      · go_wp2
        go_round
        case rel => exact ⟨32, rfl, by omega⟩
        case measure => simp [intOf]
    · obtain ⟨rfl, n1, n2, n4, n8, n16⟩ := hk
      by_cases n32 : v = 32
      · have := HT.out (by omega)
        subst this
        go_wp2
        go_ret
        exact ⟨rfl, rfl⟩
      · go_wp2
        go_round
        case rel => exact ⟨64, rfl, by omega⟩
        case measure => simp [intOf]
    · obtain ⟨rfl, n1, n2, n4, n8, n16, n32⟩ := hk
      by_cases n64 : v = 64
      · have := HT.out (by omega)
        subst this
        go_wp2
        go_ret
        exact ⟨rfl, rfl⟩
      · go_wp2
        go_round
        case rel => exact ⟨128, rfl, by omega⟩
        case measure => simp [intOf]
    · obtain ⟨rfl, n1, n2, n4, n8, n16, n32, n64⟩ := hk
      have := HF.out (by omega)
      subst this
      go_wp2
      go_ret
      exact ⟨rfl, rfl⟩

end Go.Proofs.YtkianldkbfjehaaGreatDoor

/- switchyardref04.fits: the error of a field at its place. -/
namespace Go.Proofs.YtkianldkbfjehaaGreatDoor
open Go.RowKit

theorem register_any (f : ByteArray) (w : World) :
    Calls Tryz.prog 122 #[.string f] w fun e w' => e = .returned (.tuple #[.int .u8 ((regL f.data.toList).getD 0), .bool (regL f.data.toList).isSome]) ∧ w' = w := by
  cases h : regL f.data.toList with
  | none => exact register_none f h w
  | some r => exact register_some f r h w
abbrev askd (c : Int) (lo hi : Int) : Value := .agg #[.int .u8 c, .int .i64 lo, .int .i64 hi]

set_option maxHeartbeats 1000000 in
theorem fits_reg (f : ByteArray) (hm : f.size ≤ 281474976710656) (w : World) :
    Calls Tryz.prog 101 #[.string f, askd 114 0 0] w fun e w' => e = .returned (.int .i64 (if (regL f.data.toList).isSome then 0 else 140)) ∧ Below w.heap.size w w' := by
  have hN := fun W => refNumber_any f hm W
  have hR := fun W => register_any f W
  generalize (regL f.data.toList).isSome = rb at *
  generalize (regL f.data.toList).getD 0 = rv at *
  generalize numV f.data.toList = nv at *
  generalize (numL f.data.toList).isSome = nb at *
  cases rb
  all_goals
    go_enter Tryz.func101, Tryz.ntmps101
    go_wp2_with (first
      | (go_at_call 121; refine (hN _).mono ?_; rintro e w1 ⟨rfl, rfl⟩)
      | (go_at_call 122; refine (hR _).mono ?_; rintro e w2 ⟨rfl, rfl⟩))
    go_ret
    exact ⟨rfl, new_alloc _ _⟩
set_option maxHeartbeats 1000000 in
theorem fits_name (f : ByteArray) (hm : f.size ≤ 281474976710656) (w : World) :
    Calls Tryz.prog 101 #[.string f, askd 119 0 0] w fun e w' => e = .returned (.int .i64 (if nameB f.data.toList then 0 else 140)) ∧ Below w.heap.size w w' := by
  have hN := fun W => refNumber_any f hm W
  have hR := fun W => register_any f W
  have hA : ∀ W, Calls Tryz.prog 44 #[.string f] W fun e w' => e = .returned (.bool (nameB f.data.toList)) ∧ w' = W := fun W => by
    cases h : nameB f.data.toList with
    | true => exact refName_yes f W (by omega) ((nameB_iff f).1 h)
    | false => exact refName_no f W (by omega) (fun e => by rw [(nameB_iff f).2 e] at h; cases h)
  generalize (regL f.data.toList).isSome = rb at *
  generalize (regL f.data.toList).getD 0 = rv at *
  generalize numV f.data.toList = nv at *
  generalize (numL f.data.toList).isSome = nb at *
  generalize nameB f.data.toList = na at *
  cases na
  all_goals
    go_enter Tryz.func101, Tryz.ntmps101
    go_wp2_with (first
      | (go_at_call 121; refine (hN _).mono ?_; rintro e w1 ⟨rfl, rfl⟩)
      | (go_at_call 122; refine (hR _).mono ?_; rintro e w2 ⟨rfl, rfl⟩)
      | (go_at_call 44; refine (hA _).mono ?_; rintro e w3 ⟨rfl, rfl⟩))
    go_ret
    exact ⟨rfl, new_alloc _ _⟩

set_option maxHeartbeats 1000000 in
theorem fits_none (c lo hi : Int) (hc : c = 110 ∨ c = 97) (f : ByteArray) (hm : f.size ≤ 281474976710656) (hn : numL f.data.toList = none) (w : World) :
    Calls Tryz.prog 101 #[.string f, askd c lo hi] w fun e w' => e = .returned (.int .i64 140) ∧ Below w.heap.size w w' := by
  have hN := fun W => refNumber_any f hm W
  have hR := fun W => register_any f W
  rw [hn] at hN
  simp only [Option.isSome_none] at hN
  generalize (regL f.data.toList).isSome = rb at *
  generalize (regL f.data.toList).getD 0 = rv at *
  generalize numV f.data.toList = nv at *
  clear hn
  rcases hc with rfl | rfl
  all_goals
    go_enter Tryz.func101, Tryz.ntmps101
    go_wp2_with (first
      | (go_at_call 121; refine (hN _).mono ?_; rintro e w1 ⟨rfl, rfl⟩)
      | (go_at_call 122; refine (hR _).mono ?_; rintro e w2 ⟨rfl, rfl⟩))
    go_ret
    exact ⟨rfl, new_alloc _ _⟩
set_option maxHeartbeats 1000000 in
theorem fits_num (lo hi : Int) (f : ByteArray) (hm : f.size ≤ 281474976710656) (v : Int) (hn : numL f.data.toList = some v) (w : World) :
    Calls Tryz.prog 101 #[.string f, askd 110 lo hi] w fun e w' => e = .returned (.int .i64 (if lo ≤ v ∧ v ≤ hi then 0 else 150)) ∧ Below w.heap.size w w' := by
  have hN := fun W => refNumber_any f hm W
  have hR := fun W => register_any f W
  rw [numV, hn] at hN
  simp only [Option.isSome_some, Option.getD_some] at hN
  generalize (regL f.data.toList).isSome = rb at *
  generalize (regL f.data.toList).getD 0 = rv at *
  clear hn
  by_cases h1 : lo ≤ v
  · by_cases h2 : v ≤ hi
    · rw [if_pos ⟨h1, h2⟩]
      go_enter Tryz.func101, Tryz.ntmps101
      go_wp2_with (first
        | (go_at_call 121; refine (hN _).mono ?_; rintro e w1 ⟨rfl, rfl⟩)
        | (go_at_call 122; refine (hR _).mono ?_; rintro e w2 ⟨rfl, rfl⟩))
      go_ret
      exact ⟨rfl, new_alloc _ _⟩
    · rw [if_neg fun h => h2 h.2]
      go_enter Tryz.func101, Tryz.ntmps101
      go_wp2_with (first
        | (go_at_call 121; refine (hN _).mono ?_; rintro e w1 ⟨rfl, rfl⟩)
        | (go_at_call 122; refine (hR _).mono ?_; rintro e w2 ⟨rfl, rfl⟩))
      go_ret
      exact ⟨rfl, new_alloc _ _⟩
  · rw [if_neg fun h => h1 h.1]
    go_enter Tryz.func101, Tryz.ntmps101
    go_wp2_with (first
      | (go_at_call 121; refine (hN _).mono ?_; rintro e w1 ⟨rfl, rfl⟩)
      | (go_at_call 122; refine (hR _).mono ?_; rintro e w2 ⟨rfl, rfl⟩))
    go_ret
    exact ⟨rfl, new_alloc _ _⟩
set_option maxHeartbeats 1000000 in
theorem fits_pow (f : ByteArray) (hm : f.size ≤ 281474976710656) (v : Int) (hn : numL f.data.toList = some v) (w : World) :
    Calls Tryz.prog 101 #[.string f, askd 97 0 0] w fun e w' => e = .returned (.int .i64 (if holdsB 7 v then 0 else 150)) ∧ Below w.heap.size w w' := by
  have hN := fun W => refNumber_any f hm W
  have hR := fun W => register_any f W
  have hP := fun W => power_any v W
  rw [numV, hn] at hN
  simp only [Option.isSome_some, Option.getD_some] at hN
  generalize (regL f.data.toList).isSome = rb at *
  generalize (regL f.data.toList).getD 0 = rv at *
  generalize holdsB 7 v = hb at *
  clear hn
  cases hb
  all_goals
    go_enter Tryz.func101, Tryz.ntmps101
    go_wp2_with (first
      | (go_at_call 121; refine (hN _).mono ?_; rintro e w1 ⟨rfl, rfl⟩)
      | (go_at_call 122; refine (hR _).mono ?_; rintro e w2 ⟨rfl, rfl⟩)
      | (go_at_call 123; refine (hP _).mono ?_; rintro e w3 ⟨rfl, rfl⟩))
    go_ret
    exact ⟨rfl, new_alloc _ _⟩

/-- what a place asks for, in the reference's words -/
def askV (p : Nat) : Value :=
  if p = 0 ∨ p = 1 then askd 114 0 0 else if p = 3 ∨ p = 4 then askd 119 0 0 else if p = 2 then askd 110 (-2147483648) 2147483647 else if p = 5 then askd 110 0 255 else if p = 6 then askd 110 0 4096 else askd 97 0 0
/-- the error of a field at its place -/
theorem fits_any (p : Nat) (hp : p < 8) (x : Src) (f : ByteArray) (hm : f.size ≤ 281474976710656) (w : World) :
    Calls Tryz.prog 101 #[.string f, askV p] w fun e w' => e = .returned (.int .i64 (readL p x f.data.toList).1) ∧ Below w.heap.size w w' := by
  have : p = 0 ∨ p = 1 ∨ p = 3 ∨ p = 4 ∨ p = 2 ∨ p = 5 ∨ p = 6 ∨ p = 7 := by omega
  rcases this with rfl | rfl | rfl | rfl | rfl | rfl | rfl | rfl
  · have := fits_reg f hm w
    cases h : regL f.data.toList <;> simpa [askV, readL, h] using this
  · have := fits_reg f hm w
    cases h : regL f.data.toList <;> simpa [askV, readL, h] using this
  · have := fits_name f hm w
    cases h : nameB f.data.toList <;> simpa [askV, readL, h] using this
  · have := fits_name f hm w
    cases h : nameB f.data.toList <;> simpa [askV, readL, h] using this
  · cases h : numL f.data.toList with
    | none => have := fits_none 110 (-2147483648) 2147483647 (.inl rfl) f hm h w; simpa [askV, readL, h] using this
    | some v =>
      have := fits_num (-2147483648) 2147483647 f hm v h w
      by_cases hh : -2147483648 ≤ v ∧ v ≤ 2147483647 <;> simpa [askV, readL, h, holdsB, hh] using this
  · cases h : numL f.data.toList with
    | none => have := fits_none 110 0 255 (.inl rfl) f hm h w; simpa [askV, readL, h] using this
    | some v =>
      have := fits_num 0 255 f hm v h w
      by_cases hh : 0 ≤ v ∧ v ≤ 255 <;> simpa [askV, readL, h, holdsB, hh] using this
  · cases h : numL f.data.toList with
    | none => have := fits_none 110 0 4096 (.inl rfl) f hm h w; simpa [askV, readL, h] using this
    | some v =>
      have := fits_num 0 4096 f hm v h w
      by_cases hh : 0 ≤ v ∧ v ≤ 4096 <;> simpa [askV, readL, h, holdsB, hh] using this
  · cases h : numL f.data.toList with
    | none => have := fits_none 97 0 0 (.inr rfl) f hm h w; simpa [askV, readL, h] using this
    | some v =>
      have := fits_pow f hm v h w
      cases hh : holdsB 7 v <;> simpa [askV, readL, h, hh] using this

end Go.Proofs.YtkianldkbfjehaaGreatDoor

/- switchyardref04.asks: what a first field asks for, in the reference's words. -/
namespace Go.Proofs.YtkianldkbfjehaaGreatDoor
open Go.RowKit

/-- the cells of a place -/
def askC (p : Nat) : List Value := match askV p with | .agg c => c.toList | _ => []
/-- what a first field asks for: the places, whether the last one may stand again -/
def askL (l : List UInt8) : Option (List Nat × Bool) :=
  match wdL l with
  | some 1 => some ([5], true)
  | some i => some ((formW i).2.1, false)
  | none => match opL l with
    | some o => some (plO o, false)
    | none => none
/-- a list of places, as a slice holds it -/
def AskOwn (w : World) (B : Nat) (v : Value) (ps : List Nat) : Prop :=
  (ps = [] ∧ v = .slice none 0 0) ∨ ∃ g, v = .slice (some ⟨g, 0, none⟩) ps.length ps.length ∧ B ≤ g ∧ Blk w g 144 (ps.flatMap askC).toArray
def AsksIs (r : Option (List Nat × Bool)) (w : World) (e : Ending) (w' : World) : Prop :=
  Below w.heap.size w w' ∧ match r with
  | none => e = .returned (.tuple #[.slice none 0 0, .bool false, .bool false])
  | some (ps, m) => ∃ v, e = .returned (.tuple #[v, .bool m, .bool true]) ∧ AskOwn w' w.heap.size v ps
theorem AsksIs.no {w : World} (A B : Obj) : AsksIs none w (.returned (.tuple #[.slice none 0 0, .bool false, .bool false])) ((w.alloc A).alloc B) := ⟨below_alloc (new_alloc _ _) _, rfl⟩
theorem AsksIs.nil {w : World} (A B : Obj) : AsksIs (some ([], false)) w (.returned (.tuple #[.slice none 0 0, .bool false, .bool true])) ((w.alloc A).alloc B) := ⟨below_alloc (new_alloc _ _) _, _, rfl, .inl ⟨rfl, rfl⟩⟩
theorem AsksIs.lit {w : World} (A B : Obj) (ps : List Nat) (m : Bool) (c : Array Value) (hc : (ps.flatMap askC).toArray = c) :
    AsksIs (some (ps, m)) w (.returned (.tuple #[.slice (some ⟨w.heap.size + 1 + 1, 0, none⟩) ps.length ps.length, .bool m, .bool true])) (((w.alloc A).alloc B).alloc (.cells c 144)) :=
  ⟨below_alloc (below_alloc (new_alloc _ _) _) _, _, rfl, .inr ⟨w.heap.size + 1 + 1, rfl, by omega, by
    rw [hc]
    have := Blk.new ((w.alloc A).alloc B) 144 c
    rw [size_one, size_one] at this
    exact this⟩⟩

set_option maxRecDepth 20000 in
set_option maxHeartbeats 1000000 in
theorem asks_w0 (w : World) : Calls Tryz.prog 100 #[.string (wd 0)] w (AsksIs (some ([3, 4], false)) w) := by
  unfold wd
  go_enter Tryz.func100, Tryz.ntmps100
  go_wp2
  go_ret3
  exact AsksIs.lit _ _ [3, 4] false _ rfl
set_option maxRecDepth 20000 in
set_option maxHeartbeats 1000000 in
theorem asks_w1 (w : World) : Calls Tryz.prog 100 #[.string (wd 1)] w (AsksIs (some ([5], true)) w) := by
  unfold wd
  go_enter Tryz.func100, Tryz.ntmps100
  go_wp2
  go_ret3
  exact AsksIs.lit _ _ [5] true _ rfl
set_option maxRecDepth 20000 in
set_option maxHeartbeats 1000000 in
theorem asks_w2 (w : World) : Calls Tryz.prog 100 #[.string (wd 2)] w (AsksIs (some ([6], false)) w) := by
  unfold wd
  go_enter Tryz.func100, Tryz.ntmps100
  go_wp2
  go_ret3
  exact AsksIs.lit _ _ [6] false _ rfl
set_option maxRecDepth 20000 in
set_option maxHeartbeats 1000000 in
theorem asks_w3 (w : World) : Calls Tryz.prog 100 #[.string (wd 3)] w (AsksIs (some ([7], false)) w) := by
  unfold wd
  go_enter Tryz.func100, Tryz.ntmps100
  go_wp2
  go_ret3
  exact AsksIs.lit _ _ [7] false _ rfl
set_option maxRecDepth 20000 in
set_option maxHeartbeats 1000000 in
theorem asks_w4 (w : World) : Calls Tryz.prog 100 #[.string (wd 4)] w (AsksIs (some ([3], false)) w) := by
  unfold wd
  go_enter Tryz.func100, Tryz.ntmps100
  go_wp2
  go_ret3
  exact AsksIs.lit _ _ [3] false _ rfl
set_option maxRecDepth 20000 in
set_option maxHeartbeats 1000000 in
theorem asks_o1 (w : World) : Calls Tryz.prog 100 #[.string (nm 1)] w (AsksIs (some ([], false)) w) := by
  unfold nm
  go_enter Tryz.func100, Tryz.ntmps100
  go_wp2
  go_ret3
  exact AsksIs.nil _ _
set_option maxRecDepth 20000 in
set_option maxHeartbeats 1000000 in
theorem asks_o2 (w : World) : Calls Tryz.prog 100 #[.string (nm 2)] w (AsksIs (some ([], false)) w) := by
  unfold nm
  go_enter Tryz.func100, Tryz.ntmps100
  go_wp2
  go_ret3
  exact AsksIs.nil _ _
set_option maxRecDepth 20000 in
set_option maxHeartbeats 1000000 in
theorem asks_o3 (w : World) : Calls Tryz.prog 100 #[.string (nm 3)] w (AsksIs (some ([], false)) w) := by
  unfold nm
  go_enter Tryz.func100, Tryz.ntmps100
  go_wp2
  go_ret3
  exact AsksIs.nil _ _
set_option maxRecDepth 20000 in
set_option maxHeartbeats 1000000 in
theorem asks_o4 (w : World) : Calls Tryz.prog 100 #[.string (nm 4)] w (AsksIs (some ([], false)) w) := by
  unfold nm
  go_enter Tryz.func100, Tryz.ntmps100
  go_wp2
  go_ret3
  exact AsksIs.nil _ _
set_option maxRecDepth 20000 in
set_option maxHeartbeats 1000000 in
theorem asks_o5 (w : World) : Calls Tryz.prog 100 #[.string (nm 5)] w (AsksIs (some ([0, 2], false)) w) := by
  unfold nm
  go_enter Tryz.func100, Tryz.ntmps100
  go_wp2
  go_ret3
  exact AsksIs.lit _ _ [0, 2] false _ rfl
set_option maxRecDepth 20000 in
set_option maxHeartbeats 1000000 in
theorem asks_o6 (w : World) : Calls Tryz.prog 100 #[.string (nm 6)] w (AsksIs (some ([0, 1], false)) w) := by
  unfold nm
  go_enter Tryz.func100, Tryz.ntmps100
  go_wp2
  go_ret3
  exact AsksIs.lit _ _ [0, 1] false _ rfl
set_option maxRecDepth 20000 in
set_option maxHeartbeats 1000000 in
theorem asks_o7 (w : World) : Calls Tryz.prog 100 #[.string (nm 7)] w (AsksIs (some ([0, 1], false)) w) := by
  unfold nm
  go_enter Tryz.func100, Tryz.ntmps100
  go_wp2
  go_ret3
  exact AsksIs.lit _ _ [0, 1] false _ rfl
set_option maxRecDepth 20000 in
set_option maxHeartbeats 1000000 in
theorem asks_o8 (w : World) : Calls Tryz.prog 100 #[.string (nm 8)] w (AsksIs (some ([0, 1], false)) w) := by
  unfold nm
  go_enter Tryz.func100, Tryz.ntmps100
  go_wp2
  go_ret3
  exact AsksIs.lit _ _ [0, 1] false _ rfl
set_option maxRecDepth 20000 in
set_option maxHeartbeats 1000000 in
theorem asks_o9 (w : World) : Calls Tryz.prog 100 #[.string (nm 9)] w (AsksIs (some ([0, 3], false)) w) := by
  unfold nm
  go_enter Tryz.func100, Tryz.ntmps100
  go_wp2
  go_ret3
  exact AsksIs.lit _ _ [0, 3] false _ rfl
set_option maxRecDepth 20000 in
set_option maxHeartbeats 1000000 in
theorem asks_o10 (w : World) : Calls Tryz.prog 100 #[.string (nm 10)] w (AsksIs (some ([0, 3], false)) w) := by
  unfold nm
  go_enter Tryz.func100, Tryz.ntmps100
  go_wp2
  go_ret3
  exact AsksIs.lit _ _ [0, 3] false _ rfl
set_option maxRecDepth 20000 in
set_option maxHeartbeats 1000000 in
theorem asks_o11 (w : World) : Calls Tryz.prog 100 #[.string (nm 11)] w (AsksIs (some ([3], false)) w) := by
  unfold nm
  go_enter Tryz.func100, Tryz.ntmps100
  go_wp2
  go_ret3
  exact AsksIs.lit _ _ [3] false _ rfl
set_option maxRecDepth 20000 in
set_option maxHeartbeats 1000000 in
theorem asks_o12 (w : World) : Calls Tryz.prog 100 #[.string (nm 12)] w (AsksIs (some ([3], false)) w) := by
  unfold nm
  go_enter Tryz.func100, Tryz.ntmps100
  go_wp2
  go_ret3
  exact AsksIs.lit _ _ [3] false _ rfl
set_option maxRecDepth 20000 in
set_option maxHeartbeats 1000000 in
theorem asks_o13 (w : World) : Calls Tryz.prog 100 #[.string (nm 13)] w (AsksIs (some ([], false)) w) := by
  unfold nm
  go_enter Tryz.func100, Tryz.ntmps100
  go_wp2
  go_ret3
  exact AsksIs.nil _ _
set_option maxRecDepth 20000 in
set_option maxHeartbeats 1000000 in
theorem asks_o14 (w : World) : Calls Tryz.prog 100 #[.string (nm 14)] w (AsksIs (some ([0, 3], false)) w) := by
  unfold nm
  go_enter Tryz.func100, Tryz.ntmps100
  go_wp2
  go_ret3
  exact AsksIs.lit _ _ [0, 3] false _ rfl
set_option maxRecDepth 20000 in
set_option maxHeartbeats 1000000 in
theorem asks_o15 (w : World) : Calls Tryz.prog 100 #[.string (nm 15)] w (AsksIs (some ([0, 3], false)) w) := by
  unfold nm
  go_enter Tryz.func100, Tryz.ntmps100
  go_wp2
  go_ret3
  exact AsksIs.lit _ _ [0, 3] false _ rfl
set_option maxRecDepth 20000 in
set_option maxHeartbeats 1000000 in
theorem asks_o16 (w : World) : Calls Tryz.prog 100 #[.string (nm 16)] w (AsksIs (some ([0], false)) w) := by
  unfold nm
  go_enter Tryz.func100, Tryz.ntmps100
  go_wp2
  go_ret3
  exact AsksIs.lit _ _ [0] false _ rfl

end Go.Proofs.YtkianldkbfjehaaGreatDoor

/- switchyardref04.asks, for every first field. -/
namespace Go.Proofs.YtkianldkbfjehaaGreatDoor
open Go.RowKit

theorem not_op {y : ByteArray} (h : opL y.data.toList = none) : (y.toList == [104, 97, 108, 116]) = false ∧ (y.toList == [110, 111, 112]) = false ∧ (y.toList == [110, 111, 112, 53]) = false ∧ (y.toList == [98, 114, 107]) = false ∧ (y.toList == [109, 111, 118, 105]) = false ∧ (y.toList == [109, 111, 118]) = false ∧ (y.toList == [97, 100, 100]) = false ∧ (y.toList == [115, 117, 98]) = false ∧ (y.toList == [98, 122]) = false ∧ (y.toList == [98, 110, 122]) = false ∧ (y.toList == [106, 109, 112]) = false ∧ (y.toList == [99, 97, 108, 108]) = false ∧ (y.toList == [114, 101, 116]) = false ∧ (y.toList == [108, 111, 97, 100]) = false ∧ (y.toList == [115, 116, 111, 114, 101]) = false ∧ (y.toList == [111, 117, 116]) = false := by
  unfold opL at h
  rw [List.find?_eq_none] at h
  rw [toList_eq]
  have h1 := h 1 (by decide)
  have h2 := h 2 (by decide)
  have h3 := h 3 (by decide)
  have h4 := h 4 (by decide)
  have h5 := h 5 (by decide)
  have h6 := h 6 (by decide)
  have h7 := h 7 (by decide)
  have h8 := h 8 (by decide)
  have h9 := h 9 (by decide)
  have h10 := h 10 (by decide)
  have h11 := h 11 (by decide)
  have h12 := h 12 (by decide)
  have h13 := h 13 (by decide)
  have h14 := h 14 (by decide)
  have h15 := h 15 (by decide)
  have h16 := h 16 (by decide)
  simp only [nm, beq_iff_eq] at h1 h2 h3 h4 h5 h6 h7 h8 h9 h10 h11 h12 h13 h14 h15 h16
  exact ⟨beq_eq_false_iff_ne.2 fun e => h1 e.symm, beq_eq_false_iff_ne.2 fun e => h2 e.symm, beq_eq_false_iff_ne.2 fun e => h3 e.symm, beq_eq_false_iff_ne.2 fun e => h4 e.symm, beq_eq_false_iff_ne.2 fun e => h5 e.symm, beq_eq_false_iff_ne.2 fun e => h6 e.symm, beq_eq_false_iff_ne.2 fun e => h7 e.symm, beq_eq_false_iff_ne.2 fun e => h8 e.symm, beq_eq_false_iff_ne.2 fun e => h9 e.symm, beq_eq_false_iff_ne.2 fun e => h10 e.symm, beq_eq_false_iff_ne.2 fun e => h11 e.symm, beq_eq_false_iff_ne.2 fun e => h12 e.symm, beq_eq_false_iff_ne.2 fun e => h13 e.symm, beq_eq_false_iff_ne.2 fun e => h14 e.symm, beq_eq_false_iff_ne.2 fun e => h15 e.symm, beq_eq_false_iff_ne.2 fun e => h16 e.symm⟩

set_option maxRecDepth 20000 in
set_option maxHeartbeats 1000000 in
theorem asks_none (f : ByteArray) (hw : wdL f.data.toList = none) (ho : opL f.data.toList = none) (w : World) : Calls Tryz.prog 100 #[.string f] w (AsksIs none w) := by
  obtain ⟨n0, n1, n2, n3, n4⟩ := not_word hw
  obtain ⟨o1, o2, o3, o4, o5, o6, o7, o8, o9, o10, o11, o12, o13, o14, o15, o16⟩ := not_op ho
  clear hw ho
  go_enter Tryz.func100, Tryz.ntmps100
  go_wp2
  go_ret3
  exact AsksIs.no _ _

theorem wd_of {l : List UInt8} {i : Nat} (h : wdL l = some i) : i < 5 ∧ bytesOf l = wd i := by
  have h1 := List.find?_some h
  have h2 := List.mem_of_find?_eq_some h
  rw [List.mem_range] at h2
  simp only [beq_iff_eq] at h1
  exact ⟨h2, by rw [← h1]; rfl⟩
theorem op_of {l : List UInt8} {o : Nat} (h : opL l = some o) : 1 ≤ o ∧ o < 17 ∧ bytesOf l = nm o := by
  have h1 := List.find?_some h
  have h2 := List.mem_of_find?_eq_some h
  rw [List.mem_range'] at h2
  simp only [beq_iff_eq] at h1
  exact ⟨by omega, by omega, by rw [← h1]; rfl⟩
theorem refAsks_any (f : ByteArray) (w : World) : Calls Tryz.prog 100 #[.string f] w (AsksIs (askL f.data.toList) w) := by
  unfold askL
  cases hw : wdL f.data.toList with
  | some i =>
    obtain ⟨h1, h2⟩ := wd_of hw
    have hf : f = wd i := by rw [← h2]; rfl
    rw [hf]
    have : i = 0 ∨ i = 1 ∨ i = 2 ∨ i = 3 ∨ i = 4 := by omega
    rcases this with rfl | rfl | rfl | rfl | rfl
    · exact asks_w0 w
    · exact asks_w1 w
    · exact asks_w2 w
    · exact asks_w3 w
    · exact asks_w4 w
  | none =>
    simp only
    cases ho : opL f.data.toList with
    | none => exact asks_none f hw ho w
    | some o =>
      obtain ⟨h0, h1, h2⟩ := op_of ho
      have hf : f = nm o := by rw [← h2]; rfl
      rw [hf]
      have : o = 1 ∨ o = 2 ∨ o = 3 ∨ o = 4 ∨ o = 5 ∨ o = 6 ∨ o = 7 ∨ o = 8 ∨ o = 9 ∨ o = 10 ∨ o = 11 ∨ o = 12 ∨ o = 13 ∨ o = 14 ∨ o = 15 ∨ o = 16 := by omega
      rcases this with rfl | rfl | rfl | rfl | rfl | rfl | rfl | rfl | rfl | rfl | rfl | rfl | rfl | rfl | rfl | rfl
      · exact asks_o1 w
      · exact asks_o2 w
      · exact asks_o3 w
      · exact asks_o4 w
      · exact asks_o5 w
      · exact asks_o6 w
      · exact asks_o7 w
      · exact asks_o8 w
      · exact asks_o9 w
      · exact asks_o10 w
      · exact asks_o11 w
      · exact asks_o12 w
      · exact asks_o13 w
      · exact asks_o14 w
      · exact asks_o15 w
      · exact asks_o16 w

end Go.Proofs.YtkianldkbfjehaaGreatDoor

/- switchyardref04.item of marks, globals, spaces and aligns. -/
namespace Go.Proofs.YtkianldkbfjehaaGreatDoor
open Go.RowKit

/-- what item answers -/
def ItemIs (y : Src) (w : World) (E : Ending) (w' : World) : Prop := ∃ d, E = .returned (.agg (cellsOf y d)) ∧ GOwnV 5 w' w.heap.size d (byts y.d) ∧ Below w.heap.size w w'
theorem set9c {w : World} {g : Nat} (h : Blk w g 57 item0) (y : Src) :
    ∃ w4, (((((((((w.setCell ⟨g, 0, none⟩ (.int .u8 y.k)).setCell ⟨g, 1, none⟩ (.string y.name)).setCell ⟨g, 2, none⟩ (.string y.tg)).setCell ⟨g, 3, none⟩ (.int .u8 y.o)).setCell ⟨g, 4, none⟩ (.int .u8 y.a)).setCell ⟨g, 5, none⟩ (.int .u8 y.b)).setCell ⟨g, 6, none⟩ (.int .i32 y.m)).setCell ⟨g, 7, none⟩ (.int .i64 y.n)).setCell ⟨g, 8, none⟩ (.slice none 0 0)) = w4 ∧ Blk w4 g 57 (cellsOf y nilV) ∧ w.grownBy w4 (some g) :=
  ⟨_, rfl, h.setAll (cellsOf y nilV) rfl, grown_setCells g (cellsOf y nilV).toList 0 w⟩
abbrev item0x : Array Value := #[.int .u8 0, .string ⟨#[]⟩, .string ⟨#[]⟩, .int .u8 0, .int .u8 0, .int .u8 0, .int .i32 0, .int .i64 0, .slice none 0 0]
/-- the two variables of item, just made -/
theorem item_two (w : World) : Blk ((w.alloc (.cells item0 57)).alloc (.cells item0 57)) w.heap.size 57 item0 ∧ Blk ((w.alloc (.cells item0 57)).alloc (.cells item0 57)) (w.heap.size + 1) 57 item0 ∧ Below w.heap.size w ((w.alloc (.cells item0 57)).alloc (.cells item0 57)) := by
  refine ⟨(Blk.new w 57 item0).grow (new_alloc _ _), ?_, below_alloc (new_alloc _ _) _⟩
  have := Blk.new (w.alloc (.cells item0 57)) 57 item0
  rw [size_one] at this
  exact this
theorem ItemIs.mk0 {y : Src} {w w2 w4 : World} (hd : y.d = []) (hb : Below w.heap.size w w2) (hg : w2.grownBy w4 (some w.heap.size)) : ItemIs y w (.returned (.agg (cellsOf y nilV))) w4 :=
  ⟨nilV, rfl, by rw [hd]; exact GOwnV.nil _ _ _, hb.trans (below_grown hg (Nat.le_refl _) hb.size)⟩

set_option maxRecDepth 20000 in
set_option maxHeartbeats 1000000 in
theorem item_mark (fb n cap : Nat) (f1 f2 : ByteArray) (w : World) (hn : n = 3) (hcap : n ≤ cap) (h0 : w.cell? ⟨fb, 0, none⟩ = some (.string (wd 0))) (h1 : w.cell? ⟨fb, 1, none⟩ = some (.string f1)) (h2 : w.cell? ⟨fb, 2, none⟩ = some (.string f2)) :
    Calls Tryz.prog 102 #[.slice (some ⟨fb, 0, none⟩) n cap] w (ItemIs { srcK 3 with name := f1, tg := f2 } w) := by
  have hlt := cell_lt h0
  have hne : ¬ fb = w.heap.size := fun e => by rw [e] at hlt; exact Nat.lt_irrefl _ hlt
  have hne' : ¬ w.heap.size = fb := fun e => hne e.symm
  subst hn
  go_enter Tryz.func102, Tryz.ntmps102
  go_upto_region 2 with fail
  obtain ⟨w2, hw2⟩ : ∃ w2, (w.alloc (.cells item0x 57)).alloc (.cells item0x 57) = w2 := ⟨_, rfl⟩
  have hT := item_two w
  change Blk ((w.alloc (.cells item0x 57)).alloc (.cells item0x 57)) w.heap.size 57 item0 ∧ Blk ((w.alloc (.cells item0x 57)).alloc (.cells item0x 57)) (w.heap.size + 1) 57 item0 ∧ Below w.heap.size w ((w.alloc (.cells item0x 57)).alloc (.cells item0x 57)) at hT
  rw [hw2] at hT
  rw [hw2]
  clear hw2
  obtain ⟨hR, -, hB⟩ := hT
  have c0 := (hB.cell (p := ⟨fb, 0, none⟩) hlt).trans h0
  have c1 := (hB.cell (p := ⟨fb, 1, none⟩) hlt).trans h1
  have c2 := (hB.cell (p := ⟨fb, 2, none⟩) hlt).trans h2
  have HR := Hid.in hR
  have HB := Hid.in hB
  clear hR hB h0 h1 h2
  unfold wd at c0
  go_wp2_with fail
  obtain ⟨d0, d1, d2, d3, d4, d5, d6, d7, d8⟩ := blk9 HR.out
  obtain ⟨e0, e1, e2, e3, e4, e5, e6, e7, e8⟩ := free9 HR.out
  go_region
  all_goals
    go_wp2
    obtain ⟨w4, he4, hB4, hg4⟩ := set9c HR.out { srcK 3 with name := f1, tg := f2 }
    dsimp only [srcK, noText] at he4
    rw [he4]
    have hld := load28 (w := w4.drew) hB4 rfl
    refine bodyPost_ret (v := .agg (cellsOf { srcK 3 with name := f1, tg := f2 } nilV)) (by simp [results, Tryz.results102, asAddr, hld]) rfl ?_
    obtain ⟨d, h1, h2, h3⟩ := ItemIs.mk0 (y := { srcK 3 with name := f1, tg := f2 }) rfl HB.out hg4
    exact ⟨d, h1, h2.drewN 1, below_draws h3 1⟩
set_option maxRecDepth 20000 in
set_option maxHeartbeats 1000000 in
theorem item_global (fb n cap : Nat) (f1 : ByteArray) (w : World) (hn : n = 2) (hcap : n ≤ cap) (h0 : w.cell? ⟨fb, 0, none⟩ = some (.string (wd 4))) (h1 : w.cell? ⟨fb, 1, none⟩ = some (.string f1)) :
    Calls Tryz.prog 102 #[.slice (some ⟨fb, 0, none⟩) n cap] w (ItemIs { srcK 7 with name := f1 } w) := by
  have hlt := cell_lt h0
  have hne : ¬ fb = w.heap.size := fun e => by rw [e] at hlt; exact Nat.lt_irrefl _ hlt
  have hne' : ¬ w.heap.size = fb := fun e => hne e.symm
  subst hn
  go_enter Tryz.func102, Tryz.ntmps102
  go_upto_region 2 with fail
  obtain ⟨w2, hw2⟩ : ∃ w2, (w.alloc (.cells item0x 57)).alloc (.cells item0x 57) = w2 := ⟨_, rfl⟩
  have hT := item_two w
  change Blk ((w.alloc (.cells item0x 57)).alloc (.cells item0x 57)) w.heap.size 57 item0 ∧ Blk ((w.alloc (.cells item0x 57)).alloc (.cells item0x 57)) (w.heap.size + 1) 57 item0 ∧ Below w.heap.size w ((w.alloc (.cells item0x 57)).alloc (.cells item0x 57)) at hT
  rw [hw2] at hT
  rw [hw2]
  clear hw2
  obtain ⟨hR, -, hB⟩ := hT
  have c0 := (hB.cell (p := ⟨fb, 0, none⟩) hlt).trans h0
  have c1 := (hB.cell (p := ⟨fb, 1, none⟩) hlt).trans h1
  have HR := Hid.in hR
  have HB := Hid.in hB
  clear hR hB h0 h1
  unfold wd at c0
  go_wp2_with (refine step_store_blk HR.out rfl 57 (.tmp 2) (.tmp 34) rfl rfl rfl (cellsOf { srcK 7 with name := f1 } nilV) rfl Tryz.sz57 rfl (cells_one _ _ _ _) ?_; intro w4 hB4 hg4)
  have hld := load28 hB4 rfl
  exact bodyPost_ret (v := .agg (cellsOf { srcK 7 with name := f1 } nilV)) (by simp [results, Tryz.results102, asAddr, hld]) rfl (ItemIs.mk0 rfl HB.out hg4)
set_option maxRecDepth 20000 in
set_option maxHeartbeats 1000000 in
theorem item_space (fb n cap : Nat) (f1 : ByteArray) (v : Int) (w : World) (hn : n = 2) (hcap : n ≤ cap) (hm : f1.size ≤ 281474976710656) (hv : numL f1.data.toList = some v) (h0 : w.cell? ⟨fb, 0, none⟩ = some (.string (wd 2))) (h1 : w.cell? ⟨fb, 1, none⟩ = some (.string f1)) :
    Calls Tryz.prog 102 #[.slice (some ⟨fb, 0, none⟩) n cap] w (ItemIs { srcK 5 with n := v } w) := by
  have hN := fun W => refNumber_any f1 hm W
  rw [numV, hv] at hN
  simp only [Option.isSome_some, Option.getD_some] at hN
  clear hv
  have hlt := cell_lt h0
  have hne : ¬ fb = w.heap.size := fun e => by rw [e] at hlt; exact Nat.lt_irrefl _ hlt
  have hne' : ¬ w.heap.size = fb := fun e => hne e.symm
  subst hn
  go_enter Tryz.func102, Tryz.ntmps102
  go_upto_region 2 with fail
  obtain ⟨w2, hw2⟩ : ∃ w2, (w.alloc (.cells item0x 57)).alloc (.cells item0x 57) = w2 := ⟨_, rfl⟩
  have hT := item_two w
  change Blk ((w.alloc (.cells item0x 57)).alloc (.cells item0x 57)) w.heap.size 57 item0 ∧ Blk ((w.alloc (.cells item0x 57)).alloc (.cells item0x 57)) (w.heap.size + 1) 57 item0 ∧ Below w.heap.size w ((w.alloc (.cells item0x 57)).alloc (.cells item0x 57)) at hT
  rw [hw2] at hT
  rw [hw2]
  clear hw2
  obtain ⟨hR, -, hB⟩ := hT
  have c0 := (hB.cell (p := ⟨fb, 0, none⟩) hlt).trans h0
  have c1 := (hB.cell (p := ⟨fb, 1, none⟩) hlt).trans h1
  have HR := Hid.in hR
  have HB := Hid.in hB
  clear hR hB h0 h1
  unfold wd at c0
  go_wp2_with (first
    | (go_at_call 121; refine (hN _).mono ?_; rintro e w3 ⟨rfl, rfl⟩)
    | (refine step_store_blk HR.out rfl 57 (.tmp 2) (.tmp 45) rfl rfl rfl (cellsOf { srcK 5 with n := v } nilV) rfl Tryz.sz57 rfl (cells_one _ _ _ _) ?_; intro w4 hB4 hg4))
  have hld := load28 hB4 rfl
  exact bodyPost_ret (v := .agg (cellsOf { srcK 5 with n := v } nilV)) (by simp [results, Tryz.results102, asAddr, hld]) rfl (ItemIs.mk0 rfl HB.out hg4)
set_option maxRecDepth 20000 in
set_option maxHeartbeats 1000000 in
theorem item_align (fb n cap : Nat) (f1 : ByteArray) (v : Int) (w : World) (hn : n = 2) (hcap : n ≤ cap) (hm : f1.size ≤ 281474976710656) (hv : numL f1.data.toList = some v) (h0 : w.cell? ⟨fb, 0, none⟩ = some (.string (wd 3))) (h1 : w.cell? ⟨fb, 1, none⟩ = some (.string f1)) :
    Calls Tryz.prog 102 #[.slice (some ⟨fb, 0, none⟩) n cap] w (ItemIs { srcK 6 with n := v } w) := by
  have hN := fun W => refNumber_any f1 hm W
  rw [numV, hv] at hN
  simp only [Option.isSome_some, Option.getD_some] at hN
  clear hv
  have hlt := cell_lt h0
  have hne : ¬ fb = w.heap.size := fun e => by rw [e] at hlt; exact Nat.lt_irrefl _ hlt
  have hne' : ¬ w.heap.size = fb := fun e => hne e.symm
  subst hn
  go_enter Tryz.func102, Tryz.ntmps102
  go_upto_region 2 with fail
  obtain ⟨w2, hw2⟩ : ∃ w2, (w.alloc (.cells item0x 57)).alloc (.cells item0x 57) = w2 := ⟨_, rfl⟩
  have hT := item_two w
  change Blk ((w.alloc (.cells item0x 57)).alloc (.cells item0x 57)) w.heap.size 57 item0 ∧ Blk ((w.alloc (.cells item0x 57)).alloc (.cells item0x 57)) (w.heap.size + 1) 57 item0 ∧ Below w.heap.size w ((w.alloc (.cells item0x 57)).alloc (.cells item0x 57)) at hT
  rw [hw2] at hT
  rw [hw2]
  clear hw2
  obtain ⟨hR, -, hB⟩ := hT
  have c0 := (hB.cell (p := ⟨fb, 0, none⟩) hlt).trans h0
  have c1 := (hB.cell (p := ⟨fb, 1, none⟩) hlt).trans h1
  have HR := Hid.in hR
  have HB := Hid.in hB
  clear hR hB h0 h1
  unfold wd at c0
  go_wp2_with (first
    | (go_at_call 121; refine (hN _).mono ?_; rintro e w3 ⟨rfl, rfl⟩)
    | (refine step_store_blk HR.out rfl 57 (.tmp 2) (.tmp 56) rfl rfl rfl (cellsOf { srcK 6 with n := v } nilV) rfl Tryz.sz57 rfl (cells_one _ _ _ _) ?_; intro w4 hB4 hg4))
  have hld := load28 hB4 rfl
  exact bodyPost_ret (v := .agg (cellsOf { srcK 6 with n := v } nilV)) (by simp [results, Tryz.results102, asAddr, hld]) rfl (ItemIs.mk0 rfl HB.out hg4)

end Go.Proofs.YtkianldkbfjehaaGreatDoor

/- switchyardref04.item of bytes. -/
namespace Go.Proofs.YtkianldkbfjehaaGreatDoor
open Go.RowKit

theorem read5 {y : Src} {f : List UInt8} (h : (readL 5 y f).1 = 0) : ∃ v, numL f = some v ∧ 0 ≤ v ∧ v ≤ 255 ∧ (readL 5 y f).2 = { y with d := y.d ++ [v] } := by
  simp only [readL, show ¬ (5 = 0) by decide, show ¬ (5 = 1) by decide, show ¬ (5 = 3) by decide, show ¬ (5 = 4) by decide, if_false] at h ⊢
  cases hn : numL f with
  | none => rw [hn] at h; simp at h
  | some v =>
    rw [hn] at h
    simp only at h ⊢
    cases hh : holdsB 5 v with
    | false => rw [hh] at h; simp at h
    | true =>
      have hb : 0 ≤ v ∧ v ≤ 255 := by simpa [holdsB] using hh
      exact ⟨v, rfl, hb.1, hb.2, by simp [putS]⟩
/-- the variables of item in its loops: the result's block below the item's -/
structure RSt (w0 W : World) (r fb : Nat) (fs : List (Nat × List UInt8)) (y : Src) (d : Value) : Prop where
  it : ItAt W (r + 1) y d
  res : Blk W r 57 item0
  txt : ∀ k (h : k < fs.length), W.cell? ⟨fb, k + 1, none⟩ = some (.string (bytesOf fs[k].2))
  low : Below r w0 W
  fr : fb < r
theorem RSt.start {w w2 : World} {fb : Nat} {fs : List (Nat × List UInt8)} (hlt : fb < w.heap.size) (hT : Blk w2 w.heap.size 57 item0 ∧ Blk w2 (w.heap.size + 1) 57 item0 ∧ Below w.heap.size w w2) (ht : ∀ k (h : k < fs.length), w.cell? ⟨fb, k + 1, none⟩ = some (.string (bytesOf fs[k].2))) :
    RSt w w2 w.heap.size fb fs src0 nilV :=
  ⟨⟨hT.2.1, GOwnV.nil _ _ _⟩, hT.1, fun k h => (hT.2.2.cell (p := ⟨fb, k + 1, none⟩) hlt).trans (ht k h), hT.2.2, hlt⟩
/-- the item is turned, nothing below it is -/
theorem RSt.turn {w0 W W' : World} {r fb : Nat} {fs : List (Nat × List UInt8)} {y y' : Src} {d d' : Value} (h : RSt w0 W r fb fs y d) (hI : ItAt W' (r + 1) y' d') (hb : Below (r + 1) W W') : RSt w0 W' r fb fs y' d' :=
  ⟨hI, h.res.below hb (Nat.lt_succ_self _), fun k hk => (hb.cell (p := ⟨fb, k + 1, none⟩) (Nat.lt_succ_of_lt h.fr)).trans (h.txt k hk), h.low.trans (hb.mono (Nat.le_succ _)), h.fr⟩
theorem RSt.grow {w0 W W' : World} {r fb : Nat} {fs : List (Nat × List UInt8)} {y : Src} {d : Value} (h : RSt w0 W r fb fs y d) (hb : Below W.heap.size W W') : RSt w0 W' r fb fs y d := h.turn (h.it.grow hb) (hb.mono (Nat.le_of_lt h.it.blk.lt))
theorem RSt.set {w0 W : World} {r fb : Nat} {fs : List (Nat × List UInt8)} {y y' : Src} {d : Value} (h : RSt w0 W r fb fs y d) (i : Nat) (v : Value) (hc : (cellsOf y d).setIfInBounds i v = cellsOf y' d) (hd : y'.d = y.d) : RSt w0 (W.setCell ⟨r + 1, i, none⟩ v) r fb fs y' d :=
  h.turn (h.it.set i v hc hd) (below_grown (grown_setCell W (r + 1) i v) (Nat.le_refl _) (Nat.le_of_lt h.it.blk.lt))
theorem RSt.done {w0 W W' : World} {fb : Nat} {fs : List (Nat × List UInt8)} {y : Src} {d : Value} (h : RSt w0 W w0.heap.size fb fs y d) (hg : W.grownBy W' (some w0.heap.size)) : ItemIs y w0 (.returned (.agg (cellsOf y d))) W' :=
  ⟨d, rfl, (h.it.own.grownOther hg (.inr (h.it.own.not_low (by omega)).symm)).lowerV (by omega), h.low.trans (below_grown hg (Nat.le_refl _) h.low.size)⟩

set_option maxRecDepth 20000 in
set_option maxHeartbeats 1000000 in
theorem item_byte (fb n cap : Nat) (fs : List (Nat × List UInt8)) (z : Src) (w : World) (hn : n = fs.length + 1) (hn47 : n ≤ 140737488355328) (hsz : ∀ q ∈ fs, (bytesOf q.2).size ≤ 281474976710656) (hgo : goL (srcK 4) (List.replicate 64 5) fs = .inr z)
    (h0 : w.cell? ⟨fb, 0, none⟩ = some (.string (wd 1))) (ht : ∀ k (h : k < fs.length), w.cell? ⟨fb, k + 1, none⟩ = some (.string (bytesOf fs[k].2))) :
    Calls Tryz.prog 102 #[.slice (some ⟨fb, 0, none⟩) n cap] w (ItemIs z w) := by
  have hlt := cell_lt h0
  have HGO := Hid.in hgo
  have HT := Hid.in ht
  have HSZ := Hid.in hsz
  have HN := Hid.in hn
  have hn0 : 0 < n := by omega
  clear hgo ht hsz hn
  go_enter Tryz.func102, Tryz.ntmps102
  go_upto_region 2 with fail
  obtain ⟨w2, hw2⟩ : ∃ w2, (w.alloc (.cells item0x 57)).alloc (.cells item0x 57) = w2 := ⟨_, rfl⟩
  have hT := item_two w
  change Blk ((w.alloc (.cells item0x 57)).alloc (.cells item0x 57)) w.heap.size 57 item0 ∧ Blk ((w.alloc (.cells item0x 57)).alloc (.cells item0x 57)) (w.heap.size + 1) 57 item0 ∧ Below w.heap.size w ((w.alloc (.cells item0x 57)).alloc (.cells item0x 57)) at hT
  rw [hw2] at hT
  rw [hw2]
  clear hw2
  have c0 := (hT.2.2.cell (p := ⟨fb, 0, none⟩) hlt).trans h0
  have hS := RSt.start hlt hT HT.out
  have k0 : w2.cell? ⟨w.heap.size + 1, 0, none⟩ = some (.int .u8 0) := hT.2.1.cell 0
  have f0 := hT.2.1.free 0
  have HS := Hid.in (hS.set (y' := srcK 4) 0 (.int .u8 4) rfl rfl)
  have hne : ¬ fb = w.heap.size + 1 := by omega
  clear h0 hT hS
  unfold wd at c0
  go_upto_region 15 with fail

  clear c0 k0 f0
  generalize w2.setCell ⟨w.heap.size + 1, 0, none⟩ (.int .u8 4) = w3 at *

  go_wp2_with fail
  go_loopw [8] (fun i wr => ∃ (k : Nat) (y : Src) (d : Value), k ≤ fs.length ∧ i = .int .i64 ((k : Int) + 1) ∧ RSt w wr w.heap.size fb fs y d ∧ goL (srcK 4) (List.replicate 64 5) fs = goL y ((List.replicate 64 5).drop k) (fs.drop k) ∧ y.d.length ≤ k) (fun i _ => n - (intOf i).toNat)
  case atStart => exact ⟨0, srcK 4, nilV, Nat.zero_le _, rfl, HS.out, rfl, Nat.le_refl _⟩
  case round =>
    obtain ⟨k, y, d, hk, rfl, hS, hgo, hyd⟩ := hrel
    have HSK := Hid.in hS
    have HGK := Hid.in hgo
    clear hS hgo
    have hnf := HN.out
    by_cases hlt' : k < fs.length
    · have hall := HGK.out.symm.trans HGO.out
      have hp : k < (List.replicate 64 5).length := by
        by_cases h : k < (List.replicate 64 5).length
        · exact h
        · rw [goL_many y _ fs k hlt' h] at hall; cases hall
      have hst := goL_step y (List.replicate 64 5) fs k hlt' hp
      rw [List.getElem_replicate] at hst
      have hz : (readL 5 y fs[k].2).1 = 0 := by
        by_cases h : (readL 5 y fs[k].2).1 = 0
        · exact h
        · rw [hst, if_neg h] at hall; cases hall
      rw [if_pos hz] at hst
      obtain ⟨v, hv, v0, v1, hy⟩ := read5 hz
      rw [hy] at hst
      have HST := Hid.in (HGK.out.trans hst)
      have hN := fun W => refNumber_any (bytesOf fs[k].2) (HSZ.out _ (List.getElem_mem hlt')) W
      rw [bytesOf_list, numV, hv] at hN
      simp only [Option.isSome_some, Option.getD_some] at hN
      have ct := HSK.out.txt k hlt'
      generalize bytesOf fs[k].2 = fk at *
      have hbl : (byts y.d).length = y.d.length := List.length_map _
      obtain ⟨q, cp, hd, -, -, -⟩ := HSK.out.it.own.slice
      rw [hbl] at hd
      subst hd
      have HL := Hid.in hbl
      have hc : wr.cell? ⟨w.heap.size + 1, 8, none⟩ = some (.slice q y.d.length cp) := HSK.out.it.blk.cell 8
      have hgw := HSK.out.it.blk.lt
      have htn : ((k : Int) + 1).toNat = k + 1 := by omega
      have hk0 : (0 : Int) ≤ (k : Int) + 1 := by omega
      have hkn : (k : Int) + 1 < (n : Int) := by omega
      clear hall hst hz hv hy hbl
      obtain ⟨m, hm⟩ : ∃ m, m = y.d.length := ⟨_, rfl⟩
      rw [← hm] at HSK HL hyd hc
      have HM := Hid.in hm
      clear hm hnf
      go_wp2_with (first
        | (go_at_call 121; refine (hN _).mono ?_; rintro e w4 ⟨rfl, rfl⟩)
        | (at_builtin; refine gpush Tryz.elem26 _ rfl _ _ rfl (w.heap.size + 1 + 1) _ (byts y.d) rfl (HSK.out.it.own.alloc _) ⟨w4.heap.size, 0, none⟩ 1 1 [.int .u8 v] rfl rfl (cell_one_new _ _ _) (by simp [Value.oneCell']) (by rw [HL.out]; omega) (by rw [HL.out]; omega) (by simp; omega) ?_; intro v' w5 hown hgrow hbel _hnil; obtain ⟨g2, cap2, hv2⟩ := ownsRow_succ' hown; rw [List.length_map] at hv2; subst hv2; obtain ⟨k1, k2, k3⟩ := step8 HSK.out.it (below_self _) hown hgrow hbel; have hc8 := k1.cell 8; have hf8 := k1.free 8; simp only [cellsOf] at hc8; have K4 := Hid.in (HSK.out.turn k2 k3); clear k1 k2 k3 hown hgrow hbel))
      all_goals
        go_roundw
        case rel => exact ⟨k + 1, _, _, hlt', by go_num, K4.out, HST.out, by simp; have := HM.out; omega⟩
        case measure => simp [intOf]; omega
    · have hke : k = fs.length := by omega
      have hyz : z = y := by
        have := HGK.out.symm.trans HGO.out
        rw [goL_end y _ fs k hlt'] at this
        injection this with this; exact this.symm
      obtain ⟨q, cp, hd, -, -, -⟩ := HSK.out.it.own.slice
      subst hd
      have hkn : ¬ (k : Int) + 1 < (n : Int) := by omega
      clear hnf hke
      subst hyz
      go_wp2_with (first
        | (refine step_load_blk HSK.out.it.blk rfl 57 (.tmp 3) rfl rfl _ (List.prefix_refl _) _ Tryz.underlying57 rfl Tryz.sz57 ?_)
        | (refine step_store_blk HSK.out.res rfl 57 (.tmp 2) (.tmp 81) rfl rfl rfl (cellsOf z (.slice q (byts z.d).length cp)) rfl Tryz.sz57 rfl (cells_one _ _ _ _) ?_; intro w4 hB4 hg4))
      have hld := load28 hB4 rfl
      exact bodyPost_ret (v := .agg (cellsOf z (.slice q (byts z.d).length cp))) (by simp [results, Tryz.results102, asAddr, hld]) rfl (HSK.out.done hg4)

end Go.Proofs.YtkianldkbfjehaaGreatDoor

/- switchyardref04.item of instructions. -/
namespace Go.Proofs.YtkianldkbfjehaaGreatDoor
open Go.RowKit

theorem plO_at (o k : Nat) (h : k < (plO o).length) : ((plO o)[k] = 0 ∧ k = 0) ∨ ((plO o)[k] = 1 ∧ k = 1) ∨ (plO o)[k] = 2 ∨ (plO o)[k] = 3 := by
  have : o = 5 ∨ o = 6 ∨ o = 7 ∨ o = 8 ∨ o = 9 ∨ o = 10 ∨ o = 11 ∨ o = 12 ∨ o = 14 ∨ o = 15 ∨ o = 16 ∨ plO o = [] := by
    unfold plO; split <;> simp
  rcases this with rfl | rfl | rfl | rfl | rfl | rfl | rfl | rfl | rfl | rfl | rfl | e
  · revert k; decide
  · revert k; decide
  · revert k; decide
  · revert k; decide
  · revert k; decide
  · revert k; decide
  · revert k; decide
  · revert k; decide
  · revert k; decide
  · revert k; decide
  · revert k; decide
  · rw [e] at h; simp at h
theorem plO_len (o : Nat) : (plO o).length ≤ 2 := by
  unfold plO; split <;> decide
theorem read0 {y : Src} {f : List UInt8} (h : (readL 0 y f).1 = 0) : ∃ r, regL f = some r ∧ (readL 0 y f).2 = { y with a := r } := by
  simp only [readL, if_true] at h ⊢
  cases hr : regL f with
  | none => rw [hr] at h; simp at h
  | some r => exact ⟨r, rfl, rfl⟩
theorem read1 {y : Src} {f : List UInt8} (h : (readL 1 y f).1 = 0) : ∃ r, regL f = some r ∧ (readL 1 y f).2 = { y with b := r } := by
  simp only [readL, show ¬ (1 = 0) by decide, if_true, if_false] at h ⊢
  cases hr : regL f with
  | none => rw [hr] at h; simp at h
  | some r => exact ⟨r, rfl, rfl⟩
theorem read2 {y : Src} {f : List UInt8} (h : (readL 2 y f).1 = 0) : ∃ v, numL f = some v ∧ -2147483648 ≤ v ∧ v ≤ 2147483647 ∧ (readL 2 y f).2 = { y with m := v } := by
  simp only [readL, show ¬ (2 = 0) by decide, show ¬ (2 = 1) by decide, show ¬ (2 = 3) by decide, show ¬ (2 = 4) by decide, if_false] at h ⊢
  cases hn : numL f with
  | none => rw [hn] at h; simp at h
  | some v =>
    rw [hn] at h
    simp only at h ⊢
    cases hh : holdsB 2 v with
    | false => rw [hh] at h; simp at h
    | true =>
      have hb : -2147483648 ≤ v ∧ v ≤ 2147483647 := by simpa [holdsB] using hh
      exact ⟨v, rfl, hb.1, hb.2, by simp [putS]⟩
theorem read3 {y : Src} {f : List UInt8} (h : (readL 3 y f).1 = 0) : (readL 3 y f).2 = { y with name := bytesOf f } := by
  simp only [readL, show ¬ (3 = 0) by decide, show ¬ (3 = 1) by decide, if_true, if_false] at h ⊢
  cases hn : nameB f with
  | false => rw [hn] at h; simp at h
  | true => rfl
theorem askC_len (p : Nat) : (askC p).length = 3 := by
  have h : askV p = askd 114 0 0 ∨ askV p = askd 119 0 0 ∨ askV p = askd 110 (-2147483648) 2147483647 ∨ askV p = askd 110 0 255 ∨ askV p = askd 110 0 4096 ∨ askV p = askd 97 0 0 := by
    unfold askV
    by_cases h1 : p = 0 ∨ p = 1
    · rw [if_pos h1]; exact .inl rfl
    rw [if_neg h1]
    by_cases h2 : p = 3 ∨ p = 4
    · rw [if_pos h2]; exact .inr (.inl rfl)
    rw [if_neg h2]
    by_cases h3 : p = 2
    · rw [if_pos h3]; exact .inr (.inr (.inl rfl))
    rw [if_neg h3]
    by_cases h4 : p = 5
    · rw [if_pos h4]; exact .inr (.inr (.inr (.inl rfl)))
    rw [if_neg h4]
    by_cases h5 : p = 6
    · rw [if_pos h5]; exact .inr (.inr (.inr (.inr (.inl rfl))))
    · rw [if_neg h5]; exact .inr (.inr (.inr (.inr (.inr rfl))))
  unfold askC
  rcases h with h | h | h | h | h | h <;> rw [h] <;> rfl
theorem op_find (o : Nat) (h1 : 1 ≤ o) (h2 : o < 17) : opL (nm o).data.toList = some o := by
  have : o = 1 ∨ o = 2 ∨ o = 3 ∨ o = 4 ∨ o = 5 ∨ o = 6 ∨ o = 7 ∨ o = 8 ∨ o = 9 ∨ o = 10 ∨ o = 11 ∨ o = 12 ∨ o = 13 ∨ o = 14 ∨ o = 15 ∨ o = 16 := by omega
  rcases this with rfl | rfl | rfl | rfl | rfl | rfl | rfl | rfl | rfl | rfl | rfl | rfl | rfl | rfl | rfl | rfl <;> decide
theorem ask_at : ∀ (ps : List Nat) (k : Nat) (h : k < ps.length) (j : Nat), j < 3 → (ps.flatMap askC)[k * 3 + j]? = (askC ps[k])[j]?
  | [], k, h, _, _ => absurd h (by simp)
  | p :: ps, 0, _, j, hj => by
    rw [List.flatMap_cons, Nat.zero_mul, Nat.zero_add, List.getElem?_append_left (by rw [askC_len]; exact hj)]
    rfl
  | p :: ps, k + 1, h, j, hj => by
    have h' : k < ps.length := by simpa using h
    rw [List.flatMap_cons, List.getElem?_append_right (by rw [askC_len]; omega), askC_len, show (k + 1) * 3 + j - 3 = k * 3 + j by omega, ask_at ps k h' j hj]
    rfl
theorem AskOwn.cells {w : World} {B : Nat} {v : Value} {ps : List Nat} (h : AskOwn w B v ps) (h0 : 0 < ps.length) : ∃ g, v = .slice (some ⟨g, 0, none⟩) ps.length ps.length ∧ B ≤ g ∧ g < w.heap.size ∧ ∀ k (hk : k < ps.length) (j : Nat), j < 3 → w.cell? ⟨g, k * 3 + j, none⟩ = (askC ps[k])[j]? := by
  rcases h with ⟨e, _⟩ | ⟨g, e, hB, hb⟩
  · rw [e] at h0; simp at h0
  · refine ⟨g, e, hB, hb.lt, fun k hk j hj => ?_⟩
    rw [hb.cell, List.getElem?_toArray, ask_at ps k hk j hj]
theorem AskOwn.kept {w w' : World} {B g : Nat} {v : Value} {ps : List Nat} (h : AskOwn w B v ps) (hg : w.grownBy w' (some g)) (hB : g < B) : AskOwn w' B v ps :=
  h.imp id fun ⟨g2, e, h2, hb⟩ => ⟨g2, e, h2, hb.kept hg (by intro e; injection e with e; omega)⟩
theorem AskOwn.shape {w : World} {B : Nat} {v : Value} {ps : List Nat} (h : AskOwn w B v ps) : ∃ p, v = .slice p ps.length ps.length := by
  rcases h with ⟨e, e2⟩ | ⟨g, e, _, _⟩
  · exact ⟨none, by rw [e, e2]; rfl⟩
  · exact ⟨_, e⟩

set_option maxRecDepth 20000 in
set_option maxHeartbeats 1000000 in
theorem item_op (o : Nat) (ho1 : 1 ≤ o) (ho2 : o < 17) (fb n cap : Nat) (fs : List (Nat × List UInt8)) (z : Src) (w : World) (hn : n = fs.length + 1) (hfs : fs.length = (plO o).length) (hsz : ∀ q ∈ fs, (bytesOf q.2).size ≤ 281474976710656) (hgo : goL { srcK 2 with o := o } (plO o) fs = .inr z)
    (h0 : w.cell? ⟨fb, 0, none⟩ = some (.string (nm o))) (ht : ∀ k (h : k < fs.length), w.cell? ⟨fb, k + 1, none⟩ = some (.string (bytesOf fs[k].2))) :
    Calls Tryz.prog 102 #[.slice (some ⟨fb, 0, none⟩) n cap] w (ItemIs z w) := by
  have hlt := cell_lt h0
  have hOp := fun W => rop_yes o W ho1 ho2
  have hAs := fun W => refAsks_any (nm o) W
  have haL : askL (nm o).data.toList = some (plO o, false) := by
    unfold askL
    rw [nm_word o ho1 ho2]
    have : opL (nm o).data.toList = some o := op_find o ho1 ho2
    simp only [this]
  rw [haL] at hAs
  obtain ⟨n0, n1, n2, n3, n4⟩ := not_word (nm_word o ho1 ho2)
  have hlen := plO_len o
  have HPA := Hid.in (plO_at o)
  generalize nm o = y0 at *
  generalize plO o = ps at *
  have HGO := Hid.in hgo
  have HT := Hid.in ht
  have HSZ := Hid.in hsz
  have HN := Hid.in hn
  have HFS := Hid.in hfs
  have hn0 : 0 < n := by omega
  clear hgo ht hsz hn haL hfs
  go_enter Tryz.func102, Tryz.ntmps102
  go_upto_region 2 with fail
  obtain ⟨w2, hw2⟩ : ∃ w2, (w.alloc (.cells item0x 57)).alloc (.cells item0x 57) = w2 := ⟨_, rfl⟩
  have hT := item_two w
  change Blk ((w.alloc (.cells item0x 57)).alloc (.cells item0x 57)) w.heap.size 57 item0 ∧ Blk ((w.alloc (.cells item0x 57)).alloc (.cells item0x 57)) (w.heap.size + 1) 57 item0 ∧ Below w.heap.size w ((w.alloc (.cells item0x 57)).alloc (.cells item0x 57)) at hT
  rw [hw2] at hT
  rw [hw2]
  clear hw2
  have c0 := (hT.2.2.cell (p := ⟨fb, 0, none⟩) hlt).trans h0
  have hS := RSt.start hlt hT HT.out
  have k0 : w2.cell? ⟨w.heap.size + 1, 0, none⟩ = some (.int .u8 0) := hT.2.1.cell 0
  have f0 := hT.2.1.free 0
  have hS3 := hS.set (y' := srcK 2) 0 (.int .u8 2) rfl rfl
  have hne : ¬ fb = w.heap.size + 1 := by omega
  have hne' : ¬ w.heap.size + 1 = fb := by omega
  have HS := Hid.in hS3
  have HC3 := Hid.in ((Below.heap_setCell w2 ⟨w.heap.size + 1, 0, none⟩ (.int .u8 2) fb (fun e => hne e)))
  clear h0 hT hS hS3
  go_upto_region 22 with fail
  have c0' : (w2.setCell ⟨w.heap.size + 1, 0, none⟩ (.int .u8 2)).cell? ⟨fb, 0, none⟩ = some (.string y0) := by
    have := HC3.out
    unfold World.cell? at c0 ⊢
    rw [this]; exact c0
  clear c0 k0 f0 HC3
  generalize w2.setCell ⟨w.heap.size + 1, 0, none⟩ (.int .u8 2) = w3 at *
  have k3 : w3.cell? ⟨w.heap.size + 1, 3, none⟩ = some (.int .u8 0) := HS.out.it.blk.cell 3
  have f3 := HS.out.it.blk.free 3
  have HS4 := Hid.in (HS.out.set (y' := { srcK 2 with o := o }) 3 (.int .u8 o) rfl rfl)
  have HC4 := Hid.in ((Below.heap_setCell w3 ⟨w.heap.size + 1, 3, none⟩ (.int .u8 o) fb (fun e => hne e)))
  go_upto_region 23 with (go_at_call 124; refine (hOp _).mono ?_; rintro e w4 ⟨rfl, rfl⟩)
  have c5' : (w4.setCell ⟨w.heap.size + 1, 3, none⟩ (.int .u8 o)).cell? ⟨fb, 0, none⟩ = some (.string y0) := by
    have := HC4.out
    unfold World.cell? at c0' ⊢
    rw [this]; exact c0'
  clear c0' k3 f3 HC4 HS
  generalize w4.setCell ⟨w.heap.size + 1, 3, none⟩ (.int .u8 o) = w5 at *
  go_wp2_with (go_at_call 100; refine (hAs _).mono ?_; rintro e w6 ⟨hb6, v6, rfl, hask⟩; have HS6 := Hid.in (HS4.out.grow hb6); have HA6 := Hid.in hask; have HGW := Hid.in HS4.out.it.blk.lt; obtain ⟨pa, hpa⟩ := hask.shape; subst hpa; clear hb6 hask c5')
  have HBW : Hid (w5.heap.size ≤ w5.heap.size) := Nat.le_refl _
  clear HS4
  obtain ⟨np, hnp⟩ : ∃ np, ps.length = np := ⟨_, rfl⟩
  rw [hnp] at hlen HFS HA6
  rw [hnp]
  have HNP := Hid.in hnp
  clear hnp
  go_loopw [14] (fun i wr => ∃ (k : Nat) (y : Src), k ≤ np ∧ i = .int .i64 (k : Int) ∧ RSt w wr w.heap.size fb fs y nilV ∧ AskOwn wr w5.heap.size (.slice pa np np) ps ∧ goL { srcK 2 with o := o } ps fs = goL y (ps.drop k) (fs.drop k)) (fun i _ => np - (intOf i).toNat)
  case atStart => exact ⟨0, _, Nat.zero_le _, rfl, HS6.out, HA6.out, rfl⟩
  case round =>
    obtain ⟨k, y, hk, rfl, hS, hA, hgo⟩ := hrel
    have HSK := Hid.in hS
    have HAK := Hid.in hA
    have HGK := Hid.in hgo
    have hnf := HN.out
    have hff := HFS.out
    clear hS hA hgo
    by_cases hlt' : k < np
    · have hltp : k < ps.length := by rw [HNP.out]; exact hlt'
      have hltf : k < fs.length := by rw [hff]; exact hlt'
      have hall := HGK.out.symm.trans HGO.out
      have hst := goL_step y ps fs k hltf hltp
      have hz : (readL ps[k] y fs[k].2).1 = 0 := by
        by_cases h : (readL ps[k] y fs[k].2).1 = 0
        · exact h
        · rw [hst, if_neg h] at hall; cases hall
      obtain ⟨ga, hga, hgB, hgw, hac⟩ := HAK.out.cells (by omega)
      rw [HNP.out] at hga
      injection hga with hga
      subst hga
      have hcase := HPA.out k hltp
      have hk01 : k = 0 ∨ k = 1 := by omega
      rcases hk01 with rfl | rfl
      · rcases hcase with ⟨hpk, -⟩ | ⟨-, hbad⟩ | hpk | hpk
        · skip
          rw [hpk] at hst hz
          obtain ⟨r, hr, hy⟩ := read0 hz
          rw [if_pos hz, hy] at hst
          have HST := Hid.in (HGK.out.trans hst)
          have hC := fun W => register_any (bytesOf fs[0].2) W
          rw [bytesOf_list, hr] at hC
          simp only [Option.isSome_some, Option.getD_some] at hC
          have a0 : wr.cell? ⟨ga, 0, none⟩ = some (.int .u8 114) := by have := hac 0 hltp 0 (by decide); rw [hpk] at this; exact this
          have ct : wr.cell? ⟨fb, 1, none⟩ = some (.string (bytesOf fs[0].2)) := HSK.out.txt 0 hltf
          have cy : wr.cell? ⟨w.heap.size + 1, 4, none⟩ = some (.int .u8 y.a) := HSK.out.it.blk.cell 4
          have fy := HSK.out.it.blk.free 4
          have HS7 := Hid.in (HSK.out.set (y' := { y with a := r }) 4 (.int .u8 r) rfl rfl)
          have HA7 := Hid.in (HAK.out.kept (grown_setCell wr (w.heap.size + 1) 4 (.int .u8 r)) (Nat.lt_of_lt_of_le HGW.out HBW.out))
          clear hst hz hac hall hpk
          generalize bytesOf fs[0].2 = fk at *
          have h1n : (1 : Int) < (n : Int) := by omega
          clear hnf hff
          go_wp2_with (go_at_call 122; refine (hC _).mono ?_; rintro e w7 ⟨rfl, rfl⟩)
          go_roundw
          case rel => exact ⟨1, _, by omega, by go_num, HS7.out, HA7.out, HST.out⟩
          case measure => simp [intOf]; omega
        · cases hbad
        · skip
          rw [hpk] at hst hz
          obtain ⟨r, hr, r0, r1, hy⟩ := read2 hz
          rw [if_pos hz, hy] at hst
          have HST := Hid.in (HGK.out.trans hst)
          have hC := fun W => refNumber_any (bytesOf fs[0].2) (HSZ.out _ (List.getElem_mem hltf)) W
          rw [bytesOf_list, numV, hr] at hC
          simp only [Option.isSome_some, Option.getD_some] at hC
          have a0 : wr.cell? ⟨ga, 0, none⟩ = some (.int .u8 110) := by have := hac 0 hltp 0 (by decide); rw [hpk] at this; exact this
          have ct : wr.cell? ⟨fb, 1, none⟩ = some (.string (bytesOf fs[0].2)) := HSK.out.txt 0 hltf
          have cy : wr.cell? ⟨w.heap.size + 1, 6, none⟩ = some (.int .i32 y.m) := HSK.out.it.blk.cell 6
          have fy := HSK.out.it.blk.free 6
          have HS7 := Hid.in (HSK.out.set (y' := { y with m := r }) 6 (.int .i32 r) rfl rfl)
          have HA7 := Hid.in (HAK.out.kept (grown_setCell wr (w.heap.size + 1) 6 (.int .i32 r)) (Nat.lt_of_lt_of_le HGW.out HBW.out))
          clear hst hz hac hall hpk
          generalize bytesOf fs[0].2 = fk at *
          have h1n : (1 : Int) < (n : Int) := by omega
          clear hnf hff
          go_wp2_with (go_at_call 121; refine (hC _).mono ?_; rintro e w7 ⟨rfl, rfl⟩)
          go_roundw
          case rel => exact ⟨1, _, by omega, by go_num, HS7.out, HA7.out, HST.out⟩
          case measure => simp [intOf]; omega
        · skip
          rw [hpk] at hst hz
          have hy := read3 hz
          rw [if_pos hz, hy] at hst
          have HST := Hid.in (HGK.out.trans hst)
          skip
          have a0 : wr.cell? ⟨ga, 0, none⟩ = some (.int .u8 119) := by have := hac 0 hltp 0 (by decide); rw [hpk] at this; exact this
          have ct : wr.cell? ⟨fb, 1, none⟩ = some (.string (bytesOf fs[0].2)) := HSK.out.txt 0 hltf
          have cy : wr.cell? ⟨w.heap.size + 1, 1, none⟩ = some (.string y.name) := HSK.out.it.blk.cell 1
          have fy := HSK.out.it.blk.free 1
          have HS7 := Hid.in (HSK.out.set (y' := { y with name := bytesOf fs[0].2 }) 1 (.string (bytesOf fs[0].2)) rfl rfl)
          have HA7 := Hid.in (HAK.out.kept (grown_setCell wr (w.heap.size + 1) 1 (.string (bytesOf fs[0].2))) (Nat.lt_of_lt_of_le HGW.out HBW.out))
          clear hst hz hac hall hpk
          generalize bytesOf fs[0].2 = fk at *
          have h1n : (1 : Int) < (n : Int) := by omega
          clear hnf hff
          go_wp2_with fail
          go_roundw
          case rel => exact ⟨1, _, by omega, by go_num, HS7.out, HA7.out, HST.out⟩
          case measure => simp [intOf]; omega
      · rcases hcase with ⟨-, hbad⟩ | ⟨hpk, -⟩ | hpk | hpk
        · cases hbad
        · skip
          rw [hpk] at hst hz
          obtain ⟨r, hr, hy⟩ := read1 hz
          rw [if_pos hz, hy] at hst
          have HST := Hid.in (HGK.out.trans hst)
          have hC := fun W => register_any (bytesOf fs[1].2) W
          rw [bytesOf_list, hr] at hC
          simp only [Option.isSome_some, Option.getD_some] at hC
          have a0 : wr.cell? ⟨ga, 3, none⟩ = some (.int .u8 114) := by have := hac 1 hltp 0 (by decide); rw [hpk] at this; exact this
          have ct : wr.cell? ⟨fb, 2, none⟩ = some (.string (bytesOf fs[1].2)) := HSK.out.txt 1 hltf
          have cy : wr.cell? ⟨w.heap.size + 1, 5, none⟩ = some (.int .u8 y.b) := HSK.out.it.blk.cell 5
          have fy := HSK.out.it.blk.free 5
          have HS7 := Hid.in (HSK.out.set (y' := { y with b := r }) 5 (.int .u8 r) rfl rfl)
          have HA7 := Hid.in (HAK.out.kept (grown_setCell wr (w.heap.size + 1) 5 (.int .u8 r)) (Nat.lt_of_lt_of_le HGW.out HBW.out))
          clear hst hz hac hall hpk
          generalize bytesOf fs[1].2 = fk at *
          have h1n : (1 : Int) < (n : Int) := by omega
          have h2n : (2 : Int) < (n : Int) := by omega
          clear hnf hff
          go_wp2_with (go_at_call 122; refine (hC _).mono ?_; rintro e w7 ⟨rfl, rfl⟩)
          go_roundw
          case rel => exact ⟨2, _, by omega, by go_num, HS7.out, HA7.out, HST.out⟩
          case measure => simp [intOf]; omega
        · skip
          rw [hpk] at hst hz
          obtain ⟨r, hr, r0, r1, hy⟩ := read2 hz
          rw [if_pos hz, hy] at hst
          have HST := Hid.in (HGK.out.trans hst)
          have hC := fun W => refNumber_any (bytesOf fs[1].2) (HSZ.out _ (List.getElem_mem hltf)) W
          rw [bytesOf_list, numV, hr] at hC
          simp only [Option.isSome_some, Option.getD_some] at hC
          have a0 : wr.cell? ⟨ga, 3, none⟩ = some (.int .u8 110) := by have := hac 1 hltp 0 (by decide); rw [hpk] at this; exact this
          have ct : wr.cell? ⟨fb, 2, none⟩ = some (.string (bytesOf fs[1].2)) := HSK.out.txt 1 hltf
          have cy : wr.cell? ⟨w.heap.size + 1, 6, none⟩ = some (.int .i32 y.m) := HSK.out.it.blk.cell 6
          have fy := HSK.out.it.blk.free 6
          have HS7 := Hid.in (HSK.out.set (y' := { y with m := r }) 6 (.int .i32 r) rfl rfl)
          have HA7 := Hid.in (HAK.out.kept (grown_setCell wr (w.heap.size + 1) 6 (.int .i32 r)) (Nat.lt_of_lt_of_le HGW.out HBW.out))
          clear hst hz hac hall hpk
          generalize bytesOf fs[1].2 = fk at *
          have h1n : (1 : Int) < (n : Int) := by omega
          have h2n : (2 : Int) < (n : Int) := by omega
          clear hnf hff
          go_wp2_with (go_at_call 121; refine (hC _).mono ?_; rintro e w7 ⟨rfl, rfl⟩)
          go_roundw
          case rel => exact ⟨2, _, by omega, by go_num, HS7.out, HA7.out, HST.out⟩
          case measure => simp [intOf]; omega
        · skip
          rw [hpk] at hst hz
          have hy := read3 hz
          rw [if_pos hz, hy] at hst
          have HST := Hid.in (HGK.out.trans hst)
          skip
          have a0 : wr.cell? ⟨ga, 3, none⟩ = some (.int .u8 119) := by have := hac 1 hltp 0 (by decide); rw [hpk] at this; exact this
          have ct : wr.cell? ⟨fb, 2, none⟩ = some (.string (bytesOf fs[1].2)) := HSK.out.txt 1 hltf
          have cy : wr.cell? ⟨w.heap.size + 1, 1, none⟩ = some (.string y.name) := HSK.out.it.blk.cell 1
          have fy := HSK.out.it.blk.free 1
          have HS7 := Hid.in (HSK.out.set (y' := { y with name := bytesOf fs[1].2 }) 1 (.string (bytesOf fs[1].2)) rfl rfl)
          have HA7 := Hid.in (HAK.out.kept (grown_setCell wr (w.heap.size + 1) 1 (.string (bytesOf fs[1].2))) (Nat.lt_of_lt_of_le HGW.out HBW.out))
          clear hst hz hac hall hpk
          generalize bytesOf fs[1].2 = fk at *
          have h1n : (1 : Int) < (n : Int) := by omega
          have h2n : (2 : Int) < (n : Int) := by omega
          clear hnf hff
          go_wp2_with fail
          go_roundw
          case rel => exact ⟨2, _, by omega, by go_num, HS7.out, HA7.out, HST.out⟩
          case measure => simp [intOf]; omega
    · have hyz : z = y := by
        have := HGK.out.symm.trans HGO.out
        rw [goL_end y _ fs k (by rw [hff]; exact hlt')] at this
        injection this with this; exact this.symm
      subst hyz
      clear hnf hff
      go_wp2_with (first
        | (refine step_load_blk HSK.out.it.blk rfl 57 (.tmp 3) rfl rfl _ (List.prefix_refl _) _ Tryz.underlying57 rfl Tryz.sz57 ?_)
        | (refine step_store_blk HSK.out.res rfl 57 (.tmp 2) (.tmp 175) rfl rfl rfl (cellsOf z nilV) rfl Tryz.sz57 rfl (cells_one _ _ _ _) ?_; intro w8 hB8 hg8))
      have hld := load28 hB8 rfl
      exact bodyPost_ret (v := .agg (cellsOf z nilV)) (by simp [results, Tryz.results102, asAddr, hld]) rfl (HSK.out.done hg8)

end Go.Proofs.YtkianldkbfjehaaGreatDoor
