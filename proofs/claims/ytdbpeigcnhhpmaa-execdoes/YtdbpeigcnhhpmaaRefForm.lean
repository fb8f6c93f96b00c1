/- What switchyardref02.Name, Op and FormOf answer. -/
import Derived.Test.YtdbpeigcnhhpmaaRight
namespace Go.Proofs.Ytdbpeigcnhhpmaa
open Go.RowKit

abbrev frm (f l : Int) (A B M D : Bool) : Value := .agg #[.int .u8 f, .int .i64 l, .bool A, .bool B, .bool M, .bool D]
def hA (o : Nat) : Bool := decide (1 ≤ rg o)
def hB (o : Nat) : Bool := decide (2 ≤ rg o)
def hM (o : Nat) : Bool := decide (kd o ≠ 0)
def hD (o : Nat) : Bool := decide (kd o = 2)

set_option maxHeartbeats 2000000 in
theorem form_yes (o : Nat) (w : World) (h1 : 1 ≤ o) (h2 : o < 17) :
    Calls Try.prog 33 #[.int .u8 o] w fun e w' => e = .returned (.tuple #[frm (fb o) (lenN o) (hA o) (hB o) (hM o) (hD o), .bool true]) ∧ Below w.heap.size w w' := by
  obtain rfl | rfl | rfl | rfl | rfl | rfl | rfl | rfl | rfl | rfl | rfl | rfl | rfl | rfl | rfl | rfl : o = 1 ∨ o = 2 ∨ o = 3 ∨ o = 4 ∨ o = 5 ∨ o = 6 ∨ o = 7 ∨ o = 8 ∨ o = 9 ∨ o = 10 ∨ o = 11 ∨ o = 12 ∨ o = 13 ∨ o = 14 ∨ o = 15 ∨ o = 16 := by omega
  · go_enter Try.func33, Try.ntmps33
    go_wp2
    exact bodyPost_ret (v := .tuple #[frm 0 1 false false false false, .bool true]) (by simp [results, Try.results33, go_sem]) rfl ⟨rfl, new_alloc _ _⟩
  · go_enter Try.func33, Try.ntmps33
    go_wp2
    exact bodyPost_ret (v := .tuple #[frm 144 1 false false false false, .bool true]) (by simp [results, Try.results33, go_sem]) rfl ⟨rfl, new_alloc _ _⟩
  · go_enter Try.func33, Try.ntmps33
    go_wp2
    exact bodyPost_ret (v := .tuple #[frm 15 5 false false false false, .bool true]) (by simp [results, Try.results33, go_sem]) rfl ⟨rfl, new_alloc _ _⟩
  · go_enter Try.func33, Try.ntmps33
    go_wp2
    exact bodyPost_ret (v := .tuple #[frm 204 1 false false false false, .bool true]) (by simp [results, Try.results33, go_sem]) rfl ⟨rfl, new_alloc _ _⟩
  · go_enter Try.func33, Try.ntmps33
    go_wp2
    exact bodyPost_ret (v := .tuple #[frm 184 6 true false true false, .bool true]) (by simp [results, Try.results33, go_sem]) rfl ⟨rfl, new_alloc _ _⟩
  · go_enter Try.func33, Try.ntmps33
    go_wp2
    exact bodyPost_ret (v := .tuple #[frm 137 3 true true false false, .bool true]) (by simp [results, Try.results33, go_sem]) rfl ⟨rfl, new_alloc _ _⟩
  · go_enter Try.func33, Try.ntmps33
    go_wp2
    exact bodyPost_ret (v := .tuple #[frm 1 3 true true false false, .bool true]) (by simp [results, Try.results33, go_sem]) rfl ⟨rfl, new_alloc _ _⟩
  · go_enter Try.func33, Try.ntmps33
    go_wp2
    exact bodyPost_ret (v := .tuple #[frm 41 3 true true false false, .bool true]) (by simp [results, Try.results33, go_sem]) rfl ⟨rfl, new_alloc _ _⟩
  · go_enter Try.func33, Try.ntmps33
    go_wp2
    exact bodyPost_ret (v := .tuple #[frm 116 6 true false true false, .bool true]) (by simp [results, Try.results33, go_sem]) rfl ⟨rfl, new_alloc _ _⟩
  · go_enter Try.func33, Try.ntmps33
    go_wp2
    exact bodyPost_ret (v := .tuple #[frm 117 6 true false true false, .bool true]) (by simp [results, Try.results33, go_sem]) rfl ⟨rfl, new_alloc _ _⟩
  · go_enter Try.func33, Try.ntmps33
    go_wp2
    exact bodyPost_ret (v := .tuple #[frm 233 5 false false true false, .bool true]) (by simp [results, Try.results33, go_sem]) rfl ⟨rfl, new_alloc _ _⟩
  · go_enter Try.func33, Try.ntmps33
    go_wp2
    exact bodyPost_ret (v := .tuple #[frm 232 5 false false true false, .bool true]) (by simp [results, Try.results33, go_sem]) rfl ⟨rfl, new_alloc _ _⟩
  · go_enter Try.func33, Try.ntmps33
    go_wp2
    exact bodyPost_ret (v := .tuple #[frm 195 1 false false false false, .bool true]) (by simp [results, Try.results33, go_sem]) rfl ⟨rfl, new_alloc _ _⟩
  · go_enter Try.func33, Try.ntmps33
    go_wp2
    exact bodyPost_ret (v := .tuple #[frm 139 6 true false true true, .bool true]) (by simp [results, Try.results33, go_sem]) rfl ⟨rfl, new_alloc _ _⟩
  · go_enter Try.func33, Try.ntmps33
    go_wp2
    exact bodyPost_ret (v := .tuple #[frm 136 6 true false true true, .bool true]) (by simp [results, Try.results33, go_sem]) rfl ⟨rfl, new_alloc _ _⟩
  · go_enter Try.func33, Try.ntmps33
    go_wp2
    exact bodyPost_ret (v := .tuple #[frm 230 2 true false false false, .bool true]) (by simp [results, Try.results33, go_sem]) rfl ⟨rfl, new_alloc _ _⟩

set_option maxHeartbeats 1000000 in
theorem form_no (o : Int) (w : World) (h : o = 0 ∨ 17 ≤ o) :
    Calls Try.prog 33 #[.int .u8 o] w fun e w' => e = .returned (.tuple #[frm 0 0 false false false false, .bool false]) ∧ Below w.heap.size w w' := by
  have e1 : (o == 1) = false := by simp; omega
  have e2 : (o == 2) = false := by simp; omega
  have e3 : (o == 3) = false := by simp; omega
  have e4 : (o == 4) = false := by simp; omega
  have e5 : (o == 5) = false := by simp; omega
  have e6 : (o == 6) = false := by simp; omega
  have e7 : (o == 7) = false := by simp; omega
  have e8 : (o == 8) = false := by simp; omega
  have e9 : (o == 9) = false := by simp; omega
  have e10 : (o == 10) = false := by simp; omega
  have e11 : (o == 11) = false := by simp; omega
  have e12 : (o == 12) = false := by simp; omega
  have e13 : (o == 13) = false := by simp; omega
  have e14 : (o == 14) = false := by simp; omega
  have e15 : (o == 15) = false := by simp; omega
  have e16 : (o == 16) = false := by simp; omega
  clear h
  go_enter Try.func33, Try.ntmps33
  go_wp2
  exact bodyPost_ret (v := .tuple #[frm 0 0 false false false false, .bool false]) (by simp [results, Try.results33, go_sem]) rfl ⟨rfl, new_alloc _ _⟩
end Go.Proofs.Ytdbpeigcnhhpmaa
