/- Plain facts on numbers and lists of bytes: what four bytes say, and back. -/
import Derived.WalkKit
import Derived.WalkSpells
import Derived.WalkLawsBesides
import Derived.Laws.BitsAllLaws
namespace Go.Proofs.Ytekggimgobeggaa
open Go.RowKit

theorem or_join (i : Nat) (a b : Int) (h0 : 0 ≤ a) (ha : a < 2 ^ i) (hb0 : 0 ≤ b) (hb : b * 2 ^ i < 4294967296) (hi : (2 : Int) ^ i ≤ 4294967296) :
    bits .or .u32 a (b * 2 ^ i) = a + b * 2 ^ i := by
  have hp : (0 : Int) ≤ 2 ^ i := by
    have : ((2 ^ i : Nat) : Int) = 2 ^ i := by simp
    omega
  have hm : 0 ≤ b * 2 ^ i := Int.mul_nonneg hb0 hp
  rw [u32_or a (b * 2 ^ i) h0 (by omega) hm hb]
  obtain ⟨x, rfl⟩ := Int.eq_ofNat_of_zero_le h0
  obtain ⟨y, rfl⟩ := Int.eq_ofNat_of_zero_le hb0
  have e : ((y : Int) * 2 ^ i).toNat = y * 2 ^ i := by
    have : ((y : Int) * 2 ^ i) = ((y * 2 ^ i : Nat) : Int) := by simp
    rw [this, Int.toNat_natCast]
  rw [e, Int.toNat_natCast, Nat.or_comm, nat_join i (y * 2 ^ i) x (Nat.mul_mod_left _ _) (by
    have : ((x : Nat) : Int) < ((2 ^ i : Nat) : Int) := by simpa using ha
    omega)]
  simp
  omega

def num2 (z0 z1 : Int) : Int := z0 + 256 * z1
def num4 (z0 z1 z2 z3 : Int) : Int := z0 + 256 * z1 + 65536 * z2 + 16777216 * z3

theorem or4 (z0 z1 z2 z3 : Int) (r0 : 0 ≤ z0 ∧ z0 ≤ 255) (r1 : 0 ≤ z1 ∧ z1 ≤ 255) (r2 : 0 ≤ z2 ∧ z2 ≤ 255) (r3 : 0 ≤ z3 ∧ z3 ≤ 255) :
    bits .or .u32 (bits .or .u32 (bits .or .u32 (bits .or .u32 0 z0) (z1 * 256)) (z2 * 65536)) (z3 * 16777216) = num4 z0 z1 z2 z3 := by
  have e0 := or_join 0 0 z0 (by omega) (by decide) r0.1 (by omega) (by decide)
  have e1 := or_join 8 z0 z1 r0.1 (by omega) r1.1 (by omega) (by decide)
  have e2 := or_join 16 (z0 + z1 * 256) z2 (by omega) (by omega) r2.1 (by omega) (by decide)
  have e3 := or_join 24 (z0 + z1 * 256 + z2 * 65536) z3 (by omega) (by omega) r3.1 (by omega) (by decide)
  simp only [Int.reducePow, Int.mul_one, Int.zero_add] at e0 e1 e2 e3
  rw [e0, e1, e2, e3]
  unfold num4
  omega

theorem or2 (z0 z1 : Int) (r0 : 0 ≤ z0 ∧ z0 ≤ 255) (r1 : 0 ≤ z1 ∧ z1 ≤ 255) :
    bits .or .u32 (bits .or .u32 0 z0) (z1 * 256) = num2 z0 z1 := by
  have e0 := or_join 0 0 z0 (by omega) (by decide) r0.1 (by omega) (by decide)
  have e1 := or_join 8 z0 z1 r0.1 (by omega) r1.1 (by omega) (by decide)
  simp only [Int.reducePow, Int.mul_one, Int.zero_add] at e0 e1
  rw [e0, e1]
  unfold num2
  omega

theorem num4_bd {z0 z1 z2 z3 : Int} (r0 : 0 ≤ z0 ∧ z0 ≤ 255) (r1 : 0 ≤ z1 ∧ z1 ≤ 255) (r2 : 0 ≤ z2 ∧ z2 ≤ 255) (r3 : 0 ≤ z3 ∧ z3 ≤ 255) :
    0 ≤ num4 z0 z1 z2 z3 ∧ num4 z0 z1 z2 z3 ≤ 4294967295 := by unfold num4; omega
theorem num2_bd {z0 z1 : Int} (r0 : 0 ≤ z0 ∧ z0 ≤ 255) (r1 : 0 ≤ z1 ∧ z1 ≤ 255) :
    0 ≤ num2 z0 z1 ∧ num2 z0 z1 ≤ 65535 := by unfold num2; omega

/-- each number a byte's (behind the end: nought) -/
def Byt (xs : List Int) : Prop := ∀ i, 0 ≤ xs.getD i 0 ∧ xs.getD i 0 ≤ 255

/-- how a slice of bytes lies: where there is a byte, at an address, with its cells -/
def Row (w : World) (p : Option Addr) (xs : List Int) : Prop :=
  0 < xs.length → ∃ b o, p = some ⟨b, o, none⟩ ∧ ∀ i, i < xs.length → w.cell? ⟨b, o + i, none⟩ = some (.int .u8 (xs.getD i 0))

def n4 (xs : List Int) (a : Nat) : Int := num4 (xs.getD a 0) (xs.getD (a + 1) 0) (xs.getD (a + 2) 0) (xs.getD (a + 3) 0)
def n2 (xs : List Int) (a : Nat) : Int := num2 (xs.getD a 0) (xs.getD (a + 1) 0)
theorem n4_bd {xs : List Int} (h : Byt xs) (a : Nat) : 0 ≤ n4 xs a ∧ n4 xs a ≤ 4294967295 := num4_bd (h _) (h _) (h _) (h _)
theorem n2_bd {xs : List Int} (h : Byt xs) (a : Nat) : 0 ≤ n2 xs a ∧ n2 xs a ≤ 65535 := num2_bd (h _) (h _)

end Go.Proofs.Ytekggimgobeggaa
