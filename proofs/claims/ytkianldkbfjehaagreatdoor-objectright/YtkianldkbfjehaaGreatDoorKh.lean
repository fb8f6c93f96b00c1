/- Texts put together: Table, Src, Shp, Same, Met, Ops, Right, Blk. -/
import Derived.Test.YtkianldkbfjehaaGreatDoorKa
import Derived.Deep.WholeRow
import Derived.Laws.BytesArg
import Derived.Test.YtkianldkbfjehaaGreatDoorKe
import Derived.Test.YtkianldkbfjehaaGreatDoorKg
import Derived.Laws.ResultCell
import Derived.Test.YtkianldkbfjehaaGreatDoorProg
import Derived.Deep.QuietTactic
import Derived.BigQuiet
import Derived.Lib.Strings
import Derived.Deep.RegionWith
import Derived.Deep.CutRange
import Derived.Deep.MidRow

/- The table of shapes (isa.shapes): what it holds at each op, and that the call answers it. -/
namespace Go.Proofs.YtkianldkbfjehaaGreatDoor
open Go.RowKit

/-- an op's name -/
def nm : Nat → ByteArray
  | 1 => ⟨#[104, 97, 108, 116]⟩
  | 2 => ⟨#[110, 111, 112]⟩
  | 3 => ⟨#[110, 111, 112, 53]⟩
  | 4 => ⟨#[98, 114, 107]⟩
  | 5 => ⟨#[109, 111, 118, 105]⟩
  | 6 => ⟨#[109, 111, 118]⟩
  | 7 => ⟨#[97, 100, 100]⟩
  | 8 => ⟨#[115, 117, 98]⟩
  | 9 => ⟨#[98, 122]⟩
  | 10 => ⟨#[98, 110, 122]⟩
  | 11 => ⟨#[106, 109, 112]⟩
  | 12 => ⟨#[99, 97, 108, 108]⟩
  | 13 => ⟨#[114, 101, 116]⟩
  | 14 => ⟨#[108, 111, 97, 100]⟩
  | 15 => ⟨#[115, 116, 111, 114, 101]⟩
  | 16 => ⟨#[111, 117, 116]⟩
  | _ => ⟨#[]⟩
/-- an op's bytes that are always the same -/
def cdL : Nat → List Int
  | 1 => [0]
  | 2 => [144]
  | 3 => [15, 31, 68, 0, 0]
  | 4 => [204]
  | 5 => [184]
  | 6 => [137]
  | 7 => [1]
  | 8 => [41]
  | 9 => [116]
  | 10 => [117]
  | 11 => [233]
  | 12 => [232]
  | 13 => [195]
  | 14 => [139]
  | 15 => [136]
  | 16 => [230]
  | _ => []
def cd : Nat → ByteArray
  | 1 => ⟨#[0]⟩
  | 2 => ⟨#[144]⟩
  | 3 => ⟨#[15, 31, 68, 0, 0]⟩
  | 4 => ⟨#[204]⟩
  | 5 => ⟨#[184]⟩
  | 6 => ⟨#[137]⟩
  | 7 => ⟨#[1]⟩
  | 8 => ⟨#[41]⟩
  | 9 => ⟨#[116]⟩
  | 10 => ⟨#[117]⟩
  | 11 => ⟨#[233]⟩
  | 12 => ⟨#[232]⟩
  | 13 => ⟨#[195]⟩
  | 14 => ⟨#[139]⟩
  | 15 => ⟨#[136]⟩
  | 16 => ⟨#[230]⟩
  | _ => ⟨#[]⟩
/-- how many registers -/
def rg : Nat → Nat
  | 5 => 1
  | 6 => 2
  | 7 => 2
  | 8 => 2
  | 9 => 1
  | 10 => 1
  | 14 => 1
  | 15 => 1
  | 16 => 1
  | _ => 0
/-- 0: no number, 1: any, 2: an address -/
def kd : Nat → Int
  | 5 => 1
  | 9 => 1
  | 10 => 1
  | 11 => 1
  | 12 => 1
  | 14 => 2
  | 15 => 2
  | _ => 0
/-- an op's first byte -/
def fb (o : Nat) : Int := (cdL o).getD 0 0

def shpV (o : Nat) : Array Value := #[.string (nm o), .string (cd o), .int .i64 (rg o), .int .u8 (kd o)]
def tab : Array Value := ((List.range 17).flatMap fun o => (shpV o).toList).toArray

theorem tab_size : tab.size = 68 := by kernel_rfl
theorem tab_one : tab.all (·.oneCell') = true := by kernel_rfl

theorem lt17 {P : Nat → Prop} (h : ∀ k : Fin 17, P k) : ∀ o, o < 17 → P o := fun o ho => h ⟨o, ho⟩

theorem Tryz.zero93 : (Tryz.prog.info? 93).map (fun i => (i.zero, i.size)) = some (some (.agg (((List.range 17).flatMap fun _ => (shpV 0).toList).toArray)), 68) := by kernel_rfl
theorem Tryz.size93 : (Tryz.prog.info? 93).map (·.size) = some 68 := by kernel_rfl
theorem build50 (w : World) : (Instr.build 93 #[(1, .agg (shpV 1)), (2, .agg (shpV 2)), (3, .agg (shpV 3)), (4, .agg (shpV 4)), (5, .agg (shpV 5)), (6, .agg (shpV 6)), (7, .agg (shpV 7)), (8, .agg (shpV 8)), (9, .agg (shpV 9)), (10, .agg (shpV 10)), (11, .agg (shpV 11)), (12, .agg (shpV 12)), (13, .agg (shpV 13)), (14, .agg (shpV 14)), (15, .agg (shpV 15)), (16, .agg (shpV 16))]).run Tryz.prog w = .ok (.agg tab) w := by kernel_rfl

theorem idx_any : ∀ o : Nat, o < 17 → ∀ w, (Instr.index 93 (.agg tab) (.int .u8 o)).run Tryz.prog w = .ok (.agg #[.string (nm o), .string (cd o), .int .i64 (rg o), .int .u8 (kd o)]) w
  | 0, _ => fun _ => by kernel_rfl
  | 1, _ => fun _ => by kernel_rfl
  | 2, _ => fun _ => by kernel_rfl
  | 3, _ => fun _ => by kernel_rfl
  | 4, _ => fun _ => by kernel_rfl
  | 5, _ => fun _ => by kernel_rfl
  | 6, _ => fun _ => by kernel_rfl
  | 7, _ => fun _ => by kernel_rfl
  | 8, _ => fun _ => by kernel_rfl
  | 9, _ => fun _ => by kernel_rfl
  | 10, _ => fun _ => by kernel_rfl
  | 11, _ => fun _ => by kernel_rfl
  | 12, _ => fun _ => by kernel_rfl
  | 13, _ => fun _ => by kernel_rfl
  | 14, _ => fun _ => by kernel_rfl
  | 15, _ => fun _ => by kernel_rfl
  | 16, _ => fun _ => by kernel_rfl
  | n + 17, h => absurd h (by omega)
theorem cd_size : ∀ o : Nat, o < 17 → (cd o).size = (cdL o).length
  | 0, _ => rfl
  | 1, _ => rfl
  | 2, _ => rfl
  | 3, _ => rfl
  | 4, _ => rfl
  | 5, _ => rfl
  | 6, _ => rfl
  | 7, _ => rfl
  | 8, _ => rfl
  | 9, _ => rfl
  | 10, _ => rfl
  | 11, _ => rfl
  | 12, _ => rfl
  | 13, _ => rfl
  | 14, _ => rfl
  | 15, _ => rfl
  | 16, _ => rfl
  | n + 17, h => absurd h (by omega)
theorem rg_le : ∀ o : Nat, o < 17 → rg o ≤ 2
  | 0, _ => by decide
  | 1, _ => by decide
  | 2, _ => by decide
  | 3, _ => by decide
  | 4, _ => by decide
  | 5, _ => by decide
  | 6, _ => by decide
  | 7, _ => by decide
  | 8, _ => by decide
  | 9, _ => by decide
  | 10, _ => by decide
  | 11, _ => by decide
  | 12, _ => by decide
  | 13, _ => by decide
  | 14, _ => by decide
  | 15, _ => by decide
  | 16, _ => by decide
  | n + 17, h => absurd h (by omega)
theorem kd_in : ∀ o : Nat, o < 17 → kd o = 0 ∨ kd o = 1 ∨ kd o = 2
  | 0, _ => by decide
  | 1, _ => by decide
  | 2, _ => by decide
  | 3, _ => by decide
  | 4, _ => by decide
  | 5, _ => by decide
  | 6, _ => by decide
  | 7, _ => by decide
  | 8, _ => by decide
  | 9, _ => by decide
  | 10, _ => by decide
  | 11, _ => by decide
  | 12, _ => by decide
  | 13, _ => by decide
  | 14, _ => by decide
  | 15, _ => by decide
  | 16, _ => by decide
  | n + 17, h => absurd h (by omega)
theorem cdL_len : ∀ o : Nat, o < 17 → (cdL o).length ≤ 5
  | 0, _ => by decide
  | 1, _ => by decide
  | 2, _ => by decide
  | 3, _ => by decide
  | 4, _ => by decide
  | 5, _ => by decide
  | 6, _ => by decide
  | 7, _ => by decide
  | 8, _ => by decide
  | 9, _ => by decide
  | 10, _ => by decide
  | 11, _ => by decide
  | 12, _ => by decide
  | 13, _ => by decide
  | 14, _ => by decide
  | 15, _ => by decide
  | 16, _ => by decide
  | n + 17, h => absurd h (by omega)
theorem cdL_pos : ∀ o : Nat, 1 ≤ o → o < 17 → 0 < (cdL o).length
  | 0, h, _ => absurd h (by decide)
  | 1, _, _ => by decide
  | 2, _, _ => by decide
  | 3, _, _ => by decide
  | 4, _, _ => by decide
  | 5, _, _ => by decide
  | 6, _, _ => by decide
  | 7, _, _ => by decide
  | 8, _, _ => by decide
  | 9, _, _ => by decide
  | 10, _, _ => by decide
  | 11, _, _ => by decide
  | 12, _, _ => by decide
  | 13, _, _ => by decide
  | 14, _, _ => by decide
  | 15, _, _ => by decide
  | 16, _, _ => by decide
  | n + 17, _, h => absurd h (by omega)
theorem tab_name : ∀ o : Nat, o < 17 → tab[4 * o]? = some (.string (nm o))
  | 0, _ => by kernel_rfl
  | 1, _ => by kernel_rfl
  | 2, _ => by kernel_rfl
  | 3, _ => by kernel_rfl
  | 4, _ => by kernel_rfl
  | 5, _ => by kernel_rfl
  | 6, _ => by kernel_rfl
  | 7, _ => by kernel_rfl
  | 8, _ => by kernel_rfl
  | 9, _ => by kernel_rfl
  | 10, _ => by kernel_rfl
  | 11, _ => by kernel_rfl
  | 12, _ => by kernel_rfl
  | 13, _ => by kernel_rfl
  | 14, _ => by kernel_rfl
  | 15, _ => by kernel_rfl
  | 16, _ => by kernel_rfl
  | n + 17, h => absurd h (by omega)
theorem tab_code : ∀ o : Nat, o < 17 → tab[4 * o + 1]? = some (.string (cd o))
  | 0, _ => by kernel_rfl
  | 1, _ => by kernel_rfl
  | 2, _ => by kernel_rfl
  | 3, _ => by kernel_rfl
  | 4, _ => by kernel_rfl
  | 5, _ => by kernel_rfl
  | 6, _ => by kernel_rfl
  | 7, _ => by kernel_rfl
  | 8, _ => by kernel_rfl
  | 9, _ => by kernel_rfl
  | 10, _ => by kernel_rfl
  | 11, _ => by kernel_rfl
  | 12, _ => by kernel_rfl
  | 13, _ => by kernel_rfl
  | 14, _ => by kernel_rfl
  | 15, _ => by kernel_rfl
  | 16, _ => by kernel_rfl
  | n + 17, h => absurd h (by omega)
theorem code_at : ∀ o : Nat, 1 ≤ o → o < 17 → ∀ w, (Instr.index 9 (.string (cd o)) (.int .i64 0)).run Tryz.prog w = .ok (.int .u8 (fb o)) w
  | 0, h, _ => absurd h (by decide)
  | 1, _, _ => fun _ => by kernel_rfl
  | 2, _, _ => fun _ => by kernel_rfl
  | 3, _, _ => fun _ => by kernel_rfl
  | 4, _, _ => fun _ => by kernel_rfl
  | 5, _, _ => fun _ => by kernel_rfl
  | 6, _, _ => fun _ => by kernel_rfl
  | 7, _, _ => fun _ => by kernel_rfl
  | 8, _, _ => fun _ => by kernel_rfl
  | 9, _, _ => fun _ => by kernel_rfl
  | 10, _, _ => fun _ => by kernel_rfl
  | 11, _, _ => fun _ => by kernel_rfl
  | 12, _, _ => fun _ => by kernel_rfl
  | 13, _, _ => fun _ => by kernel_rfl
  | 14, _, _ => fun _ => by kernel_rfl
  | 15, _, _ => fun _ => by kernel_rfl
  | 16, _, _ => fun _ => by kernel_rfl
  | n + 17, _, h => absurd h (by omega)
theorem cd_strs : ∀ o : Nat, o < 17 → cd o = strOfNums (cdL o)
  | 0, _ => by kernel_rfl
  | 1, _ => by kernel_rfl
  | 2, _ => by kernel_rfl
  | 3, _ => by kernel_rfl
  | 4, _ => by kernel_rfl
  | 5, _ => by kernel_rfl
  | 6, _ => by kernel_rfl
  | 7, _ => by kernel_rfl
  | 8, _ => by kernel_rfl
  | 9, _ => by kernel_rfl
  | 10, _ => by kernel_rfl
  | 11, _ => by kernel_rfl
  | 12, _ => by kernel_rfl
  | 13, _ => by kernel_rfl
  | 14, _ => by kernel_rfl
  | 15, _ => by kernel_rfl
  | 16, _ => by kernel_rfl
  | n + 17, h => absurd h (by omega)
theorem nm_pos : ∀ o : Nat, 1 ≤ o → o < 17 → nm o ≠ ⟨#[]⟩
  | 0, h, _ => absurd h (by decide)
  | 1, _, _ => by decide
  | 2, _, _ => by decide
  | 3, _, _ => by decide
  | 4, _, _ => by decide
  | 5, _, _ => by decide
  | 6, _, _ => by decide
  | 7, _, _ => by decide
  | 8, _, _ => by decide
  | 9, _, _ => by decide
  | 10, _, _ => by decide
  | 11, _, _ => by decide
  | 12, _, _ => by decide
  | 13, _, _ => by decide
  | 14, _, _ => by decide
  | 15, _, _ => by decide
  | 16, _, _ => by decide
  | n + 17, _, h => absurd h (by omega)
theorem fb_in : ∀ o : Nat, o < 17 → 0 ≤ fb o ∧ fb o ≤ 255
  | 0, _ => by decide
  | 1, _ => by decide
  | 2, _ => by decide
  | 3, _ => by decide
  | 4, _ => by decide
  | 5, _ => by decide
  | 6, _ => by decide
  | 7, _ => by decide
  | 8, _ => by decide
  | 9, _ => by decide
  | 10, _ => by decide
  | 11, _ => by decide
  | 12, _ => by decide
  | 13, _ => by decide
  | 14, _ => by decide
  | 15, _ => by decide
  | 16, _ => by decide
  | n + 17, h => absurd h (by omega)
theorem cd_byte : ∀ o : Nat, o < 17 → ∀ i (h : i < (cd o).size), (((cd o)[i]).toNat : Int) = (cdL o).getD i 0
  | 0, _ => by decide
  | 1, _ => by decide
  | 2, _ => by decide
  | 3, _ => by decide
  | 4, _ => by decide
  | 5, _ => by decide
  | 6, _ => by decide
  | 7, _ => by decide
  | 8, _ => by decide
  | 9, _ => by decide
  | 10, _ => by decide
  | 11, _ => by decide
  | 12, _ => by decide
  | 13, _ => by decide
  | 14, _ => by decide
  | 15, _ => by decide
  | 16, _ => by decide
  | n + 17, h => absurd h (by omega)

theorem fb_inj : ∀ o, 1 ≤ o → o < 17 → ∀ p, 1 ≤ p → p < 17 → fb o = fb p → o = p := by
  have h : ∀ o : Fin 17, ∀ p : Fin 17, 1 ≤ o.1 → 1 ≤ p.1 → fb o.1 = fb p.1 → o.1 = p.1 := by decide +kernel
  exact fun o h1 h2 p h3 h4 => h ⟨o, h2⟩ ⟨p, h4⟩ h1 h3
theorem nm_inj : ∀ o, 1 ≤ o → o < 17 → ∀ p, 1 ≤ p → p < 17 → nm o = nm p → o = p := by
  have h : ∀ o : Fin 17, ∀ p : Fin 17, 1 ≤ o.1 → 1 ≤ p.1 → nm o.1 = nm p.1 → o.1 = p.1 := by decide +kernel
  exact fun o h1 h2 p h3 h4 => h ⟨o, h2⟩ ⟨p, h4⟩ h1 h3
/-- an op's length -/
def lenN (o : Nat) : Nat := (cdL o).length + rg o + if kd o = 0 then 0 else 4

theorem lenN_in : ∀ o : Nat, 1 ≤ o → o < 17 → 1 ≤ lenN o ∧ lenN o ≤ 6
  | 0, h, _ => absurd h (by decide)
  | 1, _, _ => by decide
  | 2, _, _ => by decide
  | 3, _, _ => by decide
  | 4, _, _ => by decide
  | 5, _, _ => by decide
  | 6, _, _ => by decide
  | 7, _, _ => by decide
  | 8, _, _ => by decide
  | 9, _, _ => by decide
  | 10, _, _ => by decide
  | 11, _, _ => by decide
  | 12, _, _ => by decide
  | 13, _, _ => by decide
  | 14, _, _ => by decide
  | 15, _, _ => by decide
  | 16, _, _ => by decide
  | n + 17, _, h => absurd h (by omega)
theorem cl_one : ∀ o : Nat, 1 ≤ o → o < 17 → (1 ≤ rg o ∨ kd o ≠ 0) → (cdL o).length = 1
  | 0, h, _ => absurd h (by decide)
  | 1, _, _ => by decide
  | 2, _, _ => by decide
  | 3, _, _ => by decide
  | 4, _, _ => by decide
  | 5, _, _ => by decide
  | 6, _, _ => by decide
  | 7, _, _ => by decide
  | 8, _, _ => by decide
  | 9, _, _ => by decide
  | 10, _, _ => by decide
  | 11, _, _ => by decide
  | 12, _, _ => by decide
  | 13, _, _ => by decide
  | 14, _, _ => by decide
  | 15, _, _ => by decide
  | 16, _, _ => by decide
  | n + 17, _, h => absurd h (by omega)
end Go.Proofs.YtkianldkbfjehaaGreatDoor

/- What a source's line says, as lists of bytes: items, places, first fields. -/
namespace Go.Proofs.YtkianldkbfjehaaGreatDoor
open Go.RowKit

/-- an item -/
structure Src where
  k : Int
  name : ByteArray
  tg : ByteArray
  o : Int
  a : Int
  b : Int
  m : Int
  n : Int
  d : List Int

def noText : ByteArray := ⟨#[]⟩
/-- the item of a kind -/
def srcK (k : Int) : Src := ⟨k, noText, noText, 0, 0, 0, 0, 0, []⟩
def src0 : Src := srcK 0

def okB (k : Nat) (c : Int) : Bool := decide ((97 ≤ c ∧ c ≤ 122) ∨ (65 ≤ c ∧ c ≤ 90) ∨ c = 95 ∨ (k ≠ 0 ∧ 48 ≤ c ∧ c ≤ 57))
theorem okB_iff (k : Nat) (c : Int) : okB k c = true ↔ okAt k c := by simp [okB, okAt]
def nameB (l : List UInt8) : Bool := decide (0 < l.length) && decide (l.length ≤ 16) && (List.range l.length).all fun k => okB k ((l.getD k 0).toNat : Int)
theorem nameB_iff (s : ByteArray) : nameB s.data.toList = true ↔ NameP s := by
  have hl := Lib.size_eq s
  unfold nameB NameP byteAt
  simp only [Bool.and_eq_true, decide_eq_true_eq, List.all_eq_true, List.mem_range, okB_iff]
  rw [hl]
  constructor
  · rintro ⟨⟨h1, h2⟩, h3⟩; exact ⟨h3, h1, h2⟩
  · rintro ⟨h3, h1, h2⟩; exact ⟨⟨h1, h2⟩, h3⟩

/-- a register -/
def regL (l : List UInt8) : Option Int := match l with
  | [c, d] => if c = 114 ∧ 48 ≤ d.toNat ∧ d.toNat ≤ 55 then some ((d.toNat : Int) - 48) else none
  | _ => none
/-- whether a number may stand at its place -/
def holdsB (p : Nat) (v : Int) : Bool :=
  if p = 2 then decide (-2147483648 ≤ v ∧ v ≤ 2147483647) else if p = 5 then decide (0 ≤ v ∧ v ≤ 255) else if p = 6 then decide (0 ≤ v ∧ v ≤ 4096)
  else decide (v = 1 ∨ v = 2 ∨ v = 4 ∨ v = 8 ∨ v = 16 ∨ v = 32 ∨ v = 64)
def putS (p : Nat) (x : Src) (v : Int) : Src := if p = 2 then { x with m := v } else if p = 5 then { x with d := x.d ++ [v] } else { x with n := v }
/-- a field at its place: the error, the item -/
def readL (p : Nat) (x : Src) (f : List UInt8) : Int × Src :=
  if p = 0 then (match regL f with | some r => (0, { x with a := r }) | none => (140, x))
  else if p = 1 then (match regL f with | some r => (0, { x with b := r }) | none => (140, x))
  else if p = 3 then (if nameB f then (0, { x with name := bytesOf f }) else (140, x))
  else if p = 4 then (if nameB f then (0, { x with tg := bytesOf f }) else (140, x))
  else match numL f with
    | none => (140, x)
    | some v => if holdsB p v then (0, putS p x v) else (150, x)

/-- the places behind an op -/
def plO : Nat → List Nat
  | 5 => [0, 2]
  | 6 => [0, 1] | 7 => [0, 1] | 8 => [0, 1]
  | 9 => [0, 3] | 10 => [0, 3] | 14 => [0, 3] | 15 => [0, 3]
  | 11 => [3] | 12 => [3]
  | 16 => [0]
  | _ => []
/-- the words that are no ops -/
def wd : Nat → ByteArray
  | 0 => ⟨#[109, 97, 114, 107]⟩
  | 1 => ⟨#[98, 121, 116, 101]⟩
  | 2 => ⟨#[115, 112, 97, 99, 101]⟩
  | 3 => ⟨#[97, 108, 105, 103, 110]⟩
  | _ => ⟨#[103, 108, 111, 98, 97, 108]⟩
/-- what a first field asks for: the item so far, the places, how many must be filled -/
def formW : Nat → Src × List Nat × Nat
  | 0 => (srcK 3, [3, 4], 2)
  | 1 => (srcK 4, List.replicate 64 5, 1)
  | 2 => (srcK 5, [6], 1)
  | 3 => (srcK 6, [7], 1)
  | _ => (srcK 7, [3], 1)
def formO (o : Nat) : Src × List Nat × Nat := ({ srcK 2 with o := o }, plO o, (plO o).length)
def opL (l : List UInt8) : Option Nat := (List.range' 1 16).find? fun o => (nm o).data.toList == l
def wdL (l : List UInt8) : Option Nat := (List.range 5).find? fun o => (wd o).data.toList == l
def formL (l : List UInt8) : Option (Src × List Nat × Nat) :=
  match wdL l with
  | some i => some (formW i)
  | none => match opL l with
    | some o => some (formO o)
    | none => if l.getLast? = some 58 ∧ nameB l.dropLast then some ({ srcK 1 with name := bytesOf l.dropLast }, [], 0) else none

/-- the fields behind the first one: an error and its column, or the item -/
def goL (x : Src) (ps : List Nat) : List (Nat × List UInt8) → (Int × Nat) ⊕ Src
  | [] => .inr x
  | (c, f) :: fs => match ps with
    | [] => .inl (140, c + 1)
    | p :: ps => if (readL p x f).1 = 0 then goL (readL p x f).2 ps fs else .inl ((readL p x f).1, c + 1)
/-- what a line says: the item, whether there is one, the error, the column -/
def lineL (l : List UInt8) : Src × Bool × Int × Nat :=
  match fieldsL l with
  | [] => (src0, false, 0, 0)
  | (c, f) :: fs => match formL f with
    | none => (src0, false, 140, c + 1)
    | some (x, ps, least) => match goL x ps fs with
      | .inl (e, c) => (src0, false, e, c)
      | .inr y => if fs.length < least then (src0, false, 140, l.length + 1) else (y, true, 0, 0)

end Go.Proofs.YtkianldkbfjehaaGreatDoor

/- isa.shapes answers the table. -/
namespace Go.Proofs.YtkianldkbfjehaaGreatDoor
open Go.RowKit

theorem step_build {ops : Array Oper} {rest : List Oper} {o : Oper} {a : Act} {w : World} {Q : Exit → Act → World → Prop} (hg : o.guard = none) (t : TypeId) (parts : Array (Nat × Operand)) (ho : o.op = .build t parts) (cells : Array Value)
    (hb : Tryz.prog.built t (parts.map fun (i, x) => (i, a.eval x)).toList = some cells)
    (h : wpList Tryz.prog ops Q rest (a.put o.dst (.agg cells)) w) : wpList Tryz.prog ops Q (o :: rest) a w := by
  refine wpList_plain hg fun _ hK => ?_
  unfold Oper.wp execOp
  simp only [ho, Sem.run_bind, run_build w t _ _ hb, Result.andThen_ok]
  exact hK _ _ h

theorem step_store_new {ops : Array Oper} {rest : List Oper} {o : Oper} {a : Act} {w : World} {Q : Exit → Act → World → Prop} {c : Array Value} (hg : o.guard = none) (t : TypeId) (p x : Operand) (ho : o.op = .store t p x) (hd : o.dst = none)
    (hp : a.eval p = .pointer (some ⟨w.heap.size, 0, none⟩)) (c' : Array Value) (hx : a.eval x = .agg c') (hi : (Tryz.prog.info? t).map (·.size) = some c'.size) (hcs : c.size = c'.size) (h1 : c'.all (·.oneCell') = true)
    (h : wpList Tryz.prog ops Q rest a (w.alloc (.cells c' t))) : wpList Tryz.prog ops Q (o :: rest) a (w.alloc (.cells c t)) := by
  refine wpList_plain hg fun _ hK => ?_
  unfold Oper.wp execOp
  have hs := run_storeAt_new (P := Tryz.prog) w t c c' hi hcs h1
  simp only [ho, hp, hx, Sem.run_bind, hs, Result.andThen_ok]
  exact hK _ _ (by rw [hd]; exact h)

theorem act_turn {P : Program} {ops : Array Oper} {Q : Exit → Act → World → Prop} {l : List Oper} {W : World} {A B : Act} (h : A = B) (k : wpList P ops Q l B W) : wpList P ops Q l A W := h ▸ k
theorem Tryz.sizeTab : (Tryz.prog.info? 93).map (·.size) = some tab.size := by rw [tab_size]; exact Tryz.size93
theorem zero_tab : ∃ z : Array Value, z.size = tab.size ∧ ∀ w, (zeroValue 93).run Tryz.prog w = .ok (.agg z) w :=
  ⟨_, by rw [tab_size]; kernel_rfl, (zero_of_info Tryz.zero93).1⟩

set_option maxHeartbeats 400000 in
theorem shapes_any (w : World) :
    Calls Tryz.prog 55 #[] w fun e w' => e = .returned (.agg tab) ∧ Below w.heap.size w w' := by
  obtain ⟨z, hzs, hz⟩ := zero_tab
  have HZ : Hid (z.size = tab.size) := hzs
  clear hzs
  go_enter Tryz.func55, Tryz.ntmps55
  iterate 11 go_step
  refine step_build rfl 92 _ rfl (shpV 1) ?_ ?_
  · kernel_rfl
  refine step_build rfl 92 _ rfl (shpV 2) ?_ ?_
  · kernel_rfl
  refine step_build rfl 92 _ rfl (shpV 3) ?_ ?_
  · kernel_rfl
  refine step_build rfl 92 _ rfl (shpV 4) ?_ ?_
  · kernel_rfl
  refine step_build rfl 92 _ rfl (shpV 5) ?_ ?_
  · kernel_rfl
  refine step_build rfl 92 _ rfl (shpV 6) ?_ ?_
  · kernel_rfl
  refine step_build rfl 92 _ rfl (shpV 7) ?_ ?_
  · kernel_rfl
  refine step_build rfl 92 _ rfl (shpV 8) ?_ ?_
  · kernel_rfl
  refine step_build rfl 92 _ rfl (shpV 9) ?_ ?_
  · kernel_rfl
  refine step_build rfl 92 _ rfl (shpV 10) ?_ ?_
  · kernel_rfl
  refine step_build rfl 92 _ rfl (shpV 11) ?_ ?_
  · kernel_rfl
  refine step_build rfl 92 _ rfl (shpV 12) ?_ ?_
  · kernel_rfl
  refine step_build rfl 92 _ rfl (shpV 13) ?_ ?_
  · kernel_rfl
  refine step_build rfl 92 _ rfl (shpV 14) ?_ ?_
  · kernel_rfl
  refine step_build rfl 92 _ rfl (shpV 15) ?_ ?_
  · kernel_rfl
  refine step_build rfl 92 _ rfl (shpV 16) ?_ ?_
  · kernel_rfl
  refine step_build rfl 93 _ rfl tab ?_ ?_
  · kernel_rfl
  refine step_store_new rfl 93 _ _ rfl rfl ?_ tab ?_ Tryz.sizeTab HZ.out tab_one ?_
  · kernel_rfl
  · kernel_rfl
  refine act_turn (B := ⟨#[.pointer (some ⟨w.heap.size, 0, none⟩), .agg (shpV 1), .agg (shpV 2), .agg (shpV 3), .agg (shpV 4), .agg (shpV 5), .agg (shpV 6), .agg (shpV 7), .agg (shpV 8), .agg (shpV 9), .agg (shpV 10), .agg (shpV 11), .agg (shpV 12), .agg (shpV 13), .agg (shpV 14), .agg (shpV 15), .agg (shpV 16), .agg tab], []⟩) ?_ ?_
  · kernel_rfl
  go_wp2
  have hld := run_loadVar_new (P := Tryz.prog) w 93 tab 17 92 Tryz.underlying93 Tryz.sizeTab
  refine bodyPost_ret (v := .agg tab) ?_ rfl ⟨rfl, new_alloc _ _⟩
  simp only [results, Tryz.results55]
  simp [asAddr, hld]
end Go.Proofs.YtkianldkbfjehaaGreatDoor

/- What bytes.Equal, octets.Same and switchyardkit.SameBytes answer, for every two slices of bytes. -/
namespace Go.Proofs.YtkianldkbfjehaaGreatDoor
open Go.RowKit

theorem convert_zero (w : World) (p : Option Addr) (c : Nat) :
    (convert 24 9 (.slice p 0 c)).run Tryz.prog w = .ok (.string ByteArray.empty) w := by
  rw [run_convert_bytes_string w 24 9 5 _ 0 c Tryz.underlying24 Tryz.underlying5 Tryz.underlying9]
  cases p <;> simp [Conv.bytesToString, loadCells]
  all_goals rfl

theorem Row.convert {w : World} {p : Option Addr} {n : Nat} {xs : List Int} (h : Row w p xs) (hx : xs.length = n) (c : Nat) :
    (convert 24 9 (.slice p n c)).run Tryz.prog w = .ok (.string (strOfNums xs)) w := by
  rcases Nat.eq_zero_or_pos n with hn | hn
  · subst hn
    obtain rfl : xs = [] := List.eq_nil_of_length_eq_zero hx
    exact convert_zero w p c
  · obtain ⟨b, o, rfl, hc⟩ := h (by omega)
    exact run_convert_bytes_arg (P := Tryz.prog) w 24 5 Tryz.underlying24 Tryz.underlying5 b o n c xs hx (fun i hi => hc i (by omega)) 9 Tryz.underlying9

def sameB (xs ys : List Int) : Bool := decide (xs = ys)
theorem sameB_self (xs : List Int) : sameB xs xs = true := by simp [sameB]
theorem sameB_yes {xs ys : List Int} (h : xs = ys) : sameB xs ys = true := by simp [sameB, h]
theorem sameB_no {xs ys : List Int} (h : xs ≠ ys) : sameB xs ys = false := by simp [sameB, h]

theorem Byt.mem {xs : List Int} (h : Byt xs) : ∀ x ∈ xs, 0 ≤ x ∧ x ≤ 255 := by
  intro x hx
  obtain ⟨i, hi, rfl⟩ := List.mem_iff_getElem.1 hx
  have := h i
  simpa [List.getD, hi] using this

theorem ofNat_inj {a b : Int} (ha : 0 ≤ a ∧ a ≤ 255) (hb : 0 ≤ b ∧ b ≤ 255) (h : UInt8.ofNat a.toNat = UInt8.ofNat b.toNat) : a = b := by
  have e := congrArg UInt8.toNat h
  simp only [UInt8.toNat_ofNat'] at e
  omega

theorem map_inj : ∀ (xs ys : List Int), (∀ x ∈ xs, 0 ≤ x ∧ x ≤ 255) → (∀ x ∈ ys, 0 ≤ x ∧ x ≤ 255) → (xs.map fun n => UInt8.ofNat n.toNat) = (ys.map fun n => UInt8.ofNat n.toNat) → xs = ys
  | [], [], _, _, _ => rfl
  | [], _ :: _, _, _, h => by simp at h
  | _ :: _, [], _, _, h => by simp at h
  | x :: xs, y :: ys, h1, h2, h => by
    simp only [List.map_cons, List.cons.injEq] at h
    rw [ofNat_inj (h1 x (by simp)) (h2 y (by simp)) h.1, map_inj xs ys (fun z hz => h1 z (by simp [hz])) (fun z hz => h2 z (by simp [hz])) h.2]

theorem str_same {xs ys : List Int} (b1 : Byt xs) (b2 : Byt ys) : ((strOfNums xs).toList == (strOfNums ys).toList) = sameB xs ys := by
  rw [Lib.toList_data, Lib.toList_data, strOfNums_data, strOfNums_data]
  by_cases h : xs = ys
  · subst h; simp [sameB]
  · rw [sameB_no h]
    exact beq_eq_false_iff_ne.2 fun e => h (map_inj _ _ b1.mem b2.mem e)

theorem ret_bool {a b : Bool} (h : a = b) : Ending.returned (.bool a) = .returned (.bool b) := by rw [h]

theorem equal_any (p q : Option Addr) (n c m d : Nat) (xs ys : List Int) (w : World) (hx : xs.length = n) (hy : ys.length = m) (h1 : Row w p xs) (h2 : Row w q ys) (b1 : Byt xs) (b2 : Byt ys) :
    Calls Tryz.prog 45 #[.slice p n c, .slice q m d] w fun e w' => e = .returned (.bool (sameB xs ys)) ∧ w' = w := by
  have g1 := h1.convert hx c
  have g2 := h2.convert hy d
  clear h1 h2
  go_enter Tryz.func45, Tryz.ntmps45
  go_wp2
  go_ret
  exact ⟨ret_bool (str_same b1 b2), rfl⟩

theorem same_any (p q : Option Addr) (n c m d : Nat) (xs ys : List Int) (w : World) (hx : xs.length = n) (hy : ys.length = m) (h1 : Row w p xs) (h2 : Row w q ys) (b1 : Byt xs) (b2 : Byt ys) :
    Calls Tryz.prog 98 #[.slice p n c, .slice q m d] w fun e w' => e = .returned (.bool (sameB xs ys)) ∧ w' = w := by
  have hcon := equal_any p q n c m d xs ys w hx hy h1 h2 b1 b2
  generalize sameB xs ys = r at *
  clear h1 h2 b1 b2
  go_enter Tryz.func98, Tryz.ntmps98
  go_wp2_with (go_at_call 45; refine hcon.mono ?_; rintro e w' ⟨rfl, rfl⟩)
  go_ret
  exact ⟨rfl, rfl⟩

/-! ### switchyardkit.SameBytes -/
theorem sameB_len {xs ys : List Int} (h : xs.length ≠ ys.length) : sameB xs ys = false := sameB_no fun e => h (by rw [e])
theorem sameB_at {xs ys : List Int} (k : Nat) (h : xs.getD k 0 ≠ ys.getD k 0) : sameB xs ys = false := sameB_no fun e => h (by rw [e])
theorem sameB_all {xs ys : List Int} (hl : xs.length = ys.length) (h : ∀ j, j < xs.length → xs.getD j 0 = ys.getD j 0) : sameB xs ys = true :=
  sameB_yes (List.ext_getElem hl fun j h1 h2 => by have := h j h1; simpa [List.getD, h1, h2] using this)

set_option maxHeartbeats 400000 in
theorem sameBytes_len (p q : Option Addr) (n c m d : Nat) (w : World) (h : n ≠ m) :
    Calls Tryz.prog 19 #[.slice p n c, .slice q m d] w fun e w' => e = .returned (.bool false) ∧ w' = w := by
  have hne : ((n : Int) != (m : Int)) = true := by rw [bne_iff_ne]; omega
  go_enter Tryz.func19, Tryz.ntmps19
  go_wp2
  go_ret
  exact ⟨rfl, rfl⟩

set_option maxHeartbeats 400000 in
theorem sameBytes_zero (p q : Option Addr) (c d : Nat) (w : World) :
    Calls Tryz.prog 19 #[.slice p 0 c, .slice q 0 d] w fun e w' => e = .returned (.bool true) ∧ w' = w := by
  go_enter Tryz.func19, Tryz.ntmps19
  go_wp2
  refine wp_loop_rounds 1 ?_
  rw [rounds_succ]; go_wp2
  go_ret
  exact ⟨rfl, rfl⟩

set_option maxHeartbeats 400000 in
theorem sameBytes_at (b o b' o' n c d : Nat) (xs ys : List Int) (w : World) (hn : n ≤ 9223372036854775807) (hx : xs.length = n) (hy : ys.length = n)
    (h1 : ∀ i, i < n → w.cell? ⟨b, o + i, none⟩ = some (.int .u8 (xs.getD i 0))) (h2 : ∀ i, i < n → w.cell? ⟨b', o' + i, none⟩ = some (.int .u8 (ys.getD i 0))) :
    Calls Tryz.prog 19 #[.slice (some ⟨b, o, none⟩) n c, .slice (some ⟨b', o', none⟩) n d] w fun e w' => e = .returned (.bool (sameB xs ys)) ∧ ∃ m, w' = w.drewN m := by
  have hne : ((n : Int) != (n : Int)) = false := by simp
  have H1 : Hid (∀ i, i < n → w.cell? ⟨b, o + i, none⟩ = some (.int .u8 (xs.getD i 0))) := h1
  have H2 : Hid (∀ i, i < n → w.cell? ⟨b', o' + i, none⟩ = some (.int .u8 (ys.getD i 0))) := h2
  have HX : Hid (xs.length = n) := hx
  have HY : Hid (ys.length = n) := hy
  clear h1 h2 hx hy
  go_enter Tryz.func19, Tryz.ntmps19
  go_wp2
  go_loopw [5] (fun i wr => ∃ k m : Nat, k ≤ n ∧ i = .int .i64 k ∧ wr = w.drewN m ∧ ∀ j, j < k → xs.getD j 0 = ys.getD j 0) (fun i _ => n - (intOf i).toNat)
  case atStart => exact ⟨0, 0, Nat.zero_le _, rfl, rfl, fun j hj => absurd hj (Nat.not_lt_zero _)⟩
  case round =>
    obtain ⟨k, m, hk, rfl, rfl, hs⟩ := hrel
    have HS : Hid (∀ j, j < k → xs.getD j 0 = ys.getD j 0) := hs
    clear hs
    by_cases hlt : k < n
    · have c1 := H1.out k hlt
      have c2 := H2.out k hlt
      obtain ⟨x, hx⟩ : ∃ x, x = xs.getD k 0 := ⟨_, rfl⟩
      obtain ⟨y, hy⟩ : ∃ y, y = ys.getD k 0 := ⟨_, rfl⟩
      rw [← hx] at c1
      rw [← hy] at c2
      have E1 : Hid (x = xs.getD k 0) := hx
      have E2 : Hid (y = ys.getD k 0) := hy
      clear hx hy
      cases hb : (x != y)
      · go_wp2
        go_quiet (fail)
        go_wp2
        go_roundw
        case rel =>
          refine ⟨k + 1, _, by omega, by go_num, rfl, fun j hj => ?_⟩
          by_cases e : j = k
          · subst e; rw [← E1.out, ← E2.out]; simpa using hb
          · exact HS.out j (by omega)
        case measure => simp [intOf]; omega
      · go_wp2
        go_quiet (fail)
        go_wp2
        go_ret
        exact ⟨ret_bool (sameB_at k (by rw [← E1.out, ← E2.out]; simpa using hb)).symm, m + nq, World.drewN_drewN ..⟩
    · go_wp2
      go_ret
      exact ⟨ret_bool (sameB_all (by rw [HX.out, HY.out]) fun j hj => HS.out j (by have := HX.out; omega)).symm, _, rfl⟩

theorem sameBytes_any (p q : Option Addr) (n c m d : Nat) (xs ys : List Int) (w : World) (hx : xs.length = n) (hy : ys.length = m) (hn : n ≤ 9223372036854775807) (h1 : Row w p xs) (h2 : Row w q ys) :
    Calls Tryz.prog 19 #[.slice p n c, .slice q m d] w fun e w' => e = .returned (.bool (sameB xs ys)) ∧ ∃ m, w' = w.drewN m := by
  by_cases h : n = m
  · subst h
    rcases Nat.eq_zero_or_pos n with h0 | h0
    · subst h0
      obtain rfl : xs = [] := List.eq_nil_of_length_eq_zero hx
      obtain rfl : ys = [] := List.eq_nil_of_length_eq_zero hy
      exact (sameBytes_zero p q c d w).mono fun e w' h => ⟨h.1, 0, h.2⟩
    · obtain ⟨b, o, rfl, e1⟩ := h1 (by omega)
      obtain ⟨b', o', rfl, e2⟩ := h2 (by omega)
      exact sameBytes_at b o b' o' n c d xs ys w hn hx hy (fun i hi => e1 i (by omega)) (fun i hi => e2 i (by omega))
  · rw [sameB_len (by omega)]
    exact (sameBytes_len p q n c m d w h).mono fun e w' h => ⟨h.1, 0, h.2⟩

end Go.Proofs.YtkianldkbfjehaaGreatDoor

/- What the methods of isa.shape answer: length, holdsRegs, holdsNumber, begins. -/
namespace Go.Proofs.YtkianldkbfjehaaGreatDoor
open Go.RowKit

abbrev shp (s c : ByteArray) (r : Nat) (q : Int) : Value := .agg #[.string s, .string c, .int .i64 r, .int .u8 q]

set_option maxHeartbeats 400000 in
theorem length_zero (s c : ByteArray) (r : Nat) (w : World) (hr : r ≤ 2) (hc : c.size ≤ 5) :
    Calls Tryz.prog 59 #[shp s c r 0] w fun e w' => e = .returned (.int .i64 (c.size + r)) ∧ Below w.heap.size w w' := by
  go_enter Tryz.func59, Tryz.ntmps59
  go_wp2
  go_ret
  exact ⟨rfl, new_alloc _ _⟩

set_option maxHeartbeats 400000 in
theorem length_num (s c : ByteArray) (r : Nat) (q : Int) (w : World) (hr : r ≤ 2) (hc : c.size ≤ 5) (hq : q = 1 ∨ q = 2) :
    Calls Tryz.prog 59 #[shp s c r q] w fun e w' => e = .returned (.int .i64 (c.size + r + 4)) ∧ Below w.heap.size w w' := by
  rcases hq with rfl | rfl
  all_goals
    go_enter Tryz.func59, Tryz.ntmps59
    go_wp2
    go_ret
    exact ⟨rfl, new_alloc _ _⟩

theorem ret_i64 {a b : Int} (h : a = b) : Ending.returned (.int .i64 a) = .returned (.int .i64 b) := by rw [h]

theorem length_op (o : Nat) (h : o < 17) (w : World) :
    Calls Tryz.prog 59 #[shp (nm o) (cd o) (rg o) (kd o)] w fun e w' => e = .returned (.int .i64 (lenN o)) ∧ Below w.heap.size w w' := by
  have hc := cd_size o h
  have hl := cdL_len o h
  by_cases h0 : kd o = 0
  · rw [h0]
    exact (length_zero (nm o) (cd o) (rg o) w (rg_le o h) (by omega)).mono fun e w' ⟨he, hb⟩ => ⟨by rw [he]; exact ret_i64 (by simp [lenN, h0]; omega), hb⟩
  · exact (length_num (nm o) (cd o) (rg o) (kd o) w (rg_le o h) (by omega) (by have := kd_in o h; omega)).mono fun e w' ⟨he, hb⟩ => ⟨by rw [he]; exact ret_i64 (by simp [lenN, h0]; omega), hb⟩

/-- whether a number is one that the op allows -/
def numB (q n : Int) : Bool := if q = 1 then true else if q = 2 then decide (0 ≤ n ∧ n < 65536) else decide (n = 0)

set_option maxHeartbeats 400000 in
theorem holdsNum_any (s c : ByteArray) (r : Nat) (q n : Int) (w : World) (hq : q = 0 ∨ q = 1 ∨ q = 2) :
    Calls Tryz.prog 74 #[shp s c r q, .int .i32 n] w fun e w' => e = .returned (.bool (numB q n)) ∧ Below w.heap.size w w' := by
  rcases hq with rfl | rfl | rfl
  · by_cases h : n = 0
    · subst h
      go_enter Tryz.func74, Tryz.ntmps74
      go_wp2
      go_ret
      exact ⟨rfl, new_alloc _ _⟩
    · have hd : (n == 0) = false := by simpa using h
      go_enter Tryz.func74, Tryz.ntmps74
      go_wp2
      go_ret
      exact ⟨ret_bool (by simp [numB, h]), new_alloc _ _⟩
  · go_enter Tryz.func74, Tryz.ntmps74
    go_wp2
    go_ret
    exact ⟨rfl, new_alloc _ _⟩
  · by_cases h0 : 0 ≤ n
    · by_cases h1 : n < 65536
      · go_enter Tryz.func74, Tryz.ntmps74
        go_wp2
        go_ret
        exact ⟨ret_bool (by simp [numB, h0, h1]), new_alloc _ _⟩
      · go_enter Tryz.func74, Tryz.ntmps74
        go_wp2
        go_ret
        exact ⟨ret_bool (by simp [numB, h1]), new_alloc _ _⟩
    · have hd : decide (0 ≤ n) = false := by simpa using h0
      go_enter Tryz.func74, Tryz.ntmps74
      go_wp2
      go_ret
      exact ⟨ret_bool (by simp [numB]; omega), new_alloc _ _⟩

/-- whether a byte is one that a register's place allows -/
def regB (has : Bool) (a : Int) : Bool := if has then decide (a < 8) else decide (a = 0)
theorem two_new (w : World) (o p : Obj) : Below w.heap.size w ((w.alloc o).alloc p) := below_alloc (new_alloc w o) p

set_option maxHeartbeats 1000000 in
theorem holdsRegs_any (s c : ByteArray) (r : Nat) (q a b : Int) (w : World) (hr : r ≤ 2) (ha : 0 ≤ a ∧ a ≤ 255) (hb : 0 ≤ b ∧ b ≤ 255) :
    Calls Tryz.prog 73 #[shp s c r q, .agg #[.int .u8 a, .int .u8 b]] w fun e w' => e = .returned (.bool (regB (decide (1 ≤ r)) a && regB (decide (2 ≤ r)) b)) ∧ Below w.heap.size w w' := by
  obtain rfl | rfl | rfl : r = 0 ∨ r = 1 ∨ r = 2 := by omega
  · by_cases h1 : a = 0
    · subst h1
      by_cases h2 : b = 0
      · subst h2
        go_enter Tryz.func73, Tryz.ntmps73
        go_wp2
        refine wp_loop_rounds 3 ?_
        rw [rounds_succ]; go_wp2
        rw [rounds_succ]; go_wp2
        rw [rounds_succ]; go_wp2
        go_ret
        exact ⟨rfl, two_new _ _ _⟩
      · have hd : (b != 0) = true := by simpa using h2
        go_enter Tryz.func73, Tryz.ntmps73
        go_wp2
        refine wp_loop_rounds 3 ?_
        rw [rounds_succ]; go_wp2
        rw [rounds_succ]; go_wp2
        go_ret
        exact ⟨ret_bool (by simp [regB, h2]), two_new _ _ _⟩
    · have hd : (a != 0) = true := by simpa using h1
      go_enter Tryz.func73, Tryz.ntmps73
      go_wp2
      refine wp_loop_rounds 3 ?_
      rw [rounds_succ]; go_wp2
      go_ret
      exact ⟨ret_bool (by simp [regB, h1]), two_new _ _ _⟩
  · by_cases h1 : a < 8
    · by_cases h2 : b = 0
      · subst h2
        go_enter Tryz.func73, Tryz.ntmps73
        go_wp2
        refine wp_loop_rounds 3 ?_
        rw [rounds_succ]; go_wp2
        rw [rounds_succ]; go_wp2
        rw [rounds_succ]; go_wp2
        go_ret
        exact ⟨ret_bool (by simp [regB, h1]), two_new _ _ _⟩
      · have hd : (b != 0) = true := by simpa using h2
        go_enter Tryz.func73, Tryz.ntmps73
        go_wp2
        refine wp_loop_rounds 3 ?_
        rw [rounds_succ]; go_wp2
        rw [rounds_succ]; go_wp2
        go_ret
        exact ⟨ret_bool (by simp [regB, h2]), two_new _ _ _⟩
    · go_enter Tryz.func73, Tryz.ntmps73
      go_wp2
      refine wp_loop_rounds 3 ?_
      rw [rounds_succ]; go_wp2
      go_ret
      exact ⟨ret_bool (by simp [regB]; omega), two_new _ _ _⟩
  · by_cases h1 : a < 8
    · by_cases h2 : b < 8
      · go_enter Tryz.func73, Tryz.ntmps73
        go_wp2
        refine wp_loop_rounds 3 ?_
        rw [rounds_succ]; go_wp2
        rw [rounds_succ]; go_wp2
        rw [rounds_succ]; go_wp2
        go_ret
        exact ⟨ret_bool (by simp [regB, h1, h2]), two_new _ _ _⟩
      · go_enter Tryz.func73, Tryz.ntmps73
        go_wp2
        refine wp_loop_rounds 3 ?_
        rw [rounds_succ]; go_wp2
        rw [rounds_succ]; go_wp2
        go_ret
        exact ⟨ret_bool (by simp [regB]; omega), two_new _ _ _⟩
    · go_enter Tryz.func73, Tryz.ntmps73
      go_wp2
      refine wp_loop_rounds 3 ?_
      rw [rounds_succ]; go_wp2
      go_ret
      exact ⟨ret_bool (by simp [regB]; omega), two_new _ _ _⟩

/-- whether the bytes begin as the op's do -/
def preB (c : ByteArray) (xs : List Int) : Bool := decide (∀ i (h : i < c.size), xs.getD i 0 = ((c[i]).toNat : Int))

set_option maxHeartbeats 1000000 in
theorem begins_at (s c : ByteArray) (r : Nat) (q : Int) (b o n cp : Nat) (xs : List Int) (w : World) (hn : n ≤ 9223372036854775807) (hl : c.size ≤ n) (hcell : ∀ i, i < n → w.cell? ⟨b, o + i, none⟩ = some (.int .u8 (xs.getD i 0))) :
    Calls Tryz.prog 56 #[shp s c r q, .slice (some ⟨b, o, none⟩) n cp] w fun e w' => e = .returned (.bool (preB c xs)) ∧ Below w.heap.size w w' := by
  have HC : Hid (∀ i, i < n → w.cell? ⟨b, o + i, none⟩ = some (.int .u8 (xs.getD i 0))) := hcell
  clear hcell
  go_enter Tryz.func56, Tryz.ntmps56
  go_wp2
  go_loopw [9] (fun i wr => ∃ k m : Nat, k ≤ c.size ∧ i = .int .i64 k ∧ wr = (w.alloc (.cells #[.string s, .string c, .int .i64 r, .int .u8 q] 92)).drewN m ∧ ∀ j (h : j < c.size), j < k → xs.getD j 0 = ((c[j]).toNat : Int)) (fun i _ => c.size - (intOf i).toNat)
  case atStart => exact ⟨0, 0, Nat.zero_le _, rfl, rfl, fun j _ hj => absurd hj (Nat.not_lt_zero _)⟩
  case round =>
    obtain ⟨k, m, hk, rfl, rfl, hs⟩ := hrel
    have HS : Hid (∀ j (h : j < c.size), j < k → xs.getD j 0 = ((c[j]).toNat : Int)) := hs
    clear hs
    by_cases hlt : k < c.size
    · have hcd := HC.out k (by omega)
      have hlb := cell_lt hcd
      have c1 : (w.alloc (.cells #[.string s, .string c, .int .i64 r, .int .u8 q] 92)).cell? ⟨b, o + k, none⟩ = some (.int .u8 (xs.getD k 0)) := by
        rw [(new_alloc w _).cell (p := ⟨b, o + k, none⟩) hlb]; exact hcd
      clear hcd
      obtain ⟨x, hx⟩ : ∃ x, x = xs.getD k 0 := ⟨_, rfl⟩
      rw [← hx] at c1
      have E1 : Hid (x = xs.getD k 0) := hx
      clear hx
      cases hb : (x != ((c[k]).toNat : Int))
      · go_wp2
        go_quiet (fail)
        go_wp2
        go_roundw
        case rel =>
          refine ⟨k + 1, _, by omega, by go_num, rfl, fun j hj hjk => ?_⟩
          by_cases e : j = k
          · subst e; rw [← E1.out]; simpa using hb
          · exact HS.out j hj (by omega)
        case measure => simp [intOf]; omega
      · go_wp2
        go_quiet (fail)
        go_wp2
        go_ret
        refine ⟨ret_bool ?_, below_draws (below_draws (new_alloc _ _) _) _⟩
        refine (decide_eq_false fun h => ?_).symm
        have := h k hlt
        rw [← E1.out] at this
        simp [this] at hb
    · go_wp2
      go_ret
      refine ⟨ret_bool ?_, below_draws (new_alloc _ _) _⟩
      exact (decide_eq_true fun i h => HS.out i h (by omega)).symm
end Go.Proofs.YtkianldkbfjehaaGreatDoor

/- What isa.opOf, Length, Name and Op answer. -/
namespace Go.Proofs.YtkianldkbfjehaaGreatDoor
open Go.RowKit

theorem str_ne {a b : ByteArray} (h : a ≠ b) : (a.toList == b.toList) = false := by
  rw [Lib.toList_data, Lib.toList_data]
  refine beq_eq_false_iff_ne.2 fun e => h ?_
  cases a; cases b
  simp at e
  rw [e]
theorem tab_cell_code (w : World) (o : Nat) (h : o < 17) : (w.alloc (.cells tab 93)).cell? ⟨w.heap.size, o * 4 + 1, none⟩ = some (.string (cd o)) := by
  rw [cell_of_row _ _ _ tab 93 (0, 0) (heap_alloc_last w _), Nat.mul_comm]
  exact tab_code o h
theorem tab_cell_name (w : World) (o : Nat) (h : o < 17) : (w.alloc (.cells tab 93)).cell? ⟨w.heap.size, o * 4, none⟩ = some (.string (nm o)) := by
  rw [cell_of_row _ _ _ tab 93 (0, 0) (heap_alloc_last w _), Nat.mul_comm]
  exact tab_name o h

set_option maxRecDepth 20000 in
set_option maxHeartbeats 1000000 in
theorem isaName_yes (p : Nat) (w : World) (hp' : p < 17) :
    Calls Tryz.prog 72 #[.int .u8 p] w fun e w' => e = .returned (.string (nm p)) ∧ Below w.heap.size w w' := by
  have hidx := idx_any p hp'
  have hfld : ∀ w, (Instr.field 92 (.agg #[.string (nm p), .string (cd p), .int .i64 (rg p), .int .u8 (kd p)]) 0).run Tryz.prog w = .ok (.string (nm p)) w := fun _ => by kernel_rfl
  go_enter Tryz.func72, Tryz.ntmps72
  go_wp2_with (go_at_call 55; refine (shapes_any _).mono ?_; rintro e w1 ⟨rfl, hb1⟩)
  go_ret
  exact ⟨rfl, hb1⟩

set_option maxRecDepth 20000 in
set_option maxHeartbeats 1000000 in
theorem isaName_no (p : Int) (w : World) (hp : 17 ≤ p) (hp' : p ≤ 255) :
    Calls Tryz.prog 72 #[.int .u8 p] w fun e w' => e = .returned (.string ⟨#[]⟩) ∧ Below w.heap.size w w' := by
  go_enter Tryz.func72, Tryz.ntmps72
  go_wp2
  go_ret
  exact ⟨rfl, below_self _⟩
set_option maxRecDepth 20000 in
set_option maxHeartbeats 1000000 in
theorem opName_yes (p : Nat) (w : World) (hp : 1 ≤ p) (hp' : p < 17) :
    Calls Tryz.prog 112 #[.string (nm p)] w fun e w' => e = .returned (.tuple #[.int .u8 p, .bool true]) ∧ Below w.heap.size w w' := by
  obtain ⟨z, hzs, hz⟩ := zero_tab
  have HZ : Hid (z.size = tab.size) := hzs
  clear hzs
  obtain ⟨y, hy⟩ : ∃ y, y = nm p := ⟨_, rfl⟩
  rw [← hy]
  have HY : Hid (y = nm p) := hy
  clear hy
  go_enter Tryz.func112, Tryz.ntmps112
  go_wp2_with (first | (go_at_call 55; refine (shapes_any _).mono ?_; rintro e w1 ⟨rfl, hb1⟩) | (refine step_store_new rfl 93 _ _ rfl rfl rfl tab rfl Tryz.sizeTab HZ.out tab_one ?_))
  have HC : Hid (∀ o, o < 17 → (w1.alloc (.cells tab 93)).cell? ⟨w1.heap.size, o * 4, none⟩ = some (.string (nm o))) := fun o h => tab_cell_name w1 o h
  have hb2 := below_alloc hb1 (.cells tab 93)
  clear hb1 hz HZ
  generalize w1.alloc (.cells tab 93) = w2 at *
  go_loop [7] (fun i => ∃ k : Nat, k ≤ p ∧ i = .int .i64 k) (fun i => 17 - (intOf i).toNat)
  case atStart => exact ⟨0, Nat.zero_le _, rfl⟩
  case round =>
    obtain ⟨k, hk, rfl⟩ := hrel
    have hlt : k < 17 := by omega
    by_cases h0 : k = 0
    · subst h0
      go_wp2
      go_round
      case rel => exact ⟨1, by omega, rfl⟩
      case measure => simp [intOf]
    · have hpos : 0 < k := by omega
      have c1 := HC.out k hlt
      by_cases he : k = p
      · subst he
        have hy2 : nm k = y := HY.out.symm
        rw [hy2] at c1
        clear hy2
        go_wp2
        go_ret2
        exact ⟨rfl, hb2⟩
      · have hne : ((nm k).toList == y.toList) = false := by
          rw [HY.out]
          exact str_ne fun h => he (nm_inj k hpos hlt p hp hp' h)
        generalize nm k = x at *
        go_wp2
        go_round
        case rel => exact ⟨k + 1, by omega, by go_num⟩
        case measure => simp [intOf]; omega

set_option maxRecDepth 20000 in
set_option maxHeartbeats 1000000 in
theorem opName_no (y : ByteArray) (w : World) (hno : ∀ o, 1 ≤ o → o < 17 → nm o ≠ y) :
    Calls Tryz.prog 112 #[.string y] w fun e w' => e = .returned (.tuple #[.int .u8 0, .bool false]) ∧ Below w.heap.size w w' := by
  obtain ⟨z, hzs, hz⟩ := zero_tab
  have HZ : Hid (z.size = tab.size) := hzs
  have HN : Hid (∀ o, 1 ≤ o → o < 17 → nm o ≠ y) := hno
  clear hzs hno
  go_enter Tryz.func112, Tryz.ntmps112
  go_wp2_with (first | (go_at_call 55; refine (shapes_any _).mono ?_; rintro e w1 ⟨rfl, hb1⟩) | (refine step_store_new rfl 93 _ _ rfl rfl rfl tab rfl Tryz.sizeTab HZ.out tab_one ?_))
  have HC : Hid (∀ o, o < 17 → (w1.alloc (.cells tab 93)).cell? ⟨w1.heap.size, o * 4, none⟩ = some (.string (nm o))) := fun o h => tab_cell_name w1 o h
  have hb2 := below_alloc hb1 (.cells tab 93)
  clear hb1 hz HZ
  generalize w1.alloc (.cells tab 93) = w2 at *
  go_loop [7] (fun i => ∃ k : Nat, k ≤ 17 ∧ i = .int .i64 k) (fun i => 17 - (intOf i).toNat)
  case atStart => exact ⟨0, Nat.zero_le _, rfl⟩
  case round =>
    obtain ⟨k, hk, rfl⟩ := hrel
    by_cases hlt : k < 17
    · by_cases h0 : k = 0
      · subst h0
        go_wp2
        go_round
        case rel => exact ⟨1, by omega, rfl⟩
        case measure => simp [intOf]
      · have hpos : 0 < k := by omega
        have c1 := HC.out k hlt
        have hne : ((nm k).toList == y.toList) = false := str_ne (HN.out k hpos hlt)
        generalize nm k = x at *
        go_wp2
        go_round
        case rel => exact ⟨k + 1, by omega, by go_num⟩
        case measure => simp [intOf]; omega
    · go_wp2
      go_ret2
      exact ⟨rfl, hb2⟩

end Go.Proofs.YtkianldkbfjehaaGreatDoor

/- What isa.Right answers, for every instruction. -/
namespace Go.Proofs.YtkianldkbfjehaaGreatDoor
open Go.RowKit

abbrev ins (o a b n : Int) : Value := .agg #[.int .u8 o, .int .u8 a, .int .u8 b, .int .i32 n]

/-- whether an instruction is right: its op's number, its fields -/
def rightB (o : Nat) (a b n : Int) : Bool := decide (1 ≤ o ∧ o < 17) && (regB (decide (1 ≤ rg o)) a && regB (decide (2 ≤ rg o)) b && numB (kd o) n)

theorem cell_push {w : World} {b o : Nat} {v : Value} (h : w.cell? ⟨b, o, none⟩ = some v) (ob : Obj) : (w.alloc ob).cell? ⟨b, o, none⟩ = some v :=
  ((new_alloc w ob).cell (p := ⟨b, o, none⟩) (cell_lt h)).trans h
theorem lt_push {b : Nat} {w : World} (h : b < w.heap.size) (o : Obj) : b < (w.alloc o).drew.heap.size := by
  show b < (w.heap.push o).size
  simp; omega
theorem kept_new4 {w w2 : World} {x0 x1 x2 x3 : Value} {t : TypeId} (hb : Below (w.alloc (.cells #[x0, x1, x2, x3] t)).drew.heap.size (w.alloc (.cells #[x0, x1, x2, x3] t)).drew w2) :
    w2.cell? ⟨w.heap.size, 0, none⟩ = some x0 ∧ w2.cell? ⟨w.heap.size, 1, none⟩ = some x1 ∧ w2.cell? ⟨w.heap.size, 2, none⟩ = some x2 ∧ w2.cell? ⟨w.heap.size, 3, none⟩ = some x3 ∧
    w2.frozen? ⟨w.heap.size, 0, none⟩ = false ∧ w2.frozen? ⟨w.heap.size, 1, none⟩ = false ∧ w2.frozen? ⟨w.heap.size, 2, none⟩ = false ∧ w2.frozen? ⟨w.heap.size, 3, none⟩ = false := by
  have hl : w.heap.size < (w.alloc (.cells #[x0, x1, x2, x3] t)).drew.heap.size := by
    show w.heap.size < (w.heap.push _).size
    simp
  refine ⟨(hb.cell (p := ⟨w.heap.size, 0, none⟩) hl).trans ?_, (hb.cell (p := ⟨w.heap.size, 1, none⟩) hl).trans ?_, (hb.cell (p := ⟨w.heap.size, 2, none⟩) hl).trans ?_, (hb.cell (p := ⟨w.heap.size, 3, none⟩) hl).trans ?_, (hb.frozen (p := ⟨w.heap.size, 0, none⟩) hl).trans ?_, (hb.frozen (p := ⟨w.heap.size, 1, none⟩) hl).trans ?_, (hb.frozen (p := ⟨w.heap.size, 2, none⟩) hl).trans ?_, (hb.frozen (p := ⟨w.heap.size, 3, none⟩) hl).trans ?_⟩
  all_goals simp

/-- four cells of a variable -/
def At4 (w : World) (g : Nat) (x0 x1 x2 x3 : Value) : Prop :=
  w.cell? ⟨g, 0, none⟩ = some x0 ∧ w.cell? ⟨g, 1, none⟩ = some x1 ∧ w.cell? ⟨g, 2, none⟩ = some x2 ∧ w.cell? ⟨g, 3, none⟩ = some x3
theorem At4.below {w w' : World} {g : Nat} {x0 x1 x2 x3 : Value} (h : At4 w g x0 x1 x2 x3) (hb : Below w.heap.size w w') : At4 w' g x0 x1 x2 x3 :=
  ⟨(hb.cell (p := ⟨g, 0, none⟩) (cell_lt h.1)).trans h.1, (hb.cell (p := ⟨g, 1, none⟩) (cell_lt h.1)).trans h.2.1, (hb.cell (p := ⟨g, 2, none⟩) (cell_lt h.1)).trans h.2.2.1, (hb.cell (p := ⟨g, 3, none⟩) (cell_lt h.1)).trans h.2.2.2⟩
theorem At4.new (w : World) (x0 x1 x2 x3 : Value) (t : TypeId) : At4 (w.alloc (.cells #[x0, x1, x2, x3] t)) w.heap.size x0 x1 x2 x3 := ⟨by simp, by simp, by simp, by simp⟩
theorem cs_other {w : World} {g i j : Nat} {v : Value} (h : i ≠ j) : (w.setCell ⟨g, i, none⟩ v).cell? ⟨g, j, none⟩ = w.cell? ⟨g, j, none⟩ :=
  World.cell?_setCell_other _ _ _ _ fun e => h (congrArg Addr.off e)
theorem met_A {w1 w2 : World} (hb : Below w1.drew.heap.size w1.drew w2) (x0 x1 x2 x3 : Value) (t : TypeId) :
    At4 (w2.alloc (.cells #[x0, x1, x2, x3] t)) w2.heap.size x0 x1 x2 x3 ∧ Below w1.heap.size w1 (w2.alloc (.cells #[x0, x1, x2, x3] t)) :=
  ⟨At4.new _ _ _ _ _ _, below_alloc (below_step ((Below.refl w1.heap.size w1).drew) hb) _⟩
theorem met_B {w1 w2 : World} {z0 z1 z2 z3 : Value} {t : TypeId} (hb : Below (w1.alloc (.cells #[z0, z1, z2, z3] t)).drew.heap.size (w1.alloc (.cells #[z0, z1, z2, z3] t)).drew w2) (x0 x1 x2 x3 : Value) :
    At4 ((((w2.setCell ⟨w1.heap.size, 0, none⟩ x0).setCell ⟨w1.heap.size, 1, none⟩ x1).setCell ⟨w1.heap.size, 2, none⟩ x2).setCell ⟨w1.heap.size, 3, none⟩ x3) w1.heap.size x0 x1 x2 x3 ∧
    Below w1.heap.size w1 ((((w2.setCell ⟨w1.heap.size, 0, none⟩ x0).setCell ⟨w1.heap.size, 1, none⟩ x1).setCell ⟨w1.heap.size, 2, none⟩ x2).setCell ⟨w1.heap.size, 3, none⟩ x3) := by
  obtain ⟨d0, d1, d2, d3, _⟩ := kept_new4 hb
  refine ⟨⟨?_, ?_, ?_, ?_⟩, ((((below_step (new_alloc w1 _).drew hb).setCell (Nat.le_refl _) _).setCell (Nat.le_refl _) _).setCell (Nat.le_refl _) _).setCell (Nat.le_refl _) _⟩
  · exact (cs_other (by decide)).trans ((cs_other (by decide)).trans ((cs_other (by decide)).trans (World.cell?_setCell_same _ _ _ d0)))
  · exact (cs_other (by decide)).trans ((cs_other (by decide)).trans (World.cell?_setCell_same _ _ _ ((cs_other (by decide)).trans d1)))
  · exact (cs_other (by decide)).trans (World.cell?_setCell_same _ _ _ ((cs_other (by decide)).trans ((cs_other (by decide)).trans d2)))
  · exact World.cell?_setCell_same _ _ _ ((cs_other (by decide)).trans ((cs_other (by decide)).trans ((cs_other (by decide)).trans d3)))

theorem nm_ne (o : Nat) (h1 : 1 ≤ o) (h2 : o < 17) : ((nm o).toList == []) = false := by
  rw [Lib.toList_data]
  refine beq_eq_false_iff_ne.2 fun e => nm_pos o h1 h2 ?_
  generalize nm o = s at e
  cases s with | mk d => simp at e; rw [e]

set_option maxHeartbeats 1000000 in
theorem right_op (o : Nat) (a b n : Int) (w : World) (h1 : 1 ≤ o) (h2 : o < 17) (ha : 0 ≤ a ∧ a ≤ 255) (hb : 0 ≤ b ∧ b ≤ 255) :
    Calls Tryz.prog 58 #[ins o a b n] w fun e w' => e = .returned (.bool (rightB o a b n)) ∧ Below w.heap.size w w' := by
  have hcon := isaName_yes o (w.alloc (.cells #[.int .u8 o, .int .u8 a, .int .u8 b, .int .i32 n] 55)) h2
  have hidx := idx_any o h2
  have hq := nm_ne o h1 h2
  have hr := fun w => holdsRegs_any (nm o) (cd o) (rg o) (kd o) a b w (rg_le o h2) ha hb
  have hn := fun w => holdsNum_any (nm o) (cd o) (rg o) (kd o) n w (kd_in o h2)
  have hR : rightB o a b n = ((regB (decide (1 ≤ rg o)) a && regB (decide (2 ≤ rg o)) b) && numB (kd o) n) := by simp [rightB, h1, h2]
  rw [hR]
  generalize (regB (decide (1 ≤ rg o)) a && regB (decide (2 ≤ rg o)) b) = r1 at *
  generalize numB (kd o) n = r2 at *
  clear hR h1 h2 ha hb
  generalize nm o = s at *
  generalize cd o = c at *
  generalize rg o = r at *
  generalize kd o = q at *
  go_enter Tryz.func58, Tryz.ntmps58
  go_wp2_with fail
  refine hcon.mono ?_
  rintro e w1 ⟨rfl, hb1⟩
  have c0 : w1.cell? ⟨w.heap.size, 0, none⟩ = some (.int .u8 o) := by rw [hb1.cell (p := ⟨w.heap.size, 0, none⟩) (by simp)]; simp
  have l0 : w.heap.size < w1.heap.size := cell_lt c0
  have c1 : ∀ ob, (w1.alloc ob).cell? ⟨w.heap.size, 0, none⟩ = some (.int .u8 o) := cell_push c0
  clear hcon
  go_upto_region 3 with fail
  go_cut [3] from 8 to 11 (fun p wx => ∃ g, p = .pointer (some ⟨g, 0, none⟩) ∧ At4 wx g (.string s) (.string c) (.int .i64 r) (.int .u8 q) ∧ Below w1.heap.size w1 wx)
  case first =>
    go_region_with (go_at_call 55; refine (shapes_any _).mono ?_; rintro e w2 ⟨rfl, hb2⟩; first | (have c9 := (hb2.cell (p := ⟨w.heap.size, 0, none⟩) l0).trans c0; have c8 := cell_push c9; have hA := hb2) | (have c9 := (hb2.cell (p := ⟨w.heap.size, 0, none⟩) (lt_push l0 _)).trans (c1 _); obtain ⟨d0, d1, d2, d3, f0, f1, f2, f3⟩ := kept_new4 hb2; have hB := hb2))
    all_goals
      go_wp2_with fail
      go_meet
      case rel => first | exact ⟨_, rfl, met_A hA _ _ _ _ _⟩ | exact ⟨_, rfl, met_B hB _ _ _ _⟩
  case rest =>
    obtain ⟨g, rfl, hat, hbx⟩ := hcut
    have hbox : At4 wc w.heap.size (.int .u8 o) (.int .u8 a) (.int .u8 b) (.int .i32 n) := ((At4.new w _ _ _ _ 55).below hb1).below hbx
    have hbc := below_step (below_step (new_alloc w _) hb1) hbx
    clear hbx hb1 c0 l0 c1 hidx
    have HA : Hid (At4 wc g (.string s) (.string c) (.int .i64 r) (.int .u8 q)) := hat
    have HB : Hid (At4 wc w.heap.size (.int .u8 o) (.int .u8 a) (.int .u8 b) (.int .i32 n)) := hbox
    obtain ⟨q0, q1, q2, q3⟩ := hat
    obtain ⟨p0, p1, p2, p3⟩ := hbox
    go_wp2_with fail
    refine (hr _).mono ?_
    rintro e w3 ⟨rfl, hb3⟩
    obtain ⟨s0, s1, s2, s3⟩ := HA.out.below hb3
    obtain ⟨t0, t1, t2, t3⟩ := HB.out.below hb3
    have hb4 := below_step hbc hb3
    clear hb3 hbc
    cases r1
    · go_wp2
      go_ret
      exact ⟨rfl, hb4⟩
    · go_wp2_with fail
      refine (hn _).mono ?_
      rintro e w4 ⟨rfl, hb5⟩
      go_wp2
      go_ret
      exact ⟨rfl, below_step hb4 hb5⟩

set_option maxHeartbeats 400000 in
theorem right_zero (a b n : Int) (w : World) :
    Calls Tryz.prog 58 #[ins 0 a b n] w fun e w' => e = .returned (.bool false) ∧ Below w.heap.size w w' := by
  have hcon := isaName_yes 0 (w.alloc (.cells #[.int .u8 0, .int .u8 a, .int .u8 b, .int .i32 n] 55)) (by decide)
  rw [show nm 0 = ⟨#[]⟩ from rfl] at hcon
  go_enter Tryz.func58, Tryz.ntmps58
  go_wp2_with fail
  refine hcon.mono ?_
  rintro e w1 ⟨rfl, hb1⟩
  clear hcon
  go_wp2
  go_ret
  exact ⟨rfl, below_step (new_alloc w _) hb1⟩

set_option maxHeartbeats 400000 in
theorem right_big (o a b n : Int) (w : World) (h1 : 17 ≤ o) (h2 : o ≤ 255) :
    Calls Tryz.prog 58 #[ins o a b n] w fun e w' => e = .returned (.bool false) ∧ Below w.heap.size w w' := by
  have hcon := isaName_no o (w.alloc (.cells #[.int .u8 o, .int .u8 a, .int .u8 b, .int .i32 n] 55)) h1 h2
  go_enter Tryz.func58, Tryz.ntmps58
  go_wp2_with fail
  refine hcon.mono ?_
  rintro e w1 ⟨rfl, hb1⟩
  clear hcon
  go_wp2
  go_ret
  exact ⟨rfl, below_step (new_alloc w _) hb1⟩

theorem right_any (o : Nat) (a b n : Int) (w : World) (ho : o ≤ 255) (ha : 0 ≤ a ∧ a ≤ 255) (hb : 0 ≤ b ∧ b ≤ 255) :
    Calls Tryz.prog 58 #[ins o a b n] w fun e w' => e = .returned (.bool (rightB o a b n)) ∧ Below w.heap.size w w' := by
  by_cases h : 1 ≤ o ∧ o < 17
  · exact right_op o a b n w h.1 h.2 ha hb
  · have hf : rightB o a b n = false := by simp only [rightB, decide_eq_false h, Bool.false_and]
    rw [hf]
    by_cases h0 : o = 0
    · subst h0; exact right_zero a b n w
    · exact right_big o a b n w (by omega) (by omega)
end Go.Proofs.YtkianldkbfjehaaGreatDoor

/- Blocks of several cells; how an item lies. -/
namespace Go.Proofs.YtkianldkbfjehaaGreatDoor
open Go.RowKit

/-- a block and its cells -/
def Blk (w : World) (g : Nat) (T : TypeId) (c : Array Value) : Prop := w.heap[g]? = some (.cells c T (0, 0))
theorem Blk.lt {w : World} {g : Nat} {T : TypeId} {c : Array Value} (h : Blk w g T c) : g < w.heap.size := (Array.getElem?_eq_some_iff.1 h).1
theorem Blk.cell {w : World} {g : Nat} {T : TypeId} {c : Array Value} (h : Blk w g T c) (i : Nat) : w.cell? ⟨g, i, none⟩ = c[i]? := by simp [World.cell?, show w.heap[g]? = _ from h]
theorem Blk.free {w : World} {g : Nat} {T : TypeId} {c : Array Value} (h : Blk w g T c) (i : Nat) : w.frozen? ⟨g, i, none⟩ = false := by simp [World.frozen?, show w.heap[g]? = _ from h]
theorem Blk.new (w : World) (T : TypeId) (c : Array Value) : Blk (w.alloc (.cells c T)) w.heap.size T c := World.alloc_heap_new w _
theorem Blk.kept {w w' : World} {row : Option Nat} {g : Nat} {T : TypeId} {c : Array Value} (h : Blk w g T c) (hg : w.grownBy w' row) (hne : some g ≠ row) : Blk w' g T c := (hg.block g h.lt hne).trans h
theorem Blk.below {w w' : World} {g B : Nat} {T : TypeId} {c : Array Value} (h : Blk w g T c) (hb : Below B w w') (hg : g < B) : Blk w' g T c := (hb.block g hg).trans h
theorem Blk.grow {w w' : World} {g : Nat} {T : TypeId} {c : Array Value} (h : Blk w g T c) (hb : Below w.heap.size w w') : Blk w' g T c := h.below hb h.lt
theorem Blk.set {w : World} {g : Nat} {T : TypeId} {c : Array Value} (h : Blk w g T c) (i : Nat) (v : Value) : Blk (w.setCell ⟨g, i, none⟩ v) g T (c.setIfInBounds i v) := by
  obtain ⟨hlt, hk⟩ := Array.getElem?_eq_some_iff.1 h
  show (w.heap.modify g _)[g]? = _
  rw [Array.getElem?_eq_getElem (by rw [Array.size_modify]; exact hlt), Array.getElem_modify_self, hk]
  rfl

theorem Blk.other {w : World} {g k : Nat} {T : TypeId} {c : Array Value} (h : Blk w g T c) (hne : g ≠ k) (i : Nat) (v : Value) : Blk (w.setCell ⟨k, i, none⟩ v) g T c := (Below.heap_setCell _ _ _ g (fun e => hne e)).trans h
theorem grown_setCell (w : World) (g i : Nat) (v : Value) : w.grownBy (w.setCell ⟨g, i, none⟩ v) (some g) :=
  ⟨rfl, rfl, rfl, (KeepsWalks.setCell w _ v).size, fun k _ hk => Below.heap_setCell _ _ _ k (fun e => hk (by rw [e]))⟩
theorem grown_setCells (g : Nat) : ∀ (vs : List Value) (o : Nat) (w : World), w.grownBy (w.setCells g o vs) (some g)
  | [], _, w => World.grownBy.refl w _
  | v :: r, o, w => (grown_setCell w g o v).trans (grown_setCells g r (o + 1) _)
theorem below_grown {w w' : World} {g : Nat} (h : w.grownBy w' (some g)) {B : Nat} (hB : B ≤ g) (hl : B ≤ w.heap.size) : Below B w w' :=
  ⟨h.os, h.tape, h.output, h.size, fun k hk => h.block k (by omega) (by intro e; injection e with e; omega)⟩
theorem Blk.some_after (g : Nat) (T : TypeId) : ∀ (vs : List Value) (o : Nat) (w : World) (c : Array Value), Blk w g T c → ∃ c', Blk (w.setCells g o vs) g T c' ∧ c'.size = c.size
  | [], _, w, c, h => ⟨c, h, rfl⟩
  | v :: r, o, w, c, h => by
    obtain ⟨c', h1, h2⟩ := Blk.some_after g T r (o + 1) _ _ (h.set o v)
    exact ⟨c', h1, by rw [h2]; simp⟩
theorem Blk.range {w : World} {g : Nat} {T : TypeId} {c : Array Value} (h : Blk w g T c) : w.rangeAt g 0 c.toList := fun j v hv => by
  rw [Nat.zero_add, h.cell]; rw [Array.getElem?_toList] at hv; exact hv
theorem Blk.there {w : World} {g : Nat} {T : TypeId} {c : Array Value} (h : Blk w g T c) (o n : Nat) (hn : o + n ≤ c.size) : w.there g o n := fun j hj =>
  ⟨by rw [h.cell]; simp; omega, h.free _⟩
theorem Blk.setAll {w : World} {g : Nat} {T : TypeId} {c : Array Value} (h : Blk w g T c) (c' : Array Value) (hs : c'.size = c.size) : Blk (w.setCells g 0 c'.toList) g T c' := by
  obtain ⟨c2, h1, h2⟩ := Blk.some_after g T c'.toList 0 w c h
  have : c2 = c' := by
    apply Array.ext (by omega)
    intro i hi hi'
    have hr := World.rangeAt_setCells_same w g 0 c'.toList (by rw [Array.length_toList]; exact h.there 0 _ (by omega)) i c'[i] (by simp [hi'])
    rw [Nat.zero_add, h1.cell, Array.getElem?_eq_getElem hi] at hr
    injection hr
  rw [← this] at h1 ⊢
  exact h1

/-- a struct is read -/
theorem step_load_blk {ops : Array Oper} {rest : List Oper} {o : Oper} {a : Act} {w : World} {Q : Exit → Act → World → Prop} {g : Nat} {T : TypeId} {c : Array Value} (hB : Blk w g T c) (hg : o.guard = none) (t : TypeId) (p : Operand) (ho : o.op = .load t p)
    (hp : a.eval p = .pointer (some ⟨g, 0, none⟩)) (c' : Array Value) (hc : c'.toList <+: c.toList) (d : TypeDesc) (hu : Tryz.prog.underlying t = some d) (hd : d.isRow = true) (hi : (Tryz.prog.info? t).map (·.size) = some c'.size)
    (h : wpList Tryz.prog ops Q rest (a.put o.dst (.agg c')) w) : wpList Tryz.prog ops Q (o :: rest) a w := by
  refine wpList_load_mid hg t p ho g 0 hp c'.toList d (fun j v hv => hB.range j v ?_) hu hd (by rw [hi, Array.length_toList]) (by simpa using h)
  obtain ⟨r, hr⟩ := hc
  rw [← hr, List.getElem?_append_left (List.getElem?_eq_some_iff.1 hv).1]; exact hv
/-- a struct is stored -/
theorem step_store_blk {ops : Array Oper} {rest : List Oper} {o : Oper} {a : Act} {w : World} {Q : Exit → Act → World → Prop} {g : Nat} {T : TypeId} {c : Array Value} (hB : Blk w g T c) (hg : o.guard = none) (t : TypeId) (p x : Operand) (ho : o.op = .store t p x) (hd : o.dst = none)
    (hp : a.eval p = .pointer (some ⟨g, 0, none⟩)) (c' : Array Value) (hx : a.eval x = .agg c') (hi : (Tryz.prog.info? t).map (·.size) = some c'.size) (hcs : c'.size = c.size) (h1 : c'.all (·.oneCell') = true)
    (h : ∀ w', Blk w' g T c' → w.grownBy w' (some g) → wpList Tryz.prog ops Q rest a w') : wpList Tryz.prog ops Q (o :: rest) a w := by
  refine wpList_store_mid hg t p x ho g 0 c' hp hx (hB.there 0 _ (by omega)) hi h1 ?_
  rw [hd]
  exact h _ (hB.setAll c' hcs) (grown_setCells g _ _ _)

end Go.Proofs.YtkianldkbfjehaaGreatDoor
