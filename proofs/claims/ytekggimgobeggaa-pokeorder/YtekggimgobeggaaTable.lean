/- The table of shapes (isa.shapes): what it holds at each op, and that the call answers it. -/
import Derived.Test.YtekggimgobeggaaOwn
import Derived.Deep.WholeRow
import Derived.Laws.BytesArg
namespace Go.Proofs.Ytekggimgobeggaa
open Go.RowKit

/-- an op's name -/
def nm : Nat → ByteArray
  | 1 => ⟨#[104, 97, 108, 116]⟩
  | 2 => ⟨#[110, 111, 112]⟩
  | 3 => ⟨#[110, 111, 112, 53]⟩
  | 4 => ⟨#[98, 114, 107]⟩
  | 5 => ⟨#[109, 111, 118, 105]⟩
  | 6 => ⟨#[109, 111, 118]⟩
  | 7 => ⟨#[97, 100, 100]⟩
  | 8 => ⟨#[115, 117, 98]⟩
  | 9 => ⟨#[98, 122]⟩
  | 10 => ⟨#[98, 110, 122]⟩
  | 11 => ⟨#[106, 109, 112]⟩
  | 12 => ⟨#[99, 97, 108, 108]⟩
  | 13 => ⟨#[114, 101, 116]⟩
  | 14 => ⟨#[108, 111, 97, 100]⟩
  | 15 => ⟨#[115, 116, 111, 114, 101]⟩
  | 16 => ⟨#[111, 117, 116]⟩
  | _ => ⟨#[]⟩
/-- an op's bytes that are always the same -/
def cdL : Nat → List Int
  | 1 => [0]
  | 2 => [144]
  | 3 => [15, 31, 68, 0, 0]
  | 4 => [204]
  | 5 => [184]
  | 6 => [137]
  | 7 => [1]
  | 8 => [41]
  | 9 => [116]
  | 10 => [117]
  | 11 => [233]
  | 12 => [232]
  | 13 => [195]
  | 14 => [139]
  | 15 => [136]
  | 16 => [230]
  | _ => []
def cd : Nat → ByteArray
  | 1 => ⟨#[0]⟩
  | 2 => ⟨#[144]⟩
  | 3 => ⟨#[15, 31, 68, 0, 0]⟩
  | 4 => ⟨#[204]⟩
  | 5 => ⟨#[184]⟩
  | 6 => ⟨#[137]⟩
  | 7 => ⟨#[1]⟩
  | 8 => ⟨#[41]⟩
  | 9 => ⟨#[116]⟩
  | 10 => ⟨#[117]⟩
  | 11 => ⟨#[233]⟩
  | 12 => ⟨#[232]⟩
  | 13 => ⟨#[195]⟩
  | 14 => ⟨#[139]⟩
  | 15 => ⟨#[136]⟩
  | 16 => ⟨#[230]⟩
  | _ => ⟨#[]⟩
/-- how many registers -/
def rg : Nat → Nat
  | 5 => 1
  | 6 => 2
  | 7 => 2
  | 8 => 2
  | 9 => 1
  | 10 => 1
  | 14 => 1
  | 15 => 1
  | 16 => 1
  | _ => 0
/-- 0: no number, 1: any, 2: an address -/
def kd : Nat → Int
  | 5 => 1
  | 9 => 1
  | 10 => 1
  | 11 => 1
  | 12 => 1
  | 14 => 2
  | 15 => 2
  | _ => 0
/-- an op's first byte -/
def fb (o : Nat) : Int := (cdL o).getD 0 0

def shpV (o : Nat) : Array Value := #[.string (nm o), .string (cd o), .int .i64 (rg o), .int .u8 (kd o)]
def tab : Array Value := ((List.range 17).flatMap fun o => (shpV o).toList).toArray

theorem tab_size : tab.size = 68 := by kernel_rfl
theorem tab_one : tab.all (·.oneCell') = true := by kernel_rfl

theorem lt17 {P : Nat → Prop} (h : ∀ k : Fin 17, P k) : ∀ o, o < 17 → P o := fun o ho => h ⟨o, ho⟩

theorem Try.zero155 : (Try.prog.info? 155).map (fun i => (i.zero, i.size)) = some (some (.agg (((List.range 17).flatMap fun _ => (shpV 0).toList).toArray)), 68) := by kernel_rfl
theorem Try.size155 : (Try.prog.info? 155).map (·.size) = some 68 := by kernel_rfl
theorem build50 (w : World) : (Instr.build 155 #[(1, .agg (shpV 1)), (2, .agg (shpV 2)), (3, .agg (shpV 3)), (4, .agg (shpV 4)), (5, .agg (shpV 5)), (6, .agg (shpV 6)), (7, .agg (shpV 7)), (8, .agg (shpV 8)), (9, .agg (shpV 9)), (10, .agg (shpV 10)), (11, .agg (shpV 11)), (12, .agg (shpV 12)), (13, .agg (shpV 13)), (14, .agg (shpV 14)), (15, .agg (shpV 15)), (16, .agg (shpV 16))]).run Try.prog w = .ok (.agg tab) w := by kernel_rfl

theorem idx_any : ∀ o : Nat, o < 17 → ∀ w, (Instr.index 155 (.agg tab) (.int .u8 o)).run Try.prog w = .ok (.agg #[.string (nm o), .string (cd o), .int .i64 (rg o), .int .u8 (kd o)]) w
  | 0, _ => fun _ => by kernel_rfl
  | 1, _ => fun _ => by kernel_rfl
  | 2, _ => fun _ => by kernel_rfl
  | 3, _ => fun _ => by kernel_rfl
  | 4, _ => fun _ => by kernel_rfl
  | 5, _ => fun _ => by kernel_rfl
  | 6, _ => fun _ => by kernel_rfl
  | 7, _ => fun _ => by kernel_rfl
  | 8, _ => fun _ => by kernel_rfl
  | 9, _ => fun _ => by kernel_rfl
  | 10, _ => fun _ => by kernel_rfl
  | 11, _ => fun _ => by kernel_rfl
  | 12, _ => fun _ => by kernel_rfl
  | 13, _ => fun _ => by kernel_rfl
  | 14, _ => fun _ => by kernel_rfl
  | 15, _ => fun _ => by kernel_rfl
  | 16, _ => fun _ => by kernel_rfl
  | n + 17, h => absurd h (by omega)
theorem cd_size : ∀ o : Nat, o < 17 → (cd o).size = (cdL o).length
  | 0, _ => rfl
  | 1, _ => rfl
  | 2, _ => rfl
  | 3, _ => rfl
  | 4, _ => rfl
  | 5, _ => rfl
  | 6, _ => rfl
  | 7, _ => rfl
  | 8, _ => rfl
  | 9, _ => rfl
  | 10, _ => rfl
  | 11, _ => rfl
  | 12, _ => rfl
  | 13, _ => rfl
  | 14, _ => rfl
  | 15, _ => rfl
  | 16, _ => rfl
  | n + 17, h => absurd h (by omega)
theorem rg_le : ∀ o : Nat, o < 17 → rg o ≤ 2
  | 0, _ => by decide
  | 1, _ => by decide
  | 2, _ => by decide
  | 3, _ => by decide
  | 4, _ => by decide
  | 5, _ => by decide
  | 6, _ => by decide
  | 7, _ => by decide
  | 8, _ => by decide
  | 9, _ => by decide
  | 10, _ => by decide
  | 11, _ => by decide
  | 12, _ => by decide
  | 13, _ => by decide
  | 14, _ => by decide
  | 15, _ => by decide
  | 16, _ => by decide
  | n + 17, h => absurd h (by omega)
theorem kd_in : ∀ o : Nat, o < 17 → kd o = 0 ∨ kd o = 1 ∨ kd o = 2
  | 0, _ => by decide
  | 1, _ => by decide
  | 2, _ => by decide
  | 3, _ => by decide
  | 4, _ => by decide
  | 5, _ => by decide
  | 6, _ => by decide
  | 7, _ => by decide
  | 8, _ => by decide
  | 9, _ => by decide
  | 10, _ => by decide
  | 11, _ => by decide
  | 12, _ => by decide
  | 13, _ => by decide
  | 14, _ => by decide
  | 15, _ => by decide
  | 16, _ => by decide
  | n + 17, h => absurd h (by omega)
theorem cdL_len : ∀ o : Nat, o < 17 → (cdL o).length ≤ 5
  | 0, _ => by decide
  | 1, _ => by decide
  | 2, _ => by decide
  | 3, _ => by decide
  | 4, _ => by decide
  | 5, _ => by decide
  | 6, _ => by decide
  | 7, _ => by decide
  | 8, _ => by decide
  | 9, _ => by decide
  | 10, _ => by decide
  | 11, _ => by decide
  | 12, _ => by decide
  | 13, _ => by decide
  | 14, _ => by decide
  | 15, _ => by decide
  | 16, _ => by decide
  | n + 17, h => absurd h (by omega)
theorem cdL_pos : ∀ o : Nat, 1 ≤ o → o < 17 → 0 < (cdL o).length
  | 0, h, _ => absurd h (by decide)
  | 1, _, _ => by decide
  | 2, _, _ => by decide
  | 3, _, _ => by decide
  | 4, _, _ => by decide
  | 5, _, _ => by decide
  | 6, _, _ => by decide
  | 7, _, _ => by decide
  | 8, _, _ => by decide
  | 9, _, _ => by decide
  | 10, _, _ => by decide
  | 11, _, _ => by decide
  | 12, _, _ => by decide
  | 13, _, _ => by decide
  | 14, _, _ => by decide
  | 15, _, _ => by decide
  | 16, _, _ => by decide
  | n + 17, _, h => absurd h (by omega)
theorem tab_name : ∀ o : Nat, o < 17 → tab[4 * o]? = some (.string (nm o))
  | 0, _ => by kernel_rfl
  | 1, _ => by kernel_rfl
  | 2, _ => by kernel_rfl
  | 3, _ => by kernel_rfl
  | 4, _ => by kernel_rfl
  | 5, _ => by kernel_rfl
  | 6, _ => by kernel_rfl
  | 7, _ => by kernel_rfl
  | 8, _ => by kernel_rfl
  | 9, _ => by kernel_rfl
  | 10, _ => by kernel_rfl
  | 11, _ => by kernel_rfl
  | 12, _ => by kernel_rfl
  | 13, _ => by kernel_rfl
  | 14, _ => by kernel_rfl
  | 15, _ => by kernel_rfl
  | 16, _ => by kernel_rfl
  | n + 17, h => absurd h (by omega)
theorem tab_code : ∀ o : Nat, o < 17 → tab[4 * o + 1]? = some (.string (cd o))
  | 0, _ => by kernel_rfl
  | 1, _ => by kernel_rfl
  | 2, _ => by kernel_rfl
  | 3, _ => by kernel_rfl
  | 4, _ => by kernel_rfl
  | 5, _ => by kernel_rfl
  | 6, _ => by kernel_rfl
  | 7, _ => by kernel_rfl
  | 8, _ => by kernel_rfl
  | 9, _ => by kernel_rfl
  | 10, _ => by kernel_rfl
  | 11, _ => by kernel_rfl
  | 12, _ => by kernel_rfl
  | 13, _ => by kernel_rfl
  | 14, _ => by kernel_rfl
  | 15, _ => by kernel_rfl
  | 16, _ => by kernel_rfl
  | n + 17, h => absurd h (by omega)
theorem code_at : ∀ o : Nat, 1 ≤ o → o < 17 → ∀ w, (Instr.index 9 (.string (cd o)) (.int .i64 0)).run Try.prog w = .ok (.int .u8 (fb o)) w
  | 0, h, _ => absurd h (by decide)
  | 1, _, _ => fun _ => by kernel_rfl
  | 2, _, _ => fun _ => by kernel_rfl
  | 3, _, _ => fun _ => by kernel_rfl
  | 4, _, _ => fun _ => by kernel_rfl
  | 5, _, _ => fun _ => by kernel_rfl
  | 6, _, _ => fun _ => by kernel_rfl
  | 7, _, _ => fun _ => by kernel_rfl
  | 8, _, _ => fun _ => by kernel_rfl
  | 9, _, _ => fun _ => by kernel_rfl
  | 10, _, _ => fun _ => by kernel_rfl
  | 11, _, _ => fun _ => by kernel_rfl
  | 12, _, _ => fun _ => by kernel_rfl
  | 13, _, _ => fun _ => by kernel_rfl
  | 14, _, _ => fun _ => by kernel_rfl
  | 15, _, _ => fun _ => by kernel_rfl
  | 16, _, _ => fun _ => by kernel_rfl
  | n + 17, _, h => absurd h (by omega)
theorem cd_strs : ∀ o : Nat, o < 17 → cd o = strOfNums (cdL o)
  | 0, _ => by kernel_rfl
  | 1, _ => by kernel_rfl
  | 2, _ => by kernel_rfl
  | 3, _ => by kernel_rfl
  | 4, _ => by kernel_rfl
  | 5, _ => by kernel_rfl
  | 6, _ => by kernel_rfl
  | 7, _ => by kernel_rfl
  | 8, _ => by kernel_rfl
  | 9, _ => by kernel_rfl
  | 10, _ => by kernel_rfl
  | 11, _ => by kernel_rfl
  | 12, _ => by kernel_rfl
  | 13, _ => by kernel_rfl
  | 14, _ => by kernel_rfl
  | 15, _ => by kernel_rfl
  | 16, _ => by kernel_rfl
  | n + 17, h => absurd h (by omega)
theorem nm_pos : ∀ o : Nat, 1 ≤ o → o < 17 → nm o ≠ ⟨#[]⟩
  | 0, h, _ => absurd h (by decide)
  | 1, _, _ => by decide
  | 2, _, _ => by decide
  | 3, _, _ => by decide
  | 4, _, _ => by decide
  | 5, _, _ => by decide
  | 6, _, _ => by decide
  | 7, _, _ => by decide
  | 8, _, _ => by decide
  | 9, _, _ => by decide
  | 10, _, _ => by decide
  | 11, _, _ => by decide
  | 12, _, _ => by decide
  | 13, _, _ => by decide
  | 14, _, _ => by decide
  | 15, _, _ => by decide
  | 16, _, _ => by decide
  | n + 17, _, h => absurd h (by omega)
theorem fb_in : ∀ o : Nat, o < 17 → 0 ≤ fb o ∧ fb o ≤ 255
  | 0, _ => by decide
  | 1, _ => by decide
  | 2, _ => by decide
  | 3, _ => by decide
  | 4, _ => by decide
  | 5, _ => by decide
  | 6, _ => by decide
  | 7, _ => by decide
  | 8, _ => by decide
  | 9, _ => by decide
  | 10, _ => by decide
  | 11, _ => by decide
  | 12, _ => by decide
  | 13, _ => by decide
  | 14, _ => by decide
  | 15, _ => by decide
  | 16, _ => by decide
  | n + 17, h => absurd h (by omega)
theorem cd_byte : ∀ o : Nat, o < 17 → ∀ i (h : i < (cd o).size), (((cd o)[i]).toNat : Int) = (cdL o).getD i 0
  | 0, _ => by decide
  | 1, _ => by decide
  | 2, _ => by decide
  | 3, _ => by decide
  | 4, _ => by decide
  | 5, _ => by decide
  | 6, _ => by decide
  | 7, _ => by decide
  | 8, _ => by decide
  | 9, _ => by decide
  | 10, _ => by decide
  | 11, _ => by decide
  | 12, _ => by decide
  | 13, _ => by decide
  | 14, _ => by decide
  | 15, _ => by decide
  | 16, _ => by decide
  | n + 17, h => absurd h (by omega)

theorem fb_inj : ∀ o, 1 ≤ o → o < 17 → ∀ p, 1 ≤ p → p < 17 → fb o = fb p → o = p := by
  have h : ∀ o : Fin 17, ∀ p : Fin 17, 1 ≤ o.1 → 1 ≤ p.1 → fb o.1 = fb p.1 → o.1 = p.1 := by decide +kernel
  exact fun o h1 h2 p h3 h4 => h ⟨o, h2⟩ ⟨p, h4⟩ h1 h3
theorem nm_inj : ∀ o, 1 ≤ o → o < 17 → ∀ p, 1 ≤ p → p < 17 → nm o = nm p → o = p := by
  have h : ∀ o : Fin 17, ∀ p : Fin 17, 1 ≤ o.1 → 1 ≤ p.1 → nm o.1 = nm p.1 → o.1 = p.1 := by decide +kernel
  exact fun o h1 h2 p h3 h4 => h ⟨o, h2⟩ ⟨p, h4⟩ h1 h3
/-- an op's length -/
def lenN (o : Nat) : Nat := (cdL o).length + rg o + if kd o = 0 then 0 else 4

theorem lenN_in : ∀ o : Nat, 1 ≤ o → o < 17 → 1 ≤ lenN o ∧ lenN o ≤ 6
  | 0, h, _ => absurd h (by decide)
  | 1, _, _ => by decide
  | 2, _, _ => by decide
  | 3, _, _ => by decide
  | 4, _, _ => by decide
  | 5, _, _ => by decide
  | 6, _, _ => by decide
  | 7, _, _ => by decide
  | 8, _, _ => by decide
  | 9, _, _ => by decide
  | 10, _, _ => by decide
  | 11, _, _ => by decide
  | 12, _, _ => by decide
  | 13, _, _ => by decide
  | 14, _, _ => by decide
  | 15, _, _ => by decide
  | 16, _, _ => by decide
  | n + 17, _, h => absurd h (by omega)
theorem cl_one : ∀ o : Nat, 1 ≤ o → o < 17 → (1 ≤ rg o ∨ kd o ≠ 0) → (cdL o).length = 1
  | 0, h, _ => absurd h (by decide)
  | 1, _, _ => by decide
  | 2, _, _ => by decide
  | 3, _, _ => by decide
  | 4, _, _ => by decide
  | 5, _, _ => by decide
  | 6, _, _ => by decide
  | 7, _, _ => by decide
  | 8, _, _ => by decide
  | 9, _, _ => by decide
  | 10, _, _ => by decide
  | 11, _, _ => by decide
  | 12, _, _ => by decide
  | 13, _, _ => by decide
  | 14, _, _ => by decide
  | 15, _, _ => by decide
  | 16, _, _ => by decide
  | n + 17, _, h => absurd h (by omega)
end Go.Proofs.Ytekggimgobeggaa
