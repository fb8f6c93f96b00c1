/- strings.ContainsAny at the four bytes that no field has. -/
import Derived.Test.YtaabdffplfifkaaDoorJoin
import Derived.Test.YtaabdffplfifkaaDoorShelfD
import Derived.WalkMore
import Derived.BigQuiet
import Derived.Laws.DeepStrings4
namespace Go.Proofs.YtaabdffplfifkaaDoor
open Go.RowKit

/-- the four bytes -/
def four : ByteArray := ⟨#[32, 9, 13, 35]⟩
def inFour (c : UInt8) : Bool := c == 32 || c == 9 || c == 13 || c == 35

theorem four_byte (c : UInt8) (h : inFour c = false) : Lib.indexByte four.data.toList c = -1 := by
  apply indexByte_not
  intro x hx e
  subst e
  simp [four] at hx
  simp [inFour] at h
  rcases hx with rfl | rfl | rfl | rfl <;> simp at h

theorem four_size : four.size = 4 := rfl
theorem four_at (k : Nat) (h : k < 4) : ∃ (hk : k < four.size) (z : Nat), (four[k]'hk).toNat = z ∧ (four[k]'hk).toNat < 128 ∧ z < 128 := by
  have : k = 0 ∨ k = 1 ∨ k = 2 ∨ k = 3 := by omega
  rcases this with rfl | rfl | rfl | rfl
  · exact ⟨by decide, 32, by decide, by decide, by decide⟩
  · exact ⟨by decide, 9, by decide, by decide, by decide⟩
  · exact ⟨by decide, 13, by decide, by decide, by decide⟩
  · exact ⟨by decide, 35, by decide, by decide, by decide⟩

theorem wrapS (m : Nat) (h : m < 4) : IntKind.i64.wrap ((m : Int) + 1) = (m : Int) + 1 := by
  have : m = 0 ∨ m = 1 ∨ m = 2 ∨ m = 3 := by omega
  rcases this with rfl | rfl | rfl | rfl <;> rfl
theorem four_le (m : Nat) (h : m < 4) : (m : Int) + 1 ≤ (four.size : Nat) := by rw [four_size]; omega
theorem four_rest (m y : Nat) (w : World) (h1 : 128 ≤ y) (h2 : y < 256) :
    Calls Tryd.prog 76 #[.string (four.extract (m + 1) four.size), .int .u8 y] w fun e w' => e = .returned (.int .i64 (-1)) ∧ w' = w := by
  have h := Tryd.strings_IndexByte (four.extract (m + 1) four.size) y w
  rw [indexByte_not] at h
  · exact h
  · intro x hx e
    have hx' : x ∈ four.data.toList := by
      simp at hx
      have := List.mem_of_mem_take hx
      first | exact List.mem_of_mem_drop this | exact this
    subst e
    simp [four] at hx'
    have ht : (UInt8.ofNat y).toNat = y := by simp; omega
    rcases hx' with e | e | e | e <;> rw [e] at ht <;> simp at ht <;> omega

theorem encode_high (r : Int) (h1 : 128 ≤ r) : ∃ (m : Nat) (hm : m < (Utf8.encode r).size), (Utf8.encode r).size = m + 1 ∧ (m = 1 ∨ m = 2 ∨ m = 3) ∧ 128 ≤ ((Utf8.encode r)[m]'hm).toNat := by
  have hc : 128 ≤ (if Utf8.valid r then r.toNat else Utf8.runeError) := by
    split
    · omega
    · decide
  have hb : ∀ x : Nat, 128 ≤ (UInt8.ofNat (0x80 + x % 64)).toNat := by intro x; simp [UInt8.toNat_ofNat']; omega
  have e : ∃ c a b d : Nat, Utf8.encode r = ⟨#[UInt8.ofNat a, UInt8.ofNat (0x80 + c % 64)]⟩ ∨ Utf8.encode r = ⟨#[UInt8.ofNat a, UInt8.ofNat b, UInt8.ofNat (0x80 + c % 64)]⟩ ∨ Utf8.encode r = ⟨#[UInt8.ofNat a, UInt8.ofNat b, UInt8.ofNat d, UInt8.ofNat (0x80 + c % 64)]⟩ := by
    unfold Utf8.encode
    simp only
    generalize (if Utf8.valid r then r.toNat else Utf8.runeError) = c at *
    rw [if_neg (by omega)]
    split
    · exact ⟨c, _, 0, 0, .inl rfl⟩
    · split
      · exact ⟨c, _, _, 0, .inr (.inl rfl)⟩
      · exact ⟨c, _, _, _, .inr (.inr rfl)⟩
  obtain ⟨c, a, b, d, e | e | e⟩ := e
  · rw [e]; exact ⟨1, (by decide : 1 < 2), rfl, .inl rfl, hb c⟩
  · rw [e]; exact ⟨2, (by decide : 2 < 3), rfl, .inr (.inl rfl), hb c⟩
  · rw [e]; exact ⟨3, (by decide : 3 < 4), rfl, .inr (.inr rfl), hb c⟩

set_option maxRecDepth 100000 in
set_option maxHeartbeats 4000000 in
theorem indexRune_high (r : Int) (w : World) (h1 : 128 ≤ r) :
    Calls Tryd.prog 60 #[.string four, .int .i32 r] w fun e w' => e = .returned (.int .i64 (-1)) ∧ Below w.heap.size w w' := by
  by_cases he : r = 65533
  · subst he
    go_enter Tryd.func60, Tryd.ntmps60
    go_wp2_with fail
    go_loopw [5, 6] (fun _ _ w' => ∃ pos : Nat, pos ≤ 4 ∧ w' = w.iter four pos) (fun _ _ w' => 4 - w'.iterPos w.heap.size)
    case atStart => exact ⟨0, Nat.zero_le _, rfl⟩
    case round =>
      obtain ⟨k, hk, rfl⟩ := hrel
      by_cases hlt : k < 4
      · obtain ⟨hks, z, hz1, hz2, hz3⟩ := four_at k hlt
        have hnx : ∀ ty, (Instr.next (.pointer (some ⟨w.heap.size, 0, none⟩)) true ty).run Tryd.prog (w.iter four k) = _ := fun ty => run_next_ascii w four k ty hks (by omega)
        rw [hz1] at hnx
        have hzz : ((z : Int) == 65533) = false := by simp; omega
        clear hz1
        go_wp2_with fail
        go_roundw
        case rel => exact ⟨k + 1, by omega, rfl⟩
        case measure => simp; omega
      · have hnx : ∀ ty, (Instr.next (.pointer (some ⟨w.heap.size, 0, none⟩)) true ty).run Tryd.prog (w.iter four k) = _ := fun ty => run_next_end w four k ty (by rw [four_size]; omega)
        go_wp2_with fail
        go_ret
        exact ⟨rfl, iter_below _ _ _⟩
  · have hb : (r == 65533) = false := by simpa using he
    have hlt : ¬ (r < 128) := by omega
    have h0 : (0 : Int) ≤ r := by omega
    have hv := fun w => Tryd.utf8_ValidRune r w
    go_enter Tryd.func60, Tryd.ntmps60
    go_wp2_with fail
    refine (hv _).mono ?_
    rintro e w1 ⟨rfl, rfl⟩
    generalize Lib.validRune r = vr at *
    cases vr
    · go_wp2_with fail
      go_ret
      exact ⟨rfl, Below.refl _ _⟩
    · go_wp2_with fail
      go_step3
      go_wp2_with fail
      obtain ⟨m, hm, hs, hm3, hz⟩ := encode_high r h1
      generalize Utf8.encode r = E at *
      have hw : wrap64 ((E.size : Nat) - 1 : Int) = (m : Int) := by rw [hs]; simp [wrap64]; omega
      rw [hw]
      obtain ⟨hms, z, hz1, hz2, hz3⟩ := four_at m (by omega)
      go_loopw [9] (fun v w' => v = .int .i64 m ∧ w' = w1) (fun _ _ => 0)
      case atStart => exact ⟨rfl, rfl⟩
      case round =>
        obtain ⟨rfl, rfl⟩ := hrel
        have hlt4 : (m : Int) < (four.size : Nat) := by rw [four_size]; omega
        have hltE : (m : Int) < (E.size : Nat) := by omega
        obtain ⟨y, hy, hy2⟩ : ∃ y : Nat, (E[m]'hm).toNat = y ∧ 128 ≤ y := ⟨_, rfl, hz⟩
        have hy3 : y < 256 := by rw [← hy]; exact UInt8.toNat_lt _
        have hzy : ((z : Int) != (y : Int)) = true := by simp; omega
        have hm4 : m < 4 := by omega
        have hcut : IntKind.i64.wrap ((m : Int) + 1) = (m : Int) + 1 := wrapS m hm4
        have hle4 : (m : Int) + 1 ≤ (four.size : Nat) := four_le m hm4
        have hge0 : (0 : Int) ≤ (m : Int) + 1 := by omega
        have htn : ((m : Int) + 1).toNat = m + 1 := by omega
        clear hm4
        have hI := fun w => four_rest m y w hy2 hy3
        clear hs hw hz hz2
        go_wp2_with fail
        repeat (go_step3; go_wp2_with fail)
        go_quiet (fail)
        go_wp2_with fail
        have hB : Below wr.heap.size wr (wr.drewN nq) := below_draws (Below.refl _ _) _
        generalize wr.drewN nq = W at hB ⊢
        go_quiet ((go_at_call 76; exact Calls.quiet_of_same (hI _)))
        go_wp2_with fail
        show bodyPost Tryd.prog Tryd.f60 (fun e w' => e = Ending.returned (Value.int IntKind.i64 (-1)) ∧ Below wr.heap.size wr w') Exit.ret _ _
        go_ret
        exact ⟨rfl, below_draws hB _⟩

end Go.Proofs.YtaabdffplfifkaaDoor
