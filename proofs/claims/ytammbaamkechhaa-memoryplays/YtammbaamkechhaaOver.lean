/- What switchyardkit.OverBytes does: it writes over the bytes of its own block, and nothing else. -/
import Derived.Test.YtammbaamkechhaaMem2
namespace Go.Proofs.Ytammbaamkechhaa
open Go.RowKit

theorem markByte_any (a b : Int) (w : World) : Calls Try.prog 25 #[.int .i64 a, .int .i64 b] w fun e w' => ∃ x, e = .returned (.int .u8 x) ∧ w' = w := by
  go_enter Try.func25, Try.ntmps25
  go_wp2
  go_ret
  exact ⟨_, rfl, rfl⟩

set_option maxHeartbeats 1000000 in
theorem over_any (g n cap B : Nat) (ys : List Int) (w : World) (hn : n ≤ 140737488351232) (hl : ys.length = n + 2) (ho : Own w B g cap ys) :
    Calls Try.prog 18 #[.slice (some ⟨g, 0, none⟩) n cap] w fun e w' => e = .returned (.tuple #[]) ∧ Keeps (fun b => b = g) w w' := by
  have hcap := ho.cap
  have hcm := ho.parts
  obtain ⟨_, _, _, _, hcm, _⟩ := hcm
  rw [hl] at hcap
  unfold maxLen at hcm
  have HO := Hid.in ho
  have HL := Hid.in hl
  clear ho hl
  have hwr : IntKind.i64.wrap ((n : Int) + 2) = ((n + 2 : Nat) : Int) := by rw [IntKind.wrap_i64]; omega
  go_enter Try.func18, Try.ntmps18
  go_wp2
  go_loopw [3] (fun i wr => ∃ k : Nat, k ≤ n + 2 ∧ i = .int .i64 k ∧ (∃ us : List Int, us.length = n + 2 ∧ Own wr B g cap us) ∧ Keeps (fun b => b = g) w wr) (fun i _ => n + 2 - (intOf i).toNat)
  case atStart => exact ⟨0, Nat.zero_le _, rfl, ⟨ys, HL.out, HO.out⟩, Keeps.refl _ _⟩
  case round =>
    obtain ⟨k, hk, rfl, ⟨us, hul, hou⟩, hkp⟩ := hrel
    by_cases hlt : k < n + 2
    · have c1 := hou.cell k (by omega)
      have f1 := hou.free k
      have HS := Hid.in (fun x => hou.store k x)
      have HK := Hid.in hkp
      have HU := Hid.in hul
      clear hou hkp hul
      generalize us.getD k 0 = z at *
      go_wp2_with (go_at_call 25; refine (markByte_any _ _ _).mono ?_; rintro e w1 ⟨x, rfl, rfl⟩)
      go_roundw
      case rel => exact ⟨k + 1, by omega, by go_num, ⟨_, by rw [List.length_set]; exact HU.out, HS.out x⟩, HK.out.setCell g k _ (.inl rfl)⟩
      case measure => simp [intOf]; omega
    · have HK := Hid.in hkp
      clear hkp hou
      go_wp2
      refine bodyPost_end (results_none rfl _ _ _) rfl ?_
      exact ⟨rfl, HK.out⟩

end Go.Proofs.Ytammbaamkechhaa
