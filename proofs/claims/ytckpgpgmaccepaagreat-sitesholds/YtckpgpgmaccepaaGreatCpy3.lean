/- switchyardkit.CopySymbols, CopyFixes, CopyMarks. -/
import Derived.Test.YtckpgpgmaccepaaGreatKit3
namespace Go.Proofs.YtckpgpgmaccepaaGreat
open Go.RowKit

set_option maxRecDepth 20000 in
set_option maxHeartbeats 1000000 in
theorem copySyms_any (p : Option Addr) (n c : Nat) (L : List Sy) (w : World) (hn : L.length = n) (hn6 : n ≤ 1048576) (h1 : Row3 w p (L.map syV)) :
    Calls Tryz.prog 58 #[.slice p n c] w fun E w' => ∃ v, E = .returned v ∧ TOwn 67 w' w.heap.size v (L.map syV) ∧ Below w.heap.size w w' := by
  have HL := Hid.in hn
  have H1 := Hid.in h1
  clear hn h1
  go_enter Tryz.func58, Tryz.ntmps58
  go_wp2_with fail
  go_loopw [3, 4] (fun v vi wr => ∃ k : Nat, vi = .int .i64 k ∧ k ≤ n ∧ TOwn 67 wr w.heap.size v ((L.take k).map syV) ∧ Below w.heap.size w wr) (fun _ vi _ => n - (intOf vi).toNat)
  case atStart => exact ⟨0, rfl, Nat.zero_le _, TOwn.nil _ _ _, below_self _⟩
  case round =>
    obtain ⟨k, rfl, hk, hT, hb⟩ := hrel
    have HT := Hid.in hT
    have HB := Hid.in hb
    have hlen : ((L.take k).map syV).length = k := by rw [List.length_map, List.length_take, HL.out]; omega
    obtain ⟨pv, cv, hv, -, -, -⟩ := hT.shape
    rw [hlen] at hv
    subst hv
    have HLEN := Hid.in hlen
    clear hT hb hlen
    by_cases hlt : k < n
    · have hk1 : k < L.length := by rw [HL.out]; exact hlt
      obtain ⟨b, o, rfl, hc⟩ := (H1.out.below HB.out) (by rw [List.length_map]; omega)
      obtain ⟨c0, c1, c2⟩ := cells3 hc k (by rw [List.length_map]; exact hk1)
      simp only [List.getElem_map, syV] at c0 c1 c2
      have HTK : Hid ((L.take (k + 1)).map syV = (L.take k).map syV ++ [syV L[k]]) := by
        rw [List.take_succ_eq_append_getElem hk1, List.map_append]; exact rfl
      clear hc
      generalize (L.take k).map syV = LQ at *
      generalize L[k] = x at *
      have hl1 : LQ.length ≤ 1048576 := by have := HLEN.out; omega
      go_wp2_with (refine tpush Tryz.elemSym _ rfl _ _ rfl w.heap.size _ LQ rfl (HT.out.alloc _) ⟨wr.heap.size, 0, none⟩ 1 (.string x.name, .int .i64 x.at_, .bool x.g) ⟨rfl, rfl, rfl⟩ rfl (news3 _ _ _) hl1 (by decide) (by have := HB.out.size; simp; omega) ?_; intro v5 w5 hT5 hg5 hb5; have HT5 := Hid.in hT5; have HB5 := Hid.in (hb5 w (below_alloc HB.out _)); clear hT5 hg5 hb5)
      go_roundw
      case rel => exact ⟨k + 1, by go_num, by omega, by rw [HTK.out]; exact HT5.out, HB5.out⟩
      case measure => simp [intOf]; omega
    · have hkn : k = n := by omega
      subst hkn
      have HR : Hid ((L.take k).map syV = L.map syV) := by
        rw [List.take_of_length_le (by rw [HL.out]; exact Nat.le_refl _)]; exact rfl
      rw [HR.out] at HT
      go_wp2_with fail
      go_ret
      exact ⟨_, rfl, HT.out, HB.out⟩

set_option maxRecDepth 20000 in
set_option maxHeartbeats 1000000 in
theorem copyFixes_any (p : Option Addr) (n c : Nat) (L : List Fx) (w : World) (hn : L.length = n) (hn6 : n ≤ 1048576) (h1 : Row3 w p (L.map fxV)) :
    Calls Tryz.prog 59 #[.slice p n c] w fun E w' => ∃ v, E = .returned v ∧ TOwn 116 w' w.heap.size v (L.map fxV) ∧ Below w.heap.size w w' := by
  have HL := Hid.in hn
  have H1 := Hid.in h1
  clear hn h1
  go_enter Tryz.func59, Tryz.ntmps59
  go_wp2_with fail
  go_loopw [3, 4] (fun v vi wr => ∃ k : Nat, vi = .int .i64 k ∧ k ≤ n ∧ TOwn 116 wr w.heap.size v ((L.take k).map fxV) ∧ Below w.heap.size w wr) (fun _ vi _ => n - (intOf vi).toNat)
  case atStart => exact ⟨0, rfl, Nat.zero_le _, TOwn.nil _ _ _, below_self _⟩
  case round =>
    obtain ⟨k, rfl, hk, hT, hb⟩ := hrel
    have HT := Hid.in hT
    have HB := Hid.in hb
    have hlen : ((L.take k).map fxV).length = k := by rw [List.length_map, List.length_take, HL.out]; omega
    obtain ⟨pv, cv, hv, -, -, -⟩ := hT.shape
    rw [hlen] at hv
    subst hv
    have HLEN := Hid.in hlen
    clear hT hb hlen
    by_cases hlt : k < n
    · have hk1 : k < L.length := by rw [HL.out]; exact hlt
      obtain ⟨b, o, rfl, hc⟩ := (H1.out.below HB.out) (by rw [List.length_map]; omega)
      obtain ⟨c0, c1, c2⟩ := cells3 hc k (by rw [List.length_map]; exact hk1)
      simp only [List.getElem_map, fxV] at c0 c1 c2
      have HTK : Hid ((L.take (k + 1)).map fxV = (L.take k).map fxV ++ [fxV L[k]]) := by
        rw [List.take_succ_eq_append_getElem hk1, List.map_append]; exact rfl
      clear hc
      generalize (L.take k).map fxV = LQ at *
      generalize L[k] = x at *
      have hl1 : LQ.length ≤ 1048576 := by have := HLEN.out; omega
      go_wp2_with (refine tpush Tryz.elemFix _ rfl _ _ rfl w.heap.size _ LQ rfl (HT.out.alloc _) ⟨wr.heap.size, 0, none⟩ 1 (.int .u8 x.k, .int .i64 x.at_, .string x.name) ⟨rfl, rfl, rfl⟩ rfl (news3 _ _ _) hl1 (by decide) (by have := HB.out.size; simp; omega) ?_; intro v5 w5 hT5 hg5 hb5; have HT5 := Hid.in hT5; have HB5 := Hid.in (hb5 w (below_alloc HB.out _)); clear hT5 hg5 hb5)
      go_roundw
      case rel => exact ⟨k + 1, by go_num, by omega, by rw [HTK.out]; exact HT5.out, HB5.out⟩
      case measure => simp [intOf]; omega
    · have hkn : k = n := by omega
      subst hkn
      have HR : Hid ((L.take k).map fxV = L.map fxV) := by
        rw [List.take_of_length_le (by rw [HL.out]; exact Nat.le_refl _)]; exact rfl
      rw [HR.out] at HT
      go_wp2_with fail
      go_ret
      exact ⟨_, rfl, HT.out, HB.out⟩

set_option maxRecDepth 20000 in
set_option maxHeartbeats 1000000 in
theorem copyMarks_any (p : Option Addr) (n c : Nat) (L : List Mk) (w : World) (hn : L.length = n) (hn6 : n ≤ 1048576) (h1 : Row3 w p (L.map mkV)) :
    Calls Tryz.prog 60 #[.slice p n c] w fun E w' => ∃ v, E = .returned v ∧ TOwn 58 w' w.heap.size v (L.map mkV) ∧ Below w.heap.size w w' := by
  have HL := Hid.in hn
  have H1 := Hid.in h1
  clear hn h1
  go_enter Tryz.func60, Tryz.ntmps60
  go_wp2_with fail
  go_loopw [3, 4] (fun v vi wr => ∃ k : Nat, vi = .int .i64 k ∧ k ≤ n ∧ TOwn 58 wr w.heap.size v ((L.take k).map mkV) ∧ Below w.heap.size w wr) (fun _ vi _ => n - (intOf vi).toNat)
  case atStart => exact ⟨0, rfl, Nat.zero_le _, TOwn.nil _ _ _, below_self _⟩
  case round =>
    obtain ⟨k, rfl, hk, hT, hb⟩ := hrel
    have HT := Hid.in hT
    have HB := Hid.in hb
    have hlen : ((L.take k).map mkV).length = k := by rw [List.length_map, List.length_take, HL.out]; omega
    obtain ⟨pv, cv, hv, -, -, -⟩ := hT.shape
    rw [hlen] at hv
    subst hv
    have HLEN := Hid.in hlen
    clear hT hb hlen
    by_cases hlt : k < n
    · have hk1 : k < L.length := by rw [HL.out]; exact hlt
      obtain ⟨b, o, rfl, hc⟩ := (H1.out.below HB.out) (by rw [List.length_map]; omega)
      obtain ⟨c0, c1, c2⟩ := cells3 hc k (by rw [List.length_map]; exact hk1)
      simp only [List.getElem_map, mkV] at c0 c1 c2
      have HTK : Hid ((L.take (k + 1)).map mkV = (L.take k).map mkV ++ [mkV L[k]]) := by
        rw [List.take_succ_eq_append_getElem hk1, List.map_append]; exact rfl
      clear hc
      generalize (L.take k).map mkV = LQ at *
      generalize L[k] = x at *
      have hl1 : LQ.length ≤ 1048576 := by have := HLEN.out; omega
      go_wp2_with (refine tpush Tryz.elemMark _ rfl _ _ rfl w.heap.size _ LQ rfl (HT.out.alloc _) ⟨wr.heap.size, 0, none⟩ 1 (.int .i64 x.at_, .string x.key, .string x.to_) ⟨rfl, rfl, rfl⟩ rfl (news3 _ _ _) hl1 (by decide) (by have := HB.out.size; simp; omega) ?_; intro v5 w5 hT5 hg5 hb5; have HT5 := Hid.in hT5; have HB5 := Hid.in (hb5 w (below_alloc HB.out _)); clear hT5 hg5 hb5)
      go_roundw
      case rel => exact ⟨k + 1, by go_num, by omega, by rw [HTK.out]; exact HT5.out, HB5.out⟩
      case measure => simp [intOf]; omega
    · have hkn : k = n := by omega
      subst hkn
      have HR : Hid ((L.take k).map mkV = L.map mkV) := by
        rw [List.take_of_length_le (by rw [HL.out]; exact Nat.le_refl _)]; exact rfl
      rw [HR.out] at HT
      go_wp2_with fail
      go_ret
      exact ⟨_, rfl, HT.out, HB.out⟩

end Go.Proofs.YtckpgpgmaccepaaGreat
