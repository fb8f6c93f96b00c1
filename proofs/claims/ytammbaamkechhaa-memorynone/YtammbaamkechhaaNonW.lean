/- MemoryNone: what New did not answer. -/
import Derived.Test.YtammbaamkechhaaAwk
namespace Go.Proofs.Ytammbaamkechhaa
open Go.RowKit

/-- no memory: nil, or one that no call made -/
def NoMem (w : World) (p : Option Addr) : Prop := Calls Try.prog 22 #[.pointer p] w fun e w' => e = .returned (.bool true) ∧ w' = w
theorem noMem_nil (w : World) : NoMem w none := none_nil w
theorem noMem_zero {w : World} {q : Nat} (h : w.heap[q]? = some (.cells #[.bool false, .slice none 0 0] 52 (0, 0))) : NoMem w (some ⟨q, 0, none⟩) := none_zero q w (by simp [World.cell?, h])

theorem len_none (p : Option Addr) (w : World) (hn : NoMem w p) : Calls Try.prog 8 #[.pointer p] w fun e w' => e = .returned (.int .i64 0) ∧ w' = w := by
  unfold NoMem at hn
  go_enter Try.func8, Try.ntmps8
  go_wp2_with (go_at_call 22; refine hn.mono ?_; rintro e w1 ⟨rfl, rfl⟩)
  go_ret
  exact ⟨rfl, rfl⟩
theorem bytes_none (p : Option Addr) (w : World) (hn : NoMem w p) : Calls Try.prog 13 #[.pointer p] w fun e w' => e = .returned (.slice none 0 0) ∧ w' = w := by
  unfold NoMem at hn
  go_enter Try.func13, Try.ntmps13
  go_wp2_with (go_at_call 22; refine hn.mono ?_; rintro e w1 ⟨rfl, rfl⟩)
  go_ret
  exact ⟨rfl, rfl⟩
theorem mcopy_none (p : Option Addr) (w : World) (hn : NoMem w p) : Calls Try.prog 19 #[.pointer p] w fun e w' => e = .returned (.pointer none) ∧ w' = w := by
  unfold NoMem at hn
  go_enter Try.func19, Try.ntmps19
  go_wp2_with (go_at_call 22; refine hn.mono ?_; rintro e w1 ⟨rfl, rfl⟩)
  go_ret
  exact ⟨rfl, rfl⟩
theorem read_none (p : Option Addr) (a n : Int) (w : World) (hn : NoMem w p) : Calls Try.prog 9 #[.pointer p, .int .i64 a, .int .i64 n] w fun e w' => e = .returned (.tuple #[.slice none 0 0, .int .i64 1]) ∧ w' = w := by
  unfold NoMem at hn
  go_enter Try.func9, Try.ntmps9
  go_wp2_with (go_at_call 22; refine hn.mono ?_; rintro e w1 ⟨rfl, rfl⟩)
  go_ret2
  exact ⟨rfl, rfl⟩
theorem write_none (p : Option Addr) (a : Int) (r : Option Addr) (n c : Nat) (w : World) (hn : NoMem w p) : Calls Try.prog 11 #[.pointer p, .int .i64 a, .slice r n c] w fun e w' => e = .returned (.int .i64 1) ∧ w' = w := by
  unfold NoMem at hn
  go_enter Try.func11, Try.ntmps11
  go_wp2_with (go_at_call 22; refine hn.mono ?_; rintro e w1 ⟨rfl, rfl⟩)
  go_ret
  exact ⟨rfl, rfl⟩
set_option maxHeartbeats 400000 in
theorem gran_none (p : Option Addr) (k : Int) (w : World) (hn : NoMem (w.alloc (.cells #[.int .u8 0, .int .u8 0, .int .u8 0, .int .u8 0] 32)) p) : Calls Try.prog 10 #[.pointer p, .int .i64 k] w fun e w' => e = .returned (.tuple #[fourV 0 0 0 0, .int .i64 1]) ∧ Below w.heap.size w w' := by
  unfold NoMem at hn
  go_enter Try.func10, Try.ntmps10
  go_wp2_with (go_at_call 22; refine hn.mono ?_; rintro e w1 ⟨rfl, rfl⟩)
  exact bodyPost_ret (v := .tuple #[fourV 0 0 0 0, .int .i64 1]) (by simp [results, Try.results10, go_sem, fourV]) rfl ⟨rfl, new_alloc _ _⟩

abbrev zc : Obj := .cells #[.int .u8 0, .int .u8 0, .int .u8 0, .int .u8 0] 32

set_option maxRecDepth 4000 in
set_option maxHeartbeats 2000000 in
theorem none_walk (a n : Int) (p : Option Addr) (l c : Nat) (w : World) :
    Calls Try.prog 5 #[.int .i64 a, .int .i64 n, .slice p l c] w fun e w' => e = .returned (.bool true) ∧ Below w.heap.size w w' := by
  go_enter Try.func5, Try.ntmps5
  go_wp2
  generalize hW : (w.alloc (.cells #[.bool false, .slice none 0 0] 52)).alloc (.cells #[.pointer none, .pointer (some ⟨w.heap.size, 0, none⟩)] 22) = W0 at *
  have HT : Hid (W0.heap[w.heap.size + 1]? = some (.cells #[.pointer none, .pointer (some ⟨w.heap.size, 0, none⟩)] 22)) := (by
    rw [← hW, ← size_one w (.cells #[.bool false, .slice none 0 0] 52)]; exact heap_alloc_new _ _)
  have HZ : Hid (W0.heap[w.heap.size]? = some (.cells #[.bool false, .slice none 0 0] 52)) := (by
    rw [← hW]; exact ((new_alloc _ _).block w.heap.size (by rw [size_one]; omega)).trans (heap_alloc_new _ _))
  have HB0 : Hid (Below w.heap.size w W0) := (by rw [← hW]; exact below_alloc (new_alloc _ _) _)
  have HS : Hid (w.heap.size + 1 < W0.heap.size) := Hid.in (by rw [← hW, size_one, size_one]; omega)
  clear hW
  go_loopw [19] (fun i wr => ∃ k : Nat, k ≤ 2 ∧ i = .int .i64 k ∧ Below W0.heap.size W0 wr) (fun i _ => 2 - (intOf i).toNat)
  case atStart => exact ⟨0, by omega, rfl, below_self _⟩
  case round =>
    obtain ⟨k, hk, rfl, hbr⟩ := hrel
    have HBr := Hid.in hbr
    have ht := (hbr.block _ HS.out).trans HT.out
    have hz := (hbr.block _ (Nat.lt_trans (Nat.lt_succ_self _) HS.out)).trans HZ.out
    have c0 : wr.cell? ⟨w.heap.size + 1, 0, none⟩ = some (.pointer none) := by simp [World.cell?, ht]
    have c1 : wr.cell? ⟨w.heap.size + 1, 1, none⟩ = some (.pointer (some ⟨w.heap.size, 0, none⟩)) := by simp [World.cell?, ht]
    clear ht hbr
    rcases (by omega : k = 0 ∨ k = 1 ∨ k = 2) with rfl | rfl | rfl
    · have HNA : Hid (∀ W, Below W0.heap.size W0 W → NoMem W none) := fun W _ => noMem_nil W
      have HN := Hid.in (HNA.out wr HBr.out)
      have HN1 := Hid.in (HNA.out _ (below_alloc HBr.out zc))
      clear hz
      go_wp2_with (first
        | (go_at_call 9; refine (read_none _ a n _ HN.out).mono ?_; rintro e w1 ⟨rfl, rfl⟩)
        | (go_at_call 10; refine (gran_none _ a _ HN1.out).mono ?_; rintro e w2 ⟨rfl, hb⟩; rw [fourV]; have HB2 := Hid.in hb; have HN2 := Hid.in (HNA.out _ (below_alloc (below_step HBr.out hb) zc)); have heq := eq_four_self 0 0 0 0 (w2.alloc zc) (by decide) (by decide) (by decide) (by decide); clear hb HN HN1)
        | (go_at_call 11; refine (write_none _ a p l c _ HN2.out).mono ?_; rintro e w1 ⟨rfl, rfl⟩)
        | (go_at_call 8; refine (len_none _ _ HN2.out).mono ?_; rintro e w1 ⟨rfl, rfl⟩)
        | (go_at_call 13; refine (bytes_none _ _ HN2.out).mono ?_; rintro e w1 ⟨rfl, rfl⟩)
        | (go_at_call 19; refine (mcopy_none _ _ HN2.out).mono ?_; rintro e w1 ⟨rfl, rfl⟩))
      go_roundw
      case rel => exact ⟨1, by omega, rfl, below_alloc (below_step HBr.out HB2.out) _⟩
      case measure => simp [intOf]
    · have HNA : Hid (∀ W, Below W0.heap.size W0 W → NoMem W (some ⟨w.heap.size, 0, none⟩)) := fun W hW => noMem_zero ((hW.block _ (Nat.lt_trans (Nat.lt_succ_self _) HS.out)).trans HZ.out)
      have HN := Hid.in (HNA.out wr HBr.out)
      have HN1 := Hid.in (HNA.out _ (below_alloc HBr.out zc))
      clear hz
      go_wp2_with (first
        | (go_at_call 9; refine (read_none _ a n _ HN.out).mono ?_; rintro e w1 ⟨rfl, rfl⟩)
        | (go_at_call 10; refine (gran_none _ a _ HN1.out).mono ?_; rintro e w2 ⟨rfl, hb⟩; rw [fourV]; have HB2 := Hid.in hb; have HN2 := Hid.in (HNA.out _ (below_alloc (below_step HBr.out hb) zc)); have heq := eq_four_self 0 0 0 0 (w2.alloc zc) (by decide) (by decide) (by decide) (by decide); clear hb HN HN1)
        | (go_at_call 11; refine (write_none _ a p l c _ HN2.out).mono ?_; rintro e w1 ⟨rfl, rfl⟩)
        | (go_at_call 8; refine (len_none _ _ HN2.out).mono ?_; rintro e w1 ⟨rfl, rfl⟩)
        | (go_at_call 13; refine (bytes_none _ _ HN2.out).mono ?_; rintro e w1 ⟨rfl, rfl⟩)
        | (go_at_call 19; refine (mcopy_none _ _ HN2.out).mono ?_; rintro e w1 ⟨rfl, rfl⟩))
      go_roundw
      case rel => exact ⟨2, by omega, rfl, below_alloc (below_step HBr.out HB2.out) _⟩
      case measure => simp [intOf]
    · clear hz
      go_wp2_with (go_at_call 14; refine (awake_any wr).mono ?_; rintro e w1 ⟨rfl, hb⟩; have HB1 := Hid.in hb; clear hb)
      go_ret
      exact ⟨rfl, HB0.out.trans ((below_step HBr.out HB1.out).mono HB0.out.size)⟩

end Go.Proofs.Ytammbaamkechhaa
