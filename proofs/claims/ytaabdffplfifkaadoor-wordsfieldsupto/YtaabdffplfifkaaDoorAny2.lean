/- strings.IndexAny, strings.ContainsAny at a text that has none of the four bytes. -/
import Derived.Test.YtaabdffplfifkaaDoorAny
import Derived.Shelf.Strings.IndexAnyAll
import Derived.Test.YtaabdffplfifkaaDoorShelfC
namespace Go.Proofs.YtaabdffplfifkaaDoor
open Go.RowKit

/-- the iterator over s lies in the first new block -/
structure It (w W : World) (s : ByteArray) (pos : Nat) : Prop where
  lo : Below w.heap.size w W
  it : W.heap[w.heap.size]? = some (.stringIter s pos)

theorem It.start (w : World) (s : ByteArray) : It w (w.iter s 0) s 0 := ⟨iter_below _ _ _, World.iter_heap _ _ _⟩
theorem It.next {w W : World} {s : ByteArray} {pos : Nat} (h : It w W s pos) (pos' : Nat) : It w (W.iterAt w.heap.size s pos') s pos' :=
  ⟨Lib.below_iterAt h.lo (Nat.le_refl _) s pos', Lib.iterAt_heap W _ s pos pos' h.it⟩
theorem It.lt {w W : World} {s : ByteArray} {pos : Nat} (h : It w W s pos) : w.heap.size < W.heap.size := by
  have := h.it
  by_cases hq : w.heap.size < W.heap.size
  · exact hq
  · rw [Array.getElem?_eq_none (by omega)] at this; cases this
theorem It.below {w W W' : World} {s : ByteArray} {pos : Nat} (h : It w W s pos) (hb : Below W.heap.size W W') : It w W' s pos :=
  ⟨h.lo.trans ⟨hb.os, hb.tape, hb.output, hb.size, fun k hk => hb.block k (by have := h.lt; omega)⟩, (hb.block _ h.lt).trans h.it⟩
theorem It.pos {w W : World} {s : ByteArray} {pos : Nat} (h : It w W s pos) : W.iterPos w.heap.size = pos := by simp [World.iterPos, h.it]

theorem rune_no (s : ByteArray) (pos : Nat) (h : pos < s.size) (hn : inFour (s[pos]'h) = false) (W : World) :
    Calls Tryd.prog 60 #[.string four, .int .i32 (Utf8.decode s pos).1] W fun e w' => e = .returned (.int .i64 (-1)) ∧ Below W.heap.size W w' := by
  by_cases ha : (s[pos]'h).toNat < 128
  · rw [decode_ascii s pos h ha]
    have hc := Tryd.strings_IndexRune_ascii four (s[pos]'h).toNat W (by omega) (by omega)
    have e : ((s[pos]'h).toNat : Int).toNat.toUInt8 = s[pos]'h := by simp
    rw [e, four_byte _ hn] at hc
    exact hc.mono fun e w' ⟨h1, h2⟩ => ⟨h1, h2 ▸ Below.refl _ _⟩
  · have hd := decode_high s pos h (by omega)
    exact indexRune_high _ W (by omega)

theorem four_ascii (j : Nat) (b : UInt8) (h : four.data.toList[j]? = some b) : b.toNat < 128 := by
  have hm := List.mem_of_getElem? h
  simp [four] at hm
  rcases hm with rfl | rfl | rfl | rfl <;> decide

set_option maxRecDepth 100000 in
set_option maxHeartbeats 4000000 in
theorem indexAny_short (s : ByteArray) (w : World) (h : ∀ k (hk : k < s.size), inFour (s[k]'hk) = false) (h8 : s.size ≤ 8) :
    Calls Tryd.prog 45 #[.string s, .string four] w fun e w' => e = .returned (.int .i64 (-1)) ∧ Below w.heap.size w w' := by
  have HH : Hid (∀ k (hk : k < s.size), inFour (s[k]'hk) = false) := h
  clear h
  have hfe : (four.toList.isEmpty) = false := by rw [Lib.toList_data]; rfl
  have hf4 : ((four.size : Int) == 1) = false := by decide
  have hU := fun w => Tryd.strings_shouldUseASCIISet (s.size : Int) w
  rw [show decide ((8 : Int) < (s.size : Int)) = false from decide_eq_false (by omega)] at hU
  have hRN : Hid (∀ pos (hp : pos < s.size) W, Calls Tryd.prog 60 #[.string four, .int .i32 (Utf8.decode s pos).1] W fun e w' => e = .returned (.int .i64 (-1)) ∧ Below W.heap.size W w') := fun pos hp W => rune_no s pos hp (HH.out pos hp) W
  go_enter Tryd.func45, Tryd.ntmps45
  go_wp2_with fail
  refine (hU _).mono ?_
  rintro e w1 ⟨rfl, rfl⟩
  go_wp2_with fail
  go_loopw [9, 10] (fun _ _ wr => ∃ pos : Nat, pos ≤ s.size ∧ It w1 wr s pos) (fun _ _ wr => s.size - wr.iterPos w1.heap.size)
  case atStart => exact ⟨0, Nat.zero_le _, It.start _ _⟩
  case round =>
    obtain ⟨pos, hle, hI⟩ := hrel
    have hit := hI.it
    have hip := hI.pos
    have HI : Hid (It w1 wr s pos) := hI
    clear hI
    by_cases hp : pos < s.size
    · have hnx : ∀ ty, (Instr.next (.pointer (some ⟨w1.heap.size, 0, none⟩)) true ty).run Tryd.prog wr = _ := fun ty => Lib.run_next_any_at wr w1.heap.size s pos ty hit hp
      obtain ⟨hd1, hd2, -, -, -⟩ := rune_any s pos hp
      have hR := hRN.out pos hp
      have HI2 : Hid (It w1 (wr.iterAt w1.heap.size s (pos + (Utf8.decode s pos).2)) s (pos + (Utf8.decode s pos).2)) := HI.out.next _
      generalize hrz : (Utf8.decode s pos).1 = r at *
      generalize hdz : (Utf8.decode s pos).2 = d at *
      clear hrz hdz hit
      go_wp2_with fail
      refine (hR _).mono ?_
      rintro e w2 ⟨rfl, hB⟩
      go_wp2_with fail
      go_roundw
      case rel => exact ⟨pos + d, hd2, HI2.out.below hB⟩
      case measure => rw [(HI2.out.below hB).pos, hip]; omega
    · have hnx : ∀ ty, (Instr.next (.pointer (some ⟨w1.heap.size, 0, none⟩)) true ty).run Tryd.prog wr = _ := fun ty => Lib.run_next_end_at wr w1.heap.size s pos ty hit hp
      clear hit
      go_wp2_with fail
      go_ret
      exact ⟨rfl, HI.out.lo⟩

set_option maxRecDepth 100000 in
theorem indexAny_no (s : ByteArray) (w : World) (h : ∀ k (hk : k < s.size), inFour (s[k]'hk) = false) (hs : s.size < 4294967281) :
    Calls Tryd.prog 45 #[.string s, .string four] w fun e w' => e = .returned (.int .i64 (-1)) ∧ Below w.heap.size w w' := by
  by_cases h8 : s.size ≤ 8
  · exact indexAny_short s w h h8
  · have hk : (Tryd.prog.info? 82).map (fun i => (i.zero, i.size)) = some (some (.agg (Array.replicate 256 (.bool false))), 256) := by kernel_rfl
    have hc := Any.strings_IndexAny_long (ρ := Tryd.lays150_ren) { Tryd.lays150 with } (zero_of_info hk).1 (zero_of_info hk).2 s four w (by decide) (by omega) hs (by decide) four_ascii
    rw [Lib.indexAny_none] at hc
    · refine Calls.mono hc fun e w' ⟨h1, h2⟩ => ⟨h1, ?_⟩
      rw [h2]
      exact ((Below.refl _ _).alloc (Nat.le_refl _) _).alloc (by simp) _
    · intro j b hj hb
      have hjs : j < s.size := by rw [Lib.size_eq]; exact hj
      have hq := h j hjs
      have e : b = s[j]'hjs := by
        rw [Lib.data_getElem? s j hjs] at hb
        exact (Option.some.inj hb).symm
      rw [← e] at hq
      simp [inFour] at hq
      simp [four, hq]

set_option maxHeartbeats 1000000 in
theorem containsAny_no (s : ByteArray) (w : World) (h : ∀ k (hk : k < s.size), inFour (s[k]'hk) = false) (hs : s.size < 4294967281) :
    Calls Tryd.prog 22 #[.string s, .string four] w fun e w' => e = .returned (.bool false) ∧ Below w.heap.size w w' := by
  have hI := fun w => indexAny_no s w h hs
  clear h
  generalize four = p at *
  go_enter Tryd.func22, Tryd.ntmps22
  go_wp2_with fail
  refine (hI _).mono ?_
  rintro e w1 ⟨rfl, hB⟩
  go_wp2_with fail
  go_ret
  exact ⟨rfl, hB⟩

end Go.Proofs.YtaabdffplfifkaaDoor
