/- What switchyardref02.Encode answers, for every instruction: the same bytes as the program's. -/
import Derived.Test.YtdbpeigcnhhpmaaRefRight
import Derived.Test.YtdbpeigcnhhpmaaEnc
import Derived.Test.YtdbpeigcnhhpmaaCopy
namespace Go.Proofs.Ytdbpeigcnhhpmaa
open Go.RowKit

theorem rightB_parts {o : Nat} {a b n : Int} (h : rightB o a b n = true) : (1 ≤ o ∧ o < 17) ∧ regB (decide (1 ≤ rg o)) a = true ∧ regB (decide (2 ≤ rg o)) b = true ∧ numB (kd o) n = true := by
  simp only [rightB, Bool.and_eq_true, decide_eq_true_eq] at h
  exact ⟨h.1, h.2.1.1, h.2.1.2, h.2.2⟩
theorem At4.keep {w w' : World} {C g : Nat} {x0 x1 x2 x3 : Value} (h : At4 w g x0 x1 x2 x3) (hb : Below C w w') (hg : g < C) : At4 w' g x0 x1 x2 x3 :=
  ⟨(hb.cell (p := ⟨g, 0, none⟩) hg).trans h.1, (hb.cell (p := ⟨g, 1, none⟩) hg).trans h.2.1, (hb.cell (p := ⟨g, 2, none⟩) hg).trans h.2.2.1, (hb.cell (p := ⟨g, 3, none⟩) hg).trans h.2.2.2⟩
/-- six cells of a variable -/
def At6 (w : World) (g : Nat) (x0 x1 x2 x3 x4 x5 : Value) : Prop :=
  (w.cell? ⟨g, 0, none⟩ = some x0 ∧ w.cell? ⟨g, 1, none⟩ = some x1 ∧ w.cell? ⟨g, 2, none⟩ = some x2) ∧ w.cell? ⟨g, 3, none⟩ = some x3 ∧ w.cell? ⟨g, 4, none⟩ = some x4 ∧ w.cell? ⟨g, 5, none⟩ = some x5
theorem At6.new (w : World) (x0 x1 x2 x3 x4 x5 : Value) (t : TypeId) : At6 (w.alloc (.cells #[x0, x1, x2, x3, x4, x5] t)) w.heap.size x0 x1 x2 x3 x4 x5 := ⟨⟨by simp, by simp, by simp⟩, by simp, by simp, by simp⟩
theorem At6.keep {w w' : World} {C g : Nat} {x0 x1 x2 x3 x4 x5 : Value} (h : At6 w g x0 x1 x2 x3 x4 x5) (hb : Below C w w') (hg : g < C) : At6 w' g x0 x1 x2 x3 x4 x5 :=
  ⟨⟨(hb.cell (p := ⟨g, 0, none⟩) hg).trans h.1.1, (hb.cell (p := ⟨g, 1, none⟩) hg).trans h.1.2.1, (hb.cell (p := ⟨g, 2, none⟩) hg).trans h.1.2.2⟩, (hb.cell (p := ⟨g, 3, none⟩) hg).trans h.2.1, (hb.cell (p := ⟨g, 4, none⟩) hg).trans h.2.2.1, (hb.cell (p := ⟨g, 5, none⟩) hg).trans h.2.2.2⟩
theorem news4 (w : World) (z0 z1 z2 z3 : Int) (t : TypeId) : ∀ j u, (byts [z0, z1, z2, z3])[j]? = some u → (w.alloc (.cells #[.int .u8 z0, .int .u8 z1, .int .u8 z2, .int .u8 z3] t)).cell? (Addr.add ⟨w.heap.size, 0, none⟩ j) = some u := by
  intro j u h
  rw [Go.WideShapes.add_plain]
  match j, h with
  | 0, h => simpa [byts] using h
  | 1, h => simpa [byts] using h
  | 2, h => simpa [byts] using h
  | 3, h => simpa [byts] using h
  | j + 4, h => simp [byts] at h

theorem OwnV.lowerV {w : World} {B B' : Nat} {v : Value} {xs : List Int} (h : OwnV w B v xs) (hB : B' ≤ B) : OwnV w B' v xs := by
  rcases h.shape with ⟨rfl, rfl⟩ | ⟨g, cap, rfl, ho⟩
  · exact OwnV.nil _ _
  · exact (ho.lower hB).val
def bitL (p : Bool) (xs : List Int) : List Int := if p then xs else []

set_option maxHeartbeats 2000000 in
theorem rencode_gen (f L o a b n : Int) (A B M D : Bool) (w : World)
    (hright : ∀ w, Calls Try.prog 32 #[ins o a b n] w fun e w' => e = .returned (.bool true) ∧ Below w.heap.size w w')
    (hfrm : ∀ w, Calls Try.prog 33 #[.int .u8 o] w fun e w' => e = .returned (.tuple #[frm f L A B M D, .bool true]) ∧ Below w.heap.size w w')
    (ho : (o == 3) = false) :
    Calls Try.prog 25 #[ins o a b n] w fun e w' => ∃ v, e = .returned (.tuple #[v, .int .i64 0]) ∧ OwnV w' w.heap.size v ([f] ++ bitL A [a] ++ bitL B [b] ++ bitL M (le4 n)) ∧ Below w.heap.size w w' := by
  obtain ⟨R, hR⟩ : ∃ R, R = [f] ++ bitL A [a] ++ bitL B [b] ++ bitL M (le4 n) := ⟨_, rfl⟩
  rw [← hR]
  have HR : Hid (R = [f] ++ bitL A [a] ++ bitL B [b] ++ bitL M (le4 n)) := hR
  clear hR
  go_enter Try.func25, Try.ntmps25
  go_wp2_with fail
  refine (hright _).mono ?_
  rintro e w1 ⟨rfl, hb1⟩
  have hI := (At4.new w (.int .u8 o) (.int .u8 a) (.int .u8 b) (.int .i32 n) 24).below hb1
  have hbw := below_step (new_alloc w _) hb1
  obtain ⟨i0, i1, i2, i3⟩ := hI
  go_wp2_with fail
  refine (hfrm _).mono ?_
  rintro e w2 ⟨rfl, hb2⟩
  have hI := ((At4.new w (.int .u8 o) (.int .u8 a) (.int .u8 b) (.int .i32 n) 24).below hb1).below hb2
  have hI3 := hI.below (new_alloc w2 (.cells #[.int .u8 f, .int .i64 L, .bool A, .bool B, .bool M, .bool D] 70))
  have hF3 := At6.new w2 (.int .u8 f) (.int .i64 L) (.bool A) (.bool B) (.bool M) (.bool D) 70
  have hbw3 := below_alloc (below_step hbw hb2) (.cells #[.int .u8 f, .int .i64 L, .bool A, .bool B, .bool M, .bool D] 70)
  have l1 : w.heap.size < w2.heap.size := cell_lt hI.1
  clear hb1 hb2 hbw hright hfrm hI i0 i1 i2 i3
  go_upto_region 4 with fail
  have l2 : w2.heap.size < (w2.alloc (.cells #[.int .u8 f, .int .i64 L, .bool A, .bool B, .bool M, .bool D] 70)).heap.size := by simp
  have l3 := Nat.lt_trans l1 l2
  have hsz := hbw3.size
  generalize w2.alloc (.cells #[.int .u8 f, .int .i64 L, .bool A, .bool B, .bool M, .bool D] 70) = w3 at *
  generalize w2.heap.size = gF at *
  have HI3 : Hid (At4 w3 w.heap.size (.int .u8 o) (.int .u8 a) (.int .u8 b) (.int .i32 n)) := hI3
  have HF3 : Hid (At6 w3 gF (.int .u8 f) (.int .i64 L) (.bool A) (.bool B) (.bool M) (.bool D)) := hF3
  have HN : Hid (Below w3.heap.size w3 (w3.alloc (.cells #[.int .u8 f] 5))) := new_alloc w3 _
  have hown0 : OwnV (w3.alloc (.cells #[.int .u8 f] 5)) w3.heap.size (.slice (some ⟨w3.heap.size, 0, none⟩) 1 1) [f] := (Own.lit w3 [f] (by simp [maxLen])).val
  have HB : Hid (Below w.heap.size w w3) := hbw3
  have c0 := hF3.1.1
  go_upto_region 5 with fail
  have hq := hI3.keep HN.out l3
  have hp := hF3.keep HN.out l2
  obtain ⟨i0, i1, i2, i3⟩ := hq
  obtain ⟨⟨f0, f1, f2⟩, f3, f4, f5⟩ := hp
  clear c0
  have hs4 := HN.out.size
  generalize w3.alloc (.cells #[.int .u8 f] 5) = w4 at *
  have hu : 0 ≤ n % 4294967296 ∧ n % 4294967296 ≤ 4294967295 := by omega
  clear hI3 hF3 hbw3 l1
  cases A <;> cases B <;> cases M
  · have hRR : R = [f] := by have := HR.out; simpa [bitL, le4] using this
    have HRR : Hid (R = [f]) := hRR
    clear HR hRR
    go_wp2
    go_ret2
    exact ⟨_, rfl, by rw [HRR.out]; exact hown0.lowerV hsz, HB.out.trans (HN.out.mono hsz)⟩
  · have hRR : R = [f] ++ [n % 256, n % 4294967296 / 256 % 256, n % 4294967296 / 65536 % 256, n % 4294967296 / 16777216] := by have := HR.out; simpa [bitL, le4] using this
    have HRR : Hid (R = [f] ++ [n % 256, n % 4294967296 / 256 % 256, n % 4294967296 / 65536 % 256, n % 4294967296 / 16777216]) := hRR
    clear HR hRR
    go_wp2_with (at_builtin; first | (refine wp_push _ rfl _ _ rfl w3.heap.size _ ([f]) rfl (hown0.alloc _) ⟨w4.heap.size, 0, none⟩ 4 4 [n % 256, n % 4294967296 / 256 % 256, n % 4294967296 / 65536 % 256, n % 4294967296 / 16777216] rfl rfl (news4 _ _ _ _ _ _) (by simp) (by simp; omega) ?_; intro v1 x1 hown1 _ hbel1 _; have hX1 := hbel1 w3 (HN.out.alloc hs4 _); clear hown0 hbel1; obtain ⟨i0, i1, i2, i3⟩ := HI3.out.keep hX1 l3; obtain ⟨⟨f0, f1, f2⟩, f3, f4, f5⟩ := HF3.out.keep hX1 l2; have hz1 := hX1.size))
    go_ret2
    exact ⟨_, rfl, by rw [HRR.out]; exact hown1.lowerV hsz, HB.out.trans (hX1.mono hsz)⟩
  · have hRR : R = [f] ++ [b] := by have := HR.out; simpa [bitL, le4] using this
    have HRR : Hid (R = [f] ++ [b]) := hRR
    clear HR hRR
    go_wp2_with (at_builtin; first | (refine wp_push _ rfl _ _ rfl w3.heap.size _ ([f]) rfl (hown0.alloc _) ⟨w4.heap.size, 0, none⟩ 1 1 [b] rfl rfl (cell_one_new _ _ _) (by simp) (by simp; omega) ?_; intro v1 x1 hown1 _ hbel1 _; have hX1 := hbel1 w3 (HN.out.alloc hs4 _); clear hown0 hbel1; obtain ⟨i0, i1, i2, i3⟩ := HI3.out.keep hX1 l3; obtain ⟨⟨f0, f1, f2⟩, f3, f4, f5⟩ := HF3.out.keep hX1 l2; have hz1 := hX1.size))
    go_ret2
    exact ⟨_, rfl, by rw [HRR.out]; exact hown1.lowerV hsz, HB.out.trans (hX1.mono hsz)⟩
  · have hRR : R = [f] ++ [b] ++ [n % 256, n % 4294967296 / 256 % 256, n % 4294967296 / 65536 % 256, n % 4294967296 / 16777216] := by have := HR.out; simpa [bitL, le4] using this
    have HRR : Hid (R = [f] ++ [b] ++ [n % 256, n % 4294967296 / 256 % 256, n % 4294967296 / 65536 % 256, n % 4294967296 / 16777216]) := hRR
    clear HR hRR
    go_wp2_with (at_builtin; first | (refine wp_push _ rfl _ _ rfl w3.heap.size _ ([f] ++ [b]) rfl (hown1.alloc _) ⟨x1.heap.size, 0, none⟩ 4 4 [n % 256, n % 4294967296 / 256 % 256, n % 4294967296 / 65536 % 256, n % 4294967296 / 16777216] rfl rfl (news4 _ _ _ _ _ _) (by simp) (by simp; omega) ?_; intro v2 x2 hown2 _ hbel2 _; have hX2 := hbel2 w3 (hX1.alloc hz1 _); clear hown1 hbel2; obtain ⟨i0, i1, i2, i3⟩ := HI3.out.keep hX2 l3; obtain ⟨⟨f0, f1, f2⟩, f3, f4, f5⟩ := HF3.out.keep hX2 l2; have hz2 := hX2.size) | (refine wp_push _ rfl _ _ rfl w3.heap.size _ ([f]) rfl (hown0.alloc _) ⟨w4.heap.size, 0, none⟩ 1 1 [b] rfl rfl (cell_one_new _ _ _) (by simp) (by simp; omega) ?_; intro v1 x1 hown1 _ hbel1 _; have hX1 := hbel1 w3 (HN.out.alloc hs4 _); clear hown0 hbel1; obtain ⟨i0, i1, i2, i3⟩ := HI3.out.keep hX1 l3; obtain ⟨⟨f0, f1, f2⟩, f3, f4, f5⟩ := HF3.out.keep hX1 l2; have hz1 := hX1.size))
    go_ret2
    exact ⟨_, rfl, by rw [HRR.out]; exact hown2.lowerV hsz, HB.out.trans (hX2.mono hsz)⟩
  · have hRR : R = [f] ++ [a] := by have := HR.out; simpa [bitL, le4] using this
    have HRR : Hid (R = [f] ++ [a]) := hRR
    clear HR hRR
    go_wp2_with (at_builtin; first | (refine wp_push _ rfl _ _ rfl w3.heap.size _ ([f]) rfl (hown0.alloc _) ⟨w4.heap.size, 0, none⟩ 1 1 [a] rfl rfl (cell_one_new _ _ _) (by simp) (by simp; omega) ?_; intro v1 x1 hown1 _ hbel1 _; have hX1 := hbel1 w3 (HN.out.alloc hs4 _); clear hown0 hbel1; obtain ⟨i0, i1, i2, i3⟩ := HI3.out.keep hX1 l3; obtain ⟨⟨f0, f1, f2⟩, f3, f4, f5⟩ := HF3.out.keep hX1 l2; have hz1 := hX1.size))
    go_ret2
    exact ⟨_, rfl, by rw [HRR.out]; exact hown1.lowerV hsz, HB.out.trans (hX1.mono hsz)⟩
  · have hRR : R = [f] ++ [a] ++ [n % 256, n % 4294967296 / 256 % 256, n % 4294967296 / 65536 % 256, n % 4294967296 / 16777216] := by have := HR.out; simpa [bitL, le4] using this
    have HRR : Hid (R = [f] ++ [a] ++ [n % 256, n % 4294967296 / 256 % 256, n % 4294967296 / 65536 % 256, n % 4294967296 / 16777216]) := hRR
    clear HR hRR
    go_wp2_with (at_builtin; first | (refine wp_push _ rfl _ _ rfl w3.heap.size _ ([f] ++ [a]) rfl (hown1.alloc _) ⟨x1.heap.size, 0, none⟩ 4 4 [n % 256, n % 4294967296 / 256 % 256, n % 4294967296 / 65536 % 256, n % 4294967296 / 16777216] rfl rfl (news4 _ _ _ _ _ _) (by simp) (by simp; omega) ?_; intro v2 x2 hown2 _ hbel2 _; have hX2 := hbel2 w3 (hX1.alloc hz1 _); clear hown1 hbel2; obtain ⟨i0, i1, i2, i3⟩ := HI3.out.keep hX2 l3; obtain ⟨⟨f0, f1, f2⟩, f3, f4, f5⟩ := HF3.out.keep hX2 l2; have hz2 := hX2.size) | (refine wp_push _ rfl _ _ rfl w3.heap.size _ ([f]) rfl (hown0.alloc _) ⟨w4.heap.size, 0, none⟩ 1 1 [a] rfl rfl (cell_one_new _ _ _) (by simp) (by simp; omega) ?_; intro v1 x1 hown1 _ hbel1 _; have hX1 := hbel1 w3 (HN.out.alloc hs4 _); clear hown0 hbel1; obtain ⟨i0, i1, i2, i3⟩ := HI3.out.keep hX1 l3; obtain ⟨⟨f0, f1, f2⟩, f3, f4, f5⟩ := HF3.out.keep hX1 l2; have hz1 := hX1.size))
    go_ret2
    exact ⟨_, rfl, by rw [HRR.out]; exact hown2.lowerV hsz, HB.out.trans (hX2.mono hsz)⟩
  · have hRR : R = [f] ++ [a] ++ [b] := by have := HR.out; simpa [bitL, le4] using this
    have HRR : Hid (R = [f] ++ [a] ++ [b]) := hRR
    clear HR hRR
    go_wp2_with (at_builtin; first | (refine wp_push _ rfl _ _ rfl w3.heap.size _ ([f] ++ [a]) rfl (hown1.alloc _) ⟨x1.heap.size, 0, none⟩ 1 1 [b] rfl rfl (cell_one_new _ _ _) (by simp) (by simp; omega) ?_; intro v2 x2 hown2 _ hbel2 _; have hX2 := hbel2 w3 (hX1.alloc hz1 _); clear hown1 hbel2; obtain ⟨i0, i1, i2, i3⟩ := HI3.out.keep hX2 l3; obtain ⟨⟨f0, f1, f2⟩, f3, f4, f5⟩ := HF3.out.keep hX2 l2; have hz2 := hX2.size) | (refine wp_push _ rfl _ _ rfl w3.heap.size _ ([f]) rfl (hown0.alloc _) ⟨w4.heap.size, 0, none⟩ 1 1 [a] rfl rfl (cell_one_new _ _ _) (by simp) (by simp; omega) ?_; intro v1 x1 hown1 _ hbel1 _; have hX1 := hbel1 w3 (HN.out.alloc hs4 _); clear hown0 hbel1; obtain ⟨i0, i1, i2, i3⟩ := HI3.out.keep hX1 l3; obtain ⟨⟨f0, f1, f2⟩, f3, f4, f5⟩ := HF3.out.keep hX1 l2; have hz1 := hX1.size))
    go_ret2
    exact ⟨_, rfl, by rw [HRR.out]; exact hown2.lowerV hsz, HB.out.trans (hX2.mono hsz)⟩
  · have hRR : R = [f] ++ [a] ++ [b] ++ [n % 256, n % 4294967296 / 256 % 256, n % 4294967296 / 65536 % 256, n % 4294967296 / 16777216] := by have := HR.out; simpa [bitL, le4] using this
    have HRR : Hid (R = [f] ++ [a] ++ [b] ++ [n % 256, n % 4294967296 / 256 % 256, n % 4294967296 / 65536 % 256, n % 4294967296 / 16777216]) := hRR
    clear HR hRR
    go_wp2_with (at_builtin; first | (refine wp_push _ rfl _ _ rfl w3.heap.size _ ([f] ++ [a] ++ [b]) rfl (hown2.alloc _) ⟨x2.heap.size, 0, none⟩ 4 4 [n % 256, n % 4294967296 / 256 % 256, n % 4294967296 / 65536 % 256, n % 4294967296 / 16777216] rfl rfl (news4 _ _ _ _ _ _) (by simp) (by simp; omega) ?_; intro v3 x3 hown3 _ hbel3 _; have hX3 := hbel3 w3 (hX2.alloc hz2 _); clear hown2 hbel3; obtain ⟨i0, i1, i2, i3⟩ := HI3.out.keep hX3 l3; obtain ⟨⟨f0, f1, f2⟩, f3, f4, f5⟩ := HF3.out.keep hX3 l2; have hz3 := hX3.size) | (refine wp_push _ rfl _ _ rfl w3.heap.size _ ([f] ++ [a]) rfl (hown1.alloc _) ⟨x1.heap.size, 0, none⟩ 1 1 [b] rfl rfl (cell_one_new _ _ _) (by simp) (by simp; omega) ?_; intro v2 x2 hown2 _ hbel2 _; have hX2 := hbel2 w3 (hX1.alloc hz1 _); clear hown1 hbel2; obtain ⟨i0, i1, i2, i3⟩ := HI3.out.keep hX2 l3; obtain ⟨⟨f0, f1, f2⟩, f3, f4, f5⟩ := HF3.out.keep hX2 l2; have hz2 := hX2.size) | (refine wp_push _ rfl _ _ rfl w3.heap.size _ ([f]) rfl (hown0.alloc _) ⟨w4.heap.size, 0, none⟩ 1 1 [a] rfl rfl (cell_one_new _ _ _) (by simp) (by simp; omega) ?_; intro v1 x1 hown1 _ hbel1 _; have hX1 := hbel1 w3 (HN.out.alloc hs4 _); clear hown0 hbel1; obtain ⟨i0, i1, i2, i3⟩ := HI3.out.keep hX1 l3; obtain ⟨⟨f0, f1, f2⟩, f3, f4, f5⟩ := HF3.out.keep hX1 l2; have hz1 := hX1.size))
    go_ret2
    exact ⟨_, rfl, by rw [HRR.out]; exact hown3.lowerV hsz, HB.out.trans (hX3.mono hsz)⟩

set_option maxHeartbeats 1000000 in
theorem rencode_five (f L a b n : Int) (A B M D : Bool) (w : World)
    (hright : ∀ w, Calls Try.prog 32 #[ins 3 a b n] w fun e w' => e = .returned (.bool true) ∧ Below w.heap.size w w')
    (hfrm : ∀ w, Calls Try.prog 33 #[.int .u8 3] w fun e w' => e = .returned (.tuple #[frm f L A B M D, .bool true]) ∧ Below w.heap.size w w') :
    Calls Try.prog 25 #[ins 3 a b n] w fun e w' => ∃ v, e = .returned (.tuple #[v, .int .i64 0]) ∧ OwnV w' w.heap.size v ([f] ++ [31, 68, 0, 0]) ∧ Below w.heap.size w w' := by
  obtain ⟨R, hR⟩ : ∃ R, R = [f] ++ [31, 68, 0, 0] := ⟨_, rfl⟩
  rw [← hR]
  have HR : Hid (R = [f] ++ [31, 68, 0, 0]) := hR
  clear hR
  go_enter Try.func25, Try.ntmps25
  go_wp2_with fail
  refine (hright _).mono ?_
  rintro e w1 ⟨rfl, hb1⟩
  have hI := (At4.new w (.int .u8 3) (.int .u8 a) (.int .u8 b) (.int .i32 n) 24).below hb1
  have hbw := below_step (new_alloc w _) hb1
  obtain ⟨i0, i1, i2, i3⟩ := hI
  go_wp2_with fail
  refine (hfrm _).mono ?_
  rintro e w2 ⟨rfl, hb2⟩
  have hI := ((At4.new w (.int .u8 3) (.int .u8 a) (.int .u8 b) (.int .i32 n) 24).below hb1).below hb2
  have hI3 := hI.below (new_alloc w2 (.cells #[.int .u8 f, .int .i64 L, .bool A, .bool B, .bool M, .bool D] 70))
  have hF3 := At6.new w2 (.int .u8 f) (.int .i64 L) (.bool A) (.bool B) (.bool M) (.bool D) 70
  have hbw3 := below_alloc (below_step hbw hb2) (.cells #[.int .u8 f, .int .i64 L, .bool A, .bool B, .bool M, .bool D] 70)
  have l1 : w.heap.size < w2.heap.size := cell_lt hI.1
  clear hb1 hb2 hbw hright hfrm hI i0 i1 i2 i3
  go_upto_region 4 with fail
  have l2 : w2.heap.size < (w2.alloc (.cells #[.int .u8 f, .int .i64 L, .bool A, .bool B, .bool M, .bool D] 70)).heap.size := by simp
  have l3 := Nat.lt_trans l1 l2
  have hsz := hbw3.size
  generalize w2.alloc (.cells #[.int .u8 f, .int .i64 L, .bool A, .bool B, .bool M, .bool D] 70) = w3 at *
  generalize w2.heap.size = gF at *
  have HI3 : Hid (At4 w3 w.heap.size (.int .u8 3) (.int .u8 a) (.int .u8 b) (.int .i32 n)) := hI3
  have HF3 : Hid (At6 w3 gF (.int .u8 f) (.int .i64 L) (.bool A) (.bool B) (.bool M) (.bool D)) := hF3
  have HN : Hid (Below w3.heap.size w3 (w3.alloc (.cells #[.int .u8 f] 5))) := new_alloc w3 _
  have hown0 : OwnV (w3.alloc (.cells #[.int .u8 f] 5)) w3.heap.size (.slice (some ⟨w3.heap.size, 0, none⟩) 1 1) [f] := (Own.lit w3 [f] (by simp [maxLen])).val
  have HB : Hid (Below w.heap.size w w3) := hbw3
  have c0 := hF3.1.1
  go_upto_region 5 with fail
  have hq := hI3.keep HN.out l3
  have hp := hF3.keep HN.out l2
  obtain ⟨i0, i1, i2, i3⟩ := hq
  obtain ⟨⟨f0, f1, f2⟩, f3, f4, f5⟩ := hp
  clear c0
  have hs4 := HN.out.size
  generalize w3.alloc (.cells #[.int .u8 f] 5) = w4 at *
  have hu : 0 ≤ n % 4294967296 ∧ n % 4294967296 ≤ 4294967295 := by omega
  clear hI3 hF3 hbw3 l1
  go_wp2_with (at_builtin; refine wp_push _ rfl _ _ rfl w3.heap.size _ [f] rfl (hown0.alloc _) ⟨w4.heap.size, 0, none⟩ 4 4 [31, 68, 0, 0] rfl rfl (news4 _ _ _ _ _ _) (by simp) (by simp; omega) ?_; intro v1 x1 hown1 _ hbel1 _; have hX1 := hbel1 w3 (HN.out.alloc hs4 _); clear hown0 hbel1)
  go_ret2
  exact ⟨_, rfl, by rw [HR.out]; exact hown1.lowerV hsz, HB.out.trans (hX1.mono hsz)⟩

theorem encL_eq (o : Nat) (a b n : Int) (h1 : 1 ≤ o) (h2 : o < 17) (h3 : o ≠ 3) : [fb o] ++ bitL (hA o) [a] ++ bitL (hB o) [b] ++ bitL (hM o) (le4 n) = encL o a b n := by
  have hc : cdL o = [fb o] := by
    have : ∀ k : Fin 17, 1 ≤ k.1 → k.1 ≠ 3 → cdL k.1 = [fb k.1] := by decide +kernel
    exact this ⟨o, h2⟩ h1 h3
  unfold encL encG bitL hA hB hM
  rw [hc]
  by_cases hk : kd o = 0 <;> simp [hk]

theorem rencode_yes (o : Nat) (a b n : Int) (w : World) (ha : 0 ≤ a ∧ a ≤ 255) (hb : 0 ≤ b ∧ b ≤ 255) (hR : rightB o a b n = true) :
    Calls Try.prog 25 #[ins o a b n] w fun e w' => ∃ v, e = .returned (.tuple #[v, .int .i64 0]) ∧ OwnV w' w.heap.size v (encL o a b n) ∧ Below w.heap.size w w' := by
  obtain ⟨⟨h1, h2⟩, q1, q2, q3⟩ := rightB_parts hR
  have hright : ∀ w, Calls Try.prog 32 #[ins o a b n] w fun e w' => e = .returned (.bool true) ∧ Below w.heap.size w w' := fun w => by
    have := rright_op o a b n w h1 h2 ha hb
    rw [hR] at this
    exact this
  by_cases h3 : o = 3
  · subst h3
    exact rencode_five 15 5 a b n _ _ _ _ w hright (fun w => form_yes 3 w (by decide) (by decide))
  · rw [← encL_eq o a b n h1 h2 h3]
    exact rencode_gen (fb o) (lenN o) o a b n _ _ _ _ w hright (fun w => form_yes o w h1 h2) (by simp; omega)

set_option maxHeartbeats 400000 in
theorem rencode_no (o : Nat) (a b n : Int) (w : World) (ha : 0 ≤ a ∧ a ≤ 255) (hb : 0 ≤ b ∧ b ≤ 255) (hR : rightB o a b n = false) :
    Calls Try.prog 25 #[ins o a b n] w fun e w' => e = .returned (.tuple #[.slice none 0 0, .int .i64 2]) ∧ Below w.heap.size w w' := by
  have hcon := fun w => rright_any o a b n w ha hb
  rw [hR] at hcon
  clear hR
  go_enter Try.func25, Try.ntmps25
  go_wp2_with fail
  refine (hcon _).mono ?_
  rintro e w1 ⟨rfl, hb1⟩
  clear hcon
  go_wp2
  go_ret2
  exact ⟨rfl, below_step (new_alloc w _) hb1⟩
end Go.Proofs.Ytdbpeigcnhhpmaa
