/- Texts put together: Five, Awake5. -/
import Derived.Test.YthjbdbmncfbihaaDoorKt
import Derived.Test.YthjbdbmncfbihaaDoorKh
import Derived.Test.YthjbdbmncfbihaaDoorKa

/- switchyardlaw05.instr, five; the chapter's items, reckoned. -/
namespace Go.Proofs.YthjbdbmncfbihaaDoor
open Go.RowKit

def xIns (o : Int) : Src := { srcK 2 with o := o }
def xLabA : Src := { srcK 1 with name := ⟨#[97]⟩ }
def xAl (n : Int) : Src := { srcK 6 with n := n }
def xBy12 : Src := { srcK 4 with d := [1, 2] }
def fiveL : List Src := [xLabA, xIns 3, xAl 4, xBy12, xIns 13]
theorem xIns_fit (o : Int) (h0 : 0 ≤ o) (h1 : o ≤ 255) : Fit (xIns o) := { srcK_fit 2 (by decide) (by decide) with o0 := h0, o1 := h1 }
theorem xLabA_fit : Fit xLabA := { srcK_fit 1 (by decide) (by decide) with nz := by show (1 : Nat) ≤ _; omega }
theorem xAl_fit (n : Int) (h0 : -9223372036854775808 ≤ n) (h1 : n ≤ 9223372036854775807) : Fit (xAl n) := { srcK_fit 6 (by decide) (by decide) with n0 := h0, n1 := h1 }
theorem xBy12_fit : Fit xBy12 := { srcK_fit 4 (by decide) (by decide) with d := byt_of [1, 2] (by decide), dz := by show (2 : Nat) ≤ _; omega }

set_option maxRecDepth 20000 in
theorem instr_any (o : Int) (w : World) :
    Calls Tryd.prog 6 #[.int .u8 o] w fun E w' => E = .returned (.agg (cellsOf (xIns o) (.slice none 0 0))) ∧ Below w.heap.size w w' := by
  have hld := load28 (Blk.new w 31 (cellsOf (xIns o) (.slice none 0 0))) rfl
  have hnw := new_alloc w (.cells (cellsOf (xIns o) (.slice none 0 0)) 31)
  simp only [cellsOf, xIns, srcK, noText] at hld hnw ⊢
  go_enter Tryd.func6, Tryd.ntmps6
  go_wp2_with fail
  exact bodyPost_ret (v := .agg #[.int .u8 2, .string ⟨#[]⟩, .string ⟨#[]⟩, .int .u8 o, .int .u8 0, .int .u8 0, .int .i32 0, .int .i64 0, .slice none 0 0]) (by simp [results, Tryd.results6, asAddr, hld]) rfl ⟨rfl, hnw⟩
theorem nine {P : Nat → Prop} (h0 : P 0) (h1 : P 1) (h2 : P 2) (h3 : P 3) (h4 : P 4) (h5 : P 5) (h6 : P 6) (h7 : P 7) (h8 : P 8) : ∀ j, j < 9 → P j := fun j hj => by
  match j, hj with
  | 0, _ => exact h0
  | 1, _ => exact h1
  | 2, _ => exact h2
  | 3, _ => exact h3
  | 4, _ => exact h4
  | 5, _ => exact h5
  | 6, _ => exact h6
  | 7, _ => exact h7
  | 8, _ => exact h8
theorem item_at {w : World} {g off : Nat} {T : TypeId} {C : Array Value} {x : Src} {q : Option Addr} {e : Nat} (hB : Blk w g T C) (h : ∀ j, j < 9 → C[off + j]? = (cellsOf x (.slice q x.d.length e)).toList[j]?) (hr : Row w q x.d) (hx : Fit x) : ItemIn w g off x :=
  ⟨q, e, fun j v hv => by rw [hB.cell, h j (List.getElem?_eq_some_iff.1 hv).1]; exact hv, hr, hx⟩
abbrev five45 (gd : Nat) : Array Value := #[.int .u8 1, .string ⟨#[97]⟩, .string ⟨#[]⟩, .int .u8 0, .int .u8 0, .int .u8 0, .int .i32 0, .int .i64 0, .slice none 0 0,
  .int .u8 2, .string ⟨#[]⟩, .string ⟨#[]⟩, .int .u8 3, .int .u8 0, .int .u8 0, .int .i32 0, .int .i64 0, .slice none 0 0,
  .int .u8 6, .string ⟨#[]⟩, .string ⟨#[]⟩, .int .u8 0, .int .u8 0, .int .u8 0, .int .i32 0, .int .i64 4, .slice none 0 0,
  .int .u8 4, .string ⟨#[]⟩, .string ⟨#[]⟩, .int .u8 0, .int .u8 0, .int .u8 0, .int .i32 0, .int .i64 0, .slice (some ⟨gd, 0, none⟩) 2 2,
  .int .u8 2, .string ⟨#[]⟩, .string ⟨#[]⟩, .int .u8 13, .int .u8 0, .int .u8 0, .int .i32 0, .int .i64 0, .slice none 0 0]
theorem five_items {w : World} {g gd : Nat} (hB : Blk w g 31 (five45 gd)) (hr : Row w (some ⟨gd, 0, none⟩) [1, 2]) : Items w (some ⟨g, 0, none⟩) fiveL := fun _ => ⟨g, 0, rfl, fun i hi => by
  match i, hi with
  | 0, _ => exact item_at (q := none) (e := 0) hB (nine rfl rfl rfl rfl rfl rfl rfl rfl rfl) (fun h => absurd h (Nat.lt_irrefl 0)) xLabA_fit
  | 1, _ => exact item_at (q := none) (e := 0) hB (nine rfl rfl rfl rfl rfl rfl rfl rfl rfl) (fun h => absurd h (Nat.lt_irrefl 0)) (xIns_fit 3 (by decide) (by decide))
  | 2, _ => exact item_at (q := none) (e := 0) hB (nine rfl rfl rfl rfl rfl rfl rfl rfl rfl) (fun h => absurd h (Nat.lt_irrefl 0)) (xAl_fit 4 (by decide) (by decide))
  | 3, _ => exact item_at (q := some ⟨gd, 0, none⟩) (e := 2) hB (nine rfl rfl rfl rfl rfl rfl rfl rfl rfl) hr xBy12_fit
  | 4, _ => exact item_at (q := none) (e := 0) hB (nine rfl rfl rfl rfl rfl rfl rfl rfl rfl) (fun h => absurd h (Nat.lt_irrefl 0)) (xIns_fit 13 (by decide) (by decide))⟩

set_option maxRecDepth 20000 in
theorem five_any (w : World) :
    Calls Tryd.prog 14 #[] w fun E w' => ∃ g, E = .returned (.slice (some ⟨g, 0, none⟩) 5 5) ∧ Items w' (some ⟨g, 0, none⟩) fiveL ∧ Below w.heap.size w w' := by
  have hI := fun o W => instr_any o W
  simp only [cellsOf, xIns, srcK, noText] at hI
  go_enter Tryd.func14, Tryd.ntmps14
  go_wp2_with (go_at_call 6; first | (refine (hI 3 _).mono ?_; rintro E w1 ⟨rfl, hb1⟩) | (refine (hI 13 _).mono ?_; rintro E w2 ⟨rfl, hb2⟩))
  go_ret
  have hD : Row (w1.alloc (.cells #[.int .u8 1, .int .u8 2] 5)) (some ⟨w1.heap.size, 0, none⟩) [1, 2] := (Own.lit w1 [1, 2] (by decide)).row
  exact ⟨_, rfl, five_items (Blk.new w2 31 _) ((hD.below hb2).below (new_alloc w2 _)), below_alloc (below_step (below_alloc hb1 _) hb2) _⟩

theorem itoa_4 : Lib.itoa 4 = [52] := by simp [Lib.itoa, Lib.decDigits]
theorem itoa_1 : Lib.itoa 1 = [49] := by simp [Lib.itoa, Lib.decDigits]
theorem itoa_2 : Lib.itoa 2 = [50] := by simp [Lib.itoa, Lib.decDigits]
theorem may_labA : mayB xLabA = true := by kernel_rfl
theorem may_nop5 : mayB (xIns 3) = true := by kernel_rfl
theorem may_ret : mayB (xIns 13) = true := by kernel_rfl
theorem txt_al4 : lineT (xAl 4) = [97, 108, 105, 103, 110, 32, 52] := by
  have h1 : lineT (xAl 4) = [97, 108, 105, 103, 110] ++ (32 :: Lib.itoa 4) := by kernel_rfl
  rw [h1, itoa_4]; rfl
theorem txt_by12 : lineT xBy12 = [98, 121, 116, 101, 32, 49, 32, 50] := by
  have h1 : lineT xBy12 = [98, 121, 116, 101] ++ (32 :: Lib.itoa 1) ++ (32 :: Lib.itoa 2) := by kernel_rfl
  rw [h1, itoa_1, itoa_2]; rfl
theorem may_al4 : mayB (xAl 4) = true := by
  unfold mayB; rw [txt_al4]; kernel_rfl
theorem may_by12 : mayB xBy12 = true := by
  unfold mayB; rw [txt_by12]; kernel_rfl
theorem five_check : (checkL fiveL).1 = 0 := by
  unfold checkL fiveL
  rw [if_neg (by decide)]
  simp only [chkAt]
  rw [if_neg (by rw [may_labA]; decide), if_neg (by decide), if_neg (by rw [may_nop5]; decide), if_neg (by decide), if_neg (by rw [may_al4]; decide), if_neg (by decide), if_neg (by rw [may_by12]; decide), if_neg (by decide), if_neg (by rw [may_ret]; decide), if_neg (by decide)]
theorem five_places : placesL 0 fiveL = ([0, 0, 5, 8, 10], 11) := by kernel_rfl
theorem five_bytes : bytesL 0 fiveL = [15, 31, 68, 0, 0, 0, 0, 0, 1, 2, 195] := by kernel_rfl
theorem five_lay : layE fiveL = 0 ∧ endI fiveL = 11 ∧ placesI fiveL = [0, 0, 5, 8, 10] ∧ bytesI fiveL = [15, 31, 68, 0, 0, 0, 0, 0, 1, 2, 195] := by
  have h1 : layE fiveL = 0 := by
    unfold layE; rw [five_check, if_neg (by decide), five_places, if_neg (by decide)]
  refine ⟨h1, ?_, ?_, ?_⟩
  · unfold endI; rw [if_pos h1, five_places]
  · unfold placesI; rw [if_pos h1, five_places]; rfl
  · unfold bytesI; rw [if_pos h1, five_bytes]

end Go.Proofs.YthjbdbmncfbihaaDoor

/- switchyardlaw05.awake answers true. -/
namespace Go.Proofs.YthjbdbmncfbihaaDoor
open Go.RowKit

set_option maxRecDepth 20000 in
set_option maxHeartbeats 1000000 in
theorem awake_any (w : World) (he : Env w) : Calls Tryd.prog 8 #[] w fun E w' => E = .returned (.bool true) ∧ Below w.heap.size w w' := by
  obtain ⟨l1, l2, l3, l4⟩ := five_lay
  have hF := fun W => five_any W
  have hP := fun W g hW hX => places_any (some ⟨g, 0, none⟩) 5 5 fiveL W hW rfl (Nat.le_refl _) (by decide) hX
  have hB := fun W g hW hX => bytes_any (some ⟨g, 0, none⟩) 5 5 fiveL W hW rfl (Nat.le_refl _) (by decide) hX
  unfold PlacesIs at hP
  unfold BytesIs at hB
  rw [l1, l2, l3] at hP
  rw [l1, l4] at hB
  have HE := Hid.in he
  clear he l1 l2 l3 l4
  go_enter Tryd.func8, Tryd.ntmps8
  go_wp2_with (first
    | (go_at_call 14; refine (hF _).mono ?_; rintro E w1 ⟨g1, rfl, hx1, hb1⟩; have HX1 := Hid.in hx1; have HB1 := Hid.in hb1; have HE1 := Hid.in (HE.out.below hb1); clear hx1 hb1)
    | (go_at_call 5; refine (hP _ _ HE1.out HX1.out).mono ?_; rintro E w2 ⟨v2, rfl, hv2, hb2⟩; refine Hid.out ?_))
  refine Lib.hid ?_
  obtain ⟨p2, c2, hv, hr2, -, -⟩ := hv2.slice
  have hv' : v2 = .slice p2 5 c2 := hv
  subst hv'
  have HR2 := Hid.in hr2
  have HB2 := Hid.in (below_step HB1.out hb2)
  have HE2 := Hid.in (HE1.out.below hb2)
  clear hv hv2 hb2 hr2 hP HX1 HB1 HE1
  go_wp2_with (first
    | (go_at_call 14; refine (hF _).mono ?_; rintro E w3 ⟨g3, rfl, hx3, hb3⟩; have HX3 := Hid.in hx3; have HB3 := Hid.in (below_step HB2.out hb3); have HE3 := Hid.in (HE2.out.below hb3); have HR3 := Hid.in (HR2.out.below hb3); clear hx3 hb3)
    | (go_at_call 7; refine (hB _ _ HE3.out HX3.out).mono ?_; rintro E w4 ⟨v4, rfl, hv4, hb4⟩; refine Hid.out ?_))
  refine Lib.hid ?_
  obtain ⟨p4, c4, hv, hr4, -⟩ := hv4.slice
  have hv' : v4 = .slice p4 11 c4 := hv
  subst hv'
  have HR4 := Hid.in hr4
  have HB4 := Hid.in (below_step HB3.out hb4)
  have HI4 := Hid.in (HR3.out.below hb4)
  clear hv hv4 hb4 hr4 hB HX3 HB3 HE3 HR3 HR2 HB2 HE2
  have hS := sameInts_self p2 (some ⟨w4.heap.size, 0, none⟩) 5 c2 5 [0, 0, 5, 8, 10] (w4.alloc (.cells #[.int .i64 0, .int .i64 0, .int .i64 5, .int .i64 8, .int .i64 10] 3)) (by decide) rfl (HI4.out.below (new_alloc w4 _)) (GOwn.lit 3 w4 [.int .i64 0, .int .i64 0, .int .i64 5, .int .i64 8, .int .i64 10] (by decide)).row
  have HA := Hid.in (below_alloc HB4.out (.cells #[.int .i64 0, .int .i64 0, .int .i64 5, .int .i64 8, .int .i64 10] 3))
  have HR5 := Hid.in (HR4.out.below (new_alloc w4 (.cells #[.int .i64 0, .int .i64 0, .int .i64 5, .int .i64 8, .int .i64 10] 3)))
  go_wp2_with (first
    | (go_at_call 15; refine hS.mono ?_; rintro E w5 ⟨rfl, m5, rfl⟩; refine Hid.out ?_))
  refine Lib.hid ?_
  have HA5 := Hid.in (below_draws HA.out m5)
  have HR6 := Hid.in (HR5.out.drewN m5)
  generalize World.drewN (w4.alloc (.cells #[.int .i64 0, .int .i64 0, .int .i64 5, .int .i64 8, .int .i64 10] 3)) m5 = w6 at *
  clear hS HA HR5 HR4 HI4
  have hS := sameBytes_any p4 (some ⟨w6.heap.size, 0, none⟩) 11 c4 11 11 [15, 31, 68, 0, 0, 0, 0, 0, 1, 2, 195] [15, 31, 68, 0, 0, 0, 0, 0, 1, 2, 195] (w6.alloc (.cells #[.int .u8 15, .int .u8 31, .int .u8 68, .int .u8 0, .int .u8 0, .int .u8 0, .int .u8 0, .int .u8 0, .int .u8 1, .int .u8 2, .int .u8 195] 5)) rfl rfl (by decide) (HR6.out.below (new_alloc w6 _)) (Own.lit w6 [15, 31, 68, 0, 0, 0, 0, 0, 1, 2, 195] (by decide)).row
  rw [sameB_self] at hS
  go_wp2_with (go_at_call 16; refine hS.mono ?_; rintro E w7 ⟨rfl, m7, rfl⟩)
  go_ret
  exact ⟨rfl, below_draws (below_alloc HA5.out _) m7⟩

end Go.Proofs.YthjbdbmncfbihaaDoor
