/- Texts put together: Ex6, Awake6. -/
import Derived.Test.YtkianldkbfjehaaGreatDoorKzy
import Derived.Test.YtkianldkbfjehaaGreatDoorKzd
import Derived.Test.YtkianldkbfjehaaGreatDoorKzz

/- The chapter's first examples, reckoned; switchyardlaw06.instr. -/
namespace Go.Proofs.YtkianldkbfjehaaGreatDoor
open Go.RowKit

def tA : ByteArray := ⟨#[97]⟩
def tK : ByteArray := ⟨#[107]⟩
def tOut : ByteArray := ⟨#[111, 117, 116]⟩
def xLab (s : ByteArray) : Src := { srcK 1 with name := s }
def xGlo (s : ByteArray) : Src := { srcK 7 with name := s }
def xMrk (s t : ByteArray) : Src := { srcK 3 with name := s, tg := t }
def xI (o a m : Int) (s : ByteArray) : Src := { srcK 2 with o := o, a := a, m := m, name := s }
def ex1 : List Src := [xLab tA, xI 5 1 5 noText, xI 11 0 0 tA, xI 14 2 0 tA, xGlo tA]
def ex2 : List Src := [xI 2 0 0 noText, xMrk tK tOut, xI 3 0 0 noText, xLab tOut, xI 1 0 0 noText]
def ex3 : List Src := [xLab tA, xLab tA]
def ob1 : Ob := ⟨[184, 1, 5, 0, 0, 0, 233, 0, 0, 0, 0, 139, 2, 0, 0, 0, 0], [⟨tA, 0, true⟩], [⟨1, 7, tA⟩, ⟨2, 13, tA⟩], []⟩
def ob2 : Ob := ⟨[144, 15, 31, 68, 0, 0, 0], [⟨tOut, 6, false⟩], [], [⟨1, tK, tOut⟩]⟩
theorem xI_fit (o a m : Int) (s : ByteArray) (h0 : 0 ≤ o) (h1 : o ≤ 255) (h2 : 0 ≤ a) (h3 : a ≤ 255) (h4 : -2147483648 ≤ m) (h5 : m ≤ 2147483647) (h6 : s.size ≤ 1073741824) : Fit (xI o a m s) := { srcK_fit 2 (by decide) (by decide) with o0 := h0, o1 := h1, a0 := h2, a1 := h3, m0 := h4, m1 := h5, nz := h6 }
theorem xLab_fit (s : ByteArray) (h : s.size ≤ 1073741824) : Fit (xLab s) := { srcK_fit 1 (by decide) (by decide) with nz := h }
theorem xGlo_fit (s : ByteArray) (h : s.size ≤ 1073741824) : Fit (xGlo s) := { srcK_fit 7 (by decide) (by decide) with nz := h }
theorem xMrk_fit (s t : ByteArray) (h : s.size ≤ 1073741824) (h' : t.size ≤ 1073741824) : Fit (xMrk s t) := { srcK_fit 3 (by decide) (by decide) with nz := h, tz := h' }
theorem sz_a : tA.size ≤ 1073741824 := by show (1 : Nat) ≤ _; omega
theorem sz_k : tK.size ≤ 1073741824 := by show (1 : Nat) ≤ _; omega
theorem sz_out : tOut.size ≤ 1073741824 := by show (3 : Nat) ≤ _; omega
theorem sz_no : noText.size ≤ 1073741824 := Nat.zero_le _
theorem ex1_fit : ∀ x ∈ ex1, Fit x := by
  intro x hx
  simp only [ex1, List.mem_cons, List.not_mem_nil, or_false] at hx
  rcases hx with rfl | rfl | rfl | rfl | rfl
  · exact xLab_fit _ sz_a
  · exact xI_fit _ _ _ _ (by decide) (by decide) (by decide) (by decide) (by decide) (by decide) sz_no
  · exact xI_fit _ _ _ _ (by decide) (by decide) (by decide) (by decide) (by decide) (by decide) sz_a
  · exact xI_fit _ _ _ _ (by decide) (by decide) (by decide) (by decide) (by decide) (by decide) sz_a
  · exact xGlo_fit _ sz_a
theorem ex2_fit : ∀ x ∈ ex2, Fit x := by
  intro x hx
  simp only [ex2, List.mem_cons, List.not_mem_nil, or_false] at hx
  rcases hx with rfl | rfl | rfl | rfl | rfl
  · exact xI_fit _ _ _ _ (by decide) (by decide) (by decide) (by decide) (by decide) (by decide) sz_no
  · exact xMrk_fit _ _ sz_k sz_out
  · exact xI_fit _ _ _ _ (by decide) (by decide) (by decide) (by decide) (by decide) (by decide) sz_no
  · exact xLab_fit _ sz_out
  · exact xI_fit _ _ _ _ (by decide) (by decide) (by decide) (by decide) (by decide) (by decide) sz_no
theorem ex3_fit : ∀ x ∈ ex3, Fit x := by
  intro x hx
  simp only [ex3, List.mem_cons, List.not_mem_nil, or_false, or_self] at hx
  subst hx
  exact xLab_fit _ sz_a
theorem itoa_5 : Lib.itoa 5 = [53] := by simp [Lib.itoa, Lib.decDigits]
theorem may_lab : mayB (xLab tA) = true := by kernel_rfl
theorem may_labo : mayB (xLab tOut) = true := by kernel_rfl
theorem txt_movi : lineT (xI 5 1 5 noText) = [109, 111, 118, 105, 32, 114, 49, 32, 53] := by
  have h1 : lineT (xI 5 1 5 noText) = [109, 111, 118, 105, 32, 114, 49] ++ (32 :: Lib.itoa 5) := by kernel_rfl
  rw [h1, itoa_5]; rfl
theorem may_movi : mayB (xI 5 1 5 noText) = true := by
  unfold mayB; rw [txt_movi]; kernel_rfl
theorem may_jmp : mayB (xI 11 0 0 tA) = true := by kernel_rfl
theorem may_load : mayB (xI 14 2 0 tA) = true := by kernel_rfl
theorem may_glo : mayB (xGlo tA) = true := by kernel_rfl
theorem may_nop : mayB (xI 2 0 0 noText) = true := by kernel_rfl
theorem may_mrk : mayB (xMrk tK tOut) = true := by kernel_rfl
theorem may_nop5 : mayB (xI 3 0 0 noText) = true := by kernel_rfl
theorem may_halt : mayB (xI 1 0 0 noText) = true := by kernel_rfl
theorem ex1_check : (checkL ex1).1 = 0 := by
  unfold checkL ex1
  rw [if_neg (by decide)]
  simp only [chkAt]
  rw [if_neg (by rw [may_lab]; decide), if_neg (by decide), if_neg (by rw [may_movi]; decide), if_neg (by decide), if_neg (by rw [may_jmp]; decide), if_neg (by decide), if_neg (by rw [may_load]; decide), if_neg (by decide), if_neg (by rw [may_glo]; decide), if_neg (by decide)]
theorem ex2_check : (checkL ex2).1 = 0 := by
  unfold checkL ex2
  rw [if_neg (by decide)]
  simp only [chkAt]
  rw [if_neg (by rw [may_nop]; decide), if_neg (by decide), if_neg (by rw [may_mrk]; decide), if_neg (by decide), if_neg (by rw [may_nop5]; decide), if_neg (by decide), if_neg (by rw [may_labo]; decide), if_neg (by decide), if_neg (by rw [may_halt]; decide), if_neg (by decide)]
theorem ex3_check : (checkL ex3).1 = 0 := by
  unfold checkL ex3
  rw [if_neg (by decide)]
  simp only [chkAt]
  rw [if_neg (by rw [may_lab]; decide), if_neg (by decide), if_neg (by rw [may_lab]; decide), if_neg (by decide)]
theorem lay_of {xs : List Src} (h : (checkL xs).1 = 0) (h' : (placesL 0 xs).2 ≤ 65536) : layE xs = 0 := by
  unfold layE; rw [if_neg (by rw [h]; decide), if_neg (by omega)]
theorem ex1_make : makeE ex1 = (0, 0) ∧ makeO ex1 = ob1 := by
  have h1 := lay_of ex1_check (by decide : (placesL 0 ex1).2 ≤ 65536)
  have h2 : makeE ex1 = (0, 0) := by
    unfold makeE
    rw [if_neg (by rw [ex1_check]; decide), if_neg (by rw [h1]; decide)]
    kernel_rfl
  refine ⟨h2, ?_⟩
  unfold makeO
  rw [h2, if_pos rfl]
  kernel_rfl
theorem ex2_make : makeE ex2 = (0, 0) ∧ makeO ex2 = ob2 := by
  have h1 := lay_of ex2_check (by decide : (placesL 0 ex2).2 ≤ 65536)
  have h2 : makeE ex2 = (0, 0) := by
    unfold makeE
    rw [if_neg (by rw [ex2_check]; decide), if_neg (by rw [h1]; decide)]
    kernel_rfl
  refine ⟨h2, ?_⟩
  unfold makeO
  rw [h2, if_pos rfl]
  kernel_rfl
theorem ex3_make : makeE ex3 = (170, 1) := by
  have h1 := lay_of ex3_check (by decide : (placesL 0 ex3).2 ≤ 65536)
  unfold makeE
  rw [if_neg (by rw [ex3_check]; decide), if_neg (by rw [h1]; decide)]
  have hd : dupAt 0 [] ex3 = some 1 := by kernel_rfl
  simp only [hd]
theorem ob2_right : okO ob2 = true := by
  have := make_right (xs := ex2) (by rw [ex2_make.1])
  rw [ex2_make.2] at this
  exact this

set_option maxRecDepth 20000 in
theorem instr_any (o a n : Int) (s : ByteArray) (w : World) :
    Calls Tryz.prog 36 #[.int .u8 o, .int .u8 a, .int .i32 n, .string s] w fun E w' => E = .returned (.agg (cellsOf (xI o a n s) (.slice none 0 0))) ∧ Below w.heap.size w w' := by
  have hld := load28 (Blk.new w 57 (cellsOf (xI o a n s) (.slice none 0 0))) rfl
  have hnw := new_alloc w (.cells (cellsOf (xI o a n s) (.slice none 0 0)) 57)
  simp only [cellsOf, xI, srcK, noText] at hld hnw ⊢
  go_enter Tryz.func36, Tryz.ntmps36
  go_wp2_with fail
  exact bodyPost_ret (v := .agg #[.int .u8 2, .string s, .string ⟨#[]⟩, .int .u8 o, .int .u8 a, .int .u8 0, .int .i32 n, .int .i64 0, .slice none 0 0]) (by simp [results, Tryz.results36, asAddr, hld]) rfl ⟨rfl, hnw⟩
theorem nine {P : Nat → Prop} (h0 : P 0) (h1 : P 1) (h2 : P 2) (h3 : P 3) (h4 : P 4) (h5 : P 5) (h6 : P 6) (h7 : P 7) (h8 : P 8) : ∀ j, j < 9 → P j := fun j hj => by
  match j, hj with
  | 0, _ => exact h0
  | 1, _ => exact h1
  | 2, _ => exact h2
  | 3, _ => exact h3
  | 4, _ => exact h4
  | 5, _ => exact h5
  | 6, _ => exact h6
  | 7, _ => exact h7
  | 8, _ => exact h8
theorem item_at {w : World} {g off : Nat} {T : TypeId} {C : Array Value} {x : Src} (hB : Blk w g T C) (h : ∀ j, j < 9 → C[off + j]? = (cellsOf x (.slice none 0 0)).toList[j]?) (hd : x.d = []) (hx : Fit x) : ItemIn w g off x :=
  ⟨none, 0, fun j v hv => by
    rw [hd] at hv
    rw [hB.cell, h j (List.getElem?_eq_some_iff.1 hv).1]; exact hv, by rw [hd]; exact fun h => absurd h (Nat.lt_irrefl 0), hx⟩
abbrev ex1C : Array Value := #[.int .u8 1, .string ⟨#[97]⟩, .string ⟨#[]⟩, .int .u8 0, .int .u8 0, .int .u8 0, .int .i32 0, .int .i64 0, .slice none 0 0,
  .int .u8 2, .string ⟨#[]⟩, .string ⟨#[]⟩, .int .u8 5, .int .u8 1, .int .u8 0, .int .i32 5, .int .i64 0, .slice none 0 0,
  .int .u8 2, .string ⟨#[97]⟩, .string ⟨#[]⟩, .int .u8 11, .int .u8 0, .int .u8 0, .int .i32 0, .int .i64 0, .slice none 0 0,
  .int .u8 2, .string ⟨#[97]⟩, .string ⟨#[]⟩, .int .u8 14, .int .u8 2, .int .u8 0, .int .i32 0, .int .i64 0, .slice none 0 0,
  .int .u8 7, .string ⟨#[97]⟩, .string ⟨#[]⟩, .int .u8 0, .int .u8 0, .int .u8 0, .int .i32 0, .int .i64 0, .slice none 0 0]
abbrev ex2C : Array Value := #[.int .u8 2, .string ⟨#[]⟩, .string ⟨#[]⟩, .int .u8 2, .int .u8 0, .int .u8 0, .int .i32 0, .int .i64 0, .slice none 0 0,
  .int .u8 3, .string ⟨#[107]⟩, .string ⟨#[111, 117, 116]⟩, .int .u8 0, .int .u8 0, .int .u8 0, .int .i32 0, .int .i64 0, .slice none 0 0,
  .int .u8 2, .string ⟨#[]⟩, .string ⟨#[]⟩, .int .u8 3, .int .u8 0, .int .u8 0, .int .i32 0, .int .i64 0, .slice none 0 0,
  .int .u8 1, .string ⟨#[111, 117, 116]⟩, .string ⟨#[]⟩, .int .u8 0, .int .u8 0, .int .u8 0, .int .i32 0, .int .i64 0, .slice none 0 0,
  .int .u8 2, .string ⟨#[]⟩, .string ⟨#[]⟩, .int .u8 1, .int .u8 0, .int .u8 0, .int .i32 0, .int .i64 0, .slice none 0 0]
abbrev ex3C : Array Value := #[.int .u8 1, .string ⟨#[97]⟩, .string ⟨#[]⟩, .int .u8 0, .int .u8 0, .int .u8 0, .int .i32 0, .int .i64 0, .slice none 0 0,
  .int .u8 1, .string ⟨#[97]⟩, .string ⟨#[]⟩, .int .u8 0, .int .u8 0, .int .u8 0, .int .i32 0, .int .i64 0, .slice none 0 0]
theorem ex1_items {w : World} {g : Nat} (hB : Blk w g 57 ex1C) : Items w (some ⟨g, 0, none⟩) ex1 := fun _ => ⟨g, 0, rfl, fun i hi => by
  have hf := ex1_fit _ (List.getElem_mem hi)
  match i, hi with
  | 0, _ => exact item_at hB (nine rfl rfl rfl rfl rfl rfl rfl rfl rfl) rfl hf
  | 1, _ => exact item_at hB (nine rfl rfl rfl rfl rfl rfl rfl rfl rfl) rfl hf
  | 2, _ => exact item_at hB (nine rfl rfl rfl rfl rfl rfl rfl rfl rfl) rfl hf
  | 3, _ => exact item_at hB (nine rfl rfl rfl rfl rfl rfl rfl rfl rfl) rfl hf
  | 4, _ => exact item_at hB (nine rfl rfl rfl rfl rfl rfl rfl rfl rfl) rfl hf⟩
theorem ex2_items {w : World} {g : Nat} (hB : Blk w g 57 ex2C) : Items w (some ⟨g, 0, none⟩) ex2 := fun _ => ⟨g, 0, rfl, fun i hi => by
  have hf := ex2_fit _ (List.getElem_mem hi)
  match i, hi with
  | 0, _ => exact item_at hB (nine rfl rfl rfl rfl rfl rfl rfl rfl rfl) rfl hf
  | 1, _ => exact item_at hB (nine rfl rfl rfl rfl rfl rfl rfl rfl rfl) rfl hf
  | 2, _ => exact item_at hB (nine rfl rfl rfl rfl rfl rfl rfl rfl rfl) rfl hf
  | 3, _ => exact item_at hB (nine rfl rfl rfl rfl rfl rfl rfl rfl rfl) rfl hf
  | 4, _ => exact item_at hB (nine rfl rfl rfl rfl rfl rfl rfl rfl rfl) rfl hf⟩
theorem ex3_items {w : World} {g : Nat} (hB : Blk w g 57 ex3C) : Items w (some ⟨g, 0, none⟩) ex3 := fun _ => ⟨g, 0, rfl, fun i hi => by
  have hf := ex3_fit _ (List.getElem_mem hi)
  match i, hi with
  | 0, _ => exact item_at hB (nine rfl rfl rfl rfl rfl rfl rfl rfl rfl) rfl hf
  | 1, _ => exact item_at hB (nine rfl rfl rfl rfl rfl rfl rfl rfl rfl) rfl hf⟩

end Go.Proofs.YtkianldkbfjehaaGreatDoor

/- switchyardlaw06.awake answers true. -/
namespace Go.Proofs.YtkianldkbfjehaaGreatDoor
open Go.RowKit

theorem made1 (g : Nat) (W : World) (hW : Env W) (hX : Items W (some ⟨g, 0, none⟩) ex1) :
    Calls Tryz.prog 8 #[.slice (some ⟨g, 0, none⟩) 5 5] W fun E w' => ∃ pb ps pf pm cb cs cf cm, E = .returned (.tuple #[.agg (obA pb ps pf pm 17 cb 1 cs 2 cf 0 cm), .int .i64 0, .int .i64 0]) ∧ ObIn w' ob1 pb ps pf pm 17 cb 1 cs 2 cf 0 cm ∧ Below W.heap.size W w' := by
  refine (make_any _ 5 5 ex1 W hW rfl (Nat.le_refl _) (by decide) hX).mono ?_
  rintro E w' ⟨⟨vb, vs, vf, vm, rfl, hO⟩, hb⟩
  have hf := make_fit ex1_fit
  rw [ex1_make.2] at hO hf
  obtain ⟨pb, ps, pf, pm, cb, cs, cf, cm, ⟨rfl, rfl, rfl, rfl⟩, hI⟩ := hO.inn hf
  exact ⟨pb, ps, pf, pm, cb, cs, cf, cm, by rw [ex1_make.1]; rfl, hI, hb⟩
theorem made2 (g : Nat) (W : World) (hW : Env W) (hX : Items W (some ⟨g, 0, none⟩) ex2) :
    Calls Tryz.prog 8 #[.slice (some ⟨g, 0, none⟩) 5 5] W fun E w' => ∃ pb ps pf pm cb cs cf cm, E = .returned (.tuple #[.agg (obA pb ps pf pm 7 cb 1 cs 0 cf 1 cm), .int .i64 0, .int .i64 0]) ∧ ObIn w' ob2 pb ps pf pm 7 cb 1 cs 0 cf 1 cm ∧ Below W.heap.size W w' := by
  refine (make_any _ 5 5 ex2 W hW rfl (Nat.le_refl _) (by decide) hX).mono ?_
  rintro E w' ⟨⟨vb, vs, vf, vm, rfl, hO⟩, hb⟩
  have hf := make_fit ex2_fit
  rw [ex2_make.2] at hO hf
  obtain ⟨pb, ps, pf, pm, cb, cs, cf, cm, ⟨rfl, rfl, rfl, rfl⟩, hI⟩ := hO.inn hf
  exact ⟨pb, ps, pf, pm, cb, cs, cf, cm, by rw [ex2_make.1]; rfl, hI, hb⟩
theorem made3 (g : Nat) (W : World) (hW : Env W) (hX : Items W (some ⟨g, 0, none⟩) ex3) :
    Calls Tryz.prog 8 #[.slice (some ⟨g, 0, none⟩) 2 2] W fun E w' => E = .returned (.tuple #[.agg noObj, .int .i64 170, .int .i64 1]) ∧ Below W.heap.size W w' := by
  have hd : dupAt 0 [] ex3 = some 1 := by kernel_rfl
  exact make_sym _ 2 2 ex3 W hW rfl (Nat.le_refl _) (by decide) hX (lay_of ex3_check (by decide)) 170 1 (by decide) (.inl ⟨hd, rfl⟩)
theorem same_self {f : FuncId} {vs : Array Value} {w : World} {α : Type} {L : List α} (h : Calls Tryz.prog f vs w fun E w' => (∃ b, E = .returned (.bool b) ∧ (b = true ↔ L = L)) ∧ ∃ z, w' = w.drewN z) : Calls Tryz.prog f vs w fun E w' => E = .returned (.bool true) ∧ ∃ z, w' = w.drewN z := by
  refine h.mono ?_
  rintro E w' ⟨⟨b, rfl, hb⟩, hz⟩
  exact ⟨by rw [hb.2 rfl], hz⟩
theorem row3_lit1 (w : World) (q : V3) (T : TypeId) : Row3 (w.alloc (.cells #[q.1, q.2.1, q.2.2] T)) (some ⟨w.heap.size, 0, none⟩) [q] := fun _ => ⟨w.heap.size, 0, rfl, fun i hi j hj => by
  have hi0 : i = 0 := by simpa using hi
  subst hi0
  rw [(Blk.new w T _).cell]
  match j, hj with
  | 0, _ => rfl
  | 1, _ => rfl
  | 2, _ => rfl⟩
theorem row3_lit2 (w : World) (q r : V3) (T : TypeId) : Row3 (w.alloc (.cells #[q.1, q.2.1, q.2.2, r.1, r.2.1, r.2.2] T)) (some ⟨w.heap.size, 0, none⟩) [q, r] := fun _ => ⟨w.heap.size, 0, rfl, fun i hi j hj => by
  rw [(Blk.new w T _).cell]
  match i, hi, j, hj with
  | 0, _, 0, _ => rfl
  | 0, _, 1, _ => rfl
  | 0, _, 2, _ => rfl
  | 1, _, 0, _ => rfl
  | 1, _, 1, _ => rfl
  | 1, _, 2, _ => rfl⟩

set_option maxRecDepth 20000 in
set_option maxHeartbeats 2000000 in
theorem awake_any (w : World) (he : Env w) : Calls Tryz.prog 12 #[] w fun E w' => E = .returned (.bool true) ∧ Below w.heap.size w w' := by
  have hI := fun o a n s W => instr_any o a n s W
  simp only [cellsOf, xI, srcK, noText] at hI
  have HE := Hid.in he
  clear he
  go_enter Tryz.func12, Tryz.ntmps12
  go_wp2_with (go_at_call 36; refine Hid.out ?_)
  refine Lib.hid ?_
  refine (hI 5 1 5 _ _).mono ?_
  rintro E w1 ⟨rfl, hb1⟩
  have HB1 := Hid.in hb1
  clear hb1
  go_wp2_with (go_at_call 36; refine Hid.out ?_)
  refine Lib.hid ?_
  refine (hI 11 0 0 _ _).mono ?_
  rintro E w2 ⟨rfl, hb2⟩
  have HB2 := Hid.in (below_step HB1.out hb2)
  clear hb2
  go_wp2_with (go_at_call 36; refine Hid.out ?_)
  refine Lib.hid ?_
  refine (hI 14 2 0 _ _).mono ?_
  rintro E w3 ⟨rfl, hb3⟩
  have HB3 := Hid.in (below_step HB2.out hb3)
  clear hb3
  go_wp2_with (go_at_call 8; refine Hid.out ?_)
  refine Lib.hid ?_
  have HX1 := Hid.in (ex1_items (Blk.new w3 57 ex1C))
  have HY1 := Hid.in (below_alloc HB3.out (.cells ex1C 57))
  refine (made1 w3.heap.size _ (HE.out.below HY1.out) HX1.out).mono ?_
  rintro E w4 ⟨pb, ps, pf, pm, cb, cs, cf, cm, rfl, hO4, hb4⟩
  have HO4 := Hid.in hO4
  have HB4 := Hid.in (below_step HY1.out hb4)
  clear hb4 hO4 HX1 HY1 HB1 HB2 HB3
  go_wp2_with (first
    | (refine step_store_new rfl 29 (.tmp 1) (.tmp 18) rfl rfl rfl (obA pb ps pf pm 17 cb 1 cs 2 cf 0 cm) rfl Tryz.sz29 rfl (obj_one rfl rfl rfl rfl) ?_; refine Hid.out ?_))
  refine Lib.hid ?_
  have HK5 : Hid (Blk (w4.alloc (.cells (obA pb ps pf pm 17 cb 1 cs 2 cf 0 cm) 29)) w4.heap.size 29 (obA pb ps pf pm 17 cb 1 cs 2 cf 0 cm)) := Blk.new w4 29 _
  have HO5 := Hid.in (HO4.out.below (new_alloc w4 (.cells (obA pb ps pf pm 17 cb 1 cs 2 cf 0 cm) 29)))
  have HB5 := Hid.in (below_alloc HB4.out (.cells (obA pb ps pf pm 17 cb 1 cs 2 cf 0 cm) 29))
  generalize w4.alloc (.cells (obA pb ps pf pm 17 cb 1 cs 2 cf 0 cm) 29) = w5 at *
  generalize w4.heap.size = go at *
  clear HO4 HB4
  have HC5 := Hid.in (below_self w5)
  go_wp2_with (go_at_call 36; refine Hid.out ?_)
  refine Lib.hid ?_
  refine (hI 2 0 0 _ _).mono ?_
  rintro E w6 ⟨rfl, hb6⟩
  have HB6 := Hid.in (below_step HB5.out hb6)
  have HC6 := Hid.in (below_step HC5.out hb6)
  clear hb6
  go_wp2_with (go_at_call 36; refine Hid.out ?_)
  refine Lib.hid ?_
  refine (hI 3 0 0 _ _).mono ?_
  rintro E w7 ⟨rfl, hb7⟩
  have HB7 := Hid.in (below_step HB6.out hb7)
  have HC7 := Hid.in (below_step HC6.out hb7)
  clear hb7
  go_wp2_with (go_at_call 36; refine Hid.out ?_)
  refine Lib.hid ?_
  refine (hI 1 0 0 _ _).mono ?_
  rintro E w8 ⟨rfl, hb8⟩
  have HB8 := Hid.in (below_step HB7.out hb8)
  have HC8 := Hid.in (below_step HC7.out hb8)
  clear hb8
  go_wp2_with (go_at_call 8; refine Hid.out ?_)
  refine Lib.hid ?_
  have HX2 := Hid.in (ex2_items (Blk.new w8 57 ex2C))
  have HY2 := Hid.in (below_alloc HB8.out (.cells ex2C 57))
  have HZ2 := Hid.in (below_alloc HC8.out (.cells ex2C 57))
  refine (made2 w8.heap.size _ (HE.out.below HY2.out) HX2.out).mono ?_
  rintro E w9 ⟨qb, qs, qf, qm, db, ds, df, dm, rfl, hO9, hb9⟩
  have HP9 := Hid.in hO9
  have HB9 := Hid.in (below_step HY2.out hb9)
  have HC9 := Hid.in (below_step HZ2.out hb9)
  have HK9 := Hid.in (HK5.out.grow HC9.out)
  have HO9 := Hid.in (HO5.out.below HC9.out)
  clear hb9 hO9 HX2 HY2 HZ2 HB5 HB6 HB7 HB8 HC5 HC6 HC7 HC8 HC9 HK5 HO5
  go_wp2_with (first
    | (refine step_store_new rfl 29 (.tmp 4) (.tmp 29) rfl rfl rfl (obA qb qs qf qm 7 db 1 ds 0 df 1 dm) rfl Tryz.sz29 rfl (obj_one rfl rfl rfl rfl) ?_; refine Hid.out ?_))
  refine Lib.hid ?_
  have HK10 := Hid.in (HK9.out.grow (new_alloc w9 (.cells (obA qb qs qf qm 7 db 1 ds 0 df 1 dm) 29)))
  have HL10 : Hid (Blk (w9.alloc (.cells (obA qb qs qf qm 7 db 1 ds 0 df 1 dm) 29)) w9.heap.size 29 (obA qb qs qf qm 7 db 1 ds 0 df 1 dm)) := Blk.new w9 29 _
  have HO10 := Hid.in (HO9.out.below (new_alloc w9 (.cells (obA qb qs qf qm 7 db 1 ds 0 df 1 dm) 29)))
  have HP10 := Hid.in (HP9.out.below (new_alloc w9 (.cells (obA qb qs qf qm 7 db 1 ds 0 df 1 dm) 29)))
  have HB10 := Hid.in (below_alloc HB9.out (.cells (obA qb qs qf qm 7 db 1 ds 0 df 1 dm) 29))
  generalize w9.alloc (.cells (obA qb qs qf qm 7 db 1 ds 0 df 1 dm) 29) = w10 at *
  generalize w9.heap.size = gp at *
  clear HK9 HO9 HP9 HB9
  go_wp2_with (go_at_call 8; refine Hid.out ?_)
  refine Lib.hid ?_
  have HX3 := Hid.in (ex3_items (Blk.new w10 57 ex3C))
  refine (made3 w10.heap.size _ (HE.out.below (below_alloc HB10.out (.cells ex3C 57))) HX3.out).mono ?_
  rintro E w11 ⟨rfl, hb11⟩
  have HC11 := Hid.in (below_step (new_alloc w10 (.cells ex3C 57)) hb11)
  have HK11 := Hid.in (HK10.out.grow HC11.out)
  have HL11 := Hid.in (HL10.out.grow HC11.out)
  have HO11 := Hid.in (HO10.out.below HC11.out)
  have HP11 := Hid.in (HP10.out.below HC11.out)
  have HB11 := Hid.in (below_step HB10.out HC11.out)
  clear hb11 HX3 HK10 HL10 HO10 HP10 HB10 HC11
  go_wp2_with (first
    | (refine step_store_new rfl 29 (.tmp 7) (.tmp 37) rfl rfl rfl noObj rfl Tryz.sz29 rfl (obj_one rfl rfl rfl rfl) ?_; refine Hid.out ?_))
  refine Lib.hid ?_
  have HK12 := Hid.in (HK11.out.grow (new_alloc w11 (.cells noObj 29)))
  have HL12 := Hid.in (HL11.out.grow (new_alloc w11 (.cells noObj 29)))
  have HO12 := Hid.in (HO11.out.below (new_alloc w11 (.cells noObj 29)))
  have HP12 := Hid.in (HP11.out.below (new_alloc w11 (.cells noObj 29)))
  have HB12 := Hid.in (below_alloc HB11.out (.cells noObj 29))
  generalize w11.alloc (.cells noObj 29) = w12 at *
  clear HK11 HL11 HO11 HP11 HB11
  have o0 : w12.cell? ⟨go, 0, none⟩ = some (.slice pb 17 cb) := HK12.out.cell 0
  have o1 : w12.cell? ⟨go, 1, none⟩ = some (.slice ps 1 cs) := HK12.out.cell 1
  go_wp2_with (go_at_call 32; refine Hid.out ?_)
  refine Lib.hid ?_
  have hS32 : Calls Tryz.prog 32 #[.slice ps 1 cs, .slice (some ⟨w12.heap.size, 0, none⟩) 1 1] (w12.alloc (.cells #[.string ⟨#[97]⟩, .int .i64 0, .bool true] 36)) fun E w' => E = .returned (.bool true) ∧ ∃ z, w' = (w12.alloc (.cells #[.string ⟨#[97]⟩, .int .i64 0, .bool true] 36)).drewN z := same_self (sameSyms_any ps (some ⟨w12.heap.size, 0, none⟩) 1 cs 1 1 ob1.sy ob1.sy _ rfl rfl (by decide) (by decide) (HO12.out.below (new_alloc w12 _)).rs (row3_lit1 w12 (syV ⟨tA, 0, true⟩) 36))
  refine hS32.mono ?_
  rintro E W ⟨rfl, z13, rfl⟩
  clear hS32
  have HW13 : Hid (Below w12.heap.size w12 ((w12.alloc (.cells #[.string ⟨#[97]⟩, .int .i64 0, .bool true] 36)).drewN z13)) := below_draws (new_alloc w12 _) z13
  have HK13 := Hid.in (HK12.out.grow HW13.out)
  have HL13 := Hid.in (HL12.out.grow HW13.out)
  have HO13 := Hid.in (HO12.out.below HW13.out)
  have HP13 := Hid.in (HP12.out.below HW13.out)
  have HB13 := Hid.in (below_step HB12.out HW13.out)
  generalize World.drewN (w12.alloc (.cells #[.string ⟨#[97]⟩, .int .i64 0, .bool true] 36)) z13 = w13 at *
  have o2 : w13.cell? ⟨go, 2, none⟩ = some (.slice pf 2 cf) := HK13.out.cell 2
  clear o0 o1 HK12 HL12 HO12 HP12 HB12
  go_wp2_with (go_at_call 33; refine Hid.out ?_)
  refine Lib.hid ?_
  have hS33 : Calls Tryz.prog 33 #[.slice pf 2 cf, .slice (some ⟨w13.heap.size, 0, none⟩) 2 2] (w13.alloc (.cells #[.int .u8 1, .int .i64 7, .string ⟨#[97]⟩, .int .u8 2, .int .i64 13, .string ⟨#[97]⟩] 39)) fun E w' => E = .returned (.bool true) ∧ ∃ z, w' = (w13.alloc (.cells #[.int .u8 1, .int .i64 7, .string ⟨#[97]⟩, .int .u8 2, .int .i64 13, .string ⟨#[97]⟩] 39)).drewN z := same_self (sameFixes_any pf (some ⟨w13.heap.size, 0, none⟩) 2 cf 2 2 ob1.fx ob1.fx _ rfl rfl (by decide) (by decide) (HO13.out.below (new_alloc w13 _)).rf (row3_lit2 w13 (fxV ⟨1, 7, tA⟩) (fxV ⟨2, 13, tA⟩) 39))
  refine hS33.mono ?_
  rintro E W ⟨rfl, z14, rfl⟩
  clear hS33
  have HW14 : Hid (Below w13.heap.size w13 ((w13.alloc (.cells #[.int .u8 1, .int .i64 7, .string ⟨#[97]⟩, .int .u8 2, .int .i64 13, .string ⟨#[97]⟩] 39)).drewN z14)) := below_draws (new_alloc w13 _) z14
  have HK14 := Hid.in (HK13.out.grow HW14.out)
  have HL14 := Hid.in (HL13.out.grow HW14.out)
  have HO14 := Hid.in (HO13.out.below HW14.out)
  have HP14 := Hid.in (HP13.out.below HW14.out)
  have HB14 := Hid.in (below_step HB13.out HW14.out)
  generalize World.drewN (w13.alloc (.cells #[.int .u8 1, .int .i64 7, .string ⟨#[97]⟩, .int .u8 2, .int .i64 13, .string ⟨#[97]⟩] 39)) z14 = w14 at *
  have o3 : w14.cell? ⟨gp, 3, none⟩ = some (.slice qm 1 dm) := HL14.out.cell 3
  clear o2 HK13 HL13 HO13 HP13 HB13
  go_wp2_with (go_at_call 34; refine Hid.out ?_)
  refine Lib.hid ?_
  have hS34 : Calls Tryz.prog 34 #[.slice qm 1 dm, .slice (some ⟨w14.heap.size, 0, none⟩) 1 1] (w14.alloc (.cells #[.int .i64 1, .string ⟨#[107]⟩, .string ⟨#[111, 117, 116]⟩] 41)) fun E w' => E = .returned (.bool true) ∧ ∃ z, w' = (w14.alloc (.cells #[.int .i64 1, .string ⟨#[107]⟩, .string ⟨#[111, 117, 116]⟩] 41)).drewN z := same_self (sameMarks_any qm (some ⟨w14.heap.size, 0, none⟩) 1 dm 1 1 ob2.mk_ ob2.mk_ _ rfl rfl (by decide) (by decide) (HP14.out.below (new_alloc w14 _)).rm (row3_lit1 w14 (mkV ⟨1, tK, tOut⟩) 41))
  refine hS34.mono ?_
  rintro E W ⟨rfl, z15, rfl⟩
  clear hS34
  have HW15 : Hid (Below w14.heap.size w14 ((w14.alloc (.cells #[.int .i64 1, .string ⟨#[107]⟩, .string ⟨#[111, 117, 116]⟩] 41)).drewN z15)) := below_draws (new_alloc w14 _) z15
  have HK15 := Hid.in (HK14.out.grow HW15.out)
  have HL15 := Hid.in (HL14.out.grow HW15.out)
  have HO15 := Hid.in (HO14.out.below HW15.out)
  have HP15 := Hid.in (HP14.out.below HW15.out)
  have HB15 := Hid.in (below_step HB14.out HW15.out)
  generalize World.drewN (w14.alloc (.cells #[.int .i64 1, .string ⟨#[107]⟩, .string ⟨#[111, 117, 116]⟩] 41)) z15 = w15 at *
  have p0 : w15.cell? ⟨gp, 0, none⟩ = some (.slice qb 7 db) := HL15.out.cell 0
  have p1 : w15.cell? ⟨gp, 1, none⟩ = some (.slice qs 1 ds) := HL15.out.cell 1
  have p2 : w15.cell? ⟨gp, 2, none⟩ = some (.slice qf 0 df) := HL15.out.cell 2
  have p3 : w15.cell? ⟨gp, 3, none⟩ = some (.slice qm 1 dm) := HL15.out.cell 3
  have hR := oright_any ob2 _ _ _ _ _ _ _ _ _ _ _ _ w15 HP15.out
  rw [ob2_right] at hR
  clear o3 HK14 HL14 HO14 HP14 HB14
  go_wp2_with (go_at_call 14; refine hR.mono ?_; rintro E w16 ⟨rfl, hb16⟩; have HB16 := Hid.in (below_step HB15.out hb16); clear hb16)
  go_ret
  exact ⟨rfl, HB16.out⟩

end Go.Proofs.YtkianldkbfjehaaGreatDoor
