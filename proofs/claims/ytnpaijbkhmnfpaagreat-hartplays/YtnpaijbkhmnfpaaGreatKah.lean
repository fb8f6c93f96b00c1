/- Texts put together: Dec, Spec, RefForm, RefOps, RefRight, RefEnc. -/
import Derived.Test.YtnpaijbkhmnfpaaGreatKag
import Derived.Test.YtnpaijbkhmnfpaaGreatKab

/- What isa.Decode answers, for every slice of bytes. -/
namespace Go.Proofs.YtnpaijbkhmnfpaaGreat
open Go.RowKit

abbrev decT (o a b n l e : Int) : Value := .tuple #[ins o a b n, .int .i64 l, .int .i64 e]

theorem At4.stored {w : World} {g : Nat} {z0 z1 z2 z3 : Value} (h : At4 w g z0 z1 z2 z3) (x0 x1 x2 x3 : Value) :
    At4 ((((w.setCell ⟨g, 0, none⟩ x0).setCell ⟨g, 1, none⟩ x1).setCell ⟨g, 2, none⟩ x2).setCell ⟨g, 3, none⟩ x3) g x0 x1 x2 x3 := by
  obtain ⟨d0, d1, d2, d3⟩ := h
  refine ⟨?_, ?_, ?_, ?_⟩
  · exact (cs_other (by decide)).trans ((cs_other (by decide)).trans ((cs_other (by decide)).trans (World.cell?_setCell_same _ _ _ d0)))
  · exact (cs_other (by decide)).trans ((cs_other (by decide)).trans (World.cell?_setCell_same _ _ _ ((cs_other (by decide)).trans d1)))
  · exact (cs_other (by decide)).trans (World.cell?_setCell_same _ _ _ ((cs_other (by decide)).trans ((cs_other (by decide)).trans d2)))
  · exact World.cell?_setCell_same _ _ _ ((cs_other (by decide)).trans ((cs_other (by decide)).trans ((cs_other (by decide)).trans d3)))
theorem below_stored {w0 w : World} {g : Nat} (h : Below w0.heap.size w0 w) (hg : w0.heap.size ≤ g) (x0 x1 x2 x3 : Value) :
    Below w0.heap.size w0 ((((w.setCell ⟨g, 0, none⟩ x0).setCell ⟨g, 1, none⟩ x1).setCell ⟨g, 2, none⟩ x2).setCell ⟨g, 3, none⟩ x3) :=
  (((h.setCell hg _).setCell hg _).setCell hg _).setCell hg _
theorem load4 {w : World} {g : Nat} {x0 x1 x2 x3 : Value} (h : At4 w g x0 x1 x2 x3) : (loadVar 117 ⟨g, 0, none⟩).run Tryz.prog w = .ok (.agg #[x0, x1, x2, x3]) w := by
  obtain ⟨d0, d1, d2, d3⟩ := h
  simp [go_sem, d0, d1, d2, d3]

set_option maxHeartbeats 400000 in
theorem dec_empty (p : Option Addr) (cp : Nat) (w : World) :
    Calls Tryz.prog 70 #[.slice p 0 cp] w fun e w' => e = .returned (decT 0 0 0 0 0 4) ∧ Below w.heap.size w w' := by
  go_enter Tryz.func70, Tryz.ntmps70
  go_wp2
  exact bodyPost_ret (v := decT 0 0 0 0 0 4) (by simp [results, Tryz.results70, go_sem]) rfl ⟨rfl, new_alloc _ _⟩

set_option maxHeartbeats 1000000 in
theorem dec_short (o : Nat) (h1 : 1 ≤ o) (h2 : o < 17) (b f n cp : Nat) (w : World) (hn : n ≤ 140737488355328) (h0 : 0 < n) (hl : n < lenN o) (hcell : w.cell? ⟨b, f, none⟩ = some (.int .u8 (fb o))) :
    Calls Tryz.prog 70 #[.slice (some ⟨b, f, none⟩) n cp] w fun e w' => e = .returned (decT 0 0 0 0 0 4) ∧ Below w.heap.size w w' := by
  have c0 := cell_push hcell
  have hcon := fun w => len_yes o w h1 h2
  have hd : ((n : Int) == 0) = false := by simp; omega
  generalize fb o = z at *
  generalize lenN o = L at *
  clear hcell h1 h2
  go_enter Tryz.func70, Tryz.ntmps70
  go_wp2_with fail
  refine (hcon _).mono ?_
  rintro e w1 ⟨rfl, hb1⟩
  have hat := (At4.new w (.int .u8 0) (.int .u8 0) (.int .u8 0) (.int .i32 0) 117).below hb1
  have hfr : ∀ i, w1.frozen? ⟨w.heap.size, i, none⟩ = false := fun i => (hb1.frozen (p := ⟨w.heap.size, i, none⟩) (by simp)).trans (by simp)
  have hbw := below_step (new_alloc w _) hb1
  clear hb1 c0 hcon
  have HAT : Hid (At4 w1 w.heap.size (.int .u8 0) (.int .u8 0) (.int .u8 0) (.int .i32 0)) := hat
  obtain ⟨r0, r1, r2, r3⟩ := hat
  have hld := load4 (HAT.out.stored (.int .u8 0) (.int .u8 0) (.int .u8 0) (.int .i32 0))
  go_wp2
  exact bodyPost_ret (v := decT 0 0 0 0 0 4) (by simp [results, Tryz.results70, asAddr, hld]) rfl ⟨rfl, below_stored hbw (Nat.le_refl _) _ _ _ _⟩

set_option maxHeartbeats 1000000 in
theorem dec_none (z : Int) (hno : ∀ o, 1 ≤ o → o < 17 → fb o ≠ z) (b f n cp : Nat) (w : World) (hn : n ≤ 140737488355328) (h0 : 0 < n) (hcell : w.cell? ⟨b, f, none⟩ = some (.int .u8 z)) :
    Calls Tryz.prog 70 #[.slice (some ⟨b, f, none⟩) n cp] w fun e w' => e = .returned (decT 0 0 0 0 0 120) ∧ Below w.heap.size w w' := by
  have c0 := cell_push hcell
  have hlb := cell_lt hcell
  have hcon := fun w => len_no z w hno
  have hcon2 := fun w => opOf_no z w hno
  have hd : ((n : Int) == 0) = false := by simp; omega
  have HCC : Hid (w.cell? ⟨b, f, none⟩ = some (.int .u8 z)) := hcell
  clear hcell hno
  go_enter Tryz.func70, Tryz.ntmps70
  go_wp2_with fail
  refine (hcon _).mono ?_
  rintro e w1 ⟨rfl, hb1⟩
  have hat := (At4.new w (.int .u8 0) (.int .u8 0) (.int .u8 0) (.int .i32 0) 117).below hb1
  have hfr : ∀ i, w1.frozen? ⟨w.heap.size, i, none⟩ = false := fun i => (hb1.frozen (p := ⟨w.heap.size, i, none⟩) (by simp)).trans (by simp)
  have hbw := below_step (new_alloc w _) hb1
  have c1 := (hbw.cell (p := ⟨b, f, none⟩) hlb).trans HCC.out
  clear hb1 c0 hcon
  go_wp2_with fail
  refine (hcon2 _).mono ?_
  rintro e w2 ⟨rfl, hb2⟩
  have hat2 := hat.below hb2
  have hl2 : w.heap.size < w1.heap.size := cell_lt hat.1
  have hfr2 : ∀ i, w2.frozen? ⟨w.heap.size, i, none⟩ = false := fun i => (hb2.frozen (p := ⟨w.heap.size, i, none⟩) hl2).trans (hfr i)
  have hbw2 := below_step hbw hb2
  have HAT : Hid (At4 w2 w.heap.size (.int .u8 0) (.int .u8 0) (.int .u8 0) (.int .i32 0)) := hat2
  obtain ⟨r0, r1, r2, r3⟩ := hat2
  have hld := load4 (HAT.out.stored (.int .u8 0) (.int .u8 0) (.int .u8 0) (.int .i32 0))
  clear hat hfr hb2 hbw c1 hcon2 hl2
  go_wp2
  exact bodyPost_ret (v := decT 0 0 0 0 0 120) (by simp [results, Tryz.results70, asAddr, hld]) rfl ⟨rfl, below_stored hbw2 (Nat.le_refl _) _ _ _ _⟩

/-- fields, for an op of the table -/
theorem fields_op (o : Nat) (h2 : o < 17) (b f n cp : Nat) (xs : List Int) (w : World) (hx : xs.length = n) (hn : n ≤ 140737488355328) (hby : Byt xs) (hl : lenN o ≤ n) (hcell : ∀ i, i < n → w.cell? ⟨b, f + i, none⟩ = some (.int .u8 (xs.getD i 0))) :
    Calls Tryz.prog 98 #[shp (nm o) (cd o) (rg o) (kd o), .slice (some ⟨b, f, none⟩) n cp] w fun e w' => e = .returned (ins 0 (fldA (cdL o).length (rg o) xs) (fldB (cdL o).length (rg o) xs) (fldN (cdL o).length (rg o) (kd o) xs)) ∧ Below w.heap.size w w' := by
  have hc := cd_size o h2
  have hr := rg_le o h2
  rw [← hc]
  by_cases h0 : kd o = 0
  · have hll : (cd o).size + rg o ≤ n := by rw [hc]; simp only [lenN, h0] at hl; omega
    rw [h0]
    exact fields_gen0 (nm o) (cd o) (rg o) b f n cp xs w hn hr hll hcell
  · have hll : (cd o).size + rg o + 4 ≤ n := by rw [hc]; simp only [lenN, h0, if_false] at hl; omega
    have := fields_genN (nm o) (cd o) (rg o) (kd o) b f n cp xs w hx hn hby hr (by have := kd_in o h2; omega) hll hcell
    rw [show fldN (cd o).size (rg o) (kd o) xs = wrap32 (n4 xs ((cd o).size + rg o)) by simp [fldN, h0]]
    exact this

/-- a variable of four cells: what it holds, and that it may be written -/
def Var4 (w : World) (g : Nat) (x0 x1 x2 x3 : Value) : Prop := At4 w g x0 x1 x2 x3 ∧ ∀ i, w.frozen? ⟨g, i, none⟩ = false
theorem Var4.new (w : World) (x0 x1 x2 x3 : Value) (t : TypeId) : Var4 (w.alloc (.cells #[x0, x1, x2, x3] t)) w.heap.size x0 x1 x2 x3 := ⟨At4.new _ _ _ _ _ _, fun i => by simp⟩
theorem Var4.below {w w' : World} {g : Nat} {x0 x1 x2 x3 : Value} (h : Var4 w g x0 x1 x2 x3) (hb : Below w.heap.size w w') : Var4 w' g x0 x1 x2 x3 :=
  ⟨h.1.below hb, fun i => (hb.frozen (p := ⟨g, i, none⟩) (cell_lt h.1.1)).trans (h.2 i)⟩
theorem Var4.push {w : World} {g : Nat} {x0 x1 x2 x3 : Value} (h : Var4 w g x0 x1 x2 x3) (ob : Obj) : Var4 (w.alloc ob) g x0 x1 x2 x3 := h.below (new_alloc w ob)
theorem Var4.drew {w : World} {g : Nat} {x0 x1 x2 x3 : Value} (h : Var4 w g x0 x1 x2 x3) : Var4 w.drew g x0 x1 x2 x3 := h

set_option maxRecDepth 16000 in
set_option maxHeartbeats 2000000 in
theorem dec_gen (s c : ByteArray) (r L : Nat) (q z o a b' nn : Int) (pb rb : Bool) (b f n cp : Nat) (xs : List Int) (w : World)
    (hlen : ∀ w, Calls Tryz.prog 77 #[.int .u8 z] w fun e w' => e = .returned (.int .i64 L) ∧ Below w.heap.size w w')
    (hop : ∀ w, Calls Tryz.prog 95 #[.int .u8 z] w fun e w' => e = .returned (.tuple #[.int .u8 o, .bool true]) ∧ Below w.heap.size w w')
    (hidx : ∀ w, (Instr.index 175 (.agg tab) (.int .u8 o)).run Tryz.prog w = .ok (.agg #[.string s, .string c, .int .i64 r, .int .u8 q]) w)
    (hbeg : ∀ w, (∀ i, i < n → w.cell? ⟨b, f + i, none⟩ = some (.int .u8 (xs.getD i 0))) → Calls Tryz.prog 97 #[shp s c r q, .slice (some ⟨b, f, none⟩) n cp] w fun e w' => e = .returned (.bool pb) ∧ Below w.heap.size w w')
    (hfld : ∀ w, (∀ i, i < n → w.cell? ⟨b, f + i, none⟩ = some (.int .u8 (xs.getD i 0))) → Calls Tryz.prog 98 #[shp s c r q, .slice (some ⟨b, f, none⟩) n cp] w fun e w' => e = .returned (ins 0 a b' nn) ∧ Below w.heap.size w w')
    (hright : ∀ w, Calls Tryz.prog 99 #[ins o a b' nn] w fun e w' => e = .returned (.bool rb) ∧ Below w.heap.size w w')
    (hlen2 : ∀ w, Calls Tryz.prog 100 #[shp s c r q] w fun e w' => e = .returned (.int .i64 L) ∧ Below w.heap.size w w')
    (hn : n ≤ 140737488355328) (h0 : 0 < n) (hl : L ≤ n) (hz : xs.getD 0 0 = z) (hcell : ∀ i, i < n → w.cell? ⟨b, f + i, none⟩ = some (.int .u8 (xs.getD i 0))) :
    Calls Tryz.prog 70 #[.slice (some ⟨b, f, none⟩) n cp] w fun e w' => e = .returned (if (pb && rb) then decT o a b' nn L 0 else decT 0 0 0 0 0 120) ∧ Below w.heap.size w w' := by
  have HC : Hid (∀ w', Below w.heap.size w w' → ∀ i, i < n → w'.cell? ⟨b, f + i, none⟩ = some (.int .u8 (xs.getD i 0))) := fun w' hb i hi => (hb.cell (p := ⟨b, f + i, none⟩) (cell_lt (hcell i hi))).trans (hcell i hi)
  have HZ : Hid (∀ w', Below w.heap.size w w' → w'.cell? ⟨b, f, none⟩ = some (.int .u8 z)) := fun w' hb => by have := HC.out w' hb 0 h0; rw [hz] at this; exact this
  clear hcell hz
  have c0 := fun ob => HZ.out _ (new_alloc w ob)
  have hd : ((n : Int) == 0) = false := by simp; omega
  go_enter Tryz.func70, Tryz.ntmps70
  go_wp2_with fail
  refine (hlen _).mono ?_
  rintro e w1 ⟨rfl, hb1⟩
  have hV := (Var4.new w (.int .u8 0) (.int .u8 0) (.int .u8 0) (.int .i32 0) 117).below hb1
  have hbw := below_step (new_alloc w _) hb1
  have c1 := HZ.out _ hbw
  clear hb1 c0 hlen
  go_wp2_with fail
  refine (hop _).mono ?_
  rintro e w2 ⟨rfl, hb2⟩
  have hV2 := hV.below hb2
  have hbw2 := below_step hbw hb2
  clear hV hb2 hbw c1 hop
  go_wp2_with fail
  refine (shapes_any _).mono ?_
  rintro e w3 ⟨rfl, hb3⟩
  have hV3 := (hV2.below hb3).push (.cells #[.string s, .string c, .int .i64 r, .int .u8 q] 174)
  have hS3 := Var4.new w3 (.string s) (.string c) (.int .i64 r) (.int .u8 q) 174
  have hbw3 := below_alloc (below_step hbw2 hb3) (.cells #[.string s, .string c, .int .i64 r, .int .u8 q] 174)
  clear hV2 hb3 hbw2
  go_wp2_with fail
  refine (hbeg _ (HC.out _ hbw3)).mono ?_
  rintro e w4 ⟨rfl, hb4⟩
  have hV4 := hV3.below hb4
  have hS4 := hS3.below hb4
  have hbw4 := below_step hbw3 hb4
  clear hV3 hS3 hb4 hbw3 hbeg hidx
  generalize w3.heap.size = gS at *
  clear w3
  cases pb
  · have HV : Hid (Var4 w4 w.heap.size (.int .u8 0) (.int .u8 0) (.int .u8 0) (.int .i32 0)) := hV4
    obtain ⟨⟨r0, r1, r2, r3⟩, hfr⟩ := hV4
    have hld := load4 (HV.out.1.stored (.int .u8 0) (.int .u8 0) (.int .u8 0) (.int .i32 0))
    go_wp2
    exact bodyPost_ret (v := decT 0 0 0 0 0 120) (by simp [results, Tryz.results70, asAddr, hld]) rfl ⟨rfl, below_stored hbw4 (Nat.le_refl _) _ _ _ _⟩
  · have HV4 : Hid (Var4 w4 w.heap.size (.int .u8 0) (.int .u8 0) (.int .u8 0) (.int .i32 0)) := hV4
    have HS4 : Hid (Var4 w4 gS (.string s) (.string c) (.int .i64 r) (.int .u8 q)) := hS4
    obtain ⟨⟨q0, q1, q2, q3⟩, _⟩ := hS4
    clear hV4
    go_wp2_with fail
    refine (hfld _ (HC.out _ hbw4)).mono ?_
    rintro e w5 ⟨rfl, hb5⟩
    have hV5 := (HV4.out.below hb5).push (.cells #[.int .u8 o, .int .u8 a, .int .u8 b', .int .i32 nn] 117)
    have hS5 := (HS4.out.below hb5).push (.cells #[.int .u8 o, .int .u8 a, .int .u8 b', .int .i32 nn] 117)
    have hI5 := Var4.new w5 (.int .u8 o) (.int .u8 a) (.int .u8 b') (.int .i32 nn) 117
    have hbw5 := below_alloc (below_step hbw4 hb5) (.cells #[.int .u8 o, .int .u8 a, .int .u8 b', .int .i32 nn] 117)
    clear q0 q1 q2 q3 HV4 HS4 hb5 hbw4 hfld
    go_wp2_with fail
    refine (hright _).mono ?_
    rintro e w6 ⟨rfl, hb6⟩
    have hV6 := hV5.below hb6
    have hS6 := hS5.below hb6
    have hI6 := hI5.below hb6
    have hbw6 := below_step hbw5 hb6
    clear hV5 hS5 hI5 hb6 hbw5 hright
    generalize w5.heap.size = gI at *
    clear w5
    have HV : Hid (Var4 w6 w.heap.size (.int .u8 0) (.int .u8 0) (.int .u8 0) (.int .i32 0)) := hV6
    have HS : Hid (Var4 w6 gS (.string s) (.string c) (.int .i64 r) (.int .u8 q)) := hS6
    have HI : Hid (Var4 w6 gI (.int .u8 o) (.int .u8 a) (.int .u8 b') (.int .i32 nn)) := hI6
    cases rb
    · obtain ⟨⟨r0, r1, r2, r3⟩, hfr⟩ := hV6
      have hld := load4 (HV.out.1.stored (.int .u8 0) (.int .u8 0) (.int .u8 0) (.int .i32 0))
      clear hS6 hI6
      go_wp2
      exact bodyPost_ret (v := decT 0 0 0 0 0 120) (by simp [results, Tryz.results70, asAddr, hld]) rfl ⟨rfl, below_stored hbw6 (Nat.le_refl _) _ _ _ _⟩
    · obtain ⟨⟨q0, q1, q2, q3⟩, _⟩ := hS6
      obtain ⟨⟨i0, i1, i2, i3⟩, _⟩ := hI6
      clear hV6
      go_wp2_with fail
      go_region_with (go_at_call 100; refine (hlen2 _).mono ?_; rintro e w7 ⟨rfl, hb7⟩; have hbw7 := below_step hbw6.drew hb7; obtain ⟨⟨s0, s1, s2, s3⟩, hf7⟩ := HV.out.drew.below hb7; obtain ⟨⟨j0, j1, j2, j3⟩, _⟩ := HI.out.drew.below hb7; have hld := load4 ((HV.out.drew.below hb7).1.stored (.int .u8 o) (.int .u8 a) (.int .u8 b') (.int .i32 nn)))
      all_goals
        go_wp2
        exact bodyPost_ret (v := decT o a b' nn L 0) (by simp [results, Tryz.results70, asAddr, hld]) rfl ⟨rfl, below_stored hbw7 (Nat.le_refl _) _ _ _ _⟩
end Go.Proofs.YtnpaijbkhmnfpaaGreat

/- What the bytes of an instruction say; isa.Decode answers it, for every slice of bytes. -/
namespace Go.Proofs.YtnpaijbkhmnfpaaGreat
open Go.RowKit

/-! ### what the bytes say -/
def opN (z : Int) : Nat := ((List.range 17).find? fun k => decide (1 ≤ k) && decide (fb k = z)).getD 0
theorem opN_fb (o : Nat) (h1 : 1 ≤ o) (h2 : o < 17) : opN (fb o) = o := by
  have : ∀ k : Fin 17, 1 ≤ k.1 → opN (fb k.1) = k.1 := by decide +kernel
  exact this ⟨o, h2⟩ h1
theorem opN_no (z : Int) (h : ∀ o, 1 ≤ o → o < 17 → fb o ≠ z) : opN z = 0 := by
  unfold opN
  rw [List.find?_eq_none.2]
  · rfl
  · intro k hk
    simp only [List.mem_range] at hk
    simp only [Bool.and_eq_true, decide_eq_true_eq, not_and]
    exact fun h1 => h k h1 hk
theorem op_cases (z : Int) : (∃ o, 1 ≤ o ∧ o < 17 ∧ fb o = z) ∨ ∀ o, 1 ≤ o → o < 17 → fb o ≠ z := by
  by_cases h : ∃ o, 1 ≤ o ∧ o < 17 ∧ fb o = z
  · exact .inl h
  · exact .inr fun o h1 h2 h3 => h ⟨o, h1, h2, h3⟩

structure Dec where
  o : Int
  a : Int
  b : Int
  n : Int
  l : Int
  e : Int
abbrev decV (d : Dec) : Value := decT d.o d.a d.b d.n d.l d.e
def preL (cs xs : List Int) : Bool := decide (∀ i, i < cs.length → xs.getD i 0 = cs.getD i 0)
def fA (o : Nat) (xs : List Int) : Int := fldA (cdL o).length (rg o) xs
def fB (o : Nat) (xs : List Int) : Int := fldB (cdL o).length (rg o) xs
def fN (o : Nat) (xs : List Int) : Int := fldN (cdL o).length (rg o) (kd o) xs
def decO (o : Nat) (xs : List Int) : Dec :=
  if xs.length < lenN o then ⟨0, 0, 0, 0, 0, 4⟩
  else if preL (cdL o) xs && rightB o (fA o xs) (fB o xs) (fN o xs) then ⟨o, fA o xs, fB o xs, fN o xs, lenN o, 0⟩ else ⟨0, 0, 0, 0, 0, 120⟩
def dec (xs : List Int) : Dec :=
  if xs.length = 0 then ⟨0, 0, 0, 0, 0, 4⟩ else if opN (xs.getD 0 0) = 0 then ⟨0, 0, 0, 0, 0, 120⟩ else decO (opN (xs.getD 0 0)) xs

theorem preB_preL (o : Nat) (h : o < 17) (xs : List Int) : preB (cd o) xs = preL (cdL o) xs := by
  unfold preB preL
  rw [decide_eq_decide]
  have hs := cd_size o h
  constructor
  · intro k i hi
    rw [k i (by omega), cd_byte o h i (by omega)]
  · intro k i hi
    rw [k i (by omega), cd_byte o h i hi]

theorem fldA_in {cl r : Nat} {xs : List Int} (h : Byt xs) : 0 ≤ fldA cl r xs ∧ fldA cl r xs ≤ 255 := by
  unfold fldA; split
  · exact h _
  · omega
theorem fldB_in {cl r : Nat} {xs : List Int} (h : Byt xs) : 0 ≤ fldB cl r xs ∧ fldB cl r xs ≤ 255 := by
  unfold fldB; split
  · exact h _
  · omega

theorem decode_any (p : Option Addr) (n cp : Nat) (xs : List Int) (w : World) (hx : xs.length = n) (hn : n ≤ 140737488355328) (hr : Row w p xs) (hby : Byt xs) :
    Calls Tryz.prog 70 #[.slice p n cp] w fun e w' => e = .returned (decV (dec xs)) ∧ Below w.heap.size w w' := by
  by_cases h0 : n = 0
  · subst h0
    rw [show dec xs = ⟨0, 0, 0, 0, 0, 4⟩ by unfold dec; rw [if_pos hx]]
    exact dec_empty p cp w
  · obtain ⟨b, f, rfl, hc⟩ := hr (by omega)
    have hc0 := hc 0 (by omega)
    rw [Nat.add_zero] at hc0
    rcases op_cases (xs.getD 0 0) with ⟨o, h1, h2, hz⟩ | hno
    · have hop := opN_fb o h1 h2
      rw [hz] at hop
      rw [show dec xs = decO o xs by unfold dec; rw [if_neg (by omega), hop, if_neg (by omega)]]
      by_cases hl : n < lenN o
      · rw [show decO o xs = ⟨0, 0, 0, 0, 0, 4⟩ by unfold decO; rw [if_pos (by omega)]]
        exact dec_short o h1 h2 b f n cp w hn (by omega) hl (by rw [hz]; exact hc0)
      · have hcs := cd_size o h2
        have hlo : (cd o).size ≤ n := by rw [hcs]; unfold lenN at hl; omega
        have := dec_gen (nm o) (cd o) (rg o) (lenN o) (kd o) (xs.getD 0 0) o (fA o xs) (fB o xs) (fN o xs) (preB (cd o) xs) (rightB o (fA o xs) (fB o xs) (fN o xs)) b f n cp xs w
          (fun w => by rw [← hz]; exact len_yes o w h1 h2) (fun w => by rw [← hz]; exact opOf_yes o w h1 h2) (idx_any o h2)
          (fun w hw => begins_at (nm o) (cd o) (rg o) (kd o) b f n cp xs w (by omega) hlo hw)
          (fun w hw => fields_op o h2 b f n cp xs w hx hn hby (by omega) hw)
          (fun w => right_op o _ _ _ w h1 h2 (fldA_in hby) (fldB_in hby)) (length_op o h2) hn (by omega) (by omega) rfl (fun i hi => hc i (by omega))
        refine this.mono fun e w' ⟨he, hb⟩ => ⟨?_, hb⟩
        have hdec : decO o xs = if (preL (cdL o) xs && rightB o (fA o xs) (fB o xs) (fN o xs)) then ⟨o, fA o xs, fB o xs, fN o xs, lenN o, 0⟩ else ⟨0, 0, 0, 0, 0, 120⟩ := by
          unfold decO; rw [if_neg (show ¬ xs.length < lenN o by omega)]
        rw [he, preB_preL o h2, hdec]
        cases (preL (cdL o) xs && rightB o (fA o xs) (fB o xs) (fN o xs)) <;> rfl
    · rw [show dec xs = ⟨0, 0, 0, 0, 0, 120⟩ by unfold dec; rw [if_neg (by omega), if_pos (opN_no _ hno)]]
      exact dec_none (xs.getD 0 0) hno b f n cp w hn (by omega) hc0
end Go.Proofs.YtnpaijbkhmnfpaaGreat

/- What switchyardref02.Name, Op and FormOf answer. -/
namespace Go.Proofs.YtnpaijbkhmnfpaaGreat
open Go.RowKit

abbrev frm (f l : Int) (A B M D : Bool) : Value := .agg #[.int .u8 f, .int .i64 l, .bool A, .bool B, .bool M, .bool D]
def hA (o : Nat) : Bool := decide (1 ≤ rg o)
def hB (o : Nat) : Bool := decide (2 ≤ rg o)
def hM (o : Nat) : Bool := decide (kd o ≠ 0)
def hD (o : Nat) : Bool := decide (kd o = 2)

set_option maxHeartbeats 2000000 in
theorem form_yes (o : Nat) (w : World) (h1 : 1 ≤ o) (h2 : o < 17) :
    Calls Tryz.prog 92 #[.int .u8 o] w fun e w' => e = .returned (.tuple #[frm (fb o) (lenN o) (hA o) (hB o) (hM o) (hD o), .bool true]) ∧ Below w.heap.size w w' := by
  obtain rfl | rfl | rfl | rfl | rfl | rfl | rfl | rfl | rfl | rfl | rfl | rfl | rfl | rfl | rfl | rfl : o = 1 ∨ o = 2 ∨ o = 3 ∨ o = 4 ∨ o = 5 ∨ o = 6 ∨ o = 7 ∨ o = 8 ∨ o = 9 ∨ o = 10 ∨ o = 11 ∨ o = 12 ∨ o = 13 ∨ o = 14 ∨ o = 15 ∨ o = 16 := by omega
  · go_enter Tryz.func92, Tryz.ntmps92
    go_wp2
    exact bodyPost_ret (v := .tuple #[frm 0 1 false false false false, .bool true]) (by simp [results, Tryz.results92, go_sem]) rfl ⟨rfl, new_alloc _ _⟩
  · go_enter Tryz.func92, Tryz.ntmps92
    go_wp2
    exact bodyPost_ret (v := .tuple #[frm 144 1 false false false false, .bool true]) (by simp [results, Tryz.results92, go_sem]) rfl ⟨rfl, new_alloc _ _⟩
  · go_enter Tryz.func92, Tryz.ntmps92
    go_wp2
    exact bodyPost_ret (v := .tuple #[frm 15 5 false false false false, .bool true]) (by simp [results, Tryz.results92, go_sem]) rfl ⟨rfl, new_alloc _ _⟩
  · go_enter Tryz.func92, Tryz.ntmps92
    go_wp2
    exact bodyPost_ret (v := .tuple #[frm 204 1 false false false false, .bool true]) (by simp [results, Tryz.results92, go_sem]) rfl ⟨rfl, new_alloc _ _⟩
  · go_enter Tryz.func92, Tryz.ntmps92
    go_wp2
    exact bodyPost_ret (v := .tuple #[frm 184 6 true false true false, .bool true]) (by simp [results, Tryz.results92, go_sem]) rfl ⟨rfl, new_alloc _ _⟩
  · go_enter Tryz.func92, Tryz.ntmps92
    go_wp2
    exact bodyPost_ret (v := .tuple #[frm 137 3 true true false false, .bool true]) (by simp [results, Tryz.results92, go_sem]) rfl ⟨rfl, new_alloc _ _⟩
  · go_enter Tryz.func92, Tryz.ntmps92
    go_wp2
    exact bodyPost_ret (v := .tuple #[frm 1 3 true true false false, .bool true]) (by simp [results, Tryz.results92, go_sem]) rfl ⟨rfl, new_alloc _ _⟩
  · go_enter Tryz.func92, Tryz.ntmps92
    go_wp2
    exact bodyPost_ret (v := .tuple #[frm 41 3 true true false false, .bool true]) (by simp [results, Tryz.results92, go_sem]) rfl ⟨rfl, new_alloc _ _⟩
  · go_enter Tryz.func92, Tryz.ntmps92
    go_wp2
    exact bodyPost_ret (v := .tuple #[frm 116 6 true false true false, .bool true]) (by simp [results, Tryz.results92, go_sem]) rfl ⟨rfl, new_alloc _ _⟩
  · go_enter Tryz.func92, Tryz.ntmps92
    go_wp2
    exact bodyPost_ret (v := .tuple #[frm 117 6 true false true false, .bool true]) (by simp [results, Tryz.results92, go_sem]) rfl ⟨rfl, new_alloc _ _⟩
  · go_enter Tryz.func92, Tryz.ntmps92
    go_wp2
    exact bodyPost_ret (v := .tuple #[frm 233 5 false false true false, .bool true]) (by simp [results, Tryz.results92, go_sem]) rfl ⟨rfl, new_alloc _ _⟩
  · go_enter Tryz.func92, Tryz.ntmps92
    go_wp2
    exact bodyPost_ret (v := .tuple #[frm 232 5 false false true false, .bool true]) (by simp [results, Tryz.results92, go_sem]) rfl ⟨rfl, new_alloc _ _⟩
  · go_enter Tryz.func92, Tryz.ntmps92
    go_wp2
    exact bodyPost_ret (v := .tuple #[frm 195 1 false false false false, .bool true]) (by simp [results, Tryz.results92, go_sem]) rfl ⟨rfl, new_alloc _ _⟩
  · go_enter Tryz.func92, Tryz.ntmps92
    go_wp2
    exact bodyPost_ret (v := .tuple #[frm 139 6 true false true true, .bool true]) (by simp [results, Tryz.results92, go_sem]) rfl ⟨rfl, new_alloc _ _⟩
  · go_enter Tryz.func92, Tryz.ntmps92
    go_wp2
    exact bodyPost_ret (v := .tuple #[frm 136 6 true false true true, .bool true]) (by simp [results, Tryz.results92, go_sem]) rfl ⟨rfl, new_alloc _ _⟩
  · go_enter Tryz.func92, Tryz.ntmps92
    go_wp2
    exact bodyPost_ret (v := .tuple #[frm 230 2 true false false false, .bool true]) (by simp [results, Tryz.results92, go_sem]) rfl ⟨rfl, new_alloc _ _⟩

set_option maxHeartbeats 1000000 in
theorem form_no (o : Int) (w : World) (h : o = 0 ∨ 17 ≤ o) :
    Calls Tryz.prog 92 #[.int .u8 o] w fun e w' => e = .returned (.tuple #[frm 0 0 false false false false, .bool false]) ∧ Below w.heap.size w w' := by
  have e1 : (o == 1) = false := by simp; omega
  have e2 : (o == 2) = false := by simp; omega
  have e3 : (o == 3) = false := by simp; omega
  have e4 : (o == 4) = false := by simp; omega
  have e5 : (o == 5) = false := by simp; omega
  have e6 : (o == 6) = false := by simp; omega
  have e7 : (o == 7) = false := by simp; omega
  have e8 : (o == 8) = false := by simp; omega
  have e9 : (o == 9) = false := by simp; omega
  have e10 : (o == 10) = false := by simp; omega
  have e11 : (o == 11) = false := by simp; omega
  have e12 : (o == 12) = false := by simp; omega
  have e13 : (o == 13) = false := by simp; omega
  have e14 : (o == 14) = false := by simp; omega
  have e15 : (o == 15) = false := by simp; omega
  have e16 : (o == 16) = false := by simp; omega
  clear h
  go_enter Tryz.func92, Tryz.ntmps92
  go_wp2
  exact bodyPost_ret (v := .tuple #[frm 0 0 false false false false, .bool false]) (by simp [results, Tryz.results92, go_sem]) rfl ⟨rfl, new_alloc _ _⟩
end Go.Proofs.YtnpaijbkhmnfpaaGreat

/- What switchyardref02.ofByte, Op and Length answer. -/
namespace Go.Proofs.YtnpaijbkhmnfpaaGreat
open Go.RowKit

set_option maxHeartbeats 1000000 in
theorem ofByte_yes (p : Nat) (w : World) (hp : 1 ≤ p) (hp' : p < 17) :
    Calls Tryz.prog 91 #[.int .u8 (fb p)] w fun e w' => e = .returned (.tuple #[.int .u8 p, .bool true]) ∧ Below w.heap.size w w' := by
  obtain ⟨y, hy⟩ : ∃ y, y = fb p := ⟨_, rfl⟩
  rw [← hy]
  have HY : Hid (y = fb p) := hy
  clear hy
  go_enter Tryz.func91, Tryz.ntmps91
  go_wp2
  go_loopw [4] (fun i wr => ∃ k : Nat, 1 ≤ k ∧ k ≤ p ∧ i = .int .u8 k ∧ Below w.heap.size w wr) (fun i _ => 17 - (intOf i).toNat)
  case atStart => exact ⟨1, by omega, hp, rfl, below_self _⟩
  case round =>
    obtain ⟨k, hk0, hk, rfl, hbr⟩ := hrel
    have hlt : k < 17 := by omega
    have hcon := fun w => form_yes k w hk0 hlt
    by_cases he : k = p
    · subst he
      rw [← HY.out] at hcon
      generalize lenN k = L at *
      generalize hA k = A at *
      generalize hB k = B at *
      generalize hM k = M at *
      generalize hD k = D at *
      go_wp2_with (go_at_call 92; refine (hcon _).mono ?_; rintro e w1 ⟨rfl, hb1⟩; have hb2 := below_alloc (below_step hbr hb1) (.cells #[.int .u8 y, .int .i64 L, .bool A, .bool B, .bool M, .bool D] 167); clear hb1 hbr)
      go_ret2
      exact ⟨rfl, hb2⟩
    · have hne : (fb k == y) = false := by
        rw [HY.out]
        exact beq_eq_false_iff_ne.2 fun h => he (fb_inj k hk0 hlt p hp hp' h)
      generalize fb k = x at *
      generalize lenN k = L at *
      generalize hA k = A at *
      generalize hB k = B at *
      generalize hM k = M at *
      generalize hD k = D at *
      go_wp2_with (go_at_call 92; refine (hcon _).mono ?_; rintro e w1 ⟨rfl, hb1⟩; have hb2 := below_alloc (below_step hbr hb1) (.cells #[.int .u8 x, .int .i64 L, .bool A, .bool B, .bool M, .bool D] 167); clear hb1 hbr)
      go_roundw
      case rel => exact ⟨k + 1, by omega, by omega, by go_num, hb2⟩
      case measure => simp [intOf]; omega

set_option maxHeartbeats 1000000 in
theorem ofByte_no (y : Int) (w : World) (hno : ∀ o, 1 ≤ o → o < 17 → fb o ≠ y) :
    Calls Tryz.prog 91 #[.int .u8 y] w fun e w' => e = .returned (.tuple #[.int .u8 0, .bool false]) ∧ Below w.heap.size w w' := by
  have HN : Hid (∀ o, 1 ≤ o → o < 17 → fb o ≠ y) := hno
  clear hno
  go_enter Tryz.func91, Tryz.ntmps91
  go_wp2
  go_loopw [4] (fun i wr => ∃ k : Nat, 1 ≤ k ∧ k ≤ 17 ∧ i = .int .u8 k ∧ Below w.heap.size w wr) (fun i _ => 17 - (intOf i).toNat)
  case atStart => exact ⟨1, by omega, by omega, rfl, below_self _⟩
  case round =>
    obtain ⟨k, hk0, hk, rfl, hbr⟩ := hrel
    by_cases hlt : k < 17
    · have hcon := fun w => form_yes k w hk0 hlt
      have hne : (fb k == y) = false := beq_eq_false_iff_ne.2 (HN.out k hk0 hlt)
      generalize fb k = x at *
      generalize lenN k = L at *
      generalize hA k = A at *
      generalize hB k = B at *
      generalize hM k = M at *
      generalize hD k = D at *
      go_wp2_with (go_at_call 92; refine (hcon _).mono ?_; rintro e w1 ⟨rfl, hb1⟩; have hb2 := below_alloc (below_step hbr hb1) (.cells #[.int .u8 x, .int .i64 L, .bool A, .bool B, .bool M, .bool D] 167); clear hb1 hbr)
      go_roundw
      case rel => exact ⟨k + 1, by omega, by omega, by go_num, hb2⟩
      case measure => simp [intOf]; omega
    · go_wp2
      go_ret2
      exact ⟨rfl, hbr⟩

set_option maxHeartbeats 1000000 in
theorem rlen_yes (p : Nat) (w : World) (hp : 1 ≤ p) (hp' : p < 17) :
    Calls Tryz.prog 89 #[.int .u8 (fb p)] w fun e w' => e = .returned (.int .i64 (lenN p)) ∧ Below w.heap.size w w' := by
  have hcon := fun w => ofByte_yes p w hp hp'
  have hfrm := fun w => form_yes p w hp hp'
  generalize fb p = y at *
  generalize lenN p = L at *
  generalize hA p = A at *
  generalize hB p = B at *
  generalize hM p = M at *
  generalize hD p = D at *
  go_enter Tryz.func89, Tryz.ntmps89
  go_wp2_with fail
  refine (hcon _).mono ?_
  rintro e w1 ⟨rfl, hb1⟩
  go_wp2_with fail
  refine (hfrm _).mono ?_
  rintro e w2 ⟨rfl, hb2⟩
  go_wp2
  go_ret
  exact ⟨rfl, below_alloc (below_step hb1 hb2) _⟩

set_option maxHeartbeats 1000000 in
theorem rlen_no (y : Int) (w : World) (hno : ∀ o, 1 ≤ o → o < 17 → fb o ≠ y) :
    Calls Tryz.prog 89 #[.int .u8 y] w fun e w' => e = .returned (.int .i64 1) ∧ Below w.heap.size w w' := by
  have hcon := fun w => ofByte_no y w hno
  clear hno
  go_enter Tryz.func89, Tryz.ntmps89
  go_wp2_with fail
  refine (hcon _).mono ?_
  rintro e w1 ⟨rfl, hb1⟩
  go_wp2
  go_ret
  exact ⟨rfl, hb1⟩
end Go.Proofs.YtnpaijbkhmnfpaaGreat

/- What switchyardref02.Right answers, for every instruction: the same as the program's. -/
namespace Go.Proofs.YtnpaijbkhmnfpaaGreat
open Go.RowKit

def rightF (A B M D : Bool) (a b n : Int) : Bool := regB A a && regB B b && if M then (if D then decide (0 ≤ n ∧ n < 65536) else true) else decide (n = 0)
/-- the six kinds of ops -/
def Kind (A B M D : Bool) : Prop := (A, B, M, D) = (false, false, false, false) ∨ (A, B, M, D) = (true, false, true, false) ∨ (A, B, M, D) = (true, true, false, false) ∨ (A, B, M, D) = (false, false, true, false) ∨ (A, B, M, D) = (true, false, true, true) ∨ (A, B, M, D) = (true, false, false, false)
theorem kind_of (o : Nat) (h1 : 1 ≤ o) (h2 : o < 17) : Kind (hA o) (hB o) (hM o) (hD o) := by
  have : ∀ k : Fin 17, 1 ≤ k.1 → Kind (hA k.1) (hB k.1) (hM k.1) (hD k.1) := by unfold Kind; decide +kernel
  exact this ⟨o, h2⟩ h1

set_option maxHeartbeats 2000000 in
theorem rright_gen (f L o a b n : Int) (A B M D : Bool) (w : World) (ha : 0 ≤ a ∧ a ≤ 255) (hb : 0 ≤ b ∧ b ≤ 255)
    (hfrm : ∀ w, Calls Tryz.prog 92 #[.int .u8 o] w fun e w' => e = .returned (.tuple #[frm f L A B M D, .bool true]) ∧ Below w.heap.size w w')
    (hc : Kind A B M D) :
    Calls Tryz.prog 122 #[ins o a b n] w fun e w' => e = .returned (.bool (rightF A B M D a b n)) ∧ Below w.heap.size w w' := by
  simp only [Kind, Prod.mk.injEq] at hc
  obtain ⟨rfl, rfl, rfl, rfl⟩ | ⟨rfl, rfl, rfl, rfl⟩ | ⟨rfl, rfl, rfl, rfl⟩ | ⟨rfl, rfl, rfl, rfl⟩ | ⟨rfl, rfl, rfl, rfl⟩ | ⟨rfl, rfl, rfl, rfl⟩ := hc
  · go_enter Tryz.func122, Tryz.ntmps122
    go_wp2_with fail
    refine (hfrm _).mono ?_
    rintro e w1 ⟨rfl, hb1⟩
    obtain ⟨p0, p1, p2, p3⟩ := ((At4.new w (.int .u8 o) (.int .u8 a) (.int .u8 b) (.int .i32 n) 117).below hb1).below (new_alloc w1 (.cells #[.int .u8 f, .int .i64 L, .bool false, .bool false, .bool false, .bool false] 167))
    have hbw := below_alloc (below_step (new_alloc w _) hb1) (.cells #[.int .u8 f, .int .i64 L, .bool false, .bool false, .bool false, .bool false] 167)
    clear hb1 hfrm
    go_wp2
    all_goals
      go_ret
      refine ⟨ret_bool ?_, hbw⟩
      clear p0 p1 p2 p3 hbw
      try simp only [bne_iff_ne, ne_eq, bne_eq_false_iff_eq] at *
      first
        | (symm; simp [rightF, regB]; omega)
        | (symm; simp [rightF, regB, *]; done)
        | (symm; rw [Bool.eq_iff_iff]; simp [rightF, regB]; omega)
        | (symm; rw [Bool.eq_false_iff]; intro hq; simp [rightF, regB] at hq; omega)
  · go_enter Tryz.func122, Tryz.ntmps122
    go_wp2_with fail
    refine (hfrm _).mono ?_
    rintro e w1 ⟨rfl, hb1⟩
    obtain ⟨p0, p1, p2, p3⟩ := ((At4.new w (.int .u8 o) (.int .u8 a) (.int .u8 b) (.int .i32 n) 117).below hb1).below (new_alloc w1 (.cells #[.int .u8 f, .int .i64 L, .bool true, .bool false, .bool true, .bool false] 167))
    have hbw := below_alloc (below_step (new_alloc w _) hb1) (.cells #[.int .u8 f, .int .i64 L, .bool true, .bool false, .bool true, .bool false] 167)
    clear hb1 hfrm
    go_wp2
    all_goals
      go_ret
      refine ⟨ret_bool ?_, hbw⟩
      clear p0 p1 p2 p3 hbw
      try simp only [bne_iff_ne, ne_eq, bne_eq_false_iff_eq] at *
      first
        | (symm; simp [rightF, regB]; omega)
        | (symm; simp [rightF, regB, *]; done)
        | (symm; rw [Bool.eq_iff_iff]; simp [rightF, regB]; omega)
        | (symm; rw [Bool.eq_false_iff]; intro hq; simp [rightF, regB] at hq; omega)
  · go_enter Tryz.func122, Tryz.ntmps122
    go_wp2_with fail
    refine (hfrm _).mono ?_
    rintro e w1 ⟨rfl, hb1⟩
    obtain ⟨p0, p1, p2, p3⟩ := ((At4.new w (.int .u8 o) (.int .u8 a) (.int .u8 b) (.int .i32 n) 117).below hb1).below (new_alloc w1 (.cells #[.int .u8 f, .int .i64 L, .bool true, .bool true, .bool false, .bool false] 167))
    have hbw := below_alloc (below_step (new_alloc w _) hb1) (.cells #[.int .u8 f, .int .i64 L, .bool true, .bool true, .bool false, .bool false] 167)
    clear hb1 hfrm
    go_wp2
    all_goals
      go_ret
      refine ⟨ret_bool ?_, hbw⟩
      clear p0 p1 p2 p3 hbw
      try simp only [bne_iff_ne, ne_eq, bne_eq_false_iff_eq] at *
      first
        | (symm; simp [rightF, regB]; omega)
        | (symm; simp [rightF, regB, *]; done)
        | (symm; rw [Bool.eq_iff_iff]; simp [rightF, regB]; omega)
        | (symm; rw [Bool.eq_false_iff]; intro hq; simp [rightF, regB] at hq; omega)
  · go_enter Tryz.func122, Tryz.ntmps122
    go_wp2_with fail
    refine (hfrm _).mono ?_
    rintro e w1 ⟨rfl, hb1⟩
    obtain ⟨p0, p1, p2, p3⟩ := ((At4.new w (.int .u8 o) (.int .u8 a) (.int .u8 b) (.int .i32 n) 117).below hb1).below (new_alloc w1 (.cells #[.int .u8 f, .int .i64 L, .bool false, .bool false, .bool true, .bool false] 167))
    have hbw := below_alloc (below_step (new_alloc w _) hb1) (.cells #[.int .u8 f, .int .i64 L, .bool false, .bool false, .bool true, .bool false] 167)
    clear hb1 hfrm
    go_wp2
    all_goals
      go_ret
      refine ⟨ret_bool ?_, hbw⟩
      clear p0 p1 p2 p3 hbw
      try simp only [bne_iff_ne, ne_eq, bne_eq_false_iff_eq] at *
      first
        | (symm; simp [rightF, regB]; omega)
        | (symm; simp [rightF, regB, *]; done)
        | (symm; rw [Bool.eq_iff_iff]; simp [rightF, regB]; omega)
        | (symm; rw [Bool.eq_false_iff]; intro hq; simp [rightF, regB] at hq; omega)
  · go_enter Tryz.func122, Tryz.ntmps122
    go_wp2_with fail
    refine (hfrm _).mono ?_
    rintro e w1 ⟨rfl, hb1⟩
    obtain ⟨p0, p1, p2, p3⟩ := ((At4.new w (.int .u8 o) (.int .u8 a) (.int .u8 b) (.int .i32 n) 117).below hb1).below (new_alloc w1 (.cells #[.int .u8 f, .int .i64 L, .bool true, .bool false, .bool true, .bool true] 167))
    have hbw := below_alloc (below_step (new_alloc w _) hb1) (.cells #[.int .u8 f, .int .i64 L, .bool true, .bool false, .bool true, .bool true] 167)
    clear hb1 hfrm
    go_wp2
    all_goals
      go_ret
      refine ⟨ret_bool ?_, hbw⟩
      clear p0 p1 p2 p3 hbw
      try simp only [bne_iff_ne, ne_eq, bne_eq_false_iff_eq] at *
      first
        | (symm; simp [rightF, regB]; omega)
        | (symm; simp [rightF, regB, *]; done)
        | (symm; rw [Bool.eq_iff_iff]; simp [rightF, regB]; omega)
        | (symm; rw [Bool.eq_false_iff]; intro hq; simp [rightF, regB] at hq; omega)
  · go_enter Tryz.func122, Tryz.ntmps122
    go_wp2_with fail
    refine (hfrm _).mono ?_
    rintro e w1 ⟨rfl, hb1⟩
    obtain ⟨p0, p1, p2, p3⟩ := ((At4.new w (.int .u8 o) (.int .u8 a) (.int .u8 b) (.int .i32 n) 117).below hb1).below (new_alloc w1 (.cells #[.int .u8 f, .int .i64 L, .bool true, .bool false, .bool false, .bool false] 167))
    have hbw := below_alloc (below_step (new_alloc w _) hb1) (.cells #[.int .u8 f, .int .i64 L, .bool true, .bool false, .bool false, .bool false] 167)
    clear hb1 hfrm
    go_wp2
    all_goals
      go_ret
      refine ⟨ret_bool ?_, hbw⟩
      clear p0 p1 p2 p3 hbw
      try simp only [bne_iff_ne, ne_eq, bne_eq_false_iff_eq] at *
      first
        | (symm; simp [rightF, regB]; omega)
        | (symm; simp [rightF, regB, *]; done)
        | (symm; rw [Bool.eq_iff_iff]; simp [rightF, regB]; omega)
        | (symm; rw [Bool.eq_false_iff]; intro hq; simp [rightF, regB] at hq; omega)

theorem rightF_eq (o : Nat) (a b n : Int) (h1 : 1 ≤ o) (h2 : o < 17) : rightF (hA o) (hB o) (hM o) (hD o) a b n = rightB o a b n := by
  have hk := kd_in o h2
  unfold rightF rightB hA hB hM hD numB
  rw [decide_eq_true (show 1 ≤ o ∧ o < 17 from ⟨h1, h2⟩), Bool.true_and]
  congr 1
  rcases hk with h | h | h <;> rw [h] <;> simp

theorem rright_op (o : Nat) (a b n : Int) (w : World) (h1 : 1 ≤ o) (h2 : o < 17) (ha : 0 ≤ a ∧ a ≤ 255) (hb : 0 ≤ b ∧ b ≤ 255) :
    Calls Tryz.prog 122 #[ins o a b n] w fun e w' => e = .returned (.bool (rightB o a b n)) ∧ Below w.heap.size w w' := by
  rw [← rightF_eq o a b n h1 h2]
  exact rright_gen (fb o) (lenN o) o a b n _ _ _ _ w ha hb (fun w => form_yes o w h1 h2) (kind_of o h1 h2)

set_option maxHeartbeats 1000000 in
theorem rright_no (o a b n : Int) (w : World) (h : o = 0 ∨ 17 ≤ o) :
    Calls Tryz.prog 122 #[ins o a b n] w fun e w' => e = .returned (.bool false) ∧ Below w.heap.size w w' := by
  have hfrm := fun w => form_no o w h
  go_enter Tryz.func122, Tryz.ntmps122
  go_wp2_with fail
  refine (hfrm _).mono ?_
  rintro e w1 ⟨rfl, hb1⟩
  have hbw := below_alloc (below_step (new_alloc w _) hb1) (.cells #[.int .u8 0, .int .i64 0, .bool false, .bool false, .bool false, .bool false] 167)
  clear hb1 hfrm
  go_wp2
  go_ret
  exact ⟨rfl, hbw⟩

theorem rright_any (o : Nat) (a b n : Int) (w : World) (ha : 0 ≤ a ∧ a ≤ 255) (hb : 0 ≤ b ∧ b ≤ 255) :
    Calls Tryz.prog 122 #[ins o a b n] w fun e w' => e = .returned (.bool (rightB o a b n)) ∧ Below w.heap.size w w' := by
  by_cases h : 1 ≤ o ∧ o < 17
  · exact rright_op o a b n w h.1 h.2 ha hb
  · rw [show rightB o a b n = false by simp only [rightB, decide_eq_false h, Bool.false_and]]
    exact rright_no o a b n w (by omega)
end Go.Proofs.YtnpaijbkhmnfpaaGreat

/- What switchyardref02.Encode answers, for every instruction: the same bytes as the program's. -/
namespace Go.Proofs.YtnpaijbkhmnfpaaGreat
open Go.RowKit

theorem rightB_parts {o : Nat} {a b n : Int} (h : rightB o a b n = true) : (1 ≤ o ∧ o < 17) ∧ regB (decide (1 ≤ rg o)) a = true ∧ regB (decide (2 ≤ rg o)) b = true ∧ numB (kd o) n = true := by
  simp only [rightB, Bool.and_eq_true, decide_eq_true_eq] at h
  exact ⟨h.1, h.2.1.1, h.2.1.2, h.2.2⟩
theorem At4.keep {w w' : World} {C g : Nat} {x0 x1 x2 x3 : Value} (h : At4 w g x0 x1 x2 x3) (hb : Below C w w') (hg : g < C) : At4 w' g x0 x1 x2 x3 :=
  ⟨(hb.cell (p := ⟨g, 0, none⟩) hg).trans h.1, (hb.cell (p := ⟨g, 1, none⟩) hg).trans h.2.1, (hb.cell (p := ⟨g, 2, none⟩) hg).trans h.2.2.1, (hb.cell (p := ⟨g, 3, none⟩) hg).trans h.2.2.2⟩
/-- six cells of a variable -/
def At6 (w : World) (g : Nat) (x0 x1 x2 x3 x4 x5 : Value) : Prop :=
  (w.cell? ⟨g, 0, none⟩ = some x0 ∧ w.cell? ⟨g, 1, none⟩ = some x1 ∧ w.cell? ⟨g, 2, none⟩ = some x2) ∧ w.cell? ⟨g, 3, none⟩ = some x3 ∧ w.cell? ⟨g, 4, none⟩ = some x4 ∧ w.cell? ⟨g, 5, none⟩ = some x5
theorem At6.new (w : World) (x0 x1 x2 x3 x4 x5 : Value) (t : TypeId) : At6 (w.alloc (.cells #[x0, x1, x2, x3, x4, x5] t)) w.heap.size x0 x1 x2 x3 x4 x5 := ⟨⟨by simp, by simp, by simp⟩, by simp, by simp, by simp⟩
theorem At6.keep {w w' : World} {C g : Nat} {x0 x1 x2 x3 x4 x5 : Value} (h : At6 w g x0 x1 x2 x3 x4 x5) (hb : Below C w w') (hg : g < C) : At6 w' g x0 x1 x2 x3 x4 x5 :=
  ⟨⟨(hb.cell (p := ⟨g, 0, none⟩) hg).trans h.1.1, (hb.cell (p := ⟨g, 1, none⟩) hg).trans h.1.2.1, (hb.cell (p := ⟨g, 2, none⟩) hg).trans h.1.2.2⟩, (hb.cell (p := ⟨g, 3, none⟩) hg).trans h.2.1, (hb.cell (p := ⟨g, 4, none⟩) hg).trans h.2.2.1, (hb.cell (p := ⟨g, 5, none⟩) hg).trans h.2.2.2⟩
theorem news4 (w : World) (z0 z1 z2 z3 : Int) (t : TypeId) : ∀ j u, (byts [z0, z1, z2, z3])[j]? = some u → (w.alloc (.cells #[.int .u8 z0, .int .u8 z1, .int .u8 z2, .int .u8 z3] t)).cell? (Addr.add ⟨w.heap.size, 0, none⟩ j) = some u := by
  intro j u h
  rw [Go.WideShapes.add_plain]
  match j, h with
  | 0, h => simpa [byts] using h
  | 1, h => simpa [byts] using h
  | 2, h => simpa [byts] using h
  | 3, h => simpa [byts] using h
  | j + 4, h => simp [byts] at h

theorem OwnV.lowerV {w : World} {B B' : Nat} {v : Value} {xs : List Int} (h : OwnV w B v xs) (hB : B' ≤ B) : OwnV w B' v xs := by
  rcases h.shape with ⟨rfl, rfl⟩ | ⟨g, cap, rfl, ho⟩
  · exact OwnV.nil _ _
  · exact (ho.lower hB).val
def bitL (p : Bool) (xs : List Int) : List Int := if p then xs else []

set_option maxHeartbeats 2000000 in
theorem rencode_gen (f L o a b n : Int) (A B M D : Bool) (w : World)
    (hright : ∀ w, Calls Tryz.prog 122 #[ins o a b n] w fun e w' => e = .returned (.bool true) ∧ Below w.heap.size w w')
    (hfrm : ∀ w, Calls Tryz.prog 92 #[.int .u8 o] w fun e w' => e = .returned (.tuple #[frm f L A B M D, .bool true]) ∧ Below w.heap.size w w')
    (ho : (o == 3) = false) :
    Calls Tryz.prog 93 #[ins o a b n] w fun e w' => ∃ v, e = .returned (.tuple #[v, .int .i64 0]) ∧ OwnV w' w.heap.size v ([f] ++ bitL A [a] ++ bitL B [b] ++ bitL M (le4 n)) ∧ Below w.heap.size w w' := by
  obtain ⟨R, hR⟩ : ∃ R, R = [f] ++ bitL A [a] ++ bitL B [b] ++ bitL M (le4 n) := ⟨_, rfl⟩
  rw [← hR]
  have HR : Hid (R = [f] ++ bitL A [a] ++ bitL B [b] ++ bitL M (le4 n)) := hR
  clear hR
  go_enter Tryz.func93, Tryz.ntmps93
  go_wp2_with fail
  refine (hright _).mono ?_
  rintro e w1 ⟨rfl, hb1⟩
  have hI := (At4.new w (.int .u8 o) (.int .u8 a) (.int .u8 b) (.int .i32 n) 117).below hb1
  have hbw := below_step (new_alloc w _) hb1
  obtain ⟨i0, i1, i2, i3⟩ := hI
  go_wp2_with fail
  refine (hfrm _).mono ?_
  rintro e w2 ⟨rfl, hb2⟩
  have hI := ((At4.new w (.int .u8 o) (.int .u8 a) (.int .u8 b) (.int .i32 n) 117).below hb1).below hb2
  have hI3 := hI.below (new_alloc w2 (.cells #[.int .u8 f, .int .i64 L, .bool A, .bool B, .bool M, .bool D] 167))
  have hF3 := At6.new w2 (.int .u8 f) (.int .i64 L) (.bool A) (.bool B) (.bool M) (.bool D) 167
  have hbw3 := below_alloc (below_step hbw hb2) (.cells #[.int .u8 f, .int .i64 L, .bool A, .bool B, .bool M, .bool D] 167)
  have l1 : w.heap.size < w2.heap.size := cell_lt hI.1
  clear hb1 hb2 hbw hright hfrm hI i0 i1 i2 i3
  go_upto_region 4 with fail
  have l2 : w2.heap.size < (w2.alloc (.cells #[.int .u8 f, .int .i64 L, .bool A, .bool B, .bool M, .bool D] 167)).heap.size := by simp
  have l3 := Nat.lt_trans l1 l2
  have hsz := hbw3.size
  generalize w2.alloc (.cells #[.int .u8 f, .int .i64 L, .bool A, .bool B, .bool M, .bool D] 167) = w3 at *
  generalize w2.heap.size = gF at *
  have HI3 : Hid (At4 w3 w.heap.size (.int .u8 o) (.int .u8 a) (.int .u8 b) (.int .i32 n)) := hI3
  have HF3 : Hid (At6 w3 gF (.int .u8 f) (.int .i64 L) (.bool A) (.bool B) (.bool M) (.bool D)) := hF3
  have HN : Hid (Below w3.heap.size w3 (w3.alloc (.cells #[.int .u8 f] 5))) := new_alloc w3 _
  have hown0 : OwnV (w3.alloc (.cells #[.int .u8 f] 5)) w3.heap.size (.slice (some ⟨w3.heap.size, 0, none⟩) 1 1) [f] := (Own.lit w3 [f] (by simp [maxLen])).val
  have HB : Hid (Below w.heap.size w w3) := hbw3
  have c0 := hF3.1.1
  go_upto_region 5 with fail
  have hq := hI3.keep HN.out l3
  have hp := hF3.keep HN.out l2
  obtain ⟨i0, i1, i2, i3⟩ := hq
  obtain ⟨⟨f0, f1, f2⟩, f3, f4, f5⟩ := hp
  clear c0
  have hs4 := HN.out.size
  generalize w3.alloc (.cells #[.int .u8 f] 5) = w4 at *
  have hu : 0 ≤ n % 4294967296 ∧ n % 4294967296 ≤ 4294967295 := by omega
  clear hI3 hF3 hbw3 l1
  cases A <;> cases B <;> cases M
  · have hRR : R = [f] := by have := HR.out; simpa [bitL, le4] using this
    have HRR : Hid (R = [f]) := hRR
    clear HR hRR
    go_wp2
    go_ret2
    exact ⟨_, rfl, by rw [HRR.out]; exact hown0.lowerV hsz, HB.out.trans (HN.out.mono hsz)⟩
  · have hRR : R = [f] ++ [n % 256, n % 4294967296 / 256 % 256, n % 4294967296 / 65536 % 256, n % 4294967296 / 16777216] := by have := HR.out; simpa [bitL, le4] using this
    have HRR : Hid (R = [f] ++ [n % 256, n % 4294967296 / 256 % 256, n % 4294967296 / 65536 % 256, n % 4294967296 / 16777216]) := hRR
    clear HR hRR
    go_wp2_with (at_builtin; first | (refine wp_push _ rfl _ _ rfl w3.heap.size _ ([f]) rfl (hown0.alloc _) ⟨w4.heap.size, 0, none⟩ 4 4 [n % 256, n % 4294967296 / 256 % 256, n % 4294967296 / 65536 % 256, n % 4294967296 / 16777216] rfl rfl (news4 _ _ _ _ _ _) (by simp) (by simp; omega) ?_; intro v1 x1 hown1 _ hbel1 _; have hX1 := hbel1 w3 (HN.out.alloc hs4 _); clear hown0 hbel1; obtain ⟨i0, i1, i2, i3⟩ := HI3.out.keep hX1 l3; obtain ⟨⟨f0, f1, f2⟩, f3, f4, f5⟩ := HF3.out.keep hX1 l2; have hz1 := hX1.size))
    go_ret2
    exact ⟨_, rfl, by rw [HRR.out]; exact hown1.lowerV hsz, HB.out.trans (hX1.mono hsz)⟩
  · have hRR : R = [f] ++ [b] := by have := HR.out; simpa [bitL, le4] using this
    have HRR : Hid (R = [f] ++ [b]) := hRR
    clear HR hRR
    go_wp2_with (at_builtin; first | (refine wp_push _ rfl _ _ rfl w3.heap.size _ ([f]) rfl (hown0.alloc _) ⟨w4.heap.size, 0, none⟩ 1 1 [b] rfl rfl (cell_one_new _ _ _) (by simp) (by simp; omega) ?_; intro v1 x1 hown1 _ hbel1 _; have hX1 := hbel1 w3 (HN.out.alloc hs4 _); clear hown0 hbel1; obtain ⟨i0, i1, i2, i3⟩ := HI3.out.keep hX1 l3; obtain ⟨⟨f0, f1, f2⟩, f3, f4, f5⟩ := HF3.out.keep hX1 l2; have hz1 := hX1.size))
    go_ret2
    exact ⟨_, rfl, by rw [HRR.out]; exact hown1.lowerV hsz, HB.out.trans (hX1.mono hsz)⟩
  · have hRR : R = [f] ++ [b] ++ [n % 256, n % 4294967296 / 256 % 256, n % 4294967296 / 65536 % 256, n % 4294967296 / 16777216] := by have := HR.out; simpa [bitL, le4] using this
    have HRR : Hid (R = [f] ++ [b] ++ [n % 256, n % 4294967296 / 256 % 256, n % 4294967296 / 65536 % 256, n % 4294967296 / 16777216]) := hRR
    clear HR hRR
    go_wp2_with (at_builtin; first | (refine wp_push _ rfl _ _ rfl w3.heap.size _ ([f] ++ [b]) rfl (hown1.alloc _) ⟨x1.heap.size, 0, none⟩ 4 4 [n % 256, n % 4294967296 / 256 % 256, n % 4294967296 / 65536 % 256, n % 4294967296 / 16777216] rfl rfl (news4 _ _ _ _ _ _) (by simp) (by simp; omega) ?_; intro v2 x2 hown2 _ hbel2 _; have hX2 := hbel2 w3 (hX1.alloc hz1 _); clear hown1 hbel2; obtain ⟨i0, i1, i2, i3⟩ := HI3.out.keep hX2 l3; obtain ⟨⟨f0, f1, f2⟩, f3, f4, f5⟩ := HF3.out.keep hX2 l2; have hz2 := hX2.size) | (refine wp_push _ rfl _ _ rfl w3.heap.size _ ([f]) rfl (hown0.alloc _) ⟨w4.heap.size, 0, none⟩ 1 1 [b] rfl rfl (cell_one_new _ _ _) (by simp) (by simp; omega) ?_; intro v1 x1 hown1 _ hbel1 _; have hX1 := hbel1 w3 (HN.out.alloc hs4 _); clear hown0 hbel1; obtain ⟨i0, i1, i2, i3⟩ := HI3.out.keep hX1 l3; obtain ⟨⟨f0, f1, f2⟩, f3, f4, f5⟩ := HF3.out.keep hX1 l2; have hz1 := hX1.size))
    go_ret2
    exact ⟨_, rfl, by rw [HRR.out]; exact hown2.lowerV hsz, HB.out.trans (hX2.mono hsz)⟩
  · have hRR : R = [f] ++ [a] := by have := HR.out; simpa [bitL, le4] using this
    have HRR : Hid (R = [f] ++ [a]) := hRR
    clear HR hRR
    go_wp2_with (at_builtin; first | (refine wp_push _ rfl _ _ rfl w3.heap.size _ ([f]) rfl (hown0.alloc _) ⟨w4.heap.size, 0, none⟩ 1 1 [a] rfl rfl (cell_one_new _ _ _) (by simp) (by simp; omega) ?_; intro v1 x1 hown1 _ hbel1 _; have hX1 := hbel1 w3 (HN.out.alloc hs4 _); clear hown0 hbel1; obtain ⟨i0, i1, i2, i3⟩ := HI3.out.keep hX1 l3; obtain ⟨⟨f0, f1, f2⟩, f3, f4, f5⟩ := HF3.out.keep hX1 l2; have hz1 := hX1.size))
    go_ret2
    exact ⟨_, rfl, by rw [HRR.out]; exact hown1.lowerV hsz, HB.out.trans (hX1.mono hsz)⟩
  · have hRR : R = [f] ++ [a] ++ [n % 256, n % 4294967296 / 256 % 256, n % 4294967296 / 65536 % 256, n % 4294967296 / 16777216] := by have := HR.out; simpa [bitL, le4] using this
    have HRR : Hid (R = [f] ++ [a] ++ [n % 256, n % 4294967296 / 256 % 256, n % 4294967296 / 65536 % 256, n % 4294967296 / 16777216]) := hRR
    clear HR hRR
    go_wp2_with (at_builtin; first | (refine wp_push _ rfl _ _ rfl w3.heap.size _ ([f] ++ [a]) rfl (hown1.alloc _) ⟨x1.heap.size, 0, none⟩ 4 4 [n % 256, n % 4294967296 / 256 % 256, n % 4294967296 / 65536 % 256, n % 4294967296 / 16777216] rfl rfl (news4 _ _ _ _ _ _) (by simp) (by simp; omega) ?_; intro v2 x2 hown2 _ hbel2 _; have hX2 := hbel2 w3 (hX1.alloc hz1 _); clear hown1 hbel2; obtain ⟨i0, i1, i2, i3⟩ := HI3.out.keep hX2 l3; obtain ⟨⟨f0, f1, f2⟩, f3, f4, f5⟩ := HF3.out.keep hX2 l2; have hz2 := hX2.size) | (refine wp_push _ rfl _ _ rfl w3.heap.size _ ([f]) rfl (hown0.alloc _) ⟨w4.heap.size, 0, none⟩ 1 1 [a] rfl rfl (cell_one_new _ _ _) (by simp) (by simp; omega) ?_; intro v1 x1 hown1 _ hbel1 _; have hX1 := hbel1 w3 (HN.out.alloc hs4 _); clear hown0 hbel1; obtain ⟨i0, i1, i2, i3⟩ := HI3.out.keep hX1 l3; obtain ⟨⟨f0, f1, f2⟩, f3, f4, f5⟩ := HF3.out.keep hX1 l2; have hz1 := hX1.size))
    go_ret2
    exact ⟨_, rfl, by rw [HRR.out]; exact hown2.lowerV hsz, HB.out.trans (hX2.mono hsz)⟩
  · have hRR : R = [f] ++ [a] ++ [b] := by have := HR.out; simpa [bitL, le4] using this
    have HRR : Hid (R = [f] ++ [a] ++ [b]) := hRR
    clear HR hRR
    go_wp2_with (at_builtin; first | (refine wp_push _ rfl _ _ rfl w3.heap.size _ ([f] ++ [a]) rfl (hown1.alloc _) ⟨x1.heap.size, 0, none⟩ 1 1 [b] rfl rfl (cell_one_new _ _ _) (by simp) (by simp; omega) ?_; intro v2 x2 hown2 _ hbel2 _; have hX2 := hbel2 w3 (hX1.alloc hz1 _); clear hown1 hbel2; obtain ⟨i0, i1, i2, i3⟩ := HI3.out.keep hX2 l3; obtain ⟨⟨f0, f1, f2⟩, f3, f4, f5⟩ := HF3.out.keep hX2 l2; have hz2 := hX2.size) | (refine wp_push _ rfl _ _ rfl w3.heap.size _ ([f]) rfl (hown0.alloc _) ⟨w4.heap.size, 0, none⟩ 1 1 [a] rfl rfl (cell_one_new _ _ _) (by simp) (by simp; omega) ?_; intro v1 x1 hown1 _ hbel1 _; have hX1 := hbel1 w3 (HN.out.alloc hs4 _); clear hown0 hbel1; obtain ⟨i0, i1, i2, i3⟩ := HI3.out.keep hX1 l3; obtain ⟨⟨f0, f1, f2⟩, f3, f4, f5⟩ := HF3.out.keep hX1 l2; have hz1 := hX1.size))
    go_ret2
    exact ⟨_, rfl, by rw [HRR.out]; exact hown2.lowerV hsz, HB.out.trans (hX2.mono hsz)⟩
  · have hRR : R = [f] ++ [a] ++ [b] ++ [n % 256, n % 4294967296 / 256 % 256, n % 4294967296 / 65536 % 256, n % 4294967296 / 16777216] := by have := HR.out; simpa [bitL, le4] using this
    have HRR : Hid (R = [f] ++ [a] ++ [b] ++ [n % 256, n % 4294967296 / 256 % 256, n % 4294967296 / 65536 % 256, n % 4294967296 / 16777216]) := hRR
    clear HR hRR
    go_wp2_with (at_builtin; first | (refine wp_push _ rfl _ _ rfl w3.heap.size _ ([f] ++ [a] ++ [b]) rfl (hown2.alloc _) ⟨x2.heap.size, 0, none⟩ 4 4 [n % 256, n % 4294967296 / 256 % 256, n % 4294967296 / 65536 % 256, n % 4294967296 / 16777216] rfl rfl (news4 _ _ _ _ _ _) (by simp) (by simp; omega) ?_; intro v3 x3 hown3 _ hbel3 _; have hX3 := hbel3 w3 (hX2.alloc hz2 _); clear hown2 hbel3; obtain ⟨i0, i1, i2, i3⟩ := HI3.out.keep hX3 l3; obtain ⟨⟨f0, f1, f2⟩, f3, f4, f5⟩ := HF3.out.keep hX3 l2; have hz3 := hX3.size) | (refine wp_push _ rfl _ _ rfl w3.heap.size _ ([f] ++ [a]) rfl (hown1.alloc _) ⟨x1.heap.size, 0, none⟩ 1 1 [b] rfl rfl (cell_one_new _ _ _) (by simp) (by simp; omega) ?_; intro v2 x2 hown2 _ hbel2 _; have hX2 := hbel2 w3 (hX1.alloc hz1 _); clear hown1 hbel2; obtain ⟨i0, i1, i2, i3⟩ := HI3.out.keep hX2 l3; obtain ⟨⟨f0, f1, f2⟩, f3, f4, f5⟩ := HF3.out.keep hX2 l2; have hz2 := hX2.size) | (refine wp_push _ rfl _ _ rfl w3.heap.size _ ([f]) rfl (hown0.alloc _) ⟨w4.heap.size, 0, none⟩ 1 1 [a] rfl rfl (cell_one_new _ _ _) (by simp) (by simp; omega) ?_; intro v1 x1 hown1 _ hbel1 _; have hX1 := hbel1 w3 (HN.out.alloc hs4 _); clear hown0 hbel1; obtain ⟨i0, i1, i2, i3⟩ := HI3.out.keep hX1 l3; obtain ⟨⟨f0, f1, f2⟩, f3, f4, f5⟩ := HF3.out.keep hX1 l2; have hz1 := hX1.size))
    go_ret2
    exact ⟨_, rfl, by rw [HRR.out]; exact hown3.lowerV hsz, HB.out.trans (hX3.mono hsz)⟩

set_option maxHeartbeats 1000000 in
theorem rencode_five (f L a b n : Int) (A B M D : Bool) (w : World)
    (hright : ∀ w, Calls Tryz.prog 122 #[ins 3 a b n] w fun e w' => e = .returned (.bool true) ∧ Below w.heap.size w w')
    (hfrm : ∀ w, Calls Tryz.prog 92 #[.int .u8 3] w fun e w' => e = .returned (.tuple #[frm f L A B M D, .bool true]) ∧ Below w.heap.size w w') :
    Calls Tryz.prog 93 #[ins 3 a b n] w fun e w' => ∃ v, e = .returned (.tuple #[v, .int .i64 0]) ∧ OwnV w' w.heap.size v ([f] ++ [31, 68, 0, 0]) ∧ Below w.heap.size w w' := by
  obtain ⟨R, hR⟩ : ∃ R, R = [f] ++ [31, 68, 0, 0] := ⟨_, rfl⟩
  rw [← hR]
  have HR : Hid (R = [f] ++ [31, 68, 0, 0]) := hR
  clear hR
  go_enter Tryz.func93, Tryz.ntmps93
  go_wp2_with fail
  refine (hright _).mono ?_
  rintro e w1 ⟨rfl, hb1⟩
  have hI := (At4.new w (.int .u8 3) (.int .u8 a) (.int .u8 b) (.int .i32 n) 117).below hb1
  have hbw := below_step (new_alloc w _) hb1
  obtain ⟨i0, i1, i2, i3⟩ := hI
  go_wp2_with fail
  refine (hfrm _).mono ?_
  rintro e w2 ⟨rfl, hb2⟩
  have hI := ((At4.new w (.int .u8 3) (.int .u8 a) (.int .u8 b) (.int .i32 n) 117).below hb1).below hb2
  have hI3 := hI.below (new_alloc w2 (.cells #[.int .u8 f, .int .i64 L, .bool A, .bool B, .bool M, .bool D] 167))
  have hF3 := At6.new w2 (.int .u8 f) (.int .i64 L) (.bool A) (.bool B) (.bool M) (.bool D) 167
  have hbw3 := below_alloc (below_step hbw hb2) (.cells #[.int .u8 f, .int .i64 L, .bool A, .bool B, .bool M, .bool D] 167)
  have l1 : w.heap.size < w2.heap.size := cell_lt hI.1
  clear hb1 hb2 hbw hright hfrm hI i0 i1 i2 i3
  go_upto_region 4 with fail
  have l2 : w2.heap.size < (w2.alloc (.cells #[.int .u8 f, .int .i64 L, .bool A, .bool B, .bool M, .bool D] 167)).heap.size := by simp
  have l3 := Nat.lt_trans l1 l2
  have hsz := hbw3.size
  generalize w2.alloc (.cells #[.int .u8 f, .int .i64 L, .bool A, .bool B, .bool M, .bool D] 167) = w3 at *
  generalize w2.heap.size = gF at *
  have HI3 : Hid (At4 w3 w.heap.size (.int .u8 3) (.int .u8 a) (.int .u8 b) (.int .i32 n)) := hI3
  have HF3 : Hid (At6 w3 gF (.int .u8 f) (.int .i64 L) (.bool A) (.bool B) (.bool M) (.bool D)) := hF3
  have HN : Hid (Below w3.heap.size w3 (w3.alloc (.cells #[.int .u8 f] 5))) := new_alloc w3 _
  have hown0 : OwnV (w3.alloc (.cells #[.int .u8 f] 5)) w3.heap.size (.slice (some ⟨w3.heap.size, 0, none⟩) 1 1) [f] := (Own.lit w3 [f] (by simp [maxLen])).val
  have HB : Hid (Below w.heap.size w w3) := hbw3
  have c0 := hF3.1.1
  go_upto_region 5 with fail
  have hq := hI3.keep HN.out l3
  have hp := hF3.keep HN.out l2
  obtain ⟨i0, i1, i2, i3⟩ := hq
  obtain ⟨⟨f0, f1, f2⟩, f3, f4, f5⟩ := hp
  clear c0
  have hs4 := HN.out.size
  generalize w3.alloc (.cells #[.int .u8 f] 5) = w4 at *
  have hu : 0 ≤ n % 4294967296 ∧ n % 4294967296 ≤ 4294967295 := by omega
  clear hI3 hF3 hbw3 l1
  go_wp2_with (at_builtin; refine wp_push _ rfl _ _ rfl w3.heap.size _ [f] rfl (hown0.alloc _) ⟨w4.heap.size, 0, none⟩ 4 4 [31, 68, 0, 0] rfl rfl (news4 _ _ _ _ _ _) (by simp) (by simp; omega) ?_; intro v1 x1 hown1 _ hbel1 _; have hX1 := hbel1 w3 (HN.out.alloc hs4 _); clear hown0 hbel1)
  go_ret2
  exact ⟨_, rfl, by rw [HR.out]; exact hown1.lowerV hsz, HB.out.trans (hX1.mono hsz)⟩

theorem encL_eq (o : Nat) (a b n : Int) (h1 : 1 ≤ o) (h2 : o < 17) (h3 : o ≠ 3) : [fb o] ++ bitL (hA o) [a] ++ bitL (hB o) [b] ++ bitL (hM o) (le4 n) = encL o a b n := by
  have hc : cdL o = [fb o] := by
    have : ∀ k : Fin 17, 1 ≤ k.1 → k.1 ≠ 3 → cdL k.1 = [fb k.1] := by decide +kernel
    exact this ⟨o, h2⟩ h1 h3
  unfold encL encG bitL hA hB hM
  rw [hc]
  by_cases hk : kd o = 0 <;> simp [hk]

theorem rencode_yes (o : Nat) (a b n : Int) (w : World) (ha : 0 ≤ a ∧ a ≤ 255) (hb : 0 ≤ b ∧ b ≤ 255) (hR : rightB o a b n = true) :
    Calls Tryz.prog 93 #[ins o a b n] w fun e w' => ∃ v, e = .returned (.tuple #[v, .int .i64 0]) ∧ OwnV w' w.heap.size v (encL o a b n) ∧ Below w.heap.size w w' := by
  obtain ⟨⟨h1, h2⟩, q1, q2, q3⟩ := rightB_parts hR
  have hright : ∀ w, Calls Tryz.prog 122 #[ins o a b n] w fun e w' => e = .returned (.bool true) ∧ Below w.heap.size w w' := fun w => by
    have := rright_op o a b n w h1 h2 ha hb
    rw [hR] at this
    exact this
  by_cases h3 : o = 3
  · subst h3
    exact rencode_five 15 5 a b n _ _ _ _ w hright (fun w => form_yes 3 w (by decide) (by decide))
  · rw [← encL_eq o a b n h1 h2 h3]
    exact rencode_gen (fb o) (lenN o) o a b n _ _ _ _ w hright (fun w => form_yes o w h1 h2) (by simp; omega)

set_option maxHeartbeats 400000 in
theorem rencode_no (o : Nat) (a b n : Int) (w : World) (ha : 0 ≤ a ∧ a ≤ 255) (hb : 0 ≤ b ∧ b ≤ 255) (hR : rightB o a b n = false) :
    Calls Tryz.prog 93 #[ins o a b n] w fun e w' => e = .returned (.tuple #[.slice none 0 0, .int .i64 2]) ∧ Below w.heap.size w w' := by
  have hcon := fun w => rright_any o a b n w ha hb
  rw [hR] at hcon
  clear hR
  go_enter Tryz.func93, Tryz.ntmps93
  go_wp2_with fail
  refine (hcon _).mono ?_
  rintro e w1 ⟨rfl, hb1⟩
  clear hcon
  go_wp2
  go_ret2
  exact ⟨rfl, below_step (new_alloc w _) hb1⟩
end Go.Proofs.YtnpaijbkhmnfpaaGreat
