/- Texts put together: Fld, Dec, Spec, Math. -/
import Derived.Test.YtnpaijbkhmnfpaaGreatGb
import Derived.Test.YtnpaijbkhmnfpaaGreatLent

/- What isa's fields, Jump and Quiet answer. -/
namespace Go.Proofs.YtnpaijbkhmnfpaaGreat
open Go.RowKit

def fldA (cl r : Nat) (xs : List Int) : Int := if 1 ≤ r then xs.getD cl 0 else 0
def fldB (cl r : Nat) (xs : List Int) : Int := if 2 ≤ r then xs.getD (cl + 1) 0 else 0
def fldN (cl r : Nat) (q : Int) (xs : List Int) : Int := if q = 0 then 0 else wrap32 (n4 xs (cl + r))

set_option maxHeartbeats 2000000 in
theorem fields_gen0 (s c : ByteArray) (r : Nat) (b o n cp : Nat) (xs : List Int) (w : World) (hn : n ≤ 140737488355328) (hr2 : r ≤ 2) (hl : c.size + r ≤ n) (hcell : ∀ i, i < n → w.cell? ⟨b, o + i, none⟩ = some (.int .u8 (xs.getD i 0))) :
    Calls Tryz.prog 98 #[shp s c r 0, .slice (some ⟨b, o, none⟩) n cp] w fun e w' => e = .returned (ins 0 (fldA c.size r xs) (fldB c.size r xs) 0) ∧ Below w.heap.size w w' := by
  have HC : Hid (∀ i, i < n → ∀ A B C, (((w.alloc A).alloc B).alloc C).cell? ⟨b, o + i, none⟩ = some (.int .u8 (xs.getD i 0))) := fun i hi A B C => cell_push (cell_push (cell_push (hcell i hi) A) B) C
  clear hcell
  obtain rfl | rfl | rfl : r = 0 ∨ r = 1 ∨ r = 2 := by omega
  · have hA : fldA c.size 0 xs = 0 := rfl
    have hB : fldB c.size 0 xs = 0 := rfl
    rw [hA, hB]
    clear hA hB
    go_enter Tryz.func98, Tryz.ntmps98
    go_wp2
    refine wp_loop_rounds 1 ?_
    rw [rounds_succ]; go_wp2
    exact bodyPost_ret (v := ins 0 0 0 0) (by simp [results, Tryz.results98, go_sem]) rfl ⟨rfl, below_alloc (below_alloc (below_alloc (new_alloc _ _) _) _) _⟩
  · have c0 := HC.out c.size (by omega)
    obtain ⟨z0, e0⟩ : ∃ z, z = xs.getD c.size 0 := ⟨_, rfl⟩
    rw [← e0] at c0
    have E0 : Hid (z0 = xs.getD c.size 0) := e0
    clear e0
    have hA : fldA c.size 1 xs = z0 := E0.out.symm
    have hB : fldB c.size 1 xs = 0 := rfl
    rw [hA, hB]
    clear hA hB
    go_enter Tryz.func98, Tryz.ntmps98
    go_wp2
    refine wp_loop_rounds 2 ?_
    rw [rounds_succ]; go_wp2
    rw [rounds_succ]; go_wp2
    exact bodyPost_ret (v := ins 0 z0 0 0) (by simp [results, Tryz.results98, go_sem]) rfl ⟨rfl, below_alloc (below_alloc (below_alloc (new_alloc _ _) _) _) _⟩
  · have c0 := HC.out c.size (by omega)
    have c1 := HC.out (c.size + 1) (by omega)
    obtain ⟨z0, e0⟩ : ∃ z, z = xs.getD c.size 0 := ⟨_, rfl⟩
    rw [← e0] at c0
    have E0 : Hid (z0 = xs.getD c.size 0) := e0
    clear e0
    obtain ⟨z1, e1⟩ : ∃ z, z = xs.getD (c.size + 1) 0 := ⟨_, rfl⟩
    rw [← e1] at c1
    have E1 : Hid (z1 = xs.getD (c.size + 1) 0) := e1
    clear e1
    have hA : fldA c.size 2 xs = z0 := E0.out.symm
    have hB : fldB c.size 2 xs = z1 := E1.out.symm
    rw [hA, hB]
    clear hA hB
    go_enter Tryz.func98, Tryz.ntmps98
    go_wp2
    refine wp_loop_rounds 3 ?_
    rw [rounds_succ]; go_wp2
    rw [rounds_succ]; go_wp2
    rw [rounds_succ]; go_wp2
    exact bodyPost_ret (v := ins 0 z0 z1 0) (by simp [results, Tryz.results98, go_sem]) rfl ⟨rfl, below_alloc (below_alloc (below_alloc (new_alloc _ _) _) _) _⟩

set_option maxHeartbeats 2000000 in
theorem fields_genN (s c : ByteArray) (r : Nat) (q : Int) (b o n cp : Nat) (xs : List Int) (w : World) (hx : xs.length = n) (hn : n ≤ 140737488355328) (hby : Byt xs) (hr2 : r ≤ 2) (hq : q = 1 ∨ q = 2) (hl : c.size + r + 4 ≤ n) (hcell : ∀ i, i < n → w.cell? ⟨b, o + i, none⟩ = some (.int .u8 (xs.getD i 0))) :
    Calls Tryz.prog 98 #[shp s c r q, .slice (some ⟨b, o, none⟩) n cp] w fun e w' => e = .returned (ins 0 (fldA c.size r xs) (fldB c.size r xs) (wrap32 (n4 xs (c.size + r)))) ∧ Below w.heap.size w w' := by
  have HC : Hid (∀ i, i < n → ∀ A B C, (((w.alloc A).alloc B).alloc C).cell? ⟨b, o + i, none⟩ = some (.int .u8 (xs.getD i 0))) := fun i hi A B C => cell_push (cell_push (cell_push (hcell i hi) A) B) C
  have hrow : Row w (some ⟨b, o, none⟩) xs := fun _ => ⟨b, o, rfl, fun i hi => hcell i (by omega)⟩
  have HX : Hid (xs.length = n) := hx
  clear hcell hx
  obtain ⟨nn, en⟩ : ∃ z, z = wrap32 (n4 xs (c.size + r)) := ⟨_, rfl⟩
  rw [← en]
  have EN : Hid (nn = wrap32 (n4 xs (c.size + r))) := en
  clear en
  have hq1 : (q != 0) = true := by rcases hq with rfl | rfl <;> rfl
  clear hq
  obtain rfl | rfl | rfl : r = 0 ∨ r = 1 ∨ r = 2 := by omega
  · have hA : fldA c.size 0 xs = 0 := rfl
    have hB : fldB c.size 0 xs = 0 := rfl
    rw [hA, hB]
    clear hA hB
    go_enter Tryz.func98, Tryz.ntmps98
    go_wp2
    refine wp_loop_rounds 1 ?_
    rw [rounds_succ]; go_wp2_with fail
    refine (i32_yes _ n cp c.size xs _ HX.out (by omega) (hrow.below (below_alloc (below_alloc (below_alloc (new_alloc _ _) _) _) _)) hby (by omega) (by omega)).mono ?_
    rw [show ((c.size : Int)).toNat = c.size + 0 by omega, ← EN.out]
    rintro e w9 ⟨rfl, rfl⟩
    go_wp2
    exact bodyPost_ret (v := ins 0 0 0 nn) (by simp [results, Tryz.results98, go_sem]) rfl ⟨rfl, below_alloc (below_alloc (below_alloc (new_alloc _ _) _) _) _⟩
  · have c0 := HC.out c.size (by omega)
    obtain ⟨z0, e0⟩ : ∃ z, z = xs.getD c.size 0 := ⟨_, rfl⟩
    rw [← e0] at c0
    have E0 : Hid (z0 = xs.getD c.size 0) := e0
    clear e0
    have hA : fldA c.size 1 xs = z0 := E0.out.symm
    have hB : fldB c.size 1 xs = 0 := rfl
    rw [hA, hB]
    clear hA hB
    go_enter Tryz.func98, Tryz.ntmps98
    go_wp2
    refine wp_loop_rounds 2 ?_
    rw [rounds_succ]; go_wp2
    rw [rounds_succ]; go_wp2_with fail
    refine (i32_yes _ n cp (c.size + 1) xs _ HX.out (by omega) (hrow.below (below_alloc (below_alloc (below_alloc (new_alloc _ _) _) _) _)) hby (by omega) (by omega)).mono ?_
    rw [show ((c.size : Int) + 1).toNat = c.size + 1 by omega, ← EN.out]
    rintro e w9 ⟨rfl, rfl⟩
    go_wp2
    exact bodyPost_ret (v := ins 0 z0 0 nn) (by simp [results, Tryz.results98, go_sem]) rfl ⟨rfl, below_alloc (below_alloc (below_alloc (new_alloc _ _) _) _) _⟩
  · have c0 := HC.out c.size (by omega)
    have c1 := HC.out (c.size + 1) (by omega)
    obtain ⟨z0, e0⟩ : ∃ z, z = xs.getD c.size 0 := ⟨_, rfl⟩
    rw [← e0] at c0
    have E0 : Hid (z0 = xs.getD c.size 0) := e0
    clear e0
    obtain ⟨z1, e1⟩ : ∃ z, z = xs.getD (c.size + 1) 0 := ⟨_, rfl⟩
    rw [← e1] at c1
    have E1 : Hid (z1 = xs.getD (c.size + 1) 0) := e1
    clear e1
    have hA : fldA c.size 2 xs = z0 := E0.out.symm
    have hB : fldB c.size 2 xs = z1 := E1.out.symm
    rw [hA, hB]
    clear hA hB
    go_enter Tryz.func98, Tryz.ntmps98
    go_wp2
    refine wp_loop_rounds 3 ?_
    rw [rounds_succ]; go_wp2
    rw [rounds_succ]; go_wp2
    rw [rounds_succ]; go_wp2_with fail
    refine (i32_yes _ n cp (c.size + 2) xs _ HX.out (by omega) (hrow.below (below_alloc (below_alloc (below_alloc (new_alloc _ _) _) _) _)) hby (by omega) (by omega)).mono ?_
    rw [show ((c.size : Int) + 2).toNat = c.size + 2 by omega, ← EN.out]
    rintro e w9 ⟨rfl, rfl⟩
    go_wp2
    exact bodyPost_ret (v := ins 0 z0 z1 nn) (by simp [results, Tryz.results98, go_sem]) rfl ⟨rfl, below_alloc (below_alloc (below_alloc (new_alloc _ _) _) _) _⟩
end Go.Proofs.YtnpaijbkhmnfpaaGreat

/- What isa.Decode answers, for every slice of bytes. -/
namespace Go.Proofs.YtnpaijbkhmnfpaaGreat
open Go.RowKit

abbrev decT (o a b n l e : Int) : Value := .tuple #[ins o a b n, .int .i64 l, .int .i64 e]

theorem At4.stored {w : World} {g : Nat} {z0 z1 z2 z3 : Value} (h : At4 w g z0 z1 z2 z3) (x0 x1 x2 x3 : Value) :
    At4 ((((w.setCell ⟨g, 0, none⟩ x0).setCell ⟨g, 1, none⟩ x1).setCell ⟨g, 2, none⟩ x2).setCell ⟨g, 3, none⟩ x3) g x0 x1 x2 x3 := by
  obtain ⟨d0, d1, d2, d3⟩ := h
  refine ⟨?_, ?_, ?_, ?_⟩
  · exact (cs_other (by decide)).trans ((cs_other (by decide)).trans ((cs_other (by decide)).trans (World.cell?_setCell_same _ _ _ d0)))
  · exact (cs_other (by decide)).trans ((cs_other (by decide)).trans (World.cell?_setCell_same _ _ _ ((cs_other (by decide)).trans d1)))
  · exact (cs_other (by decide)).trans (World.cell?_setCell_same _ _ _ ((cs_other (by decide)).trans ((cs_other (by decide)).trans d2)))
  · exact World.cell?_setCell_same _ _ _ ((cs_other (by decide)).trans ((cs_other (by decide)).trans ((cs_other (by decide)).trans d3)))
theorem below_stored {w0 w : World} {g : Nat} (h : Below w0.heap.size w0 w) (hg : w0.heap.size ≤ g) (x0 x1 x2 x3 : Value) :
    Below w0.heap.size w0 ((((w.setCell ⟨g, 0, none⟩ x0).setCell ⟨g, 1, none⟩ x1).setCell ⟨g, 2, none⟩ x2).setCell ⟨g, 3, none⟩ x3) :=
  (((h.setCell hg _).setCell hg _).setCell hg _).setCell hg _
theorem load4 {w : World} {g : Nat} {x0 x1 x2 x3 : Value} (h : At4 w g x0 x1 x2 x3) : (loadVar 117 ⟨g, 0, none⟩).run Tryz.prog w = .ok (.agg #[x0, x1, x2, x3]) w := by
  obtain ⟨d0, d1, d2, d3⟩ := h
  simp [go_sem, d0, d1, d2, d3]

set_option maxHeartbeats 400000 in
theorem dec_empty (p : Option Addr) (cp : Nat) (w : World) :
    Calls Tryz.prog 70 #[.slice p 0 cp] w fun e w' => e = .returned (decT 0 0 0 0 0 4) ∧ Below w.heap.size w w' := by
  go_enter Tryz.func70, Tryz.ntmps70
  go_wp2
  exact bodyPost_ret (v := decT 0 0 0 0 0 4) (by simp [results, Tryz.results70, go_sem]) rfl ⟨rfl, new_alloc _ _⟩

set_option maxHeartbeats 1000000 in
theorem dec_short (o : Nat) (h1 : 1 ≤ o) (h2 : o < 17) (b f n cp : Nat) (w : World) (hn : n ≤ 140737488355328) (h0 : 0 < n) (hl : n < lenN o) (hcell : w.cell? ⟨b, f, none⟩ = some (.int .u8 (fb o))) :
    Calls Tryz.prog 70 #[.slice (some ⟨b, f, none⟩) n cp] w fun e w' => e = .returned (decT 0 0 0 0 0 4) ∧ Below w.heap.size w w' := by
  have c0 := cell_push hcell
  have hcon := fun w => len_yes o w h1 h2
  have hd : ((n : Int) == 0) = false := by simp; omega
  generalize fb o = z at *
  generalize lenN o = L at *
  clear hcell h1 h2
  go_enter Tryz.func70, Tryz.ntmps70
  go_wp2_with fail
  refine (hcon _).mono ?_
  rintro e w1 ⟨rfl, hb1⟩
  have hat := (At4.new w (.int .u8 0) (.int .u8 0) (.int .u8 0) (.int .i32 0) 117).below hb1
  have hfr : ∀ i, w1.frozen? ⟨w.heap.size, i, none⟩ = false := fun i => (hb1.frozen (p := ⟨w.heap.size, i, none⟩) (by simp)).trans (by simp)
  have hbw := below_step (new_alloc w _) hb1
  clear hb1 c0 hcon
  have HAT : Hid (At4 w1 w.heap.size (.int .u8 0) (.int .u8 0) (.int .u8 0) (.int .i32 0)) := hat
  obtain ⟨r0, r1, r2, r3⟩ := hat
  have hld := load4 (HAT.out.stored (.int .u8 0) (.int .u8 0) (.int .u8 0) (.int .i32 0))
  go_wp2
  exact bodyPost_ret (v := decT 0 0 0 0 0 4) (by simp [results, Tryz.results70, asAddr, hld]) rfl ⟨rfl, below_stored hbw (Nat.le_refl _) _ _ _ _⟩

set_option maxHeartbeats 1000000 in
theorem dec_none (z : Int) (hno : ∀ o, 1 ≤ o → o < 17 → fb o ≠ z) (b f n cp : Nat) (w : World) (hn : n ≤ 140737488355328) (h0 : 0 < n) (hcell : w.cell? ⟨b, f, none⟩ = some (.int .u8 z)) :
    Calls Tryz.prog 70 #[.slice (some ⟨b, f, none⟩) n cp] w fun e w' => e = .returned (decT 0 0 0 0 0 120) ∧ Below w.heap.size w w' := by
  have c0 := cell_push hcell
  have hlb := cell_lt hcell
  have hcon := fun w => len_no z w hno
  have hcon2 := fun w => opOf_no z w hno
  have hd : ((n : Int) == 0) = false := by simp; omega
  have HCC : Hid (w.cell? ⟨b, f, none⟩ = some (.int .u8 z)) := hcell
  clear hcell hno
  go_enter Tryz.func70, Tryz.ntmps70
  go_wp2_with fail
  refine (hcon _).mono ?_
  rintro e w1 ⟨rfl, hb1⟩
  have hat := (At4.new w (.int .u8 0) (.int .u8 0) (.int .u8 0) (.int .i32 0) 117).below hb1
  have hfr : ∀ i, w1.frozen? ⟨w.heap.size, i, none⟩ = false := fun i => (hb1.frozen (p := ⟨w.heap.size, i, none⟩) (by simp)).trans (by simp)
  have hbw := below_step (new_alloc w _) hb1
  have c1 := (hbw.cell (p := ⟨b, f, none⟩) hlb).trans HCC.out
  clear hb1 c0 hcon
  go_wp2_with fail
  refine (hcon2 _).mono ?_
  rintro e w2 ⟨rfl, hb2⟩
  have hat2 := hat.below hb2
  have hl2 : w.heap.size < w1.heap.size := cell_lt hat.1
  have hfr2 : ∀ i, w2.frozen? ⟨w.heap.size, i, none⟩ = false := fun i => (hb2.frozen (p := ⟨w.heap.size, i, none⟩) hl2).trans (hfr i)
  have hbw2 := below_step hbw hb2
  have HAT : Hid (At4 w2 w.heap.size (.int .u8 0) (.int .u8 0) (.int .u8 0) (.int .i32 0)) := hat2
  obtain ⟨r0, r1, r2, r3⟩ := hat2
  have hld := load4 (HAT.out.stored (.int .u8 0) (.int .u8 0) (.int .u8 0) (.int .i32 0))
  clear hat hfr hb2 hbw c1 hcon2 hl2
  go_wp2
  exact bodyPost_ret (v := decT 0 0 0 0 0 120) (by simp [results, Tryz.results70, asAddr, hld]) rfl ⟨rfl, below_stored hbw2 (Nat.le_refl _) _ _ _ _⟩

/-- fields, for an op of the table -/
theorem fields_op (o : Nat) (h2 : o < 17) (b f n cp : Nat) (xs : List Int) (w : World) (hx : xs.length = n) (hn : n ≤ 140737488355328) (hby : Byt xs) (hl : lenN o ≤ n) (hcell : ∀ i, i < n → w.cell? ⟨b, f + i, none⟩ = some (.int .u8 (xs.getD i 0))) :
    Calls Tryz.prog 98 #[shp (nm o) (cd o) (rg o) (kd o), .slice (some ⟨b, f, none⟩) n cp] w fun e w' => e = .returned (ins 0 (fldA (cdL o).length (rg o) xs) (fldB (cdL o).length (rg o) xs) (fldN (cdL o).length (rg o) (kd o) xs)) ∧ Below w.heap.size w w' := by
  have hc := cd_size o h2
  have hr := rg_le o h2
  rw [← hc]
  by_cases h0 : kd o = 0
  · have hll : (cd o).size + rg o ≤ n := by rw [hc]; simp only [lenN, h0] at hl; omega
    rw [h0]
    exact fields_gen0 (nm o) (cd o) (rg o) b f n cp xs w hn hr hll hcell
  · have hll : (cd o).size + rg o + 4 ≤ n := by rw [hc]; simp only [lenN, h0, if_false] at hl; omega
    have := fields_genN (nm o) (cd o) (rg o) (kd o) b f n cp xs w hx hn hby hr (by have := kd_in o h2; omega) hll hcell
    rw [show fldN (cd o).size (rg o) (kd o) xs = wrap32 (n4 xs ((cd o).size + rg o)) by simp [fldN, h0]]
    exact this

/-- a variable of four cells: what it holds, and that it may be written -/
def Var4 (w : World) (g : Nat) (x0 x1 x2 x3 : Value) : Prop := At4 w g x0 x1 x2 x3 ∧ ∀ i, w.frozen? ⟨g, i, none⟩ = false
theorem Var4.new (w : World) (x0 x1 x2 x3 : Value) (t : TypeId) : Var4 (w.alloc (.cells #[x0, x1, x2, x3] t)) w.heap.size x0 x1 x2 x3 := ⟨At4.new _ _ _ _ _ _, fun i => by simp⟩
theorem Var4.below {w w' : World} {g : Nat} {x0 x1 x2 x3 : Value} (h : Var4 w g x0 x1 x2 x3) (hb : Below w.heap.size w w') : Var4 w' g x0 x1 x2 x3 :=
  ⟨h.1.below hb, fun i => (hb.frozen (p := ⟨g, i, none⟩) (cell_lt h.1.1)).trans (h.2 i)⟩
theorem Var4.push {w : World} {g : Nat} {x0 x1 x2 x3 : Value} (h : Var4 w g x0 x1 x2 x3) (ob : Obj) : Var4 (w.alloc ob) g x0 x1 x2 x3 := h.below (new_alloc w ob)
theorem Var4.drew {w : World} {g : Nat} {x0 x1 x2 x3 : Value} (h : Var4 w g x0 x1 x2 x3) : Var4 w.drew g x0 x1 x2 x3 := h

set_option maxRecDepth 16000 in
set_option maxHeartbeats 2000000 in
theorem dec_gen (s c : ByteArray) (r L : Nat) (q z o a b' nn : Int) (pb rb : Bool) (b f n cp : Nat) (xs : List Int) (w : World)
    (hlen : ∀ w, Calls Tryz.prog 77 #[.int .u8 z] w fun e w' => e = .returned (.int .i64 L) ∧ Below w.heap.size w w')
    (hop : ∀ w, Calls Tryz.prog 95 #[.int .u8 z] w fun e w' => e = .returned (.tuple #[.int .u8 o, .bool true]) ∧ Below w.heap.size w w')
    (hidx : ∀ w, (Instr.index 175 (.agg tab) (.int .u8 o)).run Tryz.prog w = .ok (.agg #[.string s, .string c, .int .i64 r, .int .u8 q]) w)
    (hbeg : ∀ w, (∀ i, i < n → w.cell? ⟨b, f + i, none⟩ = some (.int .u8 (xs.getD i 0))) → Calls Tryz.prog 97 #[shp s c r q, .slice (some ⟨b, f, none⟩) n cp] w fun e w' => e = .returned (.bool pb) ∧ Below w.heap.size w w')
    (hfld : ∀ w, (∀ i, i < n → w.cell? ⟨b, f + i, none⟩ = some (.int .u8 (xs.getD i 0))) → Calls Tryz.prog 98 #[shp s c r q, .slice (some ⟨b, f, none⟩) n cp] w fun e w' => e = .returned (ins 0 a b' nn) ∧ Below w.heap.size w w')
    (hright : ∀ w, Calls Tryz.prog 99 #[ins o a b' nn] w fun e w' => e = .returned (.bool rb) ∧ Below w.heap.size w w')
    (hlen2 : ∀ w, Calls Tryz.prog 100 #[shp s c r q] w fun e w' => e = .returned (.int .i64 L) ∧ Below w.heap.size w w')
    (hn : n ≤ 140737488355328) (h0 : 0 < n) (hl : L ≤ n) (hz : xs.getD 0 0 = z) (hcell : ∀ i, i < n → w.cell? ⟨b, f + i, none⟩ = some (.int .u8 (xs.getD i 0))) :
    Calls Tryz.prog 70 #[.slice (some ⟨b, f, none⟩) n cp] w fun e w' => e = .returned (if (pb && rb) then decT o a b' nn L 0 else decT 0 0 0 0 0 120) ∧ Below w.heap.size w w' := by
  have HC : Hid (∀ w', Below w.heap.size w w' → ∀ i, i < n → w'.cell? ⟨b, f + i, none⟩ = some (.int .u8 (xs.getD i 0))) := fun w' hb i hi => (hb.cell (p := ⟨b, f + i, none⟩) (cell_lt (hcell i hi))).trans (hcell i hi)
  have HZ : Hid (∀ w', Below w.heap.size w w' → w'.cell? ⟨b, f, none⟩ = some (.int .u8 z)) := fun w' hb => by have := HC.out w' hb 0 h0; rw [hz] at this; exact this
  clear hcell hz
  have c0 := fun ob => HZ.out _ (new_alloc w ob)
  have hd : ((n : Int) == 0) = false := by simp; omega
  go_enter Tryz.func70, Tryz.ntmps70
  go_wp2_with fail
  refine (hlen _).mono ?_
  rintro e w1 ⟨rfl, hb1⟩
  have hV := (Var4.new w (.int .u8 0) (.int .u8 0) (.int .u8 0) (.int .i32 0) 117).below hb1
  have hbw := below_step (new_alloc w _) hb1
  have c1 := HZ.out _ hbw
  clear hb1 c0 hlen
  go_wp2_with fail
  refine (hop _).mono ?_
  rintro e w2 ⟨rfl, hb2⟩
  have hV2 := hV.below hb2
  have hbw2 := below_step hbw hb2
  clear hV hb2 hbw c1 hop
  go_wp2_with fail
  refine (shapes_any _).mono ?_
  rintro e w3 ⟨rfl, hb3⟩
  have hV3 := (hV2.below hb3).push (.cells #[.string s, .string c, .int .i64 r, .int .u8 q] 174)
  have hS3 := Var4.new w3 (.string s) (.string c) (.int .i64 r) (.int .u8 q) 174
  have hbw3 := below_alloc (below_step hbw2 hb3) (.cells #[.string s, .string c, .int .i64 r, .int .u8 q] 174)
  clear hV2 hb3 hbw2
  go_wp2_with fail
  refine (hbeg _ (HC.out _ hbw3)).mono ?_
  rintro e w4 ⟨rfl, hb4⟩
  have hV4 := hV3.below hb4
  have hS4 := hS3.below hb4
  have hbw4 := below_step hbw3 hb4
  clear hV3 hS3 hb4 hbw3 hbeg hidx
  generalize w3.heap.size = gS at *
  clear w3
  cases pb
  · have HV : Hid (Var4 w4 w.heap.size (.int .u8 0) (.int .u8 0) (.int .u8 0) (.int .i32 0)) := hV4
    obtain ⟨⟨r0, r1, r2, r3⟩, hfr⟩ := hV4
    have hld := load4 (HV.out.1.stored (.int .u8 0) (.int .u8 0) (.int .u8 0) (.int .i32 0))
    go_wp2
    exact bodyPost_ret (v := decT 0 0 0 0 0 120) (by simp [results, Tryz.results70, asAddr, hld]) rfl ⟨rfl, below_stored hbw4 (Nat.le_refl _) _ _ _ _⟩
  · have HV4 : Hid (Var4 w4 w.heap.size (.int .u8 0) (.int .u8 0) (.int .u8 0) (.int .i32 0)) := hV4
    have HS4 : Hid (Var4 w4 gS (.string s) (.string c) (.int .i64 r) (.int .u8 q)) := hS4
    obtain ⟨⟨q0, q1, q2, q3⟩, _⟩ := hS4
    clear hV4
    go_wp2_with fail
    refine (hfld _ (HC.out _ hbw4)).mono ?_
    rintro e w5 ⟨rfl, hb5⟩
    have hV5 := (HV4.out.below hb5).push (.cells #[.int .u8 o, .int .u8 a, .int .u8 b', .int .i32 nn] 117)
    have hS5 := (HS4.out.below hb5).push (.cells #[.int .u8 o, .int .u8 a, .int .u8 b', .int .i32 nn] 117)
    have hI5 := Var4.new w5 (.int .u8 o) (.int .u8 a) (.int .u8 b') (.int .i32 nn) 117
    have hbw5 := below_alloc (below_step hbw4 hb5) (.cells #[.int .u8 o, .int .u8 a, .int .u8 b', .int .i32 nn] 117)
    clear q0 q1 q2 q3 HV4 HS4 hb5 hbw4 hfld
    go_wp2_with fail
    refine (hright _).mono ?_
    rintro e w6 ⟨rfl, hb6⟩
    have hV6 := hV5.below hb6
    have hS6 := hS5.below hb6
    have hI6 := hI5.below hb6
    have hbw6 := below_step hbw5 hb6
    clear hV5 hS5 hI5 hb6 hbw5 hright
    generalize w5.heap.size = gI at *
    clear w5
    have HV : Hid (Var4 w6 w.heap.size (.int .u8 0) (.int .u8 0) (.int .u8 0) (.int .i32 0)) := hV6
    have HS : Hid (Var4 w6 gS (.string s) (.string c) (.int .i64 r) (.int .u8 q)) := hS6
    have HI : Hid (Var4 w6 gI (.int .u8 o) (.int .u8 a) (.int .u8 b') (.int .i32 nn)) := hI6
    cases rb
    · obtain ⟨⟨r0, r1, r2, r3⟩, hfr⟩ := hV6
      have hld := load4 (HV.out.1.stored (.int .u8 0) (.int .u8 0) (.int .u8 0) (.int .i32 0))
      clear hS6 hI6
      go_wp2
      exact bodyPost_ret (v := decT 0 0 0 0 0 120) (by simp [results, Tryz.results70, asAddr, hld]) rfl ⟨rfl, below_stored hbw6 (Nat.le_refl _) _ _ _ _⟩
    · obtain ⟨⟨q0, q1, q2, q3⟩, _⟩ := hS6
      obtain ⟨⟨i0, i1, i2, i3⟩, _⟩ := hI6
      clear hV6
      go_wp2_with fail
      go_region_with (go_at_call 100; refine (hlen2 _).mono ?_; rintro e w7 ⟨rfl, hb7⟩; have hbw7 := below_step hbw6.drew hb7; obtain ⟨⟨s0, s1, s2, s3⟩, hf7⟩ := HV.out.drew.below hb7; obtain ⟨⟨j0, j1, j2, j3⟩, _⟩ := HI.out.drew.below hb7; have hld := load4 ((HV.out.drew.below hb7).1.stored (.int .u8 o) (.int .u8 a) (.int .u8 b') (.int .i32 nn)))
      all_goals
        go_wp2
        exact bodyPost_ret (v := decT o a b' nn L 0) (by simp [results, Tryz.results70, asAddr, hld]) rfl ⟨rfl, below_stored hbw7 (Nat.le_refl _) _ _ _ _⟩
end Go.Proofs.YtnpaijbkhmnfpaaGreat

/- What the bytes of an instruction say; isa.Decode answers it, for every slice of bytes. -/
namespace Go.Proofs.YtnpaijbkhmnfpaaGreat
open Go.RowKit

/-! ### what the bytes say -/
def opN (z : Int) : Nat := ((List.range 17).find? fun k => decide (1 ≤ k) && decide (fb k = z)).getD 0
theorem opN_fb (o : Nat) (h1 : 1 ≤ o) (h2 : o < 17) : opN (fb o) = o := by
  have : ∀ k : Fin 17, 1 ≤ k.1 → opN (fb k.1) = k.1 := by decide +kernel
  exact this ⟨o, h2⟩ h1
theorem opN_no (z : Int) (h : ∀ o, 1 ≤ o → o < 17 → fb o ≠ z) : opN z = 0 := by
  unfold opN
  rw [List.find?_eq_none.2]
  · rfl
  · intro k hk
    simp only [List.mem_range] at hk
    simp only [Bool.and_eq_true, decide_eq_true_eq, not_and]
    exact fun h1 => h k h1 hk
theorem op_cases (z : Int) : (∃ o, 1 ≤ o ∧ o < 17 ∧ fb o = z) ∨ ∀ o, 1 ≤ o → o < 17 → fb o ≠ z := by
  by_cases h : ∃ o, 1 ≤ o ∧ o < 17 ∧ fb o = z
  · exact .inl h
  · exact .inr fun o h1 h2 h3 => h ⟨o, h1, h2, h3⟩

structure Dec where
  o : Int
  a : Int
  b : Int
  n : Int
  l : Int
  e : Int
abbrev decV (d : Dec) : Value := decT d.o d.a d.b d.n d.l d.e
def preL (cs xs : List Int) : Bool := decide (∀ i, i < cs.length → xs.getD i 0 = cs.getD i 0)
def fA (o : Nat) (xs : List Int) : Int := fldA (cdL o).length (rg o) xs
def fB (o : Nat) (xs : List Int) : Int := fldB (cdL o).length (rg o) xs
def fN (o : Nat) (xs : List Int) : Int := fldN (cdL o).length (rg o) (kd o) xs
def decO (o : Nat) (xs : List Int) : Dec :=
  if xs.length < lenN o then ⟨0, 0, 0, 0, 0, 4⟩
  else if preL (cdL o) xs && rightB o (fA o xs) (fB o xs) (fN o xs) then ⟨o, fA o xs, fB o xs, fN o xs, lenN o, 0⟩ else ⟨0, 0, 0, 0, 0, 120⟩
def dec (xs : List Int) : Dec :=
  if xs.length = 0 then ⟨0, 0, 0, 0, 0, 4⟩ else if opN (xs.getD 0 0) = 0 then ⟨0, 0, 0, 0, 0, 120⟩ else decO (opN (xs.getD 0 0)) xs

theorem preB_preL (o : Nat) (h : o < 17) (xs : List Int) : preB (cd o) xs = preL (cdL o) xs := by
  unfold preB preL
  rw [decide_eq_decide]
  have hs := cd_size o h
  constructor
  · intro k i hi
    rw [k i (by omega), cd_byte o h i (by omega)]
  · intro k i hi
    rw [k i (by omega), cd_byte o h i hi]

theorem fldA_in {cl r : Nat} {xs : List Int} (h : Byt xs) : 0 ≤ fldA cl r xs ∧ fldA cl r xs ≤ 255 := by
  unfold fldA; split
  · exact h _
  · omega
theorem fldB_in {cl r : Nat} {xs : List Int} (h : Byt xs) : 0 ≤ fldB cl r xs ∧ fldB cl r xs ≤ 255 := by
  unfold fldB; split
  · exact h _
  · omega

theorem decode_any (p : Option Addr) (n cp : Nat) (xs : List Int) (w : World) (hx : xs.length = n) (hn : n ≤ 140737488355328) (hr : Row w p xs) (hby : Byt xs) :
    Calls Tryz.prog 70 #[.slice p n cp] w fun e w' => e = .returned (decV (dec xs)) ∧ Below w.heap.size w w' := by
  by_cases h0 : n = 0
  · subst h0
    rw [show dec xs = ⟨0, 0, 0, 0, 0, 4⟩ by unfold dec; rw [if_pos hx]]
    exact dec_empty p cp w
  · obtain ⟨b, f, rfl, hc⟩ := hr (by omega)
    have hc0 := hc 0 (by omega)
    rw [Nat.add_zero] at hc0
    rcases op_cases (xs.getD 0 0) with ⟨o, h1, h2, hz⟩ | hno
    · have hop := opN_fb o h1 h2
      rw [hz] at hop
      rw [show dec xs = decO o xs by unfold dec; rw [if_neg (by omega), hop, if_neg (by omega)]]
      by_cases hl : n < lenN o
      · rw [show decO o xs = ⟨0, 0, 0, 0, 0, 4⟩ by unfold decO; rw [if_pos (by omega)]]
        exact dec_short o h1 h2 b f n cp w hn (by omega) hl (by rw [hz]; exact hc0)
      · have hcs := cd_size o h2
        have hlo : (cd o).size ≤ n := by rw [hcs]; unfold lenN at hl; omega
        have := dec_gen (nm o) (cd o) (rg o) (lenN o) (kd o) (xs.getD 0 0) o (fA o xs) (fB o xs) (fN o xs) (preB (cd o) xs) (rightB o (fA o xs) (fB o xs) (fN o xs)) b f n cp xs w
          (fun w => by rw [← hz]; exact len_yes o w h1 h2) (fun w => by rw [← hz]; exact opOf_yes o w h1 h2) (idx_any o h2)
          (fun w hw => begins_at (nm o) (cd o) (rg o) (kd o) b f n cp xs w (by omega) hlo hw)
          (fun w hw => fields_op o h2 b f n cp xs w hx hn hby (by omega) hw)
          (fun w => right_op o _ _ _ w h1 h2 (fldA_in hby) (fldB_in hby)) (length_op o h2) hn (by omega) (by omega) rfl (fun i hi => hc i (by omega))
        refine this.mono fun e w' ⟨he, hb⟩ => ⟨?_, hb⟩
        have hdec : decO o xs = if (preL (cdL o) xs && rightB o (fA o xs) (fB o xs) (fN o xs)) then ⟨o, fA o xs, fB o xs, fN o xs, lenN o, 0⟩ else ⟨0, 0, 0, 0, 0, 120⟩ := by
          unfold decO; rw [if_neg (show ¬ xs.length < lenN o by omega)]
        rw [he, preB_preL o h2, hdec]
        cases (preL (cdL o) xs && rightB o (fA o xs) (fB o xs) (fN o xs)) <;> rfl
    · rw [show dec xs = ⟨0, 0, 0, 0, 0, 120⟩ by unfold dec; rw [if_neg (by omega), if_pos (opN_no _ hno)]]
      exact dec_none (xs.getD 0 0) hno b f n cp w hn (by omega) hc0
end Go.Proofs.YtnpaijbkhmnfpaaGreat

/- Plain facts: what is encoded is decoded as it was, whatever stands behind it; what is decoded is right, and encoded just these bytes. -/
namespace Go.Proofs.YtnpaijbkhmnfpaaGreat
open Go.RowKit

theorem gC (cs : List Int) (r : Nat) (q a b n : Int) (ts : List Int) (i : Nat) (h : i < cs.length) : (encG cs r q a b n ++ ts).getD i 0 = cs.getD i 0 := by
  unfold encG
  rw [List.append_assoc, List.append_assoc, List.append_assoc, getD_left _ _ _ h]
theorem gA (cs : List Int) (r : Nat) (q a b n : Int) (ts : List Int) (h : 1 ≤ r) : (encG cs r q a b n ++ ts).getD cs.length 0 = a := by
  unfold encG
  rw [List.append_assoc, List.append_assoc, List.append_assoc, if_pos h]
  have := getD_right cs ([a] ++ ((if 2 ≤ r then [b] else []) ++ ((if q = 0 then [] else le4 n) ++ ts))) 0
  rw [Nat.add_zero] at this
  rw [this]
  rfl
theorem gB (cs : List Int) (r : Nat) (q a b n : Int) (ts : List Int) (h : 2 ≤ r) : (encG cs r q a b n ++ ts).getD (cs.length + 1) 0 = b := by
  unfold encG
  rw [List.append_assoc, List.append_assoc, List.append_assoc, if_pos (by omega), if_pos h, getD_right]
  rfl
theorem encG_num_split (cs : List Int) (r : Nat) (q a b n : Int) (ts : List Int) (h : r ≤ 2) (hq : q ≠ 0) : ∃ ys : List Int, ys.length = cs.length + r ∧ encG cs r q a b n ++ ts = ys ++ (le4 n ++ ts) := by
  refine ⟨cs ++ (if 1 ≤ r then [a] else []) ++ (if 2 ≤ r then [b] else []), ?_, ?_⟩
  · obtain rfl | rfl | rfl : r = 0 ∨ r = 1 ∨ r = 2 := by omega
    all_goals simp
  · unfold encG; rw [if_neg hq, List.append_assoc]
theorem gN (cs : List Int) (r : Nat) (q a b n : Int) (ts : List Int) (h : r ≤ 2) (hq : q ≠ 0) : n4 (encG cs r q a b n ++ ts) (cs.length + r) = n % 4294967296 := by
  obtain ⟨ys, hl, he⟩ := encG_num_split cs r q a b n ts h hq
  rw [he, ← hl]
  have e0 := getD_right ys (le4 n ++ ts) 0
  have e1 := getD_right ys (le4 n ++ ts) 1
  have e2 := getD_right ys (le4 n ++ ts) 2
  have e3 := getD_right ys (le4 n ++ ts) 3
  rw [Nat.add_zero] at e0
  simp only [n4, num4]
  rw [e0, e1, e2, e3]
  simp only [le4, List.cons_append, List.getD_cons_zero, List.getD_cons_succ]
  omega
theorem wrap_back (n : Int) (h : -2147483648 ≤ n ∧ n ≤ 2147483647) : wrap32 (n % 4294967296) = n := by unfold wrap32; omega

theorem rightB_partsM {o : Nat} {a b n : Int} (h : rightB o a b n = true) : (1 ≤ o ∧ o < 17) ∧ regB (decide (1 ≤ rg o)) a = true ∧ regB (decide (2 ≤ rg o)) b = true ∧ numB (kd o) n = true := by
  simp only [rightB, Bool.and_eq_true, decide_eq_true_eq] at h
  exact ⟨h.1, h.2.1.1, h.2.1.2, h.2.2⟩

theorem fA_enc {o : Nat} {a b n : Int} (h : rightB o a b n = true) (ts : List Int) : fA o (encL o a b n ++ ts) = a := by
  obtain ⟨_, ha, _, _⟩ := rightB_partsM h
  unfold fA fldA encL
  by_cases hr : 1 ≤ rg o
  · rw [if_pos hr, gA _ _ _ _ _ _ _ hr]
  · rw [if_neg hr]
    simp [regB, hr] at ha
    exact ha.symm
theorem fB_enc {o : Nat} {a b n : Int} (h : rightB o a b n = true) (ts : List Int) : fB o (encL o a b n ++ ts) = b := by
  obtain ⟨_, _, hb, _⟩ := rightB_partsM h
  unfold fB fldB encL
  by_cases hr : 2 ≤ rg o
  · rw [if_pos hr, gB _ _ _ _ _ _ _ hr]
  · rw [if_neg hr]
    simp [regB, hr] at hb
    exact hb.symm
theorem fN_enc {o : Nat} {a b n : Int} (h : rightB o a b n = true) (hn : -2147483648 ≤ n ∧ n ≤ 2147483647) (ts : List Int) : fN o (encL o a b n ++ ts) = n := by
  obtain ⟨ho, _, _, hm⟩ := rightB_partsM h
  unfold fN fldN encL
  by_cases hq : kd o = 0
  · rw [if_pos hq]
    simp [numB, hq] at hm
    exact hm.symm
  · rw [if_neg hq, gN _ _ _ _ _ _ _ (rg_le o ho.2) hq, wrap_back n hn]

theorem dec_enc {o : Nat} {a b n : Int} (h : rightB o a b n = true) (hn : -2147483648 ≤ n ∧ n ≤ 2147483647) (ts : List Int) : dec (encL o a b n ++ ts) = ⟨o, a, b, n, lenN o, 0⟩ := by
  obtain ⟨ho, _, _, _⟩ := rightB_partsM h
  have hl := encL_length o a b n ho.2
  have hp := cdL_pos o ho.1 ho.2
  have hi := lenN_in o ho.1 ho.2
  have hz : (encL o a b n ++ ts).getD 0 0 = fb o := gC _ _ _ _ _ _ _ _ hp
  have hlen : (encL o a b n ++ ts).length = lenN o + ts.length := by rw [List.length_append, hl]
  unfold dec
  rw [if_neg (by omega), hz, opN_fb o ho.1 ho.2, if_neg (by omega)]
  unfold decO
  rw [if_neg (by omega), fA_enc h, fB_enc h, fN_enc h hn, h]
  have hpre : preL (cdL o) (encL o a b n ++ ts) = true := decide_eq_true fun i hi => gC _ _ _ _ _ _ _ _ hi
  rw [hpre]
  rfl

theorem take_more (xs : List Int) (k : Nat) (h : k < xs.length) {ys : List Int} (hy : xs.take k = ys) : xs.take (k + 1) = ys ++ [xs.getD k 0] := by
  rw [take_getD xs k h, hy]
theorem le4_back {xs : List Int} (hb : Byt xs) (k : Nat) : le4 (wrap32 (n4 xs k)) = [xs.getD k 0, xs.getD (k + 1) 0, xs.getD (k + 2) 0, xs.getD (k + 3) 0] := by
  have b0 := hb k; have b1 := hb (k + 1); have b2 := hb (k + 2); have b3 := hb (k + 3)
  simp only [le4, wrap32, n4, num4]
  generalize xs.getD k 0 = z0 at *
  generalize xs.getD (k + 1) 0 = z1 at *
  generalize xs.getD (k + 2) 0 = z2 at *
  generalize xs.getD (k + 3) 0 = z3 at *
  refine List.cons_eq_cons.2 ⟨by omega, List.cons_eq_cons.2 ⟨by omega, List.cons_eq_cons.2 ⟨by omega, List.cons_eq_cons.2 ⟨by omega, rfl⟩⟩⟩⟩

theorem enc_back (cs : List Int) (r : Nat) (q : Int) (xs : List Int) (hb : Byt xs) (hr : r ≤ 2) (hp : xs.take cs.length = cs) (hl : (cs.length + r + if q = 0 then 0 else 4) ≤ xs.length) :
    encG cs r q (fldA cs.length r xs) (fldB cs.length r xs) (fldN cs.length r q xs) = xs.take (cs.length + r + if q = 0 then 0 else 4) := by
  have hA : xs.take (cs.length + r) = cs ++ (if 1 ≤ r then [fldA cs.length r xs] else []) ++ (if 2 ≤ r then [fldB cs.length r xs] else []) := by
    obtain rfl | rfl | rfl : r = 0 ∨ r = 1 ∨ r = 2 := by omega
    · simpa using hp
    · rw [take_more xs cs.length (by omega) hp]; simp [fldA]
    · have := take_more xs (cs.length + 1) (by omega) (take_more xs cs.length (by omega) hp)
      rw [show cs.length + 2 = cs.length + 1 + 1 by omega, this]; simp [fldA, fldB]
  unfold encG
  rw [← hA]
  by_cases hq : q = 0
  · simp [hq]
  · rw [if_neg hq] at hl
    rw [if_neg hq, if_neg hq]
    have h1 := take_more xs (cs.length + r) (by omega) rfl
    have h2 := take_more xs (cs.length + r + 1) (by omega) h1
    have h3 := take_more xs (cs.length + r + 2) (by omega) h2
    have h4 := take_more xs (cs.length + r + 3) (by omega) h3
    rw [show cs.length + r + 4 = cs.length + r + 3 + 1 by omega, h4]
    simp only [fldN, if_neg hq, le4_back hb, List.append_assoc, List.cons_append, List.nil_append]

/-- what is decoded, where there is no error -/
theorem dec_ok {xs : List Int} (hb : Byt xs) (h : (dec xs).e = 0) :
    ∃ o : Nat, (dec xs).o = o ∧ (dec xs).l = lenN o ∧ lenN o ≤ xs.length ∧ rightB o (dec xs).a (dec xs).b (dec xs).n = true ∧ encL o (dec xs).a (dec xs).b (dec xs).n = xs.take (lenN o) ∧
      (0 ≤ (dec xs).a ∧ (dec xs).a ≤ 255) ∧ (0 ≤ (dec xs).b ∧ (dec xs).b ≤ 255) := by
  unfold dec at h ⊢
  by_cases h0 : xs.length = 0
  · rw [if_pos h0] at h; simp at h
  · rw [if_neg h0] at h ⊢
    by_cases h1 : opN (xs.getD 0 0) = 0
    · rw [if_pos h1] at h; simp at h
    · rw [if_neg h1] at h ⊢
      generalize opN (xs.getD 0 0) = o at h h1 ⊢
      unfold decO at h ⊢
      by_cases hl : xs.length < lenN o
      · rw [if_pos hl] at h; simp at h
      · rw [if_neg hl] at h ⊢
        by_cases hk : (preL (cdL o) xs && rightB o (fA o xs) (fB o xs) (fN o xs)) = true
        · rw [if_pos hk]
          rw [Bool.and_eq_true] at hk
          obtain ⟨ho, _, _, _⟩ := rightB_partsM hk.2
          refine ⟨o, rfl, rfl, by omega, hk.2, ?_, fldA_in hb, fldB_in hb⟩
          have hp : xs.take (cdL o).length = cdL o := by
            have hpre := of_decide_eq_true hk.1
            have hle : (cdL o).length ≤ xs.length := by unfold lenN at hl; omega
            refine list_ext_getD (by simp; omega) fun i => ?_
            by_cases hi : i < (cdL o).length
            · rw [← hpre i hi]; simp [List.getD, hi]
            · rw [List.getD, List.getD, List.getElem?_eq_none (by simp; omega), List.getElem?_eq_none (by omega)]
          exact enc_back (cdL o) (rg o) (kd o) xs hb (rg_le o ho.2) hp (by unfold lenN at hl; omega)
        · rw [if_neg hk] at h; simp at h

theorem dec_bad {xs : List Int} (h : (dec xs).e ≠ 0) : (dec xs).o = 0 ∧ (dec xs).a = 0 ∧ (dec xs).b = 0 ∧ (dec xs).n = 0 ∧ (dec xs).l = 0 := by
  unfold dec at h ⊢
  split
  · simp
  · rename_i h0
    rw [if_neg h0] at h
    split
    · simp
    · rename_i h1
      rw [if_neg h1] at h
      unfold decO at h ⊢
      split
      · simp
      · rename_i h2
        rw [if_neg h2] at h
        split
        · rename_i h3
          rw [if_pos h3] at h
          exact absurd rfl h
        · simp
end Go.Proofs.YtnpaijbkhmnfpaaGreat
