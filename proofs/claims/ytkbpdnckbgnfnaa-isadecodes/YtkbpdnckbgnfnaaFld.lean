/- What isa's fields, Jump and Quiet answer. -/
import Derived.Test.YtkbpdnckbgnfnaaEnc
namespace Go.Proofs.Ytkbpdnckbgnfnaa
open Go.RowKit

def fldA (cl r : Nat) (xs : List Int) : Int := if 1 ≤ r then xs.getD cl 0 else 0
def fldB (cl r : Nat) (xs : List Int) : Int := if 2 ≤ r then xs.getD (cl + 1) 0 else 0
def fldN (cl r : Nat) (q : Int) (xs : List Int) : Int := if q = 0 then 0 else wrap32 (n4 xs (cl + r))

set_option maxHeartbeats 2000000 in
theorem fields_gen0 (s c : ByteArray) (r : Nat) (b o n cp : Nat) (xs : List Int) (w : World) (hn : n ≤ 140737488355328) (hr2 : r ≤ 2) (hl : c.size + r ≤ n) (hcell : ∀ i, i < n → w.cell? ⟨b, o + i, none⟩ = some (.int .u8 (xs.getD i 0))) :
    Calls Try.prog 31 #[shp s c r 0, .slice (some ⟨b, o, none⟩) n cp] w fun e w' => e = .returned (ins 0 (fldA c.size r xs) (fldB c.size r xs) 0) ∧ Below w.heap.size w w' := by
  have HC : Hid (∀ i, i < n → ∀ A B C, (((w.alloc A).alloc B).alloc C).cell? ⟨b, o + i, none⟩ = some (.int .u8 (xs.getD i 0))) := fun i hi A B C => cell_push (cell_push (cell_push (hcell i hi) A) B) C
  clear hcell
  obtain rfl | rfl | rfl : r = 0 ∨ r = 1 ∨ r = 2 := by omega
  · have hA : fldA c.size 0 xs = 0 := rfl
    have hB : fldB c.size 0 xs = 0 := rfl
    rw [hA, hB]
    clear hA hB
    go_enter Try.func31, Try.ntmps31
    go_wp2
    refine wp_loop_rounds 1 ?_
    rw [rounds_succ]; go_wp2
    exact bodyPost_ret (v := ins 0 0 0 0) (by simp [results, Try.results31, go_sem]) rfl ⟨rfl, below_alloc (below_alloc (below_alloc (new_alloc _ _) _) _) _⟩
  · have c0 := HC.out c.size (by omega)
    obtain ⟨z0, e0⟩ : ∃ z, z = xs.getD c.size 0 := ⟨_, rfl⟩
    rw [← e0] at c0
    have E0 : Hid (z0 = xs.getD c.size 0) := e0
    clear e0
    have hA : fldA c.size 1 xs = z0 := E0.out.symm
    have hB : fldB c.size 1 xs = 0 := rfl
    rw [hA, hB]
    clear hA hB
    go_enter Try.func31, Try.ntmps31
    go_wp2
    refine wp_loop_rounds 2 ?_
    rw [rounds_succ]; go_wp2
    rw [rounds_succ]; go_wp2
    exact bodyPost_ret (v := ins 0 z0 0 0) (by simp [results, Try.results31, go_sem]) rfl ⟨rfl, below_alloc (below_alloc (below_alloc (new_alloc _ _) _) _) _⟩
  · have c0 := HC.out c.size (by omega)
    have c1 := HC.out (c.size + 1) (by omega)
    obtain ⟨z0, e0⟩ : ∃ z, z = xs.getD c.size 0 := ⟨_, rfl⟩
    rw [← e0] at c0
    have E0 : Hid (z0 = xs.getD c.size 0) := e0
    clear e0
    obtain ⟨z1, e1⟩ : ∃ z, z = xs.getD (c.size + 1) 0 := ⟨_, rfl⟩
    rw [← e1] at c1
    have E1 : Hid (z1 = xs.getD (c.size + 1) 0) := e1
    clear e1
    have hA : fldA c.size 2 xs = z0 := E0.out.symm
    have hB : fldB c.size 2 xs = z1 := E1.out.symm
    rw [hA, hB]
    clear hA hB
    go_enter Try.func31, Try.ntmps31
    go_wp2
    refine wp_loop_rounds 3 ?_
    rw [rounds_succ]; go_wp2
    rw [rounds_succ]; go_wp2
    rw [rounds_succ]; go_wp2
    exact bodyPost_ret (v := ins 0 z0 z1 0) (by simp [results, Try.results31, go_sem]) rfl ⟨rfl, below_alloc (below_alloc (below_alloc (new_alloc _ _) _) _) _⟩

set_option maxHeartbeats 2000000 in
theorem fields_genN (s c : ByteArray) (r : Nat) (q : Int) (b o n cp : Nat) (xs : List Int) (w : World) (hx : xs.length = n) (hn : n ≤ 140737488355328) (hby : Byt xs) (hr2 : r ≤ 2) (hq : q = 1 ∨ q = 2) (hl : c.size + r + 4 ≤ n) (hcell : ∀ i, i < n → w.cell? ⟨b, o + i, none⟩ = some (.int .u8 (xs.getD i 0))) :
    Calls Try.prog 31 #[shp s c r q, .slice (some ⟨b, o, none⟩) n cp] w fun e w' => e = .returned (ins 0 (fldA c.size r xs) (fldB c.size r xs) (wrap32 (n4 xs (c.size + r)))) ∧ Below w.heap.size w w' := by
  have HC : Hid (∀ i, i < n → ∀ A B C, (((w.alloc A).alloc B).alloc C).cell? ⟨b, o + i, none⟩ = some (.int .u8 (xs.getD i 0))) := fun i hi A B C => cell_push (cell_push (cell_push (hcell i hi) A) B) C
  have hrow : Row w (some ⟨b, o, none⟩) xs := fun _ => ⟨b, o, rfl, fun i hi => hcell i (by omega)⟩
  have HX : Hid (xs.length = n) := hx
  clear hcell hx
  obtain ⟨nn, en⟩ : ∃ z, z = wrap32 (n4 xs (c.size + r)) := ⟨_, rfl⟩
  rw [← en]
  have EN : Hid (nn = wrap32 (n4 xs (c.size + r))) := en
  clear en
  have hq1 : (q != 0) = true := by rcases hq with rfl | rfl <;> rfl
  clear hq
  obtain rfl | rfl | rfl : r = 0 ∨ r = 1 ∨ r = 2 := by omega
  · have hA : fldA c.size 0 xs = 0 := rfl
    have hB : fldB c.size 0 xs = 0 := rfl
    rw [hA, hB]
    clear hA hB
    go_enter Try.func31, Try.ntmps31
    go_wp2
    refine wp_loop_rounds 1 ?_
    rw [rounds_succ]; go_wp2_with fail
    refine (i32_yes _ n cp c.size xs _ HX.out (by omega) (hrow.below (below_alloc (below_alloc (below_alloc (new_alloc _ _) _) _) _)) hby (by omega) (by omega)).mono ?_
    rw [show ((c.size : Int)).toNat = c.size + 0 by omega, ← EN.out]
    rintro e w9 ⟨rfl, rfl⟩
    go_wp2
    exact bodyPost_ret (v := ins 0 0 0 nn) (by simp [results, Try.results31, go_sem]) rfl ⟨rfl, below_alloc (below_alloc (below_alloc (new_alloc _ _) _) _) _⟩
  · have c0 := HC.out c.size (by omega)
    obtain ⟨z0, e0⟩ : ∃ z, z = xs.getD c.size 0 := ⟨_, rfl⟩
    rw [← e0] at c0
    have E0 : Hid (z0 = xs.getD c.size 0) := e0
    clear e0
    have hA : fldA c.size 1 xs = z0 := E0.out.symm
    have hB : fldB c.size 1 xs = 0 := rfl
    rw [hA, hB]
    clear hA hB
    go_enter Try.func31, Try.ntmps31
    go_wp2
    refine wp_loop_rounds 2 ?_
    rw [rounds_succ]; go_wp2
    rw [rounds_succ]; go_wp2_with fail
    refine (i32_yes _ n cp (c.size + 1) xs _ HX.out (by omega) (hrow.below (below_alloc (below_alloc (below_alloc (new_alloc _ _) _) _) _)) hby (by omega) (by omega)).mono ?_
    rw [show ((c.size : Int) + 1).toNat = c.size + 1 by omega, ← EN.out]
    rintro e w9 ⟨rfl, rfl⟩
    go_wp2
    exact bodyPost_ret (v := ins 0 z0 0 nn) (by simp [results, Try.results31, go_sem]) rfl ⟨rfl, below_alloc (below_alloc (below_alloc (new_alloc _ _) _) _) _⟩
  · have c0 := HC.out c.size (by omega)
    have c1 := HC.out (c.size + 1) (by omega)
    obtain ⟨z0, e0⟩ : ∃ z, z = xs.getD c.size 0 := ⟨_, rfl⟩
    rw [← e0] at c0
    have E0 : Hid (z0 = xs.getD c.size 0) := e0
    clear e0
    obtain ⟨z1, e1⟩ : ∃ z, z = xs.getD (c.size + 1) 0 := ⟨_, rfl⟩
    rw [← e1] at c1
    have E1 : Hid (z1 = xs.getD (c.size + 1) 0) := e1
    clear e1
    have hA : fldA c.size 2 xs = z0 := E0.out.symm
    have hB : fldB c.size 2 xs = z1 := E1.out.symm
    rw [hA, hB]
    clear hA hB
    go_enter Try.func31, Try.ntmps31
    go_wp2
    refine wp_loop_rounds 3 ?_
    rw [rounds_succ]; go_wp2
    rw [rounds_succ]; go_wp2
    rw [rounds_succ]; go_wp2_with fail
    refine (i32_yes _ n cp (c.size + 2) xs _ HX.out (by omega) (hrow.below (below_alloc (below_alloc (below_alloc (new_alloc _ _) _) _) _)) hby (by omega) (by omega)).mono ?_
    rw [show ((c.size : Int) + 2).toNat = c.size + 2 by omega, ← EN.out]
    rintro e w9 ⟨rfl, rfl⟩
    go_wp2
    exact bodyPost_ret (v := ins 0 z0 z1 nn) (by simp [results, Try.results31, go_sem]) rfl ⟨rfl, below_alloc (below_alloc (below_alloc (new_alloc _ _) _) _) _⟩
end Go.Proofs.Ytkbpdnckbgnfnaa
