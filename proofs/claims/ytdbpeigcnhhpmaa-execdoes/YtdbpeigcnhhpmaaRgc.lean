/- switchyardkit.CopyRegs, for all registers. -/
import Derived.Test.YtdbpeigcnhhpmaaRgt
import Derived.Deep.DeepCutAuto
namespace Go.Proofs.Ytdbpeigcnhhpmaa
open Go.RowKit

theorem POwnV.low {w : World} {B B' : Nat} {v : Value} {xs : List Int} (h : POwnV w B v xs) (hB : B' ≤ B) : POwnV w B' v xs := by
  rcases h.shape with ⟨rfl, rfl⟩ | ⟨g, cap, rfl, ho⟩
  · exact POwnV.nil _ _
  · exact ho.lower hB
theorem POwnV.keptFar {w w' : World} {B g : Nat} {v : Value} {xs : List Int} (h : POwnV w B v xs) (hg : w.grownBy w' (some g)) (hB : g < B) : POwnV w' B v xs := by
  rcases h.shape with ⟨rfl, rfl⟩ | ⟨g', cap, rfl, ho⟩
  · exact POwnV.nil _ _
  · refine World.ownsRow.kept h hg (.inr (fun e => ?_))
    have e' : some g' = some g := e
    injection e' with e'
    have := ho.base
    omega
abbrev noRegs : Array Value := #[.int .u32 0, .int .u32 0, .int .u32 0, .int .u32 0, .int .u32 0, .int .u32 0, .int .u32 0, .int .u32 0, .slice none 0 0]
theorem Try.sz32 : (Try.prog.info? 32).map (·.size) = some 9 := by kernel_rfl
theorem Blk.load {w : World} {g : Nat} {T : TypeId} {c : Array Value} (hB : Blk w g T c) (t : TypeId) (d : TypeDesc) (hu : Try.prog.underlying t = some d) (hd : d.isRow = true) (hi : (Try.prog.info? t).map (·.size) = some c.size) :
    (loadVar t ⟨g, 0, none⟩).run Try.prog w = .ok (.agg c) w := by
  have := run_loadVar_mid (P := Try.prog) w g 0 t c.toList d hB.range hu hd (by rw [hi, Array.length_toList])
  simpa using this

set_option maxHeartbeats 2000000 in
theorem copyRegs_any (R : List Int) (p : Option Addr) (n c : Nat) (xs : List Int) (w : World) (lR : R.length = 8) (hx : xs.length = n) (hn : n * 4 ≤ 140737488355328) (hr : PRow w p xs) :
    Calls Try.prog 7 #[rgV R (.slice p n c)] w fun e w' => (∃ v, e = .returned (rgV R v) ∧ POwnV w' w.heap.size v xs) ∧ Below w.heap.size w w' := by
  obtain ⟨r0, r1, r2, r3, r4, r5, r6, r7, rfl⟩ := eight lR
  simp only [rgV_eight]
  have hC := fun W (hb : Below w.heap.size w W) => copyPlaces_any p n c xs W hx hn (hr.below hb)
  clear hr lR
  go_enter Try.func7, Try.ntmps7
  go_upto_region 1 with fail
  have HA0 : Hid (Blk ((w.alloc (.cells #[.int .u32 r0, .int .u32 r1, .int .u32 r2, .int .u32 r3, .int .u32 r4, .int .u32 r5, .int .u32 r6, .int .u32 r7, .slice p n c] 32)).alloc (.cells noRegs 32)) w.heap.size 32 #[.int .u32 r0, .int .u32 r1, .int .u32 r2, .int .u32 r3, .int .u32 r4, .int .u32 r5, .int .u32 r6, .int .u32 r7, .slice p n c]) := (Blk.new w 32 _).grow (new_alloc _ _)
  have HB0 : Hid (Blk ((w.alloc (.cells #[.int .u32 r0, .int .u32 r1, .int .u32 r2, .int .u32 r3, .int .u32 r4, .int .u32 r5, .int .u32 r6, .int .u32 r7, .slice p n c] 32)).alloc (.cells noRegs 32)) (w.heap.size + 1) 32 noRegs) := by
    have := Blk.new (w.alloc (.cells #[.int .u32 r0, .int .u32 r1, .int .u32 r2, .int .u32 r3, .int .u32 r4, .int .u32 r5, .int .u32 r6, .int .u32 r7, .slice p n c] 32)) 32 noRegs
    rw [size_one] at this
    exact this
  have HW0 : Hid (Below w.heap.size w ((w.alloc (.cells #[.int .u32 r0, .int .u32 r1, .int .u32 r2, .int .u32 r3, .int .u32 r4, .int .u32 r5, .int .u32 r6, .int .u32 r7, .slice p n c] 32)).alloc (.cells noRegs 32))) := below_alloc (new_alloc w _) _
  generalize (w.alloc (.cells #[.int .u32 r0, .int .u32 r1, .int .u32 r2, .int .u32 r3, .int .u32 r4, .int .u32 r5, .int .u32 r6, .int .u32 r7, .slice p n c] 32)).alloc (.cells noRegs 32) = w0 at *
  have a0 : w0.cell? ⟨w.heap.size, 0, none⟩ = some (.int .u32 r0) := HA0.out.cell 0
  have a1 : w0.cell? ⟨w.heap.size, 1, none⟩ = some (.int .u32 r1) := HA0.out.cell 1
  have a2 : w0.cell? ⟨w.heap.size, 2, none⟩ = some (.int .u32 r2) := HA0.out.cell 2
  have a3 : w0.cell? ⟨w.heap.size, 3, none⟩ = some (.int .u32 r3) := HA0.out.cell 3
  have a4 : w0.cell? ⟨w.heap.size, 4, none⟩ = some (.int .u32 r4) := HA0.out.cell 4
  have a5 : w0.cell? ⟨w.heap.size, 5, none⟩ = some (.int .u32 r5) := HA0.out.cell 5
  have a6 : w0.cell? ⟨w.heap.size, 6, none⟩ = some (.int .u32 r6) := HA0.out.cell 6
  have a7 : w0.cell? ⟨w.heap.size, 7, none⟩ = some (.int .u32 r7) := HA0.out.cell 7
  have a8 : w0.cell? ⟨w.heap.size, 8, none⟩ = some (.slice p n c) := HA0.out.cell 8
  go_region_held3 (fun W => W.cell? ⟨w.heap.size, 0, none⟩ = some (.int .u32 r0) ∧ W.cell? ⟨w.heap.size, 1, none⟩ = some (.int .u32 r1) ∧ W.cell? ⟨w.heap.size, 2, none⟩ = some (.int .u32 r2) ∧ W.cell? ⟨w.heap.size, 3, none⟩ = some (.int .u32 r3) ∧ W.cell? ⟨w.heap.size, 4, none⟩ = some (.int .u32 r4) ∧ W.cell? ⟨w.heap.size, 5, none⟩ = some (.int .u32 r5) ∧ W.cell? ⟨w.heap.size, 6, none⟩ = some (.int .u32 r6) ∧ W.cell? ⟨w.heap.size, 7, none⟩ = some (.int .u32 r7) ∧ W.cell? ⟨w.heap.size, 8, none⟩ = some (.slice p n c)) (first | go_keep | exact hk1)
    (first
      | (go_at_call 18; refine (hC _ (below_draws HW0.out 1)).mono ?_; rintro E w1 ⟨v1, rfl, ho1, hb1⟩; obtain ⟨p1, c1, hv1, -, -⟩ := ho1.slice; subst hv1; have HW1 := Hid.in (below_step (below_draws HW0.out 1) hb1); have HC1 := Hid.in (below_step (below_draws (below_self w0) 1) hb1); have HA1 := Hid.in (HA0.out.grow HC1.out); have HB1 := Hid.in (HB0.out.grow HC1.out); have HO1 := Hid.in ho1; have hk1 : w1.cell? ⟨w.heap.size, 0, none⟩ = some (.int .u32 r0) ∧ w1.cell? ⟨w.heap.size, 1, none⟩ = some (.int .u32 r1) ∧ w1.cell? ⟨w.heap.size, 2, none⟩ = some (.int .u32 r2) ∧ w1.cell? ⟨w.heap.size, 3, none⟩ = some (.int .u32 r3) ∧ w1.cell? ⟨w.heap.size, 4, none⟩ = some (.int .u32 r4) ∧ w1.cell? ⟨w.heap.size, 5, none⟩ = some (.int .u32 r5) ∧ w1.cell? ⟨w.heap.size, 6, none⟩ = some (.int .u32 r6) ∧ w1.cell? ⟨w.heap.size, 7, none⟩ = some (.int .u32 r7) ∧ w1.cell? ⟨w.heap.size, 8, none⟩ = some (.slice p n c) := ⟨HA1.out.cell 0, HA1.out.cell 1, HA1.out.cell 2, HA1.out.cell 3, HA1.out.cell 4, HA1.out.cell 5, HA1.out.cell 6, HA1.out.cell 7, HA1.out.cell 8⟩; have e0 : w1.cell? ⟨w.heap.size + 1, 0, none⟩ = some (.int .u32 0) := HB1.out.cell 0; have e1 : w1.cell? ⟨w.heap.size + 1, 1, none⟩ = some (.int .u32 0) := HB1.out.cell 1; have e2 : w1.cell? ⟨w.heap.size + 1, 2, none⟩ = some (.int .u32 0) := HB1.out.cell 2; have e3 : w1.cell? ⟨w.heap.size + 1, 3, none⟩ = some (.int .u32 0) := HB1.out.cell 3; have e4 : w1.cell? ⟨w.heap.size + 1, 4, none⟩ = some (.int .u32 0) := HB1.out.cell 4; have e5 : w1.cell? ⟨w.heap.size + 1, 5, none⟩ = some (.int .u32 0) := HB1.out.cell 5; have e6 : w1.cell? ⟨w.heap.size + 1, 6, none⟩ = some (.int .u32 0) := HB1.out.cell 6; have e7 : w1.cell? ⟨w.heap.size + 1, 7, none⟩ = some (.int .u32 0) := HB1.out.cell 7; have e8 : w1.cell? ⟨w.heap.size + 1, 8, none⟩ = some (.slice none 0 0) := HB1.out.cell 8; have z : ∀ i, w1.frozen? ⟨w.heap.size + 1, i, none⟩ = false := fun i => HB1.out.free i; clear ho1 hb1))
  have HB5 : Hid (Blk (((((((((w1.setCell ⟨w.heap.size + 1, 0, none⟩ (.int .u32 r0)).setCell ⟨w.heap.size + 1, 1, none⟩ (.int .u32 r1)).setCell ⟨w.heap.size + 1, 2, none⟩ (.int .u32 r2)).setCell ⟨w.heap.size + 1, 3, none⟩ (.int .u32 r3)).setCell ⟨w.heap.size + 1, 4, none⟩ (.int .u32 r4)).setCell ⟨w.heap.size + 1, 5, none⟩ (.int .u32 r5)).setCell ⟨w.heap.size + 1, 6, none⟩ (.int .u32 r6)).setCell ⟨w.heap.size + 1, 7, none⟩ (.int .u32 r7)).setCell ⟨w.heap.size + 1, 8, none⟩ (.slice p1 n c1)) (w.heap.size + 1) 32 #[.int .u32 r0, .int .u32 r1, .int .u32 r2, .int .u32 r3, .int .u32 r4, .int .u32 r5, .int .u32 r6, .int .u32 r7, .slice p1 n c1]) := HB1.out.setAll #[.int .u32 r0, .int .u32 r1, .int .u32 r2, .int .u32 r3, .int .u32 r4, .int .u32 r5, .int .u32 r6, .int .u32 r7, .slice p1 n c1] rfl
  have HG5 : Hid (w1.grownBy (((((((((w1.setCell ⟨w.heap.size + 1, 0, none⟩ (.int .u32 r0)).setCell ⟨w.heap.size + 1, 1, none⟩ (.int .u32 r1)).setCell ⟨w.heap.size + 1, 2, none⟩ (.int .u32 r2)).setCell ⟨w.heap.size + 1, 3, none⟩ (.int .u32 r3)).setCell ⟨w.heap.size + 1, 4, none⟩ (.int .u32 r4)).setCell ⟨w.heap.size + 1, 5, none⟩ (.int .u32 r5)).setCell ⟨w.heap.size + 1, 6, none⟩ (.int .u32 r6)).setCell ⟨w.heap.size + 1, 7, none⟩ (.int .u32 r7)).setCell ⟨w.heap.size + 1, 8, none⟩ (.slice p1 n c1)) (some (w.heap.size + 1))) := grown_setCells (w.heap.size + 1) [.int .u32 r0, .int .u32 r1, .int .u32 r2, .int .u32 r3, .int .u32 r4, .int .u32 r5, .int .u32 r6, .int .u32 r7, .slice p1 n c1] 0 w1
  generalize (((((((((w1.setCell ⟨w.heap.size + 1, 0, none⟩ (.int .u32 r0)).setCell ⟨w.heap.size + 1, 1, none⟩ (.int .u32 r1)).setCell ⟨w.heap.size + 1, 2, none⟩ (.int .u32 r2)).setCell ⟨w.heap.size + 1, 3, none⟩ (.int .u32 r3)).setCell ⟨w.heap.size + 1, 4, none⟩ (.int .u32 r4)).setCell ⟨w.heap.size + 1, 5, none⟩ (.int .u32 r5)).setCell ⟨w.heap.size + 1, 6, none⟩ (.int .u32 r6)).setCell ⟨w.heap.size + 1, 7, none⟩ (.int .u32 r7)).setCell ⟨w.heap.size + 1, 8, none⟩ (.slice p1 n c1)) = w5 at *
  clear e0 e1 e2 e3 e4 e5 e6 e7 e8 z hk1 a0 a1 a2 a3 a4 a5 a6 a7 a8 hC
  have l0 : w.heap.size + 1 < w0.heap.size := HB0.out.lt
  go_wp2_with fail
  have hld := HB5.out.load 32 _ Try.underlying32 rfl Try.sz32
  have hB7 := HW1.out.grown HG5.out HW1.out.size (fun k hk => by cases hk; exact Nat.le_succ _)
  exact bodyPost_ret (v := .agg #[.int .u32 r0, .int .u32 r1, .int .u32 r2, .int .u32 r3, .int .u32 r4, .int .u32 r5, .int .u32 r6, .int .u32 r7, .slice p1 n c1]) (by simp [results, Try.results7, asAddr, hld]) rfl
    ⟨⟨_, rfl, by have := (HO1.out.keptFar HG5.out l0).low (show w.heap.size ≤ w0.heap.size by omega); rw [hx] at this; exact this⟩, hB7⟩

end Go.Proofs.Ytdbpeigcnhhpmaa
