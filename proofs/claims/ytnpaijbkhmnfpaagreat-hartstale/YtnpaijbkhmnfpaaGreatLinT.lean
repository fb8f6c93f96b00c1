/- What cache's Take answers. -/
import Derived.Test.YtnpaijbkhmnfpaaGreatKps
import Derived.Test.YtnpaijbkhmnfpaaGreatLinX
import Derived.Test.YtnpaijbkhmnfpaaGreatGran
namespace Go.Proofs.YtnpaijbkhmnfpaaGreat
open Go.RowKit Go.Maps Go.WideMaps Go.Shelf Go.ChangeMaps

/-- what Granule answers, wherever it is asked from here on -/
def GranIs (w : World) (mp : Option Addr) (g : Int) (f : F4) (e : Int) : Prop :=
  ∀ W, Below w.heap.size w W → Calls Tryz.prog 129 #[.pointer mp, .int .i64 g] W fun E w' => E = .returned (.tuple #[.agg #[.int .u8 f.a, .int .u8 f.b, .int .u8 f.c, .int .u8 f.d], .int .i64 e]) ∧ Below W.heap.size W w'
def zF : F4 := ⟨0, 0, 0, 0⟩

set_option maxRecDepth 8000 in
set_option maxHeartbeats 1000000 in
theorem take_none (mp : Option Addr) (p : Option Addr) (g : Int) (hold : Bool) (w : World) (hn : ∀ W, Below w.heap.size w W → Calls Tryz.prog 85 #[.pointer p] W fun e w' => e = .returned (.bool true) ∧ w' = W) :
    Calls Tryz.prog 112 #[.pointer p, .pointer mp, .int .i64 g, .bool hold] w fun e w' => e = .returned (.tuple #[fV zF, .bool false, .int .i64 1]) ∧ Below w.heap.size w w' := by
  have hc := hn _ (new_alloc w (.cells #[.int .u8 0, .int .u8 0, .int .u8 0, .int .u8 0] 92))
  have HB := Hid.in (new_alloc w (.cells #[.int .u8 0, .int .u8 0, .int .u8 0, .int .u8 0] 92))
  clear hn
  go_enter Tryz.func112, Tryz.ntmps112
  go_wp2_with (go_at_call 85; refine hc.mono ?_; rintro e w1 ⟨rfl, rfl⟩)
  exact bodyPost_ret (v := .tuple #[fV zF, .bool false, .int .i64 1]) (by simp [results, Tryz.results112, go_sem, fV, zF]) rfl ⟨rfl, HB.out⟩

set_option maxRecDepth 8000 in
set_option maxHeartbeats 1000000 in
theorem take_held (B q b : Nat) (L : List Ln) (mp : Option Addr) (gf : F4) (ge g : Int) (f : F4) (w : World) (h : LinAt w B q b L) (hg : i64W g) (hf : findL L g = some f) (hge : ge ≠ 1) (hgr : GranIs w mp g gf ge) :
    Calls Tryz.prog 112 #[.pointer (some ⟨q, 0, none⟩), .pointer mp, .int .i64 g, .bool true] w fun e w' => e = .returned (.tuple #[fV f, .bool true, .int .i64 0]) ∧ Below w.heap.size w w' := by
  obtain ⟨f', hf', hr⟩ := h.look g hg
  have ef := hf' f hf
  subst ef
  rw [hf] at hr
  obtain ⟨f0, f1, f2, f3⟩ := f'
  obtain ⟨n0, n1, n2, n3⟩ := gf
  dsimp only [Option.isSome_some] at hr
  have HB1 := Hid.in (new_alloc w (.cells #[.int .u8 0, .int .u8 0, .int .u8 0, .int .u8 0] 92))
  have HL1 := Hid.in (h.below HB1.out)
  have HZ1 := Hid.in (Blk.new w 92 #[.int .u8 0, .int .u8 0, .int .u8 0, .int .u8 0])
  have hgr1 := hgr _ HB1.out
  have hr1 : ∀ W, Below (w.alloc (.cells #[.int .u8 0, .int .u8 0, .int .u8 0, .int .u8 0] 92)).heap.size (w.alloc (.cells #[.int .u8 0, .int .u8 0, .int .u8 0, .int .u8 0] 92)) W → (Instr.lookup 145 (.map (some b)) (.int .i64 g) true).run Tryz.prog W = .ok (.tuple #[.agg #[.int .u8 f0, .int .u8 f1, .int .u8 f2, .int .u8 f3], .bool true]) W := fun W hW => hr W ((hW.block b HL1.out.map.lt).trans (HB1.out.block b h.map.lt))
  have hc := lnone_no q b _ (HL1.out.blk.cell 0)
  have hd : decide (ge = 1) = false := decide_eq_false hge
  clear h hgr hr hf hf'
  go_enter Tryz.func112, Tryz.ntmps112
  go_upto_region 4 with (first
    | (go_at_call 85; refine hc.mono ?_; rintro e w1 ⟨rfl, rfl⟩)
    | (go_at_call 129; refine hgr1.mono ?_; rintro e w2 ⟨rfl, hb2⟩; have HB2 := Hid.in hb2; clear hb2 hgr1))
  generalize w.alloc (.cells #[.int .u8 0, .int .u8 0, .int .u8 0, .int .u8 0] 92) = w1 at *
  have HB3 := Hid.in (below_alloc HB2.out (.cells #[.int .u8 n0, .int .u8 n1, .int .u8 n2, .int .u8 n3] 92))
  have hr3 := hr1 _ HB3.out
  generalize w2.alloc (.cells #[.int .u8 n0, .int .u8 n1, .int .u8 n2, .int .u8 n3] 92) = w3 at *
  have c0 : w3.cell? ⟨q, 0, none⟩ = some (.map (some b)) := (HL1.out.blk.grow HB3.out).cell 0
  have HB4 := Hid.in (below_alloc HB3.out (.cells #[.int .u8 f0, .int .u8 f1, .int .u8 f2, .int .u8 f3] 92))
  have HZ4 := Hid.in (HZ1.out.grow HB4.out)
  have HN4 := Hid.in (Blk.new w3 92 #[.int .u8 f0, .int .u8 f1, .int .u8 f2, .int .u8 f3])
  clear HB3 HZ1 HB2 hr1 hc
  go_upto_region 8 with fail
  generalize w3.alloc (.cells #[.int .u8 f0, .int .u8 f1, .int .u8 f2, .int .u8 f3] 92) = w4 at *
  generalize w3.heap.size = g4 at *
  clear c0 hr3
  have d0 : w4.cell? ⟨g4, 0, none⟩ = some (.int .u8 f0) := HN4.out.cell 0
  have d1 : w4.cell? ⟨g4, 1, none⟩ = some (.int .u8 f1) := HN4.out.cell 1
  have d2 : w4.cell? ⟨g4, 2, none⟩ = some (.int .u8 f2) := HN4.out.cell 2
  have d3 : w4.cell? ⟨g4, 3, none⟩ = some (.int .u8 f3) := HN4.out.cell 3
  have z0 := HZ4.out.free 0
  have z1 := HZ4.out.free 1
  have z2 := HZ4.out.free 2
  have z3 := HZ4.out.free 3
  have e0 : w4.cell? ⟨w.heap.size, 0, none⟩ = some (.int .u8 0) := HZ4.out.cell 0
  have e1 : w4.cell? ⟨w.heap.size, 1, none⟩ = some (.int .u8 0) := HZ4.out.cell 1
  have e2 : w4.cell? ⟨w.heap.size, 2, none⟩ = some (.int .u8 0) := HZ4.out.cell 2
  have e3 : w4.cell? ⟨w.heap.size, 3, none⟩ = some (.int .u8 0) := HZ4.out.cell 3
  have HBB := Hid.in (below_step HB1.out HB4.out)
  go_wp2_with fail
  exact bodyPost_ret (v := .tuple #[fV ⟨f0, f1, f2, f3⟩, .bool true, .int .i64 0]) (by simp [results, Tryz.results112, go_sem, fV, e0, e1, e2, e3]) rfl ⟨rfl, (((HBB.out.setCell (Nat.le_refl _) _).setCell (Nat.le_refl _) _).setCell (Nat.le_refl _) _).setCell (Nat.le_refl _) _⟩

set_option maxRecDepth 8000 in
set_option maxHeartbeats 1000000 in
theorem take_nomem (B q b : Nat) (L : List Ln) (mp : Option Addr) (gf : F4) (g : Int) (hold : Bool) (w : World) (h : LinAt w B q b L) (hgr : GranIs w mp g gf 1) :
    Calls Tryz.prog 112 #[.pointer (some ⟨q, 0, none⟩), .pointer mp, .int .i64 g, .bool hold] w fun e w' => e = .returned (.tuple #[fV zF, .bool false, .int .i64 1]) ∧ Below w.heap.size w w' := by
  obtain ⟨n0, n1, n2, n3⟩ := gf
  have HB1 := Hid.in (new_alloc w (.cells #[.int .u8 0, .int .u8 0, .int .u8 0, .int .u8 0] 92))
  have HL1 := Hid.in (h.below HB1.out)
  have HZ1 := Hid.in (Blk.new w 92 #[.int .u8 0, .int .u8 0, .int .u8 0, .int .u8 0])
  have hgr1 := hgr _ HB1.out
  have hc := lnone_no q b _ (HL1.out.blk.cell 0)
  clear h hgr
  go_enter Tryz.func112, Tryz.ntmps112
  go_upto_region 4 with (first
    | (go_at_call 85; refine hc.mono ?_; rintro e w1 ⟨rfl, rfl⟩)
    | (go_at_call 129; refine hgr1.mono ?_; rintro e w2 ⟨rfl, hb2⟩; have HB2 := Hid.in hb2; clear hb2 hgr1))
  generalize w.alloc (.cells #[.int .u8 0, .int .u8 0, .int .u8 0, .int .u8 0] 92) = w1 at *
  have HB4 := Hid.in (below_alloc HB2.out (.cells #[.int .u8 n0, .int .u8 n1, .int .u8 n2, .int .u8 n3] 92))
  generalize w2.alloc (.cells #[.int .u8 n0, .int .u8 n1, .int .u8 n2, .int .u8 n3] 92) = w4 at *
  have HZ4 := Hid.in (HZ1.out.grow HB4.out)
  clear HZ1 HB2 hc
  have z0 := HZ4.out.free 0
  have z1 := HZ4.out.free 1
  have z2 := HZ4.out.free 2
  have z3 := HZ4.out.free 3
  have e0 : w4.cell? ⟨w.heap.size, 0, none⟩ = some (.int .u8 0) := HZ4.out.cell 0
  have e1 : w4.cell? ⟨w.heap.size, 1, none⟩ = some (.int .u8 0) := HZ4.out.cell 1
  have e2 : w4.cell? ⟨w.heap.size, 2, none⟩ = some (.int .u8 0) := HZ4.out.cell 2
  have e3 : w4.cell? ⟨w.heap.size, 3, none⟩ = some (.int .u8 0) := HZ4.out.cell 3
  have HBB := Hid.in (below_step HB1.out HB4.out)
  go_wp2_with fail
  exact bodyPost_ret (v := .tuple #[fV zF, .bool false, .int .i64 1]) (by simp [results, Tryz.results112, go_sem, fV, zF, e0, e1, e2, e3]) rfl ⟨rfl, (((HBB.out.setCell (Nat.le_refl _) _).setCell (Nat.le_refl _) _).setCell (Nat.le_refl _) _).setCell (Nat.le_refl _) _⟩

set_option maxRecDepth 8000 in
set_option maxHeartbeats 1000000 in
theorem take_err (B q b : Nat) (L : List Ln) (mp : Option Addr) (gf : F4) (ge g : Int) (hold : Bool) (w : World) (h : LinAt w B q b L) (hg : i64W g) (hno : ((findL L g).isSome && hold) = false) (hge : ge ≠ 1) (hge0 : ge ≠ 0) (hgr : GranIs w mp g gf ge) :
    Calls Tryz.prog 112 #[.pointer (some ⟨q, 0, none⟩), .pointer mp, .int .i64 g, .bool hold] w fun e w' => e = .returned (.tuple #[fV zF, .bool false, .int .i64 ge]) ∧ Below w.heap.size w w' := by
  obtain ⟨f', -, hr⟩ := h.look g hg
  obtain ⟨f0, f1, f2, f3⟩ := f'
  obtain ⟨n0, n1, n2, n3⟩ := gf
  dsimp only at hr
  have HB1 := Hid.in (new_alloc w (.cells #[.int .u8 0, .int .u8 0, .int .u8 0, .int .u8 0] 92))
  have HL1 := Hid.in (h.below HB1.out)
  have HZ1 := Hid.in (Blk.new w 92 #[.int .u8 0, .int .u8 0, .int .u8 0, .int .u8 0])
  have hgr1 := hgr _ HB1.out
  generalize (findL L g).isSome = ok at *
  have hr1 : ∀ W, Below (w.alloc (.cells #[.int .u8 0, .int .u8 0, .int .u8 0, .int .u8 0] 92)).heap.size (w.alloc (.cells #[.int .u8 0, .int .u8 0, .int .u8 0, .int .u8 0] 92)) W → (Instr.lookup 145 (.map (some b)) (.int .i64 g) true).run Tryz.prog W = .ok (.tuple #[.agg #[.int .u8 f0, .int .u8 f1, .int .u8 f2, .int .u8 f3], .bool ok]) W := fun W hW => hr W ((hW.block b HL1.out.map.lt).trans (HB1.out.block b h.map.lt))
  have hc := lnone_no q b _ (HL1.out.blk.cell 0)
  clear h hgr hr
  have hd : decide (ge = 1) = false := decide_eq_false hge
  have hd0 : decide (ge = 0) = false := decide_eq_false hge0
  have HZ : Hid (∀ W, Below (w.alloc (.cells #[.int .u8 0, .int .u8 0, .int .u8 0, .int .u8 0] 92)).heap.size (w.alloc (.cells #[.int .u8 0, .int .u8 0, .int .u8 0, .int .u8 0] 92)) W → Blk W w.heap.size 92 #[.int .u8 0, .int .u8 0, .int .u8 0, .int .u8 0]) := fun W hW => HZ1.out.grow hW
  clear HZ1
  cases ok <;> cases hold <;> first | (cases hno; done) | skip
  all_goals
    go_enter Tryz.func112, Tryz.ntmps112
    go_upto_region 4 with (first
      | (go_at_call 85; refine hc.mono ?_; rintro e w1 ⟨rfl, rfl⟩)
      | (go_at_call 129; refine hgr1.mono ?_; rintro e w2 ⟨rfl, hb2⟩; have HB2 := Hid.in hb2; clear hb2 hgr1))
    generalize w.alloc (.cells #[.int .u8 0, .int .u8 0, .int .u8 0, .int .u8 0] 92) = w1 at *
    have HB3 := Hid.in (below_alloc HB2.out (.cells #[.int .u8 n0, .int .u8 n1, .int .u8 n2, .int .u8 n3] 92))
    have HN3 := Hid.in (Blk.new w2 92 #[.int .u8 n0, .int .u8 n1, .int .u8 n2, .int .u8 n3])
    have hr3 := hr1 _ HB3.out
    generalize w2.alloc (.cells #[.int .u8 n0, .int .u8 n1, .int .u8 n2, .int .u8 n3] 92) = w3 at *
    generalize w2.heap.size = g2 at *
    have c0 : w3.cell? ⟨q, 0, none⟩ = some (.map (some b)) := (HL1.out.blk.grow HB3.out).cell 0
    have HB4 := Hid.in (below_alloc HB3.out (.cells #[.int .u8 f0, .int .u8 f1, .int .u8 f2, .int .u8 f3] 92))
    have HN4 := Hid.in (HN3.out.grow (new_alloc w3 (.cells #[.int .u8 f0, .int .u8 f1, .int .u8 f2, .int .u8 f3] 92)))
    clear HB3 HN3 HB2 hr1 hc
    go_upto_region 9 with fail
    generalize w3.alloc (.cells #[.int .u8 f0, .int .u8 f1, .int .u8 f2, .int .u8 f3] 92) = w4 at *
    clear c0 hr3
    have HZ4 := Hid.in (HZ.out _ HB4.out)
    have z0 := HZ4.out.free 0
    have z1 := HZ4.out.free 1
    have z2 := HZ4.out.free 2
    have z3 := HZ4.out.free 3
    have e0 : w4.cell? ⟨w.heap.size, 0, none⟩ = some (.int .u8 0) := HZ4.out.cell 0
    have e1 : w4.cell? ⟨w.heap.size, 1, none⟩ = some (.int .u8 0) := HZ4.out.cell 1
    have e2 : w4.cell? ⟨w.heap.size, 2, none⟩ = some (.int .u8 0) := HZ4.out.cell 2
    have e3 : w4.cell? ⟨w.heap.size, 3, none⟩ = some (.int .u8 0) := HZ4.out.cell 3
    have HBB := Hid.in (below_step HB1.out HB4.out)
    go_wp2_with fail
    exact bodyPost_ret (v := .tuple #[fV zF, .bool false, .int .i64 ge]) (by simp [results, Tryz.results112, go_sem, fV, zF, e0, e1, e2, e3]) rfl ⟨rfl, (((HBB.out.setCell (Nat.le_refl _) _).setCell (Nat.le_refl _) _).setCell (Nat.le_refl _) _).setCell (Nat.le_refl _) _⟩

set_option maxRecDepth 8000 in
set_option maxHeartbeats 1000000 in
theorem take_new (B q b : Nat) (L : List Ln) (mp : Option Addr) (gf : F4) (g : Int) (hold : Bool) (w : World) (h : LinAt w B q b L) (hl : L.length ≤ 1048576) (hg : i64W g) (hno : ((findL L g).isSome && hold) = false) (hgr : GranIs w mp g gf 0) :
    Calls Tryz.prog 112 #[.pointer (some ⟨q, 0, none⟩), .pointer mp, .int .i64 g, .bool hold] w fun e w' => e = .returned (.tuple #[fV gf, .bool false, .int .i64 0]) ∧ LinAt w' B q b (takL g gf L) ∧ Keeps (fun j => j = b) w w' := by
  obtain ⟨f', -, hr⟩ := h.look g hg
  obtain ⟨f0, f1, f2, f3⟩ := f'
  obtain ⟨n0, n1, n2, n3⟩ := gf
  have hbq := h.map.lt
  have HQ := Hid.in h.blk.lt
  dsimp only at hr
  have HB1 := Hid.in (new_alloc w (.cells #[.int .u8 0, .int .u8 0, .int .u8 0, .int .u8 0] 92))
  have HL1 := Hid.in (h.below HB1.out)
  have HZ1 := Hid.in (Blk.new w 92 #[.int .u8 0, .int .u8 0, .int .u8 0, .int .u8 0])
  have hgr1 := hgr _ HB1.out
  generalize (findL L g).isSome = ok at *
  have hr1 : ∀ W, Below (w.alloc (.cells #[.int .u8 0, .int .u8 0, .int .u8 0, .int .u8 0] 92)).heap.size (w.alloc (.cells #[.int .u8 0, .int .u8 0, .int .u8 0, .int .u8 0] 92)) W → (Instr.lookup 145 (.map (some b)) (.int .i64 g) true).run Tryz.prog W = .ok (.tuple #[.agg #[.int .u8 f0, .int .u8 f1, .int .u8 f2, .int .u8 f3], .bool ok]) W := fun W hW => hr W ((hW.block b HL1.out.map.lt).trans (HB1.out.block b h.map.lt))
  have hc := lnone_no q b _ (HL1.out.blk.cell 0)
  clear h hgr hr
  have HZ : Hid (∀ W, Below (w.alloc (.cells #[.int .u8 0, .int .u8 0, .int .u8 0, .int .u8 0] 92)).heap.size (w.alloc (.cells #[.int .u8 0, .int .u8 0, .int .u8 0, .int .u8 0] 92)) W → Blk W w.heap.size 92 #[.int .u8 0, .int .u8 0, .int .u8 0, .int .u8 0]) := fun W hW => HZ1.out.grow hW
  clear HZ1
  cases ok <;> cases hold <;> first | (cases hno; done) | skip
  all_goals
    go_enter Tryz.func112, Tryz.ntmps112
    go_upto_region 4 with (first
      | (go_at_call 85; refine hc.mono ?_; rintro e w1 ⟨rfl, rfl⟩)
      | (go_at_call 129; refine hgr1.mono ?_; rintro e w2 ⟨rfl, hb2⟩; have HB2 := Hid.in hb2; clear hb2 hgr1))
    generalize w.alloc (.cells #[.int .u8 0, .int .u8 0, .int .u8 0, .int .u8 0] 92) = w1 at *
    have HB3 := Hid.in (below_alloc HB2.out (.cells #[.int .u8 n0, .int .u8 n1, .int .u8 n2, .int .u8 n3] 92))
    have HN3 := Hid.in (Blk.new w2 92 #[.int .u8 n0, .int .u8 n1, .int .u8 n2, .int .u8 n3])
    have hr3 := hr1 _ HB3.out
    generalize w2.alloc (.cells #[.int .u8 n0, .int .u8 n1, .int .u8 n2, .int .u8 n3] 92) = w3 at *
    generalize w2.heap.size = g2 at *
    have c0 : w3.cell? ⟨q, 0, none⟩ = some (.map (some b)) := (HL1.out.blk.grow HB3.out).cell 0
    have HB4 := Hid.in (below_alloc HB3.out (.cells #[.int .u8 f0, .int .u8 f1, .int .u8 f2, .int .u8 f3] 92))
    have HN4 := Hid.in (HN3.out.grow (new_alloc w3 (.cells #[.int .u8 f0, .int .u8 f1, .int .u8 f2, .int .u8 f3] 92)))
    clear HB3 HN3 HB2 hr1 hc
    go_upto_region 9 with fail
    generalize w3.alloc (.cells #[.int .u8 f0, .int .u8 f1, .int .u8 f2, .int .u8 f3] 92) = w4 at *
    clear c0 hr3
    have HL4 := Hid.in (HL1.out.below HB4.out)
    obtain ⟨w5, hup, hL5, hg5⟩ := LinAt.put (w := w4.drew) (HL4.out.drewN 1) g hg ⟨n0, n1, n2, n3⟩ hl
    have HL5 := Hid.in hL5
    have HG5 : Hid (w4.grownBy w5 (some b)) := ⟨hg5.os, hg5.tape, hg5.output, hg5.size, hg5.block⟩
    have c0 : w4.cell? ⟨q, 0, none⟩ = some (.map (some b)) := HL4.out.blk.cell 0
    have d0 : w4.cell? ⟨g2, 0, none⟩ = some (.int .u8 n0) := HN4.out.cell 0
    have d1 : w4.cell? ⟨g2, 1, none⟩ = some (.int .u8 n1) := HN4.out.cell 1
    have d2 : w4.cell? ⟨g2, 2, none⟩ = some (.int .u8 n2) := HN4.out.cell 2
    have d3 : w4.cell? ⟨g2, 3, none⟩ = some (.int .u8 n3) := HN4.out.cell 3
    have hbm := HL4.out.isMap
    have hgb : some g2 ≠ some b := fun e => by
      injection e with e
      obtain ⟨es, c, e1⟩ := hbm
      have e2 : w4.heap[g2]? = _ := HN4.out
      rw [e, e1] at e2
      cases e2
    have HN5 := Hid.in (HN4.out.kept HG5.out hgb)
    have HZ4 := Hid.in (HZ.out _ HB4.out)
    have HZ5 := Hid.in (HZ4.out.kept HG5.out (fun e => by injection e with e; omega))
    have HK5 : Hid (Keeps (fun j => j = b) w w5) := (Keeps.ofBelow (below_step HB1.out HB4.out)).grown HG5.out (fun k e => by injection e with e; exact .inl e.symm)
    clear hL5 hg5 HZ4 HN4 HG5 HB4 hgb hbm HL1 HZ HB1
    dsimp only at hup
    go_upto_region 11 with fail
    go_cut [9] (fun v wx => v = .bool false ∧ wx = w5)
    case first =>
      go_region_law (fail)
      all_goals
        go_wp2_with fail
        go_meet
        case rel => exact ⟨rfl, rfl⟩
    case rest =>
      obtain ⟨rfl, rfl⟩ := hcut
      clear hup c0 d0 d1 d2 d3 HL4
      have d0 : wc.cell? ⟨g2, 0, none⟩ = some (.int .u8 n0) := HN5.out.cell 0
      have d1 : wc.cell? ⟨g2, 1, none⟩ = some (.int .u8 n1) := HN5.out.cell 1
      have d2 : wc.cell? ⟨g2, 2, none⟩ = some (.int .u8 n2) := HN5.out.cell 2
      have d3 : wc.cell? ⟨g2, 3, none⟩ = some (.int .u8 n3) := HN5.out.cell 3
      have z0 := HZ5.out.free 0
      have z1 := HZ5.out.free 1
      have z2 := HZ5.out.free 2
      have z3 := HZ5.out.free 3
      have e0 : wc.cell? ⟨w.heap.size, 0, none⟩ = some (.int .u8 0) := HZ5.out.cell 0
      have e1 : wc.cell? ⟨w.heap.size, 1, none⟩ = some (.int .u8 0) := HZ5.out.cell 1
      have e2 : wc.cell? ⟨w.heap.size, 2, none⟩ = some (.int .u8 0) := HZ5.out.cell 2
      have e3 : wc.cell? ⟨w.heap.size, 3, none⟩ = some (.int .u8 0) := HZ5.out.cell 3
      go_wp2_with fail
      refine bodyPost_ret (v := .tuple #[fV ⟨n0, n1, n2, n3⟩, .bool false, .int .i64 0]) (by simp [results, Tryz.results112, go_sem, fV, e0, e1, e2, e3]) rfl ⟨rfl, ?_, ?_⟩
      · exact HL5.out.keeps (G := fun j => j = w.heap.size) (((((Keeps.refl (fun j => j = w.heap.size) _).setCell _ _ _ (.inl rfl)).setCell _ _ _ (.inl rfl)).setCell _ _ _ (.inl rfl)).setCell _ _ _ (.inl rfl)) (by have := HQ.out; omega) (by omega)
      · exact (((HK5.out.setCell _ _ _ (.inr (Nat.le_refl _))).setCell _ _ _ (.inr (Nat.le_refl _))).setCell _ _ _ (.inr (Nat.le_refl _))).setCell _ _ _ (.inr (Nat.le_refl _))

end Go.Proofs.YtnpaijbkhmnfpaaGreat
