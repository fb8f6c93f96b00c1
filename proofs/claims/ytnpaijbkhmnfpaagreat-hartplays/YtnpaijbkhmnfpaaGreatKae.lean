/- Texts put together: LinX, LinT, LinK, Gen, AllW, Awk. -/
import Derived.Test.YtnpaijbkhmnfpaaGreatKbd
import Derived.Test.YtnpaijbkhmnfpaaGreatKbe
import Derived.Deep.DeepCutAuto
import Derived.BigQuiet
import Derived.Test.YtnpaijbkhmnfpaaGreatKac
import Derived.Test.YtnpaijbkhmnfpaaGreatKad
import Derived.Shelf.SlIterI.Nil
import Derived.Shelf.SortM.Plain
import Derived.Shelf.SortM.SortNone
import Derived.Ground.GgzProg
import Derived.Ground.SlgmProg
import Derived.Test.YtnpaijbkhmnfpaaGreatKaa
import Derived.Laws.AppendOwnNone
import Derived.Great.BuildSlice

/- What cache's New, Has, Flush and Copy answer. -/
namespace Go.Proofs.YtnpaijbkhmnfpaaGreat
open Go.RowKit Go.Maps Go.WideMaps Go.Shelf Go.ChangeMaps


set_option maxHeartbeats 400000 in
theorem lnew_any (w : World) : Calls Tryz.prog 40 #[] w fun e w' => ∃ q b, e = .returned (.pointer (some ⟨q, 0, none⟩)) ∧ LinAt w' w.heap.size q b [] ∧ Below w.heap.size w w' := by
  have hmm := @run_makeMap Tryz.prog
  go_enter Tryz.func40, Tryz.ntmps40
  go_wp2
  go_ret
  have hb := new_alloc (w.alloc (.map #[] 0)) (.cells #[.map (some w.heap.size)] 147)
  refine ⟨_, w.heap.size, rfl, ⟨by have h := Blk.new (w.alloc (.map #[] 0)) 147 #[.map (some w.heap.size)]; rw [size_one] at h; exact h, ?_, .nil, by simp, Nat.le_refl _⟩, below_step (new_alloc w _) hb⟩
  obtain ⟨es, c, e, h2⟩ := World.ownsMap_made w Tryz.prog 3 fElem
  exact ⟨es, c, (hb.block _ (by simp)).trans e, h2⟩

set_option maxHeartbeats 400000 in
theorem flush_any (B q b : Nat) (L : List Ln) (w : World) (h : LinAt w B q b L) :
    Calls Tryz.prog 50 #[.pointer (some ⟨q, 0, none⟩)] w fun e w' => e = .returned (.int .i64 L.length) ∧ LinAt w' B q b [] ∧ w.grownBy w' (some b) := by
  have hc := lnone_no q b w (h.blk.cell 0)
  have c0 : w.cell? ⟨q, 0, none⟩ = some (.map (some b)) := h.blk.cell 0
  have hlen := fun ty => h.len ty w rfl
  obtain ⟨w', hcl, hL, hgr⟩ := h.clear 0
  have HL := Hid.in hL
  have HG := Hid.in hgr
  clear hL hgr h
  go_enter Tryz.func50, Tryz.ntmps50
  go_wp2_with (go_at_call 85; refine hc.mono ?_; rintro e w1 ⟨rfl, rfl⟩)
  go_ret
  exact ⟨rfl, HL.out, HG.out⟩

set_option maxHeartbeats 400000 in
theorem lcopy_any (B q b : Nat) (L : List Ln) (w : World) (h : LinAt w B q b L) :
    Calls Tryz.prog 51 #[.pointer (some ⟨q, 0, none⟩)] w fun e w' => ∃ q' b', e = .returned (.pointer (some ⟨q', 0, none⟩)) ∧ LinAt w' w.heap.size q' b' L ∧ Below w.heap.size w w' := by
  have hc := lnone_no q b w (h.blk.cell 0)
  have c0 : w.cell? ⟨q, 0, none⟩ = some (.map (some b)) := h.blk.cell 0
  have hcon := AnyW.maps_Clone_owns Tryz.cloneL 3 fElem b L.length (linD L) w h.map
  change Calls Tryz.prog 88 _ _ _ at hcon
  have hris := h.ris
  clear h
  go_enter Tryz.func51, Tryz.ntmps51
  go_wp2_with (first
    | (go_at_call 85; refine hc.mono ?_; rintro e w1 ⟨rfl, rfl⟩)
    | (go_at_call 88; refine hcon.mono ?_; rintro e w2 ⟨rfl, h1, -, hB⟩; have H1 := Hid.in h1; have HB := Hid.in hB; clear h1 hB hcon))
  go_ret
  have hb := new_alloc w2 (.cells #[.map (some w1.heap.size)] 147)
  refine ⟨_, w1.heap.size, rfl, ⟨Blk.new _ 147 _, ?_, hris, HB.out.size, Nat.le_refl _⟩, below_step HB.out hb⟩
  obtain ⟨es, c, e, h2⟩ := H1.out
  exact ⟨es, c, (hb.block _ H1.out.lt).trans e, h2⟩

end Go.Proofs.YtnpaijbkhmnfpaaGreat

/- What cache's Take answers. -/
namespace Go.Proofs.YtnpaijbkhmnfpaaGreat
open Go.RowKit Go.Maps Go.WideMaps Go.Shelf Go.ChangeMaps

/-- what Granule answers, wherever it is asked from here on -/
def GranIs (w : World) (mp : Option Addr) (g : Int) (f : F4) (e : Int) : Prop :=
  ∀ W, Below w.heap.size w W → Calls Tryz.prog 129 #[.pointer mp, .int .i64 g] W fun E w' => E = .returned (.tuple #[.agg #[.int .u8 f.a, .int .u8 f.b, .int .u8 f.c, .int .u8 f.d], .int .i64 e]) ∧ Below W.heap.size W w'
def zF : F4 := ⟨0, 0, 0, 0⟩

set_option maxRecDepth 8000 in
set_option maxHeartbeats 1000000 in
theorem take_none (mp : Option Addr) (p : Option Addr) (g : Int) (hold : Bool) (w : World) (hn : ∀ W, Below w.heap.size w W → Calls Tryz.prog 85 #[.pointer p] W fun e w' => e = .returned (.bool true) ∧ w' = W) :
    Calls Tryz.prog 112 #[.pointer p, .pointer mp, .int .i64 g, .bool hold] w fun e w' => e = .returned (.tuple #[fV zF, .bool false, .int .i64 1]) ∧ Below w.heap.size w w' := by
  have hc := hn _ (new_alloc w (.cells #[.int .u8 0, .int .u8 0, .int .u8 0, .int .u8 0] 92))
  have HB := Hid.in (new_alloc w (.cells #[.int .u8 0, .int .u8 0, .int .u8 0, .int .u8 0] 92))
  clear hn
  go_enter Tryz.func112, Tryz.ntmps112
  go_wp2_with (go_at_call 85; refine hc.mono ?_; rintro e w1 ⟨rfl, rfl⟩)
  exact bodyPost_ret (v := .tuple #[fV zF, .bool false, .int .i64 1]) (by simp [results, Tryz.results112, go_sem, fV, zF]) rfl ⟨rfl, HB.out⟩

set_option maxRecDepth 8000 in
set_option maxHeartbeats 1000000 in
theorem take_held (B q b : Nat) (L : List Ln) (mp : Option Addr) (gf : F4) (ge g : Int) (f : F4) (w : World) (h : LinAt w B q b L) (hg : i64W g) (hf : findL L g = some f) (hge : ge ≠ 1) (hgr : GranIs w mp g gf ge) :
    Calls Tryz.prog 112 #[.pointer (some ⟨q, 0, none⟩), .pointer mp, .int .i64 g, .bool true] w fun e w' => e = .returned (.tuple #[fV f, .bool true, .int .i64 0]) ∧ Below w.heap.size w w' := by
  obtain ⟨f', hf', hr⟩ := h.look g hg
  have ef := hf' f hf
  subst ef
  rw [hf] at hr
  obtain ⟨f0, f1, f2, f3⟩ := f'
  obtain ⟨n0, n1, n2, n3⟩ := gf
  dsimp only [Option.isSome_some] at hr
  have HB1 := Hid.in (new_alloc w (.cells #[.int .u8 0, .int .u8 0, .int .u8 0, .int .u8 0] 92))
  have HL1 := Hid.in (h.below HB1.out)
  have HZ1 := Hid.in (Blk.new w 92 #[.int .u8 0, .int .u8 0, .int .u8 0, .int .u8 0])
  have hgr1 := hgr _ HB1.out
  have hr1 : ∀ W, Below (w.alloc (.cells #[.int .u8 0, .int .u8 0, .int .u8 0, .int .u8 0] 92)).heap.size (w.alloc (.cells #[.int .u8 0, .int .u8 0, .int .u8 0, .int .u8 0] 92)) W → (Instr.lookup 145 (.map (some b)) (.int .i64 g) true).run Tryz.prog W = .ok (.tuple #[.agg #[.int .u8 f0, .int .u8 f1, .int .u8 f2, .int .u8 f3], .bool true]) W := fun W hW => hr W ((hW.block b HL1.out.map.lt).trans (HB1.out.block b h.map.lt))
  have hc := lnone_no q b _ (HL1.out.blk.cell 0)
  have hd : decide (ge = 1) = false := decide_eq_false hge
  clear h hgr hr hf hf'
  go_enter Tryz.func112, Tryz.ntmps112
  go_upto_region 4 with (first
    | (go_at_call 85; refine hc.mono ?_; rintro e w1 ⟨rfl, rfl⟩)
    | (go_at_call 129; refine hgr1.mono ?_; rintro e w2 ⟨rfl, hb2⟩; have HB2 := Hid.in hb2; clear hb2 hgr1))
  generalize w.alloc (.cells #[.int .u8 0, .int .u8 0, .int .u8 0, .int .u8 0] 92) = w1 at *
  have HB3 := Hid.in (below_alloc HB2.out (.cells #[.int .u8 n0, .int .u8 n1, .int .u8 n2, .int .u8 n3] 92))
  have hr3 := hr1 _ HB3.out
  generalize w2.alloc (.cells #[.int .u8 n0, .int .u8 n1, .int .u8 n2, .int .u8 n3] 92) = w3 at *
  have c0 : w3.cell? ⟨q, 0, none⟩ = some (.map (some b)) := (HL1.out.blk.grow HB3.out).cell 0
  have HB4 := Hid.in (below_alloc HB3.out (.cells #[.int .u8 f0, .int .u8 f1, .int .u8 f2, .int .u8 f3] 92))
  have HZ4 := Hid.in (HZ1.out.grow HB4.out)
  have HN4 := Hid.in (Blk.new w3 92 #[.int .u8 f0, .int .u8 f1, .int .u8 f2, .int .u8 f3])
  clear HB3 HZ1 HB2 hr1 hc
  go_upto_region 8 with fail
  generalize w3.alloc (.cells #[.int .u8 f0, .int .u8 f1, .int .u8 f2, .int .u8 f3] 92) = w4 at *
  generalize w3.heap.size = g4 at *
  clear c0 hr3
  have d0 : w4.cell? ⟨g4, 0, none⟩ = some (.int .u8 f0) := HN4.out.cell 0
  have d1 : w4.cell? ⟨g4, 1, none⟩ = some (.int .u8 f1) := HN4.out.cell 1
  have d2 : w4.cell? ⟨g4, 2, none⟩ = some (.int .u8 f2) := HN4.out.cell 2
  have d3 : w4.cell? ⟨g4, 3, none⟩ = some (.int .u8 f3) := HN4.out.cell 3
  have z0 := HZ4.out.free 0
  have z1 := HZ4.out.free 1
  have z2 := HZ4.out.free 2
  have z3 := HZ4.out.free 3
  have e0 : w4.cell? ⟨w.heap.size, 0, none⟩ = some (.int .u8 0) := HZ4.out.cell 0
  have e1 : w4.cell? ⟨w.heap.size, 1, none⟩ = some (.int .u8 0) := HZ4.out.cell 1
  have e2 : w4.cell? ⟨w.heap.size, 2, none⟩ = some (.int .u8 0) := HZ4.out.cell 2
  have e3 : w4.cell? ⟨w.heap.size, 3, none⟩ = some (.int .u8 0) := HZ4.out.cell 3
  have HBB := Hid.in (below_step HB1.out HB4.out)
  go_wp2_with fail
  exact bodyPost_ret (v := .tuple #[fV ⟨f0, f1, f2, f3⟩, .bool true, .int .i64 0]) (by simp [results, Tryz.results112, go_sem, fV, e0, e1, e2, e3]) rfl ⟨rfl, (((HBB.out.setCell (Nat.le_refl _) _).setCell (Nat.le_refl _) _).setCell (Nat.le_refl _) _).setCell (Nat.le_refl _) _⟩

set_option maxRecDepth 8000 in
set_option maxHeartbeats 1000000 in
theorem take_nomem (B q b : Nat) (L : List Ln) (mp : Option Addr) (gf : F4) (g : Int) (hold : Bool) (w : World) (h : LinAt w B q b L) (hgr : GranIs w mp g gf 1) :
    Calls Tryz.prog 112 #[.pointer (some ⟨q, 0, none⟩), .pointer mp, .int .i64 g, .bool hold] w fun e w' => e = .returned (.tuple #[fV zF, .bool false, .int .i64 1]) ∧ Below w.heap.size w w' := by
  obtain ⟨n0, n1, n2, n3⟩ := gf
  have HB1 := Hid.in (new_alloc w (.cells #[.int .u8 0, .int .u8 0, .int .u8 0, .int .u8 0] 92))
  have HL1 := Hid.in (h.below HB1.out)
  have HZ1 := Hid.in (Blk.new w 92 #[.int .u8 0, .int .u8 0, .int .u8 0, .int .u8 0])
  have hgr1 := hgr _ HB1.out
  have hc := lnone_no q b _ (HL1.out.blk.cell 0)
  clear h hgr
  go_enter Tryz.func112, Tryz.ntmps112
  go_upto_region 4 with (first
    | (go_at_call 85; refine hc.mono ?_; rintro e w1 ⟨rfl, rfl⟩)
    | (go_at_call 129; refine hgr1.mono ?_; rintro e w2 ⟨rfl, hb2⟩; have HB2 := Hid.in hb2; clear hb2 hgr1))
  generalize w.alloc (.cells #[.int .u8 0, .int .u8 0, .int .u8 0, .int .u8 0] 92) = w1 at *
  have HB4 := Hid.in (below_alloc HB2.out (.cells #[.int .u8 n0, .int .u8 n1, .int .u8 n2, .int .u8 n3] 92))
  generalize w2.alloc (.cells #[.int .u8 n0, .int .u8 n1, .int .u8 n2, .int .u8 n3] 92) = w4 at *
  have HZ4 := Hid.in (HZ1.out.grow HB4.out)
  clear HZ1 HB2 hc
  have z0 := HZ4.out.free 0
  have z1 := HZ4.out.free 1
  have z2 := HZ4.out.free 2
  have z3 := HZ4.out.free 3
  have e0 : w4.cell? ⟨w.heap.size, 0, none⟩ = some (.int .u8 0) := HZ4.out.cell 0
  have e1 : w4.cell? ⟨w.heap.size, 1, none⟩ = some (.int .u8 0) := HZ4.out.cell 1
  have e2 : w4.cell? ⟨w.heap.size, 2, none⟩ = some (.int .u8 0) := HZ4.out.cell 2
  have e3 : w4.cell? ⟨w.heap.size, 3, none⟩ = some (.int .u8 0) := HZ4.out.cell 3
  have HBB := Hid.in (below_step HB1.out HB4.out)
  go_wp2_with fail
  exact bodyPost_ret (v := .tuple #[fV zF, .bool false, .int .i64 1]) (by simp [results, Tryz.results112, go_sem, fV, zF, e0, e1, e2, e3]) rfl ⟨rfl, (((HBB.out.setCell (Nat.le_refl _) _).setCell (Nat.le_refl _) _).setCell (Nat.le_refl _) _).setCell (Nat.le_refl _) _⟩

set_option maxRecDepth 8000 in
set_option maxHeartbeats 1000000 in
theorem take_err (B q b : Nat) (L : List Ln) (mp : Option Addr) (gf : F4) (ge g : Int) (hold : Bool) (w : World) (h : LinAt w B q b L) (hg : i64W g) (hno : ((findL L g).isSome && hold) = false) (hge : ge ≠ 1) (hge0 : ge ≠ 0) (hgr : GranIs w mp g gf ge) :
    Calls Tryz.prog 112 #[.pointer (some ⟨q, 0, none⟩), .pointer mp, .int .i64 g, .bool hold] w fun e w' => e = .returned (.tuple #[fV zF, .bool false, .int .i64 ge]) ∧ Below w.heap.size w w' := by
  obtain ⟨f', -, hr⟩ := h.look g hg
  obtain ⟨f0, f1, f2, f3⟩ := f'
  obtain ⟨n0, n1, n2, n3⟩ := gf
  dsimp only at hr
  have HB1 := Hid.in (new_alloc w (.cells #[.int .u8 0, .int .u8 0, .int .u8 0, .int .u8 0] 92))
  have HL1 := Hid.in (h.below HB1.out)
  have HZ1 := Hid.in (Blk.new w 92 #[.int .u8 0, .int .u8 0, .int .u8 0, .int .u8 0])
  have hgr1 := hgr _ HB1.out
  generalize (findL L g).isSome = ok at *
  have hr1 : ∀ W, Below (w.alloc (.cells #[.int .u8 0, .int .u8 0, .int .u8 0, .int .u8 0] 92)).heap.size (w.alloc (.cells #[.int .u8 0, .int .u8 0, .int .u8 0, .int .u8 0] 92)) W → (Instr.lookup 145 (.map (some b)) (.int .i64 g) true).run Tryz.prog W = .ok (.tuple #[.agg #[.int .u8 f0, .int .u8 f1, .int .u8 f2, .int .u8 f3], .bool ok]) W := fun W hW => hr W ((hW.block b HL1.out.map.lt).trans (HB1.out.block b h.map.lt))
  have hc := lnone_no q b _ (HL1.out.blk.cell 0)
  clear h hgr hr
  have hd : decide (ge = 1) = false := decide_eq_false hge
  have hd0 : decide (ge = 0) = false := decide_eq_false hge0
  have HZ : Hid (∀ W, Below (w.alloc (.cells #[.int .u8 0, .int .u8 0, .int .u8 0, .int .u8 0] 92)).heap.size (w.alloc (.cells #[.int .u8 0, .int .u8 0, .int .u8 0, .int .u8 0] 92)) W → Blk W w.heap.size 92 #[.int .u8 0, .int .u8 0, .int .u8 0, .int .u8 0]) := fun W hW => HZ1.out.grow hW
  clear HZ1
  cases ok <;> cases hold <;> first | (cases hno; done) | skip
  all_goals
    go_enter Tryz.func112, Tryz.ntmps112
    go_upto_region 4 with (first
      | (go_at_call 85; refine hc.mono ?_; rintro e w1 ⟨rfl, rfl⟩)
      | (go_at_call 129; refine hgr1.mono ?_; rintro e w2 ⟨rfl, hb2⟩; have HB2 := Hid.in hb2; clear hb2 hgr1))
    generalize w.alloc (.cells #[.int .u8 0, .int .u8 0, .int .u8 0, .int .u8 0] 92) = w1 at *
    have HB3 := Hid.in (below_alloc HB2.out (.cells #[.int .u8 n0, .int .u8 n1, .int .u8 n2, .int .u8 n3] 92))
    have HN3 := Hid.in (Blk.new w2 92 #[.int .u8 n0, .int .u8 n1, .int .u8 n2, .int .u8 n3])
    have hr3 := hr1 _ HB3.out
    generalize w2.alloc (.cells #[.int .u8 n0, .int .u8 n1, .int .u8 n2, .int .u8 n3] 92) = w3 at *
    generalize w2.heap.size = g2 at *
    have c0 : w3.cell? ⟨q, 0, none⟩ = some (.map (some b)) := (HL1.out.blk.grow HB3.out).cell 0
    have HB4 := Hid.in (below_alloc HB3.out (.cells #[.int .u8 f0, .int .u8 f1, .int .u8 f2, .int .u8 f3] 92))
    have HN4 := Hid.in (HN3.out.grow (new_alloc w3 (.cells #[.int .u8 f0, .int .u8 f1, .int .u8 f2, .int .u8 f3] 92)))
    clear HB3 HN3 HB2 hr1 hc
    go_upto_region 9 with fail
    generalize w3.alloc (.cells #[.int .u8 f0, .int .u8 f1, .int .u8 f2, .int .u8 f3] 92) = w4 at *
    clear c0 hr3
    have HZ4 := Hid.in (HZ.out _ HB4.out)
    have z0 := HZ4.out.free 0
    have z1 := HZ4.out.free 1
    have z2 := HZ4.out.free 2
    have z3 := HZ4.out.free 3
    have e0 : w4.cell? ⟨w.heap.size, 0, none⟩ = some (.int .u8 0) := HZ4.out.cell 0
    have e1 : w4.cell? ⟨w.heap.size, 1, none⟩ = some (.int .u8 0) := HZ4.out.cell 1
    have e2 : w4.cell? ⟨w.heap.size, 2, none⟩ = some (.int .u8 0) := HZ4.out.cell 2
    have e3 : w4.cell? ⟨w.heap.size, 3, none⟩ = some (.int .u8 0) := HZ4.out.cell 3
    have HBB := Hid.in (below_step HB1.out HB4.out)
    go_wp2_with fail
    exact bodyPost_ret (v := .tuple #[fV zF, .bool false, .int .i64 ge]) (by simp [results, Tryz.results112, go_sem, fV, zF, e0, e1, e2, e3]) rfl ⟨rfl, (((HBB.out.setCell (Nat.le_refl _) _).setCell (Nat.le_refl _) _).setCell (Nat.le_refl _) _).setCell (Nat.le_refl _) _⟩

set_option maxRecDepth 8000 in
set_option maxHeartbeats 1000000 in
theorem take_new (B q b : Nat) (L : List Ln) (mp : Option Addr) (gf : F4) (g : Int) (hold : Bool) (w : World) (h : LinAt w B q b L) (hl : L.length ≤ 1048576) (hg : i64W g) (hno : ((findL L g).isSome && hold) = false) (hgr : GranIs w mp g gf 0) :
    Calls Tryz.prog 112 #[.pointer (some ⟨q, 0, none⟩), .pointer mp, .int .i64 g, .bool hold] w fun e w' => e = .returned (.tuple #[fV gf, .bool false, .int .i64 0]) ∧ LinAt w' B q b (takL g gf L) ∧ Keeps (fun j => j = b) w w' := by
  obtain ⟨f', -, hr⟩ := h.look g hg
  obtain ⟨f0, f1, f2, f3⟩ := f'
  obtain ⟨n0, n1, n2, n3⟩ := gf
  have hbq := h.map.lt
  have HQ := Hid.in h.blk.lt
  dsimp only at hr
  have HB1 := Hid.in (new_alloc w (.cells #[.int .u8 0, .int .u8 0, .int .u8 0, .int .u8 0] 92))
  have HL1 := Hid.in (h.below HB1.out)
  have HZ1 := Hid.in (Blk.new w 92 #[.int .u8 0, .int .u8 0, .int .u8 0, .int .u8 0])
  have hgr1 := hgr _ HB1.out
  generalize (findL L g).isSome = ok at *
  have hr1 : ∀ W, Below (w.alloc (.cells #[.int .u8 0, .int .u8 0, .int .u8 0, .int .u8 0] 92)).heap.size (w.alloc (.cells #[.int .u8 0, .int .u8 0, .int .u8 0, .int .u8 0] 92)) W → (Instr.lookup 145 (.map (some b)) (.int .i64 g) true).run Tryz.prog W = .ok (.tuple #[.agg #[.int .u8 f0, .int .u8 f1, .int .u8 f2, .int .u8 f3], .bool ok]) W := fun W hW => hr W ((hW.block b HL1.out.map.lt).trans (HB1.out.block b h.map.lt))
  have hc := lnone_no q b _ (HL1.out.blk.cell 0)
  clear h hgr hr
  have HZ : Hid (∀ W, Below (w.alloc (.cells #[.int .u8 0, .int .u8 0, .int .u8 0, .int .u8 0] 92)).heap.size (w.alloc (.cells #[.int .u8 0, .int .u8 0, .int .u8 0, .int .u8 0] 92)) W → Blk W w.heap.size 92 #[.int .u8 0, .int .u8 0, .int .u8 0, .int .u8 0]) := fun W hW => HZ1.out.grow hW
  clear HZ1
  cases ok <;> cases hold <;> first | (cases hno; done) | skip
  all_goals
    go_enter Tryz.func112, Tryz.ntmps112
    go_upto_region 4 with (first
      | (go_at_call 85; refine hc.mono ?_; rintro e w1 ⟨rfl, rfl⟩)
      | (go_at_call 129; refine hgr1.mono ?_; rintro e w2 ⟨rfl, hb2⟩; have HB2 := Hid.in hb2; clear hb2 hgr1))
    generalize w.alloc (.cells #[.int .u8 0, .int .u8 0, .int .u8 0, .int .u8 0] 92) = w1 at *
    have HB3 := Hid.in (below_alloc HB2.out (.cells #[.int .u8 n0, .int .u8 n1, .int .u8 n2, .int .u8 n3] 92))
    have HN3 := Hid.in (Blk.new w2 92 #[.int .u8 n0, .int .u8 n1, .int .u8 n2, .int .u8 n3])
    have hr3 := hr1 _ HB3.out
    generalize w2.alloc (.cells #[.int .u8 n0, .int .u8 n1, .int .u8 n2, .int .u8 n3] 92) = w3 at *
    generalize w2.heap.size = g2 at *
    have c0 : w3.cell? ⟨q, 0, none⟩ = some (.map (some b)) := (HL1.out.blk.grow HB3.out).cell 0
    have HB4 := Hid.in (below_alloc HB3.out (.cells #[.int .u8 f0, .int .u8 f1, .int .u8 f2, .int .u8 f3] 92))
    have HN4 := Hid.in (HN3.out.grow (new_alloc w3 (.cells #[.int .u8 f0, .int .u8 f1, .int .u8 f2, .int .u8 f3] 92)))
    clear HB3 HN3 HB2 hr1 hc
    go_upto_region 9 with fail
    generalize w3.alloc (.cells #[.int .u8 f0, .int .u8 f1, .int .u8 f2, .int .u8 f3] 92) = w4 at *
    clear c0 hr3
    have HL4 := Hid.in (HL1.out.below HB4.out)
    obtain ⟨w5, hup, hL5, hg5⟩ := LinAt.put (w := w4.drew) (HL4.out.drewN 1) g hg ⟨n0, n1, n2, n3⟩ hl
    have HL5 := Hid.in hL5
    have HG5 : Hid (w4.grownBy w5 (some b)) := ⟨hg5.os, hg5.tape, hg5.output, hg5.size, hg5.block⟩
    have c0 : w4.cell? ⟨q, 0, none⟩ = some (.map (some b)) := HL4.out.blk.cell 0
    have d0 : w4.cell? ⟨g2, 0, none⟩ = some (.int .u8 n0) := HN4.out.cell 0
    have d1 : w4.cell? ⟨g2, 1, none⟩ = some (.int .u8 n1) := HN4.out.cell 1
    have d2 : w4.cell? ⟨g2, 2, none⟩ = some (.int .u8 n2) := HN4.out.cell 2
    have d3 : w4.cell? ⟨g2, 3, none⟩ = some (.int .u8 n3) := HN4.out.cell 3
    have hbm := HL4.out.isMap
    have hgb : some g2 ≠ some b := fun e => by
      injection e with e
      obtain ⟨es, c, e1⟩ := hbm
      have e2 : w4.heap[g2]? = _ := HN4.out
      rw [e, e1] at e2
      cases e2
    have HN5 := Hid.in (HN4.out.kept HG5.out hgb)
    have HZ4 := Hid.in (HZ.out _ HB4.out)
    have HZ5 := Hid.in (HZ4.out.kept HG5.out (fun e => by injection e with e; omega))
    have HK5 : Hid (Keeps (fun j => j = b) w w5) := (Keeps.ofBelow (below_step HB1.out HB4.out)).grown HG5.out (fun k e => by injection e with e; exact .inl e.symm)
    clear hL5 hg5 HZ4 HN4 HG5 HB4 hgb hbm HL1 HZ HB1
    dsimp only at hup
    go_upto_region 11 with fail
    go_cut [9] (fun v wx => v = .bool false ∧ wx = w5)
    case first =>
      go_region_law (fail)
      all_goals
        go_wp2_with fail
        go_meet
        case rel => exact ⟨rfl, rfl⟩
    case rest =>
      obtain ⟨rfl, rfl⟩ := hcut
      clear hup c0 d0 d1 d2 d3 HL4
      have d0 : wc.cell? ⟨g2, 0, none⟩ = some (.int .u8 n0) := HN5.out.cell 0
      have d1 : wc.cell? ⟨g2, 1, none⟩ = some (.int .u8 n1) := HN5.out.cell 1
      have d2 : wc.cell? ⟨g2, 2, none⟩ = some (.int .u8 n2) := HN5.out.cell 2
      have d3 : wc.cell? ⟨g2, 3, none⟩ = some (.int .u8 n3) := HN5.out.cell 3
      have z0 := HZ5.out.free 0
      have z1 := HZ5.out.free 1
      have z2 := HZ5.out.free 2
      have z3 := HZ5.out.free 3
      have e0 : wc.cell? ⟨w.heap.size, 0, none⟩ = some (.int .u8 0) := HZ5.out.cell 0
      have e1 : wc.cell? ⟨w.heap.size, 1, none⟩ = some (.int .u8 0) := HZ5.out.cell 1
      have e2 : wc.cell? ⟨w.heap.size, 2, none⟩ = some (.int .u8 0) := HZ5.out.cell 2
      have e3 : wc.cell? ⟨w.heap.size, 3, none⟩ = some (.int .u8 0) := HZ5.out.cell 3
      go_wp2_with fail
      refine bodyPost_ret (v := .tuple #[fV ⟨n0, n1, n2, n3⟩, .bool false, .int .i64 0]) (by simp [results, Tryz.results112, go_sem, fV, e0, e1, e2, e3]) rfl ⟨rfl, ?_, ?_⟩
      · exact HL5.out.keeps (G := fun j => j = w.heap.size) (((((Keeps.refl (fun j => j = w.heap.size) _).setCell _ _ _ (.inl rfl)).setCell _ _ _ (.inl rfl)).setCell _ _ _ (.inl rfl)).setCell _ _ _ (.inl rfl)) (by have := HQ.out; omega) (by omega)
      · exact (((HK5.out.setCell _ _ _ (.inr (Nat.le_refl _))).setCell _ _ _ (.inr (Nat.le_refl _))).setCell _ _ _ (.inr (Nat.le_refl _))).setCell _ _ _ (.inr (Nat.le_refl _))

end Go.Proofs.YtnpaijbkhmnfpaaGreat

/- slices.Sorted(maps.Keys(l.held)): the granules that are held, rising. -/
namespace Go.Proofs.YtnpaijbkhmnfpaaGreat
open Go.RowKit Go.Maps Go.WideMaps Go.Sort Go.Shelf


theorem Tryz.sortsL (m : Nat) : AnyZI.SortsIn Tryz.prog Tryz.sortedL_ren Fence.wide m :=
  ⟨fun blk off cap ss W hH hblk hsz => callsIn_wide.2 (AnyM.slices_Sort_int Tryz.sortL blk off cap ss W hH hblk hsz),
   fun p cap W => callsIn_wide.2 (AnyM.slices_Sort_int_none Tryz.sortL p cap W)⟩

theorem keys_any (mb : Option Nat) (W : World) : Calls Tryz.prog 87 #[.map mb] W fun e w' => e = .returned (.func (.func 118) #[] #[.pointer (some ⟨W.heap.size, 0, none⟩)]) ∧ w' = W.alloc (.cells #[.map mb] 145) :=
  (callsIn_wide (n := 5)).1 (AnyZI.keys_in Tryz.keysL Fence.wide 5 trivial rfl mb W)

theorem keys_lin (L : List Ln) : intKeys (linD L) = L.map Ln.g := by
  show (L.map fun x => (ik x.g, fD x.f)).map (fun p => Go.intOf p.1) = _
  rw [List.map_map]
  rfl
theorem sorted_lin {L : List Ln} (h : Ris L) {ss : List Int} (hp : ss.Perm (intKeys (linD L))) : ss.mergeSort (fun x y => decide (x ≤ y)) = L.map Ln.g := by
  rw [keys_lin] at hp
  have h1 : (ss.mergeSort (fun x y => decide (x ≤ y))).Pairwise (fun x y => decide (x ≤ y) = true) := List.pairwise_mergeSort (fun a b c h1 h2 => by simp only [decide_eq_true_eq] at *; omega) (fun a b => by simp only [Bool.or_eq_true, decide_eq_true_eq]; omega) ss
  have h2 : (L.map Ln.g).Pairwise (fun x y => decide (x ≤ y) = true) := by
    rw [List.pairwise_map]
    exact h.imp fun hab => by simp only [decide_eq_true_eq]; omega
  refine List.Perm.eq_of_pairwise (fun a b _ _ hab hba => by simp only [decide_eq_true_eq] at hab hba; omega) h1 h2 ((List.mergeSort_perm ss _).trans hp)

set_option maxHeartbeats 1000000 in
theorem sorted_any (B q b : Nat) (L : List Ln) (w : World) (h : LinAt w B q b L) (hl : L.length ≤ 1048576) :
    Calls Tryz.prog 86 #[.func (.func 118) #[] #[.pointer (some ⟨w.heap.size, 0, none⟩)]] (w.alloc (.cells #[.map (some b)] 145)) fun e w' => ∃ v, e = .returned v ∧ w'.ownsRow w.heap.size 3 1 v L.length ((L.map Ln.g).map encZ) ∧ Below w.heap.size w w' := by
  have hown := h.map
  have hbl := hown.lt
  have hseq : SeqGives Fence.wide 2 Tryz.prog 118 #[.pointer (some ⟨w.heap.size, 0, none⟩)] encZ (fun ss => ss.Perm (intKeys (linD L))) (Maps.size (linD L)) (w.alloc (.cells #[.map (some b)] 145)) :=
    AnyZI.keys_gives (ρ := Tryz.keysL_ren) { Tryz.keysL with } Fence.wide _ trivial rfl (by omega) w.heap.size b L.length (linD L) _ (by simp) (by simp) (by
      obtain ⟨es, clock, hb, Ft, hs, hD⟩ := hown
      exact ⟨es, clock, (Below.heap_alloc _ _ b hbl).trans hb, Ft, hs, hD⟩)
  have cS := AnyZI.sorted_in Tryz.sortedL Fence.wide 5 trivial trivial trivial trivial rfl (by omega) (Tryz.sortsL _) (enters_of Tryz.func117 (by kernel_rfl) rfl) 118 #[.pointer (some ⟨w.heap.size, 0, none⟩)] trivial (enters_of Tryz.func118 (by kernel_rfl) rfl) _ _ (by rw [size_lin]; unfold maxLen; omega) (by rw [size_lin]; omega) _ hseq
  change CallsIn _ _ Tryz.prog 86 _ _ _ at cS
  refine ((callsIn_wide (n := 5)).1 cS).mono fun e w' ⟨v, ss, he, hS, hrow, _, hb⟩ => ?_
  have hlen : ss.length = L.length := by rw [hS.length_eq, keys_lin, List.length_map]
  rw [sorted_lin h.ris hS, hlen] at hrow
  exact ⟨v, he, ownsRow_base_a hrow (by simp), ((Below.refl _ w).alloc (Nat.le_refl _) _).trans (hb.mono (by simp))⟩

end Go.Proofs.YtnpaijbkhmnfpaaGreat

/- Slices whose elements take one cell each (numbers, texts): in a block of their own, or nil; what a store and an append do to them. -/
namespace Go.Proofs.YtnpaijbkhmnfpaaGreat
open Go.RowKit

/-- how a slice of such elements lies -/
def GRow (w : World) (p : Option Addr) (vs : List Value) : Prop :=
  0 < vs.length → ∃ b o, p = some ⟨b, o, none⟩ ∧ ∀ i, i < vs.length → w.cell? ⟨b, o + i, none⟩ = vs[i]?
/-- a slice of elements of the type T that the call has made (its block's number B or above), or nil -/
def GOwnV (T : TypeId) (w : World) (B : Nat) (v : Value) (vs : List Value) : Prop := w.ownsRow B T 1 v vs.length vs
/-- the same, not nil -/
def GOwn (T : TypeId) (w : World) (B g cap : Nat) (vs : List Value) : Prop := w.ownsRow B T 1 (.slice (some ⟨g, 0, none⟩) vs.length cap) vs.length vs

theorem GOwn.parts {T : TypeId} {w : World} {B g cap : Nat} {vs : List Value} (h : GOwn T w B g cap vs) :
    ∃ cur, B ≤ g ∧ w.heap[g]? = some (.cells cur T (0, 0)) ∧ vs.length ≤ cap ∧ cap ≤ maxLen ∧ cur.size = cap ∧ cur.toList.take vs.length = vs := by
  rcases h.2 with ⟨h', _⟩ | ⟨g', cap', cur, h', h1, h2, h3, h4, h5, h6⟩
  · simp at h'
  · simp only [Value.slice.injEq, Option.some.injEq, Addr.mk.injEq, and_true, true_and] at h'
    obtain ⟨rfl, rfl⟩ := h'
    exact ⟨cur, h1, h2, h3, h4, by simpa using h5, by simpa using h6⟩
theorem GOwn.mk {T : TypeId} {w : World} {B g cap : Nat} {vs : List Value} {cur : Array Value} (h1 : B ≤ g) (h2 : w.heap[g]? = some (.cells cur T (0, 0))) (h3 : vs.length ≤ cap) (h4 : cap ≤ maxLen) (h5 : cur.size = cap) (h6 : cur.toList.take vs.length = vs) : GOwn T w B g cap vs :=
  ⟨by simp, .inr ⟨g, cap, cur, rfl, h1, h2, h3, h4, by simpa using h5, by simpa using h6⟩⟩
theorem GOwn.lt {T : TypeId} {w : World} {B g cap : Nat} {vs : List Value} (h : GOwn T w B g cap vs) : g < w.heap.size := by
  obtain ⟨cur, _, h2, _⟩ := h.parts
  rcases Nat.lt_or_ge g w.heap.size with h | h
  · exact h
  · rw [Array.getElem?_eq_none h] at h2; cases h2
theorem GOwn.base {T : TypeId} {w : World} {B g cap : Nat} {vs : List Value} (h : GOwn T w B g cap vs) : B ≤ g := by obtain ⟨cur, h1, _⟩ := h.parts; exact h1
theorem GOwn.cap {T : TypeId} {w : World} {B g cap : Nat} {vs : List Value} (h : GOwn T w B g cap vs) : vs.length ≤ cap := by obtain ⟨cur, _, _, h1, _⟩ := h.parts; exact h1
theorem GOwn.lower {T : TypeId} {w : World} {B B' g cap : Nat} {vs : List Value} (h : GOwn T w B g cap vs) (hB : B' ≤ g) : GOwn T w B' g cap vs := by
  obtain ⟨cur, _, h2, h3, h4, h5, h6⟩ := h.parts
  exact GOwn.mk hB h2 h3 h4 h5 h6
theorem GOwn.keep {T : TypeId} {w w' : World} {B C g cap : Nat} {vs : List Value} (h : GOwn T w B g cap vs) (hb : Below C w w') (hg : g < C) : GOwn T w' B g cap vs := by
  obtain ⟨cur, h1, h2, h3, h4, h5, h6⟩ := h.parts
  exact GOwn.mk h1 (by rw [hb.block g hg]; exact h2) h3 h4 h5 h6
theorem GOwn.below {T : TypeId} {w w' : World} {B g cap : Nat} {vs : List Value} (h : GOwn T w B g cap vs) (hb : Below w.heap.size w w') : GOwn T w' B g cap vs := h.keep hb h.lt
theorem GOwn.cell {T : TypeId} {w : World} {B g cap : Nat} {vs : List Value} (h : GOwn T w B g cap vs) (i : Nat) (hi : i < vs.length) : w.cell? ⟨g, i, none⟩ = vs[i]? := World.ownsRow.cellAt h i (by omega)
theorem GOwn.free {T : TypeId} {w : World} {B g cap : Nat} {vs : List Value} (h : GOwn T w B g cap vs) (i : Nat) : w.frozen? ⟨g, i, none⟩ = false := World.ownsRow.frozenAt h i
theorem GOwn.store {T : TypeId} {w : World} {B g cap : Nat} {vs : List Value} (h : GOwn T w B g cap vs) (i : Nat) (x : Value) : GOwn T (w.setCell ⟨g, i, none⟩ x) B g cap (vs.set i x) := by
  have := (World.ownsRow.stored h i x).1
  unfold GOwn
  simpa using this
theorem GOwn.row {T : TypeId} {w : World} {B g cap : Nat} {vs : List Value} (h : GOwn T w B g cap vs) : GRow w (some ⟨g, 0, none⟩) vs :=
  fun _ => ⟨g, 0, rfl, fun i hi => by simpa using h.cell i hi⟩
theorem GOwn.grown {T : TypeId} {w w' : World} {B g r cap : Nat} {vs : List Value} (ho : GOwn T w B g cap vs) (hg : w.grownBy w' (some r)) (hne : g ≠ r) : GOwn T w' B g cap vs := by
  obtain ⟨cur, h1, h2, h3, h4, h5, h6⟩ := ho.parts
  exact GOwn.mk h1 ((hg.block g ho.lt (fun e => hne (by injection e))).trans h2) h3 h4 h5 h6
theorem GOwn.lit (T : TypeId) (w : World) (vs : List Value) (hm : vs.length ≤ maxLen) : GOwn T (w.alloc (.cells vs.toArray T)) w.heap.size w.heap.size vs.length vs :=
  GOwn.mk (Nat.le_refl _) (heap_alloc_new w _) (Nat.le_refl _) hm (by simp) (by rw [List.take_of_length_le (by simp)])
theorem GOwn.drewN {T : TypeId} {w : World} {B g cap : Nat} {vs : List Value} (h : GOwn T w B g cap vs) (n : Nat) : GOwn T (w.drewN n) B g cap vs := h

theorem GRow.below {w w' : World} {p : Option Addr} {vs : List Value} (h : GRow w p vs) (hb : Below w.heap.size w w') : GRow w' p vs := fun h0 => by
  obtain ⟨b, o, rfl, hc⟩ := h h0
  refine ⟨b, o, rfl, fun i hi => ?_⟩
  have e := hc i hi
  rw [List.getElem?_eq_getElem hi] at e
  rw [hb.cell (p := ⟨b, o + i, none⟩) (cell_lt e), hc i hi]
theorem GRow.drewN {w : World} {p : Option Addr} {vs : List Value} (h : GRow w p vs) (n : Nat) : GRow (w.drewN n) p vs := h
theorem GRow.nil (w : World) (p : Option Addr) : GRow w p [] := fun h => absurd h (Nat.lt_irrefl 0)

theorem GOwn.val {T : TypeId} {w : World} {B g cap : Nat} {vs : List Value} (h : GOwn T w B g cap vs) : GOwnV T w B (.slice (some ⟨g, 0, none⟩) vs.length cap) vs := h
theorem GOwnV.nil (T : TypeId) (w : World) (B : Nat) : GOwnV T w B (.slice none 0 0) [] := World.ownsRow_nil _ _ _ _
theorem GOwnV.alloc {T : TypeId} {w : World} {B : Nat} {v : Value} {vs : List Value} (h : GOwnV T w B v vs) (o : Obj) : GOwnV T (w.alloc o) B v vs := World.ownsRow.alloc h o
theorem GOwnV.drewN {T : TypeId} {w : World} {B : Nat} {v : Value} {vs : List Value} (h : GOwnV T w B v vs) (n : Nat) : GOwnV T (w.drewN n) B v vs := h
theorem GOwnV.shape {T : TypeId} {w : World} {B : Nat} {v : Value} {vs : List Value} (h : GOwnV T w B v vs) : (v = .slice none 0 0 ∧ vs = []) ∨ ∃ g cap, v = .slice (some ⟨g, 0, none⟩) vs.length cap ∧ GOwn T w B g cap vs := by
  rcases h.2 with ⟨h1, h2⟩ | ⟨g, cap, cur, h1, h2⟩
  · exact .inl ⟨h1, List.eq_nil_of_length_eq_zero h2⟩
  · subst h1
    exact .inr ⟨g, cap, rfl, h⟩
theorem GOwnV.below {T : TypeId} {w w' : World} {B : Nat} {v : Value} {vs : List Value} (h : GOwnV T w B v vs) (hb : Below w.heap.size w w') : GOwnV T w' B v vs := by
  rcases h.shape with ⟨rfl, rfl⟩ | ⟨g, cap, rfl, ho⟩
  · exact GOwnV.nil _ _ _
  · exact (ho.below hb).val
theorem GOwnV.slice {T : TypeId} {w : World} {B : Nat} {v : Value} {vs : List Value} (h : GOwnV T w B v vs) : ∃ p cap, v = .slice p vs.length cap ∧ GRow w p vs ∧ vs.length ≤ cap ∧ (p = none → cap = 0) := by
  rcases h.shape with ⟨rfl, rfl⟩ | ⟨g, cap, rfl, ho⟩
  · exact ⟨none, 0, rfl, GRow.nil _ _, Nat.le_refl _, fun _ => rfl⟩
  · exact ⟨_, cap, rfl, ho.row, ho.cap, fun h => by cases h⟩
theorem GOwnV.lowerV {T : TypeId} {w : World} {B B' : Nat} {v : Value} {vs : List Value} (h : GOwnV T w B v vs) (hB : B' ≤ B) : GOwnV T w B' v vs := by
  rcases h.shape with ⟨rfl, rfl⟩ | ⟨g, cap, rfl, ho⟩
  · exact GOwnV.nil _ _ _
  · exact (ho.lower (Nat.le_trans hB ho.base)).val

/-- what append asks of the slice's type t and its element's type T -/
def Elem (t T : TypeId) (by_ : Nat) : Prop := Tryz.prog.underlying t = some (.slice T) ∧ ∃ z, z.cells.size = 1 ∧ (Tryz.prog.info? T).map (fun i => (i.zero, i.size, i.bytes)) = some (some z, 1, by_)

/-- 'append(out, ..)' on such a slice -/
theorem gpush {ops : Array Oper} {rest : List Oper} {o : Oper} {a : Act} {Q : Exit → Act → World → Prop} {t T : TypeId} {by_ : Nat} (he : Elem t T by_) (w : World) (hgd : o.guard = none) (s x : Operand)
    (ho : o.op = .call { callee := .builtin .append, args := #[s, x], argTypes := #[t, t] }) (B : Nat) (v : Value) (vs : List Value) (hs : a.eval s = v) (hown : GOwnV T w B v vs)
    (ad : Addr) (m c : Nat) (ns : List Value) (hx : a.eval x = .slice (some ad) m c) (hl : ns.length = m) (hnews : ∀ j u, ns[j]? = some u → w.cell? (ad.add j) = some u) (h1 : ∀ u ∈ ns, u.oneCell' = true)
    (hlen : vs.length + m ≤ 140737488355328) (hby : (vs.length + m) * by_ ≤ 140737488355328) (hB : B ≤ w.heap.size)
    (h : ∀ v' w', GOwnV T w' B v' (vs ++ ns) → w.grownBy w' v.ownBlock → (∀ w0, Below B w0 w → Below B w0 w') → (v' = .slice none 0 0 ↔ v = .slice none 0 0 ∧ m = 0) → wpList Tryz.prog ops Q rest (a.put o.dst v') w') :
    wpList Tryz.prog ops Q (o :: rest) a w := by
  obtain ⟨hu, z, hzc, hinfo⟩ := he
  obtain ⟨i0, hi, hz0, hz1, hz2⟩ := info_parts hinfo
  refine wpList_append_own w hgd s x t ho B T i0 z 1 by_ hu hi hz0 hz1 hz2 hzc (by decide) v vs.length vs hs hown ad m c ns hx (by simp [hl]) hnews h1 (by unfold maxLen; omega) hby hB ?_
  intro v' w' h2 h3 h4
  refine h v' w' ?_ h3 (fun w0 hb => hb.grown h3 hB fun k hk => ?_) h4
  · unfold GOwnV
    rw [List.length_append, hl]
    exact h2
  · rcases hown.shape with ⟨rfl, _⟩ | ⟨g, cap, rfl, ho⟩
    · simp [Value.ownBlock] at hk
    · simp [Value.ownBlock] at hk
      subst hk
      exact ho.base

end Go.Proofs.YtnpaijbkhmnfpaaGreat

/- What cache's All answers; what Has, Flush, Copy and All answer of what are no lines. -/
namespace Go.Proofs.YtnpaijbkhmnfpaaGreat
open Go.RowKit Go.Maps Go.WideMaps Go.Shelf

theorem own_block {w : World} {B : Nat} {T : TypeId} {z : Nat} {v : Value} {n : Nat} {xs : List Value} (h : w.ownsRow B T z v n xs) : v = .slice none 0 0 ∨ ∃ g cur, v.ownBlock = some g ∧ B ≤ g ∧ w.heap[g]? = some (.cells cur T (0, 0)) := by
  rcases h.2 with ⟨e1, _⟩ | ⟨g, cap, cur, e1, e2, e3, _⟩
  · exact .inl e1
  · exact .inr ⟨g, cur, by rw [e1]; rfl, e2, e3⟩
theorem rows_apart {w : World} {B B' : Nat} {T T' : TypeId} {z z' : Nat} {v v' : Value} {n n' : Nat} {xs xs' : List Value} (h : w.ownsRow B T z v n xs) (h' : w.ownsRow B' T' z' v' n' xs') (hne : T ≠ T') : v = .slice none 0 0 ∨ v.ownBlock ≠ v'.ownBlock := by
  rcases own_block h with e | ⟨g, cur, e1, -, e2⟩
  · exact .inl e
  · refine .inr fun e => ?_
    rcases own_block h' with e' | ⟨g', cur', e3, -, e4⟩
    · rw [e', e1] at e; cases e
    · rw [e1, e3] at e
      injection e with e
      rw [e, e4] at e2
      injection e2 with e2
      injection e2 with _ e2
      exact hne e2.symm
theorem kept_row {w w' : World} {B : Nat} {T : TypeId} {z : Nat} {v : Value} {n : Nat} {xs : List Value} {row : Option Nat} (h : w.ownsRow B T z v n xs) (hg : w.grownBy w' row) (hr : v = .slice none 0 0 ∨ v.ownBlock ≠ row) : w'.ownsRow B T z v n xs :=
  World.ownsRow.kept h hg (hr.imp (fun e => by rw [e]; rfl) id)
theorem keys_kept {w w' : World} {B B' : Nat} {v v' : Value} {xs : List Value} {L : List Ln} (hk : GOwnV 3 w B v xs) (ho : LOwn 94 w B' v' L) (hg : w.grownBy w' v'.ownBlock) : GOwnV 3 w' B v xs := kept_row hk hg (rows_apart hk ho (by decide))
theorem findL_at : ∀ {L : List Ln}, Ris L → ∀ {k : Nat} (hk : k < L.length), findL L L[k].g = some L[k].f
  | [], _, k, hk => absurd hk (by simp)
  | x :: L, h, 0, _ => by rw [findL_cons]; exact if_pos rfl
  | x :: L, h, k + 1, hk => by
    have h := List.pairwise_cons.1 h
    have hk' : k < L.length := by simpa using hk
    rw [findL_cons]
    have h1 := h.1 _ (List.getElem_mem hk')
    rw [List.getElem_cons_succ, if_neg (by omega)]
    exact findL_at h.2 hk'

set_option maxRecDepth 4000 in
set_option maxHeartbeats 2000000 in
theorem all_any (B q b : Nat) (L : List Ln) (w : World) (h : LinAt w B q b L) (hl : L.length ≤ 1000000) (h64 : ∀ x ∈ L, i64W x.g) :
    Calls Tryz.prog 49 #[.pointer (some ⟨q, 0, none⟩)] w fun e w' => ∃ v, e = .returned v ∧ LOwn 94 w' w.heap.size v L ∧ Below w.heap.size w w' := by
  have hc := lnone_no q b w (h.blk.cell 0)
  have c0 : w.cell? ⟨q, 0, none⟩ = some (.map (some b)) := h.blk.cell 0
  have hlen := fun ty => h.len ty w rfl
  have HL := Hid.in h
  have H64 := Hid.in h64
  clear h h64
  obtain ⟨hu, z, hzc, hinfo⟩ := Tryz.elemLine
  obtain ⟨i0, hi, hz0, hz1, hz2⟩ := info_parts hinfo
  obtain ⟨n, hn⟩ : ∃ n, L.length = n := ⟨_, rfl⟩
  have HN := Hid.in hn
  rw [hn] at hlen hl
  clear hn
  go_enter Tryz.func49, Tryz.ntmps49
  go_upto_region 4 with (first
    | (go_at_call 85; refine hc.mono ?_; rintro e w0 ⟨rfl, rfl⟩)
    | (at_make; refine wpList_make_own _ rfl _ _ 48 rfl w0.heap.size 94 i0 z 5 hu hi hz0 hz1 _ _ _ n rfl rfl rfl (by rw [hz2]; omega) (by unfold maxLen; omega) (Nat.le_refl _) ?_; intro w1 hown hgrow; have HB1 := Hid.in ((Below.refl w0.heap.size w0).grown hgrow (Nat.le_refl _) (by simp)); have HO1 : Hid (LOwn 94 w1 w0.heap.size (.slice (some ⟨w0.heap.size, 0, none⟩) 0 n) []) := hown; clear hown hgrow))
  have HL1 := Hid.in (HL.out.below HB1.out)
  have d0 : w1.cell? ⟨q, 0, none⟩ = some (.map (some b)) := HL1.out.blk.cell 0
  have hso := sorted_any B q b L w1 HL1.out (by rw [HN.out]; omega)
  clear c0 hc hlen hi hz0 hz1 hz2 hzc hinfo hu
  go_wp2_with (first
    | (go_at_call 87; refine (keys_any (some b) w1).mono ?_; rintro e w2 ⟨rfl, rfl⟩)
    | (go_at_call 86; refine hso.mono ?_; rintro e w2 ⟨v2, rfl, hrow, hb2⟩; have hk2 : GOwnV 3 w2 w1.heap.size v2 ((L.map Ln.g).map encZ) := (by unfold GOwnV; rw [List.length_map, List.length_map]; exact hrow); obtain ⟨p2, e2, hv2, -, -, -⟩ := hk2.slice; rw [List.length_map, List.length_map, HN.out] at hv2; subst hv2; have HK2 := Hid.in hk2; have HB2 := Hid.in (below_step HB1.out hb2); have HO2 := Hid.in (HO1.out.below hb2); clear hk2 hrow hb2 hso))
  clear d0 HL1
  have hsz1 := HB1.out.size
  go_loopw [3, 21] (fun v3 vi wr => ∃ k : Nat, vi = .int .i64 k ∧ k ≤ n ∧ LOwn 94 wr w0.heap.size v3 (L.take k) ∧ GOwnV 3 wr w1.heap.size (.slice p2 n e2) ((L.map Ln.g).map encZ) ∧ Below w0.heap.size w0 wr) (fun _ vi _ => n - (intOf vi).toNat)
  case atStart => exact ⟨0, rfl, Nat.zero_le _, HO2.out, HK2.out, HB2.out⟩
  case round =>
    obtain ⟨k, rfl, hk, ho, hkr, hb⟩ := hrel
    have HO := Hid.in ho
    have HK := Hid.in hkr
    have HB := Hid.in hb
    clear ho hkr hb
    by_cases hlt : k < n
    · have hkL : k < L.length := by rw [HN.out]; exact hlt
      have HLr := Hid.in (HL.out.below HB.out)
      obtain ⟨p', c', e0, hrow, -, -⟩ := HK.out.slice
      have e1 : p' = p2 := by injection e0 with e; exact e.symm
      clear e0
      subst e1
      obtain ⟨bk, ok, rfl, hcell⟩ := hrow (by simp; omega)
      have d1 := hcell k (by simp; omega)
      rw [List.getElem?_map, List.getElem?_map, List.getElem?_eq_getElem hkL, Option.map_some, Option.map_some] at d1
      clear hrow hcell
      have d0 : wr.cell? ⟨q, 0, none⟩ = some (.map (some b)) := HLr.out.blk.cell 0
      have hlk := HLr.out.look1 L[k].g (H64.out _ (List.getElem_mem hkL)) L[k].f (findL_at HL.out.ris hkL) wr rfl
      have HT : Hid (L.take (k + 1) = L.take k ++ [L[k]]) := List.take_succ_eq_append_getElem hkL
      have HTL : Hid ((L.take k).length ≤ 1048576) := by have : (L.take k).length ≤ 1048576 := (by rw [List.length_take]; omega); exact this
      have hsz := HB.out.size
      generalize L[k] = x at *
      obtain ⟨xg, xa, xb, xc, xd⟩ := x
      dsimp only [encZ] at d1 hlk
      have hnews := news5 wr ⟨xg, ⟨xa, xb, xc, xd⟩⟩ 94
      dsimp only at hnews
      go_wp2_with (at_builtin; refine lpush Tryz.elemLine _ rfl _ _ rfl w0.heap.size _ (L.take k) rfl (HO.out.alloc _) ⟨wr.heap.size, 0, none⟩ 1 ⟨xg, ⟨xa, xb, xc, xd⟩⟩ rfl hnews HTL.out (by decide) (by rw [size_one]; omega) ?_; intro v6 w6 hT6 hg6 hb6; have HK6 := Hid.in (keys_kept (HK.out.alloc _) (HO.out.alloc _) hg6); have HT6 := Hid.in hT6; have HB6 := Hid.in (hb6 w0 (below_alloc HB.out _)); clear hT6 hg6 hb6)
      go_roundw
      case rel => exact ⟨k + 1, by go_num, by omega, by rw [HT.out]; exact HT6.out, HK6.out, HB6.out⟩
      case measure => simp [intOf]; omega
    · have HE : Hid (L.take k = L) := List.take_of_length_le (by rw [HN.out]; omega)
      rw [HE.out] at HO
      go_wp2_with fail
      go_ret
      exact ⟨_, rfl, HO.out, HB.out⟩

/-- no lines: nil, or such as no call made -/
def NoLin (w : World) (p : Option Addr) : Prop := ∀ W, Below w.heap.size w W → Calls Tryz.prog 85 #[.pointer p] W fun e w' => e = .returned (.bool true) ∧ w' = W
theorem noLin_nil (w : World) : NoLin w none := fun W _ => lnone_nil W
theorem noLin_zero {w : World} {q : Nat} (h : Blk w q 147 #[.map none]) : NoLin w (some ⟨q, 0, none⟩) := fun W hb => lnone_zero q W ((h.grow hb).cell 0)
theorem NoLin.below {w w' : World} {p : Option Addr} (h : NoLin w p) (hb : Below w.heap.size w w') : NoLin w' p := fun W hW => h W (below_step hb hW)
set_option maxHeartbeats 400000 in
theorem flush_none (p : Option Addr) (w : World) (h : NoLin w p) : Calls Tryz.prog 50 #[.pointer p] w fun e w' => e = .returned (.int .i64 0) ∧ w' = w := by
  have hc := h w (below_self _)
  clear h
  go_enter Tryz.func50, Tryz.ntmps50
  go_wp2_with (go_at_call 85; refine hc.mono ?_; rintro e w1 ⟨rfl, rfl⟩)
  go_ret
  exact ⟨rfl, rfl⟩
set_option maxHeartbeats 400000 in
theorem all_none (p : Option Addr) (w : World) (h : NoLin w p) : Calls Tryz.prog 49 #[.pointer p] w fun e w' => e = .returned (.slice none 0 0) ∧ w' = w := by
  have hc := h w (below_self _)
  clear h
  go_enter Tryz.func49, Tryz.ntmps49
  go_wp2_with (go_at_call 85; refine hc.mono ?_; rintro e w1 ⟨rfl, rfl⟩)
  go_ret
  exact ⟨rfl, rfl⟩

end Go.Proofs.YtnpaijbkhmnfpaaGreat

/- What Granule tells a Take; switchyardlaw12.awake answers true. -/
namespace Go.Proofs.YtnpaijbkhmnfpaaGreat
open Go.RowKit Go.Maps Go.WideMaps

/-- a granule's four bytes -/
def granF (xs : List Int) (k : Nat) : F4 := ⟨xs.getD (4 * k) 0, xs.getD (4 * k + 1) 0, xs.getD (4 * k + 2) 0, xs.getD (4 * k + 3) 0⟩
theorem gran_is {w : World} {B q g : Nat} {xs : List Int} (hm : Mem w B q g xs) {k : Nat} (hk : k < 16384) : GranIs w (some ⟨q, 0, none⟩) k (granF xs k) 0 := fun W hW => gran_any q g B k xs W (hm.below hW) hk
theorem gran_is_bad {w : World} {B q g : Nat} {xs : List Int} (hm : Mem w B q g xs) {k : Int} (hk : k < 0 ∨ 16384 ≤ k) : GranIs w (some ⟨q, 0, none⟩) k zF 2 := fun W hW => gran_bad q g B k xs W (hm.below hW) hk
/-- no memory: nil, or one that no call made -/
def NoMem (w : World) (p : Option Addr) : Prop := ∀ W, Below w.heap.size w W → Calls Tryz.prog 61 #[.pointer p] W fun e w' => e = .returned (.bool true) ∧ w' = W
theorem noMem_nil (w : World) : NoMem w none := fun W _ => none_nil W
theorem noMem_zero {w : World} {q : Nat} (h : Blk w q 53 #[.bool false, .slice none 0 0]) : NoMem w (some ⟨q, 0, none⟩) := fun W hb => none_zero q W ((h.grow hb).cell 0)
set_option maxHeartbeats 400000 in
theorem gran_is_none {w : World} {p : Option Addr} (h : NoMem w p) (k : Int) : GranIs w p k zF 1 := fun W hW => by
  have hn := h _ (below_alloc hW (.cells #[.int .u8 0, .int .u8 0, .int .u8 0, .int .u8 0] 92))
  go_enter Tryz.func129, Tryz.ntmps129
  go_wp2_with (go_at_call 61; refine hn.mono ?_; rintro e w1 ⟨rfl, rfl⟩)
  exact bodyPost_ret (v := .tuple #[.agg #[.int .u8 zF.a, .int .u8 zF.b, .int .u8 zF.c, .int .u8 zF.d], .int .i64 1]) (by simp [results, Tryz.results129, go_sem, zF]) rfl ⟨rfl, new_alloc _ _⟩
theorem Mem.notMap {w : World} {B q g b : Nat} {xs : List Int} (h : Mem w B q g xs) (hb : ∃ es c, w.heap[b]? = some (.map es c)) : q ≠ b ∧ g ≠ b := by
  obtain ⟨es, c, e⟩ := hb
  refine ⟨fun e' => ?_, fun e' => ?_⟩
  · have h1 := h.blk
    rw [e', e] at h1
    cases h1
  · have h1 := h.own.block rfl
    rw [e', e] at h1
    cases h1
/-- a memory stays while lines are written to -/
theorem Mem.lines {w w' : World} {B q g b : Nat} {xs : List Int} (h : Mem w B q g xs) (hb : ∃ es c, w.heap[b]? = some (.map es c)) (hk : Keeps (fun j => j = b) w w') : Mem w' B q g xs :=
  h.keeps hk (h.notMap hb).1 (h.notMap hb).2
/-- lines stay while a memory is written to -/
theorem LinAt.mem {w w' : World} {B B' q g q' b : Nat} {xs : List Int} {L : List Ln} (h : LinAt w B q' b L) (hm : Mem w B' q g xs) (hk : Keeps (fun j => j = g) w w') : LinAt w' B q' b L :=
  h.keeps hk (fun e => by
    have h1 := hm.own.block rfl
    have h2 : w.heap[q']? = _ := h.blk
    rw [show q' = g from e, h1] at h2
    injection h2 with h2
    injection h2 with _ h2
    cases h2) (fun e => (hm.notMap h.isMap).2 (show g = b from (show b = g from e).symm))
/-- a variable stays -/
theorem Blk.lines {w w' : World} {q b : Nat} {T : TypeId} {c : Array Value} (h : Blk w q T c) (hb : ∃ es c, w.heap[b]? = some (.map es c)) (hk : Keeps (fun j => j = b) w w') : Blk w' q T c :=
  (hk.block q h.lt (fun e => by
    obtain ⟨es, c, e1⟩ := hb
    have h2 : w.heap[q]? = _ := h
    rw [show q = b from e, e1] at h2
    cases h2)).trans h
theorem Blk.mem {w w' : World} {B q g x : Nat} {xs : List Int} {T : TypeId} {c : Array Value} (h : Blk w x T c) (hT : T ≠ 5) (hm : Mem w B q g xs) (hk : Keeps (fun j => j = g) w w') : Blk w' x T c :=
  (hk.block x h.lt (fun e => by
    have h1 := hm.own.block rfl
    have h2 : w.heap[x]? = _ := h
    rw [show x = g from e, h1] at h2
    injection h2 with h2
    injection h2 with _ h2
    exact hT h2.symm)).trans h

/-- a literal slice of bytes: a block of its own -/
theorem wp_lit {ops : Array Oper} {rest : List Oper} {o : Oper} {a : Act} {w : World} {Q : Exit → Act → World → Prop} (hg : o.guard = none) (len : Nat) (parts : Array (Nat × Operand)) (ho : o.op = .buildSlice 26 len parts)
    (zs : List Int) (hlen : len = zs.length) (hpos : 0 < len) (hsmall : len ≤ 2 ^ 24) (hparts : parts.toList = (zs.zipIdx 0).map fun x => (x.2, Operand.const (Value.int .u8 x.1)))
    (h : ∀ w1 g, Hid (Own w1 w.heap.size g len zs) → Hid (Below w.heap.size w w1) → wpList Tryz.prog ops Q rest (a.put o.dst (.slice (some ⟨g, 0, none⟩) len len)) w1) : wpList Tryz.prog ops Q (o :: rest) a w := by
  refine wpList_buildFlat hg 26 5 len parts ho .u8 zs Tryz.underlying26 (by kernel_rfl) (by kernel_rfl) hlen hpos hsmall hparts ?_
  exact h _ _ (by subst hlen; exact Own.lit w zs (by unfold maxLen; omega)) (new_alloc _ _)

/-- Below behind a Take -/
theorem below_take {w0 w w' : World} {B b : Nat} (h : Below B w0 w) (hk : Keeps (fun j => j = b) w w') (hb : B ≤ b) (hs : B ≤ w0.heap.size) : Below B w0 w' :=
  h.trans (hk.below (Nat.le_trans hs h.size) (fun j hj => by have e : j = b := hj; omega))

theorem one64 : i64W 1 := by unfold i64W; omega

end Go.Proofs.YtnpaijbkhmnfpaaGreat
