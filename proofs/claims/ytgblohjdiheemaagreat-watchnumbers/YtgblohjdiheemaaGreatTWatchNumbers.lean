/-
  Proved here: the law WatchNumbers (switchyardlaw23) answers true for every input, and each argument reads afterwards as it read before. No condition of ours: the row's own reach alone (each slice and text takes at most 2^47 - 4096 bytes).
-/
import Derived.Test.YtgblohjdiheemaaGreatKas
import Derived.Test.YtgblohjdiheemaaGreatKat
import Derived.Test.YtgblohjdiheemaaGreatKai

/- Ours: the walk of WatchNumbers: the lists, an image with one byte written. -/
namespace Go.Proofs.YtgblohjdiheemaaGreat
open Go.RowKit Go.Maps

/-- a byte of an image of its own is written -/
theorem ImOwn.setByte {w : World} {B g n c : Nat} {m : IM} {vk vs vu : Value} (h : ImOwn w B m (.slice (some ⟨g, 0, none⟩) n c) vk vs vu) (i : Nat) (x : Int) :
    ImOwn (w.setCell ⟨g, i, none⟩ (.int .u8 x)) B { m with bs := m.bs.set i x } (.slice (some ⟨g, 0, none⟩) n c) vk vs vu := by
  have hg := grown_setCell w g i (.int .u8 x)
  have ek := rows_apart h.k h.b (by decide)
  have es := rows_apart h.s h.b (by decide)
  have eu := rows_apart h.u h.b (by decide)
  refine ⟨?_, kept_row h.k hg ek, kept_row h.s hg es, kept_row h.u hg eu⟩
  rcases h.b.shape with ⟨e, -⟩ | ⟨g', cap, e, ho⟩
  · cases e
  · injection e with e1 e2 e3
    injection e1 with e1
    injection e1 with e1
    subst e1 e2 e3
    have := (ho.store i x).val
    rwa [List.length_set] at this
/-- such an image, in memory: like one that is right but for its bytes -/
theorem ImOwn.inLike {w : World} {B : Nat} {m m0 : IM} {vb vk vs vu : Value} (h : ImOwn w B m vb vk vs vu) (hok : okI m0 = true) (hl : m.bs.length = m0.bs.length) (ek : m.ks = m0.ks) (es : m.si = m0.si) (eu : m.un = m0.un) (hbyt : Byt m.bs) :
    ∃ qb qk qs qu db dk ds du, vb = .slice qb m.bs.length db ∧ vk = .slice qk m.ks.length dk ∧ vs = .slice qs m.si.length ds ∧ vu = .slice qu m.un.length du ∧ ImIn w m qb qk qs qu m.bs.length db m.ks.length dk m.si.length ds m.un.length du := by
  have hB := okI_im hok
  have b1 : m.bs.length ≤ 65536 := by rw [hl]; exact hB.bs
  have b2 : m.ks.length ≤ 64 := by rw [ek]; have := hB.ks; simpa [IM.im] using this
  have b3 : m.si.length ≤ 256 := by rw [es]; exact hB.si
  have b4 : m.un.length ≤ 16 := by rw [eu]; exact hB.un
  obtain ⟨qb, db, e1, r1, l1, l2⟩ := h.b.sliceC
  obtain ⟨qk, dk, e2, r2, _⟩ := h.k.slice
  obtain ⟨qs, ds, e3, _, _, r3⟩ := h.s.row3
  obtain ⟨qu, du, e4, r4, _⟩ := h.u.slice
  rw [List.length_map] at e2 e3 e4
  refine ⟨qb, qk, qs, qu, db, dk, ds, du, e1, e2, e3, e4, ⟨rfl, rfl, rfl, rfl, l1, l2, by omega, by omega, by omega, r1, r2, r3, r4, hbyt, fun k hk => ?_, fun u hu => ?_⟩⟩
  · rw [ek] at hk
    obtain ⟨i, hi, rfl⟩ := List.getElem_of_mem hk
    have h1 := keysB_at (okI_parts hok).2.2.1 i hi
    unfold nmB at h1
    simp only [Bool.and_eq_true, decide_eq_true_eq] at h1
    have := h1.1.2
    unfold maxLen; omega
  · rw [eu] at hu
    have := hB.unit u hu
    unfold sNum at this
    unfold i64P; omega
def backL : List Fv := sixL ++ [⟨2, 0, 1, 8, 3, 0, 0⟩]
def downL : List Fv := sixL ++ [⟨8, 0, 0, 0, 0, 0, 0⟩]
def callsL : List Fv := [⟨8, 0, 0, 0, 0, 0, 0⟩, ⟨8, 0, 0, 0, 0, 0, 1⟩, ⟨2, 0, 0, 8, 11, 0, 0⟩]
def sevL : List Fv := [⟨10, 0, 0, 0, 0, 0, 4⟩, ⟨8, 0, 0, 0, 0, 0, 0⟩, ⟨10, 0, 0, 0, 0, 0, 1⟩, ⟨11, 0, 0, 0, 0, 0, 0⟩, ⟨10, 0, 0, 0, 0, 0, 4⟩, ⟨9, 0, 0, 0, 0, 0, 0⟩, ⟨8, 0, 0, 0, 0, 0, 0⟩]
def im0 : IM := imM [0]
def oddM : IM := { imM [0] with bs := (imM [0]).bs.set 8 0 }
theorem fv_ok (x : Fv) (h : i64P x.h) (p : i64P x.p) (k : i64P x.ky) (n : i64P x.n) : FvOk x := ⟨h, p, k, n⟩
theorem back_ok : ∀ x ∈ backL, FvOk x := by
  intro x hx
  rcases List.mem_append.1 hx with hx | hx
  · exact six_ok x hx
  · simp only [List.mem_cons, List.not_mem_nil, or_false] at hx
    subst hx; exact ⟨by unfold i64P; decide, by unfold i64P; decide, by unfold i64P; decide, by unfold i64P; decide⟩
theorem down_ok : ∀ x ∈ downL, FvOk x := by
  intro x hx
  rcases List.mem_append.1 hx with hx | hx
  · exact six_ok x hx
  · simp only [List.mem_cons, List.not_mem_nil, or_false] at hx
    subst hx; exact ⟨by unfold i64P; decide, by unfold i64P; decide, by unfold i64P; decide, by unfold i64P; decide⟩
theorem calls_ok : ∀ x ∈ callsL, FvOk x := by
  intro x hx
  unfold callsL at hx
  simp only [List.mem_cons, List.not_mem_nil, or_false] at hx
  rcases hx with rfl | rfl | rfl <;> exact ⟨by unfold i64P; decide, by unfold i64P; decide, by unfold i64P; decide, by unfold i64P; decide⟩
theorem ex_back : viewsA (imM [0]) backL = [⟨0, 0, 1, 0, false⟩, ⟨1, 0, 2, 2, true⟩] := by kernel_rfl
theorem ex_down : viewsA (imM [0]) downL = [⟨0, 0, 0, 1, false⟩, ⟨1, 0, 1, 2, true⟩] := by kernel_rfl
theorem ex_calls : viewsA (imM [0]) callsL = [⟨0, 0, 0, 1, false⟩] := by kernel_rfl
theorem ex_odd : viewsA oddM sixL = [] := by kernel_rfl
theorem ex_none : viewsA (imM [0]) [] = [] := by kernel_rfl
theorem ex_b1 : btwL 1 8 (partL sixL 2 3) = (0, 1) := by kernel_rfl
theorem ex_b2 : btwL 1 8 (partL sixL (-9223372036854775808) 9223372036854775807) = (1, 2) := by kernel_rfl
theorem ex_b3 : btwL 1 8 (partL sixL 3 1) = (0, 0) := by kernel_rfl
theorem ex_o0 : outsL sixL 0 = [] := by kernel_rfl
theorem ex_sw : switchL sevL = [⟨1, 2, 1⟩, ⟨0, 0, 0⟩] := by kernel_rfl
theorem ex_s1 : switchL [⟨10, 0, 0, 0, 0, 0, 4⟩] = [] := by kernel_rfl
theorem ex_lb : (imM [0]).bs.length = 20 := by kernel_rfl
theorem ex_sz : (imM [0]).ks.length * 16 ≤ 140737488355328 ∧ (imM [0]).si.length ≤ 5864062014634 ∧ (imM [0]).un.length * 8 ≤ 140737488355328 := by
  have hB := okI_im (imM_ok [0] (by decide))
  have b2 : (imM [0]).ks.length ≤ 64 := by have := hB.ks; simpa [IM.im] using this
  have b3 : (imM [0]).si.length ≤ 256 := hB.si
  have b4 : (imM [0]).un.length ≤ 16 := hB.un
  exact ⟨by omega, by omega, by omega⟩
theorem odd_byt : Byt oddM.bs := by
  refine mem_byt fun x hx => ?_
  rcases List.mem_or_eq_of_mem_set hx with hx | rfl
  · exact (imM_byt [0]).mem x hx
  · decide
/-- what stands through the walk: the image's variable, the image, all that was there before -/
structure NS (w0 W : World) (M : Nat) (A4 : Array Value) (qb qk qs qu : Option Addr) (db dk ds du : Nat) : Prop where
  a : Blk W M 27 A4
  i : ImIn W (imM [0]) qb qk qs qu (imM [0]).bs.length db (imM [0]).ks.length dk (imM [0]).si.length ds (imM [0]).un.length du
  b : Below w0.heap.size w0 W
theorem NS.grow {w0 W W' : World} {M : Nat} {A4 : Array Value} {qb qk qs qu : Option Addr} {db dk ds du : Nat} (h : NS w0 W M A4 qb qk qs qu db dk ds du) (hb : Below W.heap.size W W') : NS w0 W' M A4 qb qk qs qu db dk ds du :=
  ⟨h.a.grow hb, h.i.below hb, below_step h.b hb⟩
theorem KRow.take1 {α : Type} {F : Fm α} {w : World} {p : Option Addr} {x : α} {L : List α} (h : KRow F w p (x :: L)) : KRow F w p [x] := fun _ => by
  obtain ⟨b, o, e, hc⟩ := h (by simp)
  refine ⟨b, o, e, fun i hi j hj => ?_⟩
  have hi : i < 1 := hi
  obtain rfl : i = 0 := by omega
  exact hc 0 (by simp) j hj

set_option maxRecDepth 20000 in
set_option maxHeartbeats 16000000 in
theorem numbers_walk (w : World) : Calls Tryz.prog 3 #[] w fun e w' => e = .returned (.bool true) ∧ Below w.heap.size w w' := by
  have hz : GRow (w.alloc (.cells #[.int .i64 0] 3)) (some ⟨w.heap.size, 0, none⟩) (numZ [0]) := fun _ => ⟨w.heap.size, 0, rfl, fun i hi => by
    have hi : i < 1 := hi
    obtain rfl : i = 0 := by omega
    exact (Blk.new w 3 #[.int .i64 0]).cell 0⟩
  have hI := image_any (some ⟨w.heap.size, 0, none⟩) 1 1 [0] (w.alloc (.cells #[.int .i64 0] 3)) rfl (by decide) (Nat.le_refl _) hz
  have HB0 := Hid.in (new_alloc w (.cells #[.int .i64 0] 3))
  have HSX : Hid (∀ W : World, Calls Tryz.prog 7 #[] W _) := fun W => six_any W
  clear hz
  go_enter Tryz.func3, Tryz.ntmps3
  go_wp2_with (go_at_call 6; refine Hid.out ?_)
  generalize w.alloc (.cells #[.int .i64 0] 3) = w0 at *
  refine Lib.hid ?_
  (with_reducible refine hI.mono ?_)
  rintro e w1 ⟨vB, vK, vS, vU, rfl, ho, hb⟩
  have HB1 := Hid.in (below_step HB0.out hb)
  obtain ⟨qb, qk, qs, qu, db, dk, ds, du, rfl, rfl, rfl, rfl, hin, -⟩ := ho.inOk (imM_ok [0] (by decide)) (imM_byt [0])
  have HI1 := Hid.in hin
  clear hI ho hb hin HB0
  go_upto_region 2 with fail
  have HS2 : Hid (NS w (w1.alloc (.cells #[.slice qb (imM [0]).bs.length db, .slice qk (imM [0]).ks.length dk, .slice qs (imM [0]).si.length ds, .slice qu (imM [0]).un.length du] 27)) w1.heap.size #[.slice qb (imM [0]).bs.length db, .slice qk (imM [0]).ks.length dk, .slice qs (imM [0]).si.length ds, .slice qu (imM [0]).un.length du] qb qk qs qu db dk ds du) :=
    ⟨Blk.new w1 27 _, HI1.out.below (new_alloc w1 _), below_alloc HB1.out _⟩
  generalize w1.alloc (.cells #[.slice qb (imM [0]).bs.length db, .slice qk (imM [0]).ks.length dk, .slice qs (imM [0]).si.length ds, .slice qu (imM [0]).un.length du] 27) = w2 at *
  generalize w1.heap.size = M at *
  clear HI1 HB1
  -- the longer lists
  have hs := HSX.out w2
  go_wp2_with (go_at_call 7; refine Hid.out ?_)
  refine Lib.hid ?_
  (with_reducible refine hs.mono ?_)
  rintro e w3 ⟨p3, rfl, ho3, -, hb⟩
  have HO3 := Hid.in ho3
  have HB3 := Hid.in hb
  clear hs hb ho3
  go_wp2_with (at_builtin; refine Hid.out ?_)
  refine Lib.hid ?_
  refine kpush elemE _ rfl _ _ rfl w2.heap.size _ sixL rfl (HO3.out.alloc _) ⟨w3.heap.size, 0, none⟩ 1 ⟨2, 0, 1, 8, 3, 0, 0⟩ rfl (fE.news w3 ⟨2, 0, 1, 8, 3, 0, 0⟩ 34 _ rfl) (by decide) (by decide) (Nat.le_trans HB3.out.size (new_alloc _ _).size) ?_
  intro v4 w4 ho4 hg4 hb4
  have HS4 := Hid.in (HS2.out.grow (hb4 w2 (below_alloc HB3.out _)))
  obtain ⟨p4, c4, rfl, -, -, hr4⟩ := KOwn.row (L := backL) ho4
  have HR4 := Hid.in hr4
  clear hg4 hb4 ho4 hr4 HO3 HB3 HS2
  go_upto_region 3 with fail
  have hs := HSX.out w4
  go_wp2_with (go_at_call 7; refine Hid.out ?_)
  refine Lib.hid ?_
  (with_reducible refine hs.mono ?_)
  rintro e w5 ⟨p5, rfl, ho5, -, hb⟩
  have HO5 := Hid.in ho5
  have HB5 := Hid.in hb
  clear hs hb ho5
  go_wp2_with (at_builtin; refine Hid.out ?_)
  refine Lib.hid ?_
  refine kpush elemE _ rfl _ _ rfl w4.heap.size _ sixL rfl (HO5.out.alloc _) ⟨w5.heap.size, 0, none⟩ 1 ⟨8, 0, 0, 0, 0, 0, 0⟩ rfl (fE.news w5 ⟨8, 0, 0, 0, 0, 0, 0⟩ 34 _ rfl) (by decide) (by decide) (Nat.le_trans HB5.out.size (new_alloc _ _).size) ?_
  intro v6 w6 ho6 hg6 hb6
  have HS6 := Hid.in (HS4.out.grow (hb6 w4 (below_alloc HB5.out _)))
  have HR46 := Hid.in (HR4.out.below (hb6 w4 (below_alloc HB5.out _)))
  obtain ⟨p6, c6, rfl, -, -, hr6⟩ := KOwn.row (L := downL) ho6
  have HR6 := Hid.in hr6
  clear hg6 hb6 ho6 hr6 HO5 HB5 HS4 HR4
  have el4 : backL.length = 7 := rfl
  have el6 : downL.length = 7 := rfl
  rw [el4, el6]
  -- the views of both
  have HVW := Hid.in (fun (W : World) (p : Option Addr) (n c : Nat) (L : List Fv) (hi : ImIn W (imM [0]) qb qk qs qu (imM [0]).bs.length db (imM [0]).ks.length dk (imM [0]).si.length ds (imM [0]).un.length du) (hn : L.length = n) (h6 : n ≤ 1000000) (hr : KRow fE W p L) (hok : ∀ x ∈ L, FvOk x) => views_any (imM [0]) qb qk qs qu (imM [0]).bs.length db (imM [0]).ks.length dk (imM [0]).si.length ds (imM [0]).un.length du p n c L W hi hn h6 hr hok)
  have HSV := Hid.in (fun (W : World) (p q : Option Addr) n c d L hn h6 h1 h2 => sameViews_self p q n c d L W hn h6 h1 h2)
  go_upto_region 4 with fail
  have a0 : w6.cell? ⟨M, 0, none⟩ = some (.slice qb (imM [0]).bs.length db) := HS6.out.a.cell 0
  have a1 : w6.cell? ⟨M, 1, none⟩ = some (.slice qk (imM [0]).ks.length dk) := HS6.out.a.cell 1
  have a2 : w6.cell? ⟨M, 2, none⟩ = some (.slice qs (imM [0]).si.length ds) := HS6.out.a.cell 2
  have a3 : w6.cell? ⟨M, 3, none⟩ = some (.slice qu (imM [0]).un.length du) := HS6.out.a.cell 3
  have hv := HVW.out w6 p4 7 c4 backL HS6.out.i rfl (by decide) HR46.out back_ok
  rw [ex_back] at hv
  go_wp2_with (go_at_call 9; refine Hid.out ?_)
  refine Lib.hid ?_
  (with_reducible refine hv.mono ?_)
  rintro e w7 ⟨v7, rfl, ho7, hb⟩
  obtain ⟨p7, c7, rfl, -, -, hr7⟩ := ho7.row
  have HS7 := Hid.in (HS6.out.grow hb)
  have HR67 := Hid.in (HR6.out.below hb)
  clear hv hb ho7 HS6 HR46 HR6 a0 a1 a2 a3
  have hl7 : KRow fW (w7.alloc (.cells #[.int .i64 0, .int .i64 0, .int .i64 1, .int .i64 0, .bool false, .int .i64 1, .int .i64 0, .int .i64 2, .int .i64 2, .bool true] 39)) (some ⟨w7.heap.size, 0, none⟩) [⟨0, 0, 1, 0, false⟩, ⟨1, 0, 2, 2, true⟩] := KRow.lit w7 _ _ rfl (by decide)
  have hsv := HSV.out _ _ _ 2 c7 2 _ rfl (by decide) (hr7.below (new_alloc w7 _)) hl7
  have HS8 := Hid.in (HS7.out.grow (new_alloc w7 (.cells #[.int .i64 0, .int .i64 0, .int .i64 1, .int .i64 0, .bool false, .int .i64 1, .int .i64 0, .int .i64 2, .int .i64 2, .bool true] 39)))
  have HR68 := Hid.in (HR67.out.below (new_alloc w7 (.cells #[.int .i64 0, .int .i64 0, .int .i64 1, .int .i64 0, .bool false, .int .i64 1, .int .i64 0, .int .i64 2, .int .i64 2, .bool true] 39)))
  clear hr7 hl7
  go_wp2_with (go_at_call 8; refine Hid.out ?_)
  refine Lib.hid ?_
  (with_reducible refine hsv.mono ?_)
  rintro e w9 ⟨rfl, m9, rfl⟩
  have HS9 := Hid.in (HS8.out.grow (below_draws (below_self _) m9))
  have HR69 := Hid.in (HR68.out.below (below_draws (below_self _) m9))
  generalize World.drewN (w7.alloc (.cells #[.int .i64 0, .int .i64 0, .int .i64 1, .int .i64 0, .bool false, .int .i64 1, .int .i64 0, .int .i64 2, .int .i64 2, .bool true] 39)) m9 = w9 at *
  clear hsv HS7 HS8 HR67 HR68
  have a0 : w9.cell? ⟨M, 0, none⟩ = some (.slice qb (imM [0]).bs.length db) := HS9.out.a.cell 0
  have a1 : w9.cell? ⟨M, 1, none⟩ = some (.slice qk (imM [0]).ks.length dk) := HS9.out.a.cell 1
  have a2 : w9.cell? ⟨M, 2, none⟩ = some (.slice qs (imM [0]).si.length ds) := HS9.out.a.cell 2
  have a3 : w9.cell? ⟨M, 3, none⟩ = some (.slice qu (imM [0]).un.length du) := HS9.out.a.cell 3
  have hv := HVW.out w9 p6 7 c6 downL HS9.out.i rfl (by decide) HR69.out down_ok
  rw [ex_down] at hv
  go_wp2_with (go_at_call 9; refine Hid.out ?_)
  refine Lib.hid ?_
  (with_reducible refine hv.mono ?_)
  rintro e w10 ⟨v10, rfl, ho10, hb⟩
  obtain ⟨p10, c10, rfl, -, -, hr10⟩ := ho10.row
  have HS10 := Hid.in (HS9.out.grow hb)
  clear hv hb ho10 HS9 HR69 a0 a1 a2 a3
  have hl10 : KRow fW (w10.alloc (.cells #[.int .i64 0, .int .i64 0, .int .i64 0, .int .i64 1, .bool false, .int .i64 1, .int .i64 0, .int .i64 1, .int .i64 2, .bool true] 39)) (some ⟨w10.heap.size, 0, none⟩) [⟨0, 0, 0, 1, false⟩, ⟨1, 0, 1, 2, true⟩] := KRow.lit w10 _ _ rfl (by decide)
  have hsv := HSV.out _ _ _ 2 c10 2 _ rfl (by decide) (hr10.below (new_alloc w10 _)) hl10
  have HS11 := Hid.in (HS10.out.grow (new_alloc w10 (.cells #[.int .i64 0, .int .i64 0, .int .i64 0, .int .i64 1, .bool false, .int .i64 1, .int .i64 0, .int .i64 1, .int .i64 2, .bool true] 39)))
  clear hr10 hl10
  go_wp2_with (go_at_call 8; refine Hid.out ?_)
  refine Lib.hid ?_
  (with_reducible refine hsv.mono ?_)
  rintro e w12 ⟨rfl, m12, rfl⟩
  have HS12 := Hid.in (HS11.out.grow (below_draws (below_self _) m12))
  generalize World.drewN (w10.alloc (.cells #[.int .i64 0, .int .i64 0, .int .i64 0, .int .i64 1, .bool false, .int .i64 1, .int .i64 0, .int .i64 1, .int .i64 2, .bool true] 39)) m12 = w12 at *
  clear hsv HS10 HS11
  -- calls the other way
  go_upto_region 6 with fail
  have HR13 : Hid (KRow fE (w12.alloc (.cells #[.int .u8 8, .int .i64 0, .int .i64 0, .int .i64 0, .int .u8 0, .int .i64 0, .int .i64 0, .int .u8 8, .int .i64 0, .int .i64 0, .int .i64 0, .int .u8 0, .int .i64 0, .int .i64 1, .int .u8 2, .int .i64 0, .int .i64 0, .int .i64 8, .int .u8 11, .int .i64 0, .int .i64 0] 34)) (some ⟨w12.heap.size, 0, none⟩) callsL) := KRow.lit w12 callsL _ rfl (by decide)
  have HS13 := Hid.in (HS12.out.grow (new_alloc w12 (.cells #[.int .u8 8, .int .i64 0, .int .i64 0, .int .i64 0, .int .u8 0, .int .i64 0, .int .i64 0, .int .u8 8, .int .i64 0, .int .i64 0, .int .i64 0, .int .u8 0, .int .i64 0, .int .i64 1, .int .u8 2, .int .i64 0, .int .i64 0, .int .i64 8, .int .u8 11, .int .i64 0, .int .i64 0] 34)))
  generalize w12.alloc (.cells #[.int .u8 8, .int .i64 0, .int .i64 0, .int .i64 0, .int .u8 0, .int .i64 0, .int .i64 0, .int .u8 8, .int .i64 0, .int .i64 0, .int .i64 0, .int .u8 0, .int .i64 0, .int .i64 1, .int .u8 2, .int .i64 0, .int .i64 0, .int .i64 8, .int .u8 11, .int .i64 0, .int .i64 0] 34) = w13 at *
  generalize w12.heap.size = g12 at *
  clear HS12
  have a0 : w13.cell? ⟨M, 0, none⟩ = some (.slice qb (imM [0]).bs.length db) := HS13.out.a.cell 0
  have a1 : w13.cell? ⟨M, 1, none⟩ = some (.slice qk (imM [0]).ks.length dk) := HS13.out.a.cell 1
  have a2 : w13.cell? ⟨M, 2, none⟩ = some (.slice qs (imM [0]).si.length ds) := HS13.out.a.cell 2
  have a3 : w13.cell? ⟨M, 3, none⟩ = some (.slice qu (imM [0]).un.length du) := HS13.out.a.cell 3
  have hv := HVW.out w13 (some ⟨g12, 0, none⟩) 3 3 callsL HS13.out.i rfl (by decide) HR13.out calls_ok
  rw [ex_calls] at hv
  go_wp2_with (go_at_call 9; refine Hid.out ?_)
  refine Lib.hid ?_
  (with_reducible refine hv.mono ?_)
  rintro e w14 ⟨v14, rfl, ho14, hb⟩
  obtain ⟨p14, c14, rfl, -, -, hr14⟩ := ho14.row
  have HS14 := Hid.in (HS13.out.grow hb)
  clear hv hb ho14 HS13 HR13 a0 a1 a2 a3
  have hl14 : KRow fW (w14.alloc (.cells #[.int .i64 0, .int .i64 0, .int .i64 0, .int .i64 1, .bool false] 39)) (some ⟨w14.heap.size, 0, none⟩) [⟨0, 0, 0, 1, false⟩] := KRow.lit w14 _ _ rfl (by decide)
  have hsv := HSV.out _ _ _ 1 c14 1 _ rfl (by decide) (hr14.below (new_alloc w14 _)) hl14
  have HS15 := Hid.in (HS14.out.grow (new_alloc w14 (.cells #[.int .i64 0, .int .i64 0, .int .i64 0, .int .i64 1, .bool false] 39)))
  clear hr14 hl14
  go_wp2_with (go_at_call 8; refine Hid.out ?_)
  refine Lib.hid ?_
  (with_reducible refine hsv.mono ?_)
  rintro e w16 ⟨rfl, m16, rfl⟩
  have HS16 := Hid.in (HS15.out.grow (below_draws (below_self _) m16))
  generalize World.drewN (w14.alloc (.cells #[.int .i64 0, .int .i64 0, .int .i64 0, .int .i64 1, .bool false] 39)) m16 = w16 at *
  clear hsv HS14 HS15
  go_upto_region 8 with fail
  -- an image that is not right
  have a0 : w16.cell? ⟨M, 0, none⟩ = some (.slice qb (imM [0]).bs.length db) := HS16.out.a.cell 0
  have a1 : w16.cell? ⟨M, 1, none⟩ = some (.slice qk (imM [0]).ks.length dk) := HS16.out.a.cell 1
  have a2 : w16.cell? ⟨M, 2, none⟩ = some (.slice qs (imM [0]).si.length ds) := HS16.out.a.cell 2
  have a3 : w16.cell? ⟨M, 3, none⟩ = some (.slice qu (imM [0]).un.length du) := HS16.out.a.cell 3
  have hc := copyImage_any (imM [0]) qb qk qs qu (imM [0]).bs.length db (imM [0]).ks.length dk (imM [0]).si.length ds (imM [0]).un.length du w16 HS16.out.i (by rw [ex_lb]; decide) ex_sz.1 ex_sz.2.1 ex_sz.2.2
  go_wp2_with (go_at_call 10; refine Hid.out ?_)
  refine Lib.hid ?_
  (with_reducible refine hc.mono ?_)
  rintro e w17 ⟨vb, vk, vs, vu, rfl, ho17, hb17⟩
  obtain ⟨g, cb, rfl, hog⟩ : ∃ g cap, vb = .slice (some ⟨g, 0, none⟩) (imM [0]).bs.length cap ∧ Own w17 w16.heap.size g cap (imM [0]).bs := by
    rcases ho17.b.shape with ⟨-, e⟩ | h
    · have := ex_lb; rw [e] at this; cases this
    · exact h
  obtain ⟨-, rk, rs, ru, -, ekk, ess, euu, -, rfl, rfl, rfl, -, -⟩ := ho17.inOk (imM_ok [0] (by decide)) (imM_byt [0])
  have HO17 := Hid.in ho17
  have HG17 := Hid.in hog
  have HB17 := Hid.in hb17
  have HS17 := Hid.in (HS16.out.grow hb17)
  clear hc ho17 hb17 hog a0 a1 a2 a3
  go_upto_region 9 with fail
  have HM18 := Hid.in (Blk.new w17 27 #[.slice (some ⟨g, 0, none⟩) (imM [0]).bs.length cb, .slice rk (imM [0]).ks.length ekk, .slice rs (imM [0]).si.length ess, .slice ru (imM [0]).un.length euu])
  have HO18 := Hid.in (HO17.out.below (new_alloc w17 (.cells #[.slice (some ⟨g, 0, none⟩) (imM [0]).bs.length cb, .slice rk (imM [0]).ks.length ekk, .slice rs (imM [0]).si.length ess, .slice ru (imM [0]).un.length euu] 27)))
  have HG18 := Hid.in (HG17.out.below (new_alloc w17 (.cells #[.slice (some ⟨g, 0, none⟩) (imM [0]).bs.length cb, .slice rk (imM [0]).ks.length ekk, .slice rs (imM [0]).si.length ess, .slice ru (imM [0]).un.length euu] 27)))
  have HB18 := Hid.in (below_alloc HB17.out (.cells #[.slice (some ⟨g, 0, none⟩) (imM [0]).bs.length cb, .slice rk (imM [0]).ks.length ekk, .slice rs (imM [0]).si.length ess, .slice ru (imM [0]).un.length euu] 27))
  have hgl := HG17.out.lt
  generalize w17.alloc (.cells #[.slice (some ⟨g, 0, none⟩) (imM [0]).bs.length cb, .slice rk (imM [0]).ks.length ekk, .slice rs (imM [0]).si.length ess, .slice ru (imM [0]).un.length euu] 27) = w18 at *
  generalize w17.heap.size = M2 at *
  have hgne : g ≠ M2 := by omega
  have hgB := HG18.out.base
  rw [ex_lb] at *
  have a0 : w18.cell? ⟨M2, 0, none⟩ = some (.slice (some ⟨g, 0, none⟩) 20 cb) := HM18.out.cell 0
  have c8 : w18.cell? ⟨g, 8, none⟩ = some (.int .u8 ((imM [0]).bs.getD 8 0)) := HG18.out.cell 8 (by rw [ex_lb]; decide)
  have f8 := HG18.out.free 8
  go_upto_region 10 with fail
  have HM19 : Hid (Blk (w18.setCell ⟨g, 8, none⟩ (.int .u8 0)) M2 27 #[.slice (some ⟨g, 0, none⟩) 20 cb, .slice rk (imM [0]).ks.length ekk, .slice rs (imM [0]).si.length ess, .slice ru (imM [0]).un.length euu]) := HM18.out.other (fun e => hgne e.symm) 8 _
  have HO19 : Hid (ImOwn (w18.setCell ⟨g, 8, none⟩ (.int .u8 0)) w16.heap.size oddM (.slice (some ⟨g, 0, none⟩) 20 cb) (.slice rk (imM [0]).ks.length ekk) (.slice rs (imM [0]).si.length ess) (.slice ru (imM [0]).un.length euu)) := HO18.out.setByte 8 0
  have HB19 : Hid (Below w16.heap.size w16 (w18.setCell ⟨g, 8, none⟩ (.int .u8 0))) := HB18.out.setCell hgB _
  have HS19 : Hid (NS w (w18.setCell ⟨g, 8, none⟩ (.int .u8 0)) M #[.slice qb 20 db, .slice qk (imM [0]).ks.length dk, .slice qs (imM [0]).si.length ds, .slice qu (imM [0]).un.length du] qb qk qs qu db dk ds du) := HS16.out.grow HB19.out
  generalize w18.setCell ⟨g, 8, none⟩ (.int .u8 0) = w19 at *
  clear a0 c8 f8 HM18 HO18 HB18 HG18 HB17 HG17 HO17 HS17 HS16 HB19 hgB hgl hgne
  obtain ⟨rb2, rk2, rs2, ru2, eb2, ek2, es2, eu2, e1, e2, e3, e4, hod⟩ := HO19.out.inLike (imM_ok [0] (by decide)) (by unfold oddM; simp) rfl rfl rfl odd_byt
  have hlo : oddM.bs.length = 20 := by unfold oddM; simp [ex_lb]
  rw [hlo] at e1 hod
  injection e1 with e1 _ e5
  injection e2 with e2 n2 e6
  injection e3 with e3 n3 e7
  injection e4 with e4 n4 e8
  clear n2 n3 n4
  subst e1 e5 e2 e6 e3 e7 e4 e8
  have HI19 := Hid.in hod
  clear hod HO19
  -- parts at both ends
  have hs := HSX.out w19
  go_wp2_with (go_at_call 7; refine Hid.out ?_)
  refine Lib.hid ?_
  (with_reducible refine hs.mono ?_)
  rintro e w20 ⟨p20, rfl, -, hr, hb⟩
  have hbt := between_any p20 6 6 sixL 1 8 2 3 w20 rfl (by decide) hr
  rw [ex_b1] at hbt
  have HS20 := Hid.in (HS19.out.grow hb)
  have HM20 := Hid.in (HM19.out.grow hb)
  have HI20 := Hid.in (HI19.out.below hb)
  clear hs hb hr HS19 HM19 HI19
  go_wp2_with (go_at_call 11; refine Hid.out ?_)
  refine Lib.hid ?_
  (with_reducible refine hbt.mono ?_)
  rintro e w21 ⟨rfl, hb⟩
  have HS21 := Hid.in (HS20.out.grow hb)
  have HM21 := Hid.in (HM20.out.grow hb)
  have HI21 := Hid.in (HI20.out.below hb)
  clear hbt hb HS20 HM20 HI20
  go_upto_region 11 with fail
  have hs := HSX.out w21
  go_wp2_with (go_at_call 7; refine Hid.out ?_)
  refine Lib.hid ?_
  (with_reducible refine hs.mono ?_)
  rintro e w22 ⟨p22, rfl, -, hr, hb⟩
  have hbt := between_any p22 6 6 sixL 1 8 (-9223372036854775808) 9223372036854775807 w22 rfl (by decide) hr
  rw [ex_b2] at hbt
  have HS22 := Hid.in (HS21.out.grow hb)
  have HM22 := Hid.in (HM21.out.grow hb)
  have HI22 := Hid.in (HI21.out.below hb)
  clear hs hb hr HS21 HM21 HI21
  go_wp2_with (go_at_call 11; refine Hid.out ?_)
  refine Lib.hid ?_
  (with_reducible refine hbt.mono ?_)
  rintro e w23 ⟨rfl, hb⟩
  have HS23 := Hid.in (HS22.out.grow hb)
  have HM23 := Hid.in (HM22.out.grow hb)
  have HI23 := Hid.in (HI22.out.below hb)
  clear hbt hb HS22 HM22 HI22
  go_upto_region 12 with fail
  have hs := HSX.out w23
  go_wp2_with (go_at_call 7; refine Hid.out ?_)
  refine Lib.hid ?_
  (with_reducible refine hs.mono ?_)
  rintro e w24 ⟨p24, rfl, -, hr, hb⟩
  have hbt := between_any p24 6 6 sixL 1 8 3 1 w24 rfl (by decide) hr
  rw [ex_b3] at hbt
  have HS24 := Hid.in (HS23.out.grow hb)
  have HM24 := Hid.in (HM23.out.grow hb)
  have HI24 := Hid.in (HI23.out.below hb)
  clear hs hb hr HS23 HM23 HI23
  go_wp2_with (go_at_call 11; refine Hid.out ?_)
  refine Lib.hid ?_
  (with_reducible refine hbt.mono ?_)
  rintro e w25 ⟨rfl, hb⟩
  have HS25 := Hid.in (HS24.out.grow hb)
  have HM25 := Hid.in (HM24.out.grow hb)
  have HI25 := Hid.in (HI24.out.below hb)
  clear hbt hb HS24 HM24 HI24
  go_upto_region 13 with fail
  have a0 : w25.cell? ⟨M, 0, none⟩ = some (.slice qb 20 db) := HS25.out.a.cell 0
  have a1 : w25.cell? ⟨M, 1, none⟩ = some (.slice qk (imM [0]).ks.length dk) := HS25.out.a.cell 1
  have a2 : w25.cell? ⟨M, 2, none⟩ = some (.slice qs (imM [0]).si.length ds) := HS25.out.a.cell 2
  have a3 : w25.cell? ⟨M, 3, none⟩ = some (.slice qu (imM [0]).un.length du) := HS25.out.a.cell 3
  have b0 : w25.cell? ⟨M2, 0, none⟩ = some (.slice (some ⟨g, 0, none⟩) 20 cb) := HM25.out.cell 0
  have b1 : w25.cell? ⟨M2, 1, none⟩ = some (.slice rk (imM [0]).ks.length ekk) := HM25.out.cell 1
  have b2 : w25.cell? ⟨M2, 2, none⟩ = some (.slice rs (imM [0]).si.length ess) := HM25.out.cell 2
  have b3 : w25.cell? ⟨M2, 3, none⟩ = some (.slice ru (imM [0]).un.length euu) := HM25.out.cell 3
  have HVO : Hid (∀ (W : World) (p : Option Addr), Below w25.heap.size w25 W → KRow fE W p sixL → Calls Tryz.prog 9 #[.agg #[.slice (some ⟨g, 0, none⟩) 20 cb, .slice rk (imM [0]).ks.length ekk, .slice rs (imM [0]).si.length ess, .slice ru (imM [0]).un.length euu], .slice p 6 6] W fun e w' => ∃ v, e = .returned v ∧ KOwn fW 39 w' W.heap.size v [] ∧ Below W.heap.size W w') := fun W p hB hr => by
    have h := views_any oddM (some ⟨g, 0, none⟩) rk rs ru 20 cb oddM.ks.length ekk oddM.si.length ess oddM.un.length euu p 6 6 sixL W (HI25.out.below hB) rfl (by decide) hr six_ok
    rwa [ex_odd] at h
  have HVN : Hid (∀ (W : World), Below w25.heap.size w25 W → Calls Tryz.prog 9 #[.agg #[.slice qb 20 db, .slice qk (imM [0]).ks.length dk, .slice qs (imM [0]).si.length ds, .slice qu (imM [0]).un.length du], .slice none 0 0] W fun e w' => ∃ v, e = .returned v ∧ KOwn fW 39 w' W.heap.size v [] ∧ Below W.heap.size W w') := fun W hB => by
    have h := HVW.out W none 0 0 [] (by have h2 := HS25.out.i.below hB; rwa [ex_lb] at h2) rfl (by decide) (KRow.nil W none) (fun x hx => by cases hx)
    rwa [ex_none] at h
  have HOU := Hid.in (fun (W : World) (p : Option Addr) (hr : KRow fE W p sixL) => outs_any p 6 6 sixL 0 W rfl (by decide) hr)
  rw [ex_o0] at HOU
  have HSK : Hid (∀ W W' : World, (W.cell? ⟨M, 0, none⟩ = some (.slice qb 20 db) ∧ W.cell? ⟨M, 1, none⟩ = some (.slice qk (imM [0]).ks.length dk) ∧ W.cell? ⟨M, 2, none⟩ = some (.slice qs (imM [0]).si.length ds) ∧ W.cell? ⟨M, 3, none⟩ = some (.slice qu (imM [0]).un.length du) ∧ W.cell? ⟨M2, 0, none⟩ = some (.slice (some ⟨g, 0, none⟩) 20 cb) ∧ W.cell? ⟨M2, 1, none⟩ = some (.slice rk (imM [0]).ks.length ekk) ∧ W.cell? ⟨M2, 2, none⟩ = some (.slice rs (imM [0]).si.length ess) ∧ W.cell? ⟨M2, 3, none⟩ = some (.slice ru (imM [0]).un.length euu) ∧ Below w25.heap.size w25 W) → Below W.heap.size W W' → (W'.cell? ⟨M, 0, none⟩ = some (.slice qb 20 db) ∧ W'.cell? ⟨M, 1, none⟩ = some (.slice qk (imM [0]).ks.length dk) ∧ W'.cell? ⟨M, 2, none⟩ = some (.slice qs (imM [0]).si.length ds) ∧ W'.cell? ⟨M, 3, none⟩ = some (.slice qu (imM [0]).un.length du) ∧ W'.cell? ⟨M2, 0, none⟩ = some (.slice (some ⟨g, 0, none⟩) 20 cb) ∧ W'.cell? ⟨M2, 1, none⟩ = some (.slice rk (imM [0]).ks.length ekk) ∧ W'.cell? ⟨M2, 2, none⟩ = some (.slice rs (imM [0]).si.length ess) ∧ W'.cell? ⟨M2, 3, none⟩ = some (.slice ru (imM [0]).un.length euu) ∧ Below w25.heap.size w25 W')) := by
    intro W W' ⟨h0, h1, h2, h3, k0, k1, k2, k3, hB⟩ hb
    exact ⟨(hb.cell (cell_lt h0)).trans h0, (hb.cell (cell_lt h1)).trans h1, (hb.cell (cell_lt h2)).trans h2, (hb.cell (cell_lt h3)).trans h3, (hb.cell (cell_lt k0)).trans k0, (hb.cell (cell_lt k1)).trans k1, (hb.cell (cell_lt k2)).trans k2, (hb.cell (cell_lt k3)).trans k3, below_step hB hb⟩
  have hI0 : Below w25.heap.size w25 w25.drew := below_draws (Below.refl _ _) 1
  clear HSV
  go_region_held3 (fun W => (W.cell? ⟨M, 0, none⟩ = some (.slice qb 20 db) ∧ W.cell? ⟨M, 1, none⟩ = some (.slice qk (imM [0]).ks.length dk) ∧ W.cell? ⟨M, 2, none⟩ = some (.slice qs (imM [0]).si.length ds) ∧ W.cell? ⟨M, 3, none⟩ = some (.slice qu (imM [0]).un.length du) ∧ W.cell? ⟨M2, 0, none⟩ = some (.slice (some ⟨g, 0, none⟩) 20 cb) ∧ W.cell? ⟨M2, 1, none⟩ = some (.slice rk (imM [0]).ks.length ekk) ∧ W.cell? ⟨M2, 2, none⟩ = some (.slice rs (imM [0]).si.length ess) ∧ W.cell? ⟨M2, 3, none⟩ = some (.slice ru (imM [0]).un.length euu) ∧ Below w25.heap.size w25 W))
    (first | assumption | (exact HSK.out _ _ (by assumption) (new_alloc _ _)) | (exact HSK.out _ _ (by assumption) (below_draws (below_self _) _)) | (refine ⟨?_, ?_, ?_, ?_, ?_, ?_, ?_, ?_, ?_⟩ <;> assumption) | go_keep)
    (first
      | (go_at_call 7; refine (HSX.out _).mono ?_; rintro e w7 ⟨p7, rfl, -, hr7, hb7⟩; have hk7 := HSK.out _ _ (by assumption) hb7)
      | (go_at_call 9; with_reducible refine (HVO.out _ _ (And.right (And.right (And.right (And.right (And.right (And.right (And.right (And.right (by assumption)))))))))  (by first | exact hr7 | exact hr7.below (new_alloc _ _))).mono ?_; rintro e w9 ⟨v9, rfl, ho9, hb9⟩; have hk9 := HSK.out _ _ (by assumption) hb9; obtain ⟨p9, c9, rfl, -, -, -⟩ := ho9.row; clear ho9)
      | (go_at_call 9; with_reducible refine (HVN.out _ (And.right (And.right (And.right (And.right (And.right (And.right (And.right (And.right (by assumption))))))))) ).mono ?_; rintro e w9 ⟨v9, rfl, ho9, hb9⟩; have hk9 := HSK.out _ _ (by assumption) hb9; obtain ⟨p9, c9, rfl, -, -, -⟩ := ho9.row; clear ho9)
      | (go_at_call 12; refine (HOU.out _ _ (by first | exact hr7 | exact hr7.below (new_alloc _ _))).mono ?_; rintro e wo ⟨vo, rfl, hoo, hbo⟩; have hko := HSK.out _ _ (by assumption) hbo; obtain ⟨po, co, rfl, -, -, -⟩ := hoo.row; clear hoo))
  all_goals
    have HBZ := Hid.in (below_step HS25.out.b (And.right (And.right (And.right (And.right (And.right (And.right (And.right (And.right hko)))))))))
    clear HVO HVN HOU HSK HS25 HM25 HI25 HVW
    go_upto_region 15 with fail
    have HRZ : Hid (KRow fE (wo.alloc (.cells #[.int .u8 10, .int .i64 0, .int .i64 0, .int .i64 0, .int .u8 0, .int .i64 0, .int .i64 4, .int .u8 8, .int .i64 0, .int .i64 0, .int .i64 0, .int .u8 0, .int .i64 0, .int .i64 0, .int .u8 10, .int .i64 0, .int .i64 0, .int .i64 0, .int .u8 0, .int .i64 0, .int .i64 1, .int .u8 11, .int .i64 0, .int .i64 0, .int .i64 0, .int .u8 0, .int .i64 0, .int .i64 0, .int .u8 10, .int .i64 0, .int .i64 0, .int .i64 0, .int .u8 0, .int .i64 0, .int .i64 4, .int .u8 9, .int .i64 0, .int .i64 0, .int .i64 0, .int .u8 0, .int .i64 0, .int .i64 0, .int .u8 8, .int .i64 0, .int .i64 0, .int .i64 0, .int .u8 0, .int .i64 0, .int .i64 0] 34)) (some ⟨wo.heap.size, 0, none⟩) sevL) := KRow.lit wo sevL _ rfl (by decide)
    have HBY := Hid.in (below_alloc HBZ.out (.cells #[.int .u8 10, .int .i64 0, .int .i64 0, .int .i64 0, .int .u8 0, .int .i64 0, .int .i64 4, .int .u8 8, .int .i64 0, .int .i64 0, .int .i64 0, .int .u8 0, .int .i64 0, .int .i64 0, .int .u8 10, .int .i64 0, .int .i64 0, .int .i64 0, .int .u8 0, .int .i64 0, .int .i64 1, .int .u8 11, .int .i64 0, .int .i64 0, .int .i64 0, .int .u8 0, .int .i64 0, .int .i64 0, .int .u8 10, .int .i64 0, .int .i64 0, .int .i64 0, .int .u8 0, .int .i64 0, .int .i64 4, .int .u8 9, .int .i64 0, .int .i64 0, .int .i64 0, .int .u8 0, .int .i64 0, .int .i64 0, .int .u8 8, .int .i64 0, .int .i64 0, .int .i64 0, .int .u8 0, .int .i64 0, .int .i64 0] 34))
    generalize wo.alloc (.cells #[.int .u8 10, .int .i64 0, .int .i64 0, .int .i64 0, .int .u8 0, .int .i64 0, .int .i64 4, .int .u8 8, .int .i64 0, .int .i64 0, .int .i64 0, .int .u8 0, .int .i64 0, .int .i64 0, .int .u8 10, .int .i64 0, .int .i64 0, .int .i64 0, .int .u8 0, .int .i64 0, .int .i64 1, .int .u8 11, .int .i64 0, .int .i64 0, .int .i64 0, .int .u8 0, .int .i64 0, .int .i64 0, .int .u8 10, .int .i64 0, .int .i64 0, .int .i64 0, .int .u8 0, .int .i64 0, .int .i64 4, .int .u8 9, .int .i64 0, .int .i64 0, .int .i64 0, .int .u8 0, .int .i64 0, .int .i64 0, .int .u8 8, .int .i64 0, .int .i64 0, .int .i64 0, .int .u8 0, .int .i64 0, .int .i64 0] 34) = wy at *
    generalize wo.heap.size = gy at *
    have hsw := switches_any (some ⟨gy, 0, none⟩) 7 7 sevL wy rfl (by decide) HRZ.out
    rw [ex_sw] at hsw
    go_wp2_with (go_at_call 14; refine Hid.out ?_)
    refine Lib.hid ?_
    (with_reducible refine hsw.mono ?_)
    rintro e wx ⟨vx, rfl, hox, hb⟩
    obtain ⟨px, cx, rfl, -, -, hrx⟩ := hox.row
    have HRX := Hid.in (HRZ.out.below hb)
    have HBX := Hid.in (below_step HBY.out hb)
    clear hsw hb hox HRZ HBY HBZ
    have hlx : KRow fC (wx.alloc (.cells #[.int .i64 1, .int .i64 2, .int .i64 1, .int .i64 0, .int .i64 0, .int .i64 0, .int .i64 0, .int .i64 0, .int .i64 0, .int .i64 0] 49)) (some ⟨wx.heap.size, 0, none⟩) [⟨1, 2, 1⟩, ⟨0, 0, 0⟩] := KRow.lit wx _ _ rfl (by decide)
    have hsc := sameCounts_self _ _ 2 cx 2 _ _ rfl (by decide) (hrx.below (new_alloc wx (.cells #[.int .i64 1, .int .i64 2, .int .i64 1, .int .i64 0, .int .i64 0, .int .i64 0, .int .i64 0, .int .i64 0, .int .i64 0, .int .i64 0] 49))) hlx
    have HRW := Hid.in (HRX.out.below (new_alloc wx (.cells #[.int .i64 1, .int .i64 2, .int .i64 1, .int .i64 0, .int .i64 0, .int .i64 0, .int .i64 0, .int .i64 0, .int .i64 0, .int .i64 0] 49)))
    have HBW := Hid.in (below_alloc HBX.out (.cells #[.int .i64 1, .int .i64 2, .int .i64 1, .int .i64 0, .int .i64 0, .int .i64 0, .int .i64 0, .int .i64 0, .int .i64 0, .int .i64 0] 49))
    clear hrx hlx
    go_wp2_with (go_at_call 13; refine Hid.out ?_)
    refine Lib.hid ?_
    (with_reducible refine hsc.mono ?_)
    rintro e wv ⟨rfl, mv, rfl⟩
    have HRV := Hid.in (HRW.out.below (below_draws (below_self _) mv))
    have HBV := Hid.in (below_draws HBW.out mv)
    generalize World.drewN (wx.alloc (.cells #[.int .i64 1, .int .i64 2, .int .i64 1, .int .i64 0, .int .i64 0, .int .i64 0, .int .i64 0, .int .i64 0, .int .i64 0, .int .i64 0] 49)) mv = wv at *
    clear hsc HRW HBW HRX HBX
    have hsw := switches_any (some ⟨gy, 0, none⟩) 1 7 [⟨10, 0, 0, 0, 0, 0, 4⟩] wv rfl (by decide) (KRow.take1 HRV.out)
    rw [ex_s1] at hsw
    go_wp2_with (go_at_call 14; refine Hid.out ?_)
    refine Lib.hid ?_
    (with_reducible refine hsw.mono ?_)
    rintro e wu ⟨vu, rfl, hou, hb⟩
    obtain ⟨pu, cu, rfl, -, -, -⟩ := hou.row
    have HBU := Hid.in (below_step HBV.out hb)
    clear hsw hb hou HRV HBV
    have haw := awake_any wu
    go_wp2_with (go_at_call 15; refine Hid.out ?_)
    refine Lib.hid ?_
    (with_reducible refine haw.mono ?_)
    rintro e wt ⟨rfl, hb⟩
    have HBT := Hid.in (below_step HBU.out hb)
    clear haw hb
    go_wp2_with fail
    go_ret
    exact ⟨rfl, HBT.out⟩
end Go.Proofs.YtgblohjdiheemaaGreat

namespace Go.Proofs.YtgblohjdiheemaaGreat
open Go.ChangeShapes Go.WideShapes Go.ChangeAt Go.RowKit
open Go.ChangeMaps (open_string shut_string)

set_option maxRecDepth 100000 in
theorem watchNumbers_lifted (os : Os) (started : os.Started) (H : Type) (enc : TypeId × Value → H) :
    ReturnsInHanded {} Tryz.checked os 3 .any (Rows.watchNumbersSpec.pre6 enc Tryz.prog Tryz.f3 Rows.watchNumbersRow.domain false) (Rows.watchNumbersSpec.post enc Tryz.prog Tryz.f3 false true false false) := by
  refine returnsInHanded_of_change_sized (C := Tryz.checked) Tryz.own started (by kernel_rfl) Tryz.func3
    (ChangeSpec.witness6 (enc := enc) (C := Tryz.checked) false ⟨#[], #[], []⟩ 8 (by kernel_rfl) (by kernel_rfl) (by kernel_rfl) (by kernel_rfl)) ?_
  intro W base args ds gs before _ hW hcnd _ _
  have hW' := hW
  obtain ⟨p, q, hA0, hV, rfl, hfz, hnd⟩ := hW
  have hA : DataW.TrodAll enc Tryz.prog W 0 (fun _ => true) true Tryz.f3.params.toList args.toList ds p := hA0
  rw [Tryz.params3] at hA
  obtain ⟨rfl, rfl, rfl⟩ := trodAll_none hA
  obtain ⟨rfl, rfl⟩ := trodVars_none hV
  refine ((numbers_walk W)).mono fun e W' ⟨he, bel⟩ => ?_
  subst he
  exact ⟨_, rfl, _, _, _, [], _, [], hW', trodAll_mk1 (shut_bool Tryz.underlying4 _), trodAll_mk0, rfl, bel.frame _, fun h => by cases h⟩

theorem watchNumbers_holds : Rows.WatchNumbersSaid :=
  OpenClaim.holds_of_wide 3 Tryz.f3 rfl rfl rfl rfl rfl rfl rfl ⟨rfl, rfl, rfl, rfl, rfl⟩ rfl rfl rfl rfl rfl (by kernel_rfl) Tryz.func3 (by kernel_rfl)
    (of_decide_eq_true (by kernel_rfl)) (by unfold Func.isWrapper; first | (rw [if_pos (by decide +kernel)]; kernel_rfl) | (rw [if_neg (by decide +kernel)]; exact ⟨rfl, rfl⟩))
    (fun os started H enc _ => watchNumbers_lifted os started H enc)
#print axioms watchNumbers_holds

end Go.Proofs.YtgblohjdiheemaaGreat
