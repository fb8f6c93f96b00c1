/- Texts put together: RefDec. -/
import Derived.Test.YtnpaijbkhmnfpaaGreatKah
import Derived.Test.YtnpaijbkhmnfpaaGreatKav
import Derived.Deep.RegionWith

/- What switchyardref02.Decode answers, for every slice of bytes: the same as the program's. -/
namespace Go.Proofs.YtnpaijbkhmnfpaaGreat
open Go.RowKit

theorem At4.set3 {w : World} {g : Nat} {x0 x1 x2 x3 : Value} (h : At4 w g x0 x1 x2 x3) (v : Value) : At4 (w.setCell ⟨g, 3, none⟩ v) g x0 x1 x2 v :=
  ⟨(cs_other (by decide)).trans h.1, (cs_other (by decide)).trans h.2.1, (cs_other (by decide)).trans h.2.2.1, World.cell?_setCell_same _ _ _ h.2.2.2⟩
theorem At6.far {w : World} {g h i : Nat} {v x0 x1 x2 x3 x4 x5 : Value} (ha : At6 w g x0 x1 x2 x3 x4 x5) (hne : h ≠ g) : At6 (w.setCell ⟨h, i, none⟩ v) g x0 x1 x2 x3 x4 x5 :=
  ⟨⟨(cell_far hne).trans ha.1.1, (cell_far hne).trans ha.1.2.1, (cell_far hne).trans ha.1.2.2⟩, (cell_far hne).trans ha.2.1, (cell_far hne).trans ha.2.2.1, (cell_far hne).trans ha.2.2.2⟩
theorem At6.below {w w' : World} {g : Nat} {x0 x1 x2 x3 x4 x5 : Value} (h : At6 w g x0 x1 x2 x3 x4 x5) (hb : Below w.heap.size w w') : At6 w' g x0 x1 x2 x3 x4 x5 := h.keep hb (cell_lt h.1.1)
theorem At6.drewN {w : World} {g : Nat} {x0 x1 x2 x3 x4 x5 : Value} (h : At6 w g x0 x1 x2 x3 x4 x5) (n : Nat) : At6 (w.drewN n) g x0 x1 x2 x3 x4 x5 := h
theorem Var4.drewN {w : World} {g : Nat} {x0 x1 x2 x3 : Value} (h : Var4 w g x0 x1 x2 x3) (n : Nat) : Var4 (w.drewN n) g x0 x1 x2 x3 := h
theorem At4.drewN {w : World} {g : Nat} {x0 x1 x2 x3 : Value} (h : At4 w g x0 x1 x2 x3) (n : Nat) : At4 (w.drewN n) g x0 x1 x2 x3 := h
def eqB (L : Nat) (es xs : List Int) : Bool := decide (∀ j, j < L → es.getD j 0 = xs.getD j 0)

set_option maxRecDepth 16000 in
set_option maxHeartbeats 400000 in
theorem rdec_empty (p : Option Addr) (cp : Nat) (w : World) :
    Calls Tryz.prog 57 #[.slice p 0 cp] w fun e w' => e = .returned (decT 0 0 0 0 0 4) ∧ Below w.heap.size w w' := by
  go_enter Tryz.func57, Tryz.ntmps57
  go_wp2
  exact bodyPost_ret (v := decT 0 0 0 0 0 4) (by simp [results, Tryz.results57, go_sem]) rfl ⟨rfl, new_alloc _ _⟩

set_option maxRecDepth 16000 in
set_option maxHeartbeats 1000000 in
theorem rdec_short (o : Nat) (h1 : 1 ≤ o) (h2 : o < 17) (b f n cp : Nat) (w : World) (hn : n ≤ 140737488355328) (h0 : 0 < n) (hl : n < lenN o) (hcell : w.cell? ⟨b, f, none⟩ = some (.int .u8 (fb o))) :
    Calls Tryz.prog 57 #[.slice (some ⟨b, f, none⟩) n cp] w fun e w' => e = .returned (decT 0 0 0 0 0 4) ∧ Below w.heap.size w w' := by
  have c0 := cell_push hcell
  have hcon := fun w => rlen_yes o w h1 h2
  have hd : ((n : Int) == 0) = false := by simp; omega
  generalize fb o = z at *
  generalize lenN o = L at *
  clear hcell h1 h2
  go_enter Tryz.func57, Tryz.ntmps57
  go_wp2_with fail
  refine (hcon _).mono ?_
  rintro e w1 ⟨rfl, hb1⟩
  have hV := (Var4.new w (.int .u8 0) (.int .u8 0) (.int .u8 0) (.int .i32 0) 117).below hb1
  have hbw := below_step (new_alloc w _) hb1
  have HV : Hid (Var4 w1 w.heap.size (.int .u8 0) (.int .u8 0) (.int .u8 0) (.int .i32 0)) := hV
  obtain ⟨⟨r0, r1, r2, r3⟩, hfr⟩ := hV
  have hld := load4 (HV.out.1.stored (.int .u8 0) (.int .u8 0) (.int .u8 0) (.int .i32 0))
  clear hb1 c0 hcon
  go_wp2
  exact bodyPost_ret (v := decT 0 0 0 0 0 4) (by simp [results, Tryz.results57, asAddr, hld]) rfl ⟨rfl, below_stored hbw (Nat.le_refl _) _ _ _ _⟩

set_option maxRecDepth 16000 in
set_option maxHeartbeats 1000000 in
theorem rdec_none (z : Int) (hno : ∀ o, 1 ≤ o → o < 17 → fb o ≠ z) (b f n cp : Nat) (w : World) (hn : n ≤ 140737488355328) (h0 : 0 < n) (hcell : w.cell? ⟨b, f, none⟩ = some (.int .u8 z)) :
    Calls Tryz.prog 57 #[.slice (some ⟨b, f, none⟩) n cp] w fun e w' => e = .returned (decT 0 0 0 0 0 120) ∧ Below w.heap.size w w' := by
  have c0 := cell_push hcell
  have hlb := cell_lt hcell
  have hcon := fun w => rlen_no z w hno
  have hcon2 := fun w => ofByte_no z w hno
  have hd : ((n : Int) == 0) = false := by simp; omega
  have HCC : Hid (w.cell? ⟨b, f, none⟩ = some (.int .u8 z)) := hcell
  clear hcell hno
  go_enter Tryz.func57, Tryz.ntmps57
  go_wp2_with fail
  refine (hcon _).mono ?_
  rintro e w1 ⟨rfl, hb1⟩
  have hV := (Var4.new w (.int .u8 0) (.int .u8 0) (.int .u8 0) (.int .i32 0) 117).below hb1
  have hbw := below_step (new_alloc w _) hb1
  have c1 := (hbw.cell (p := ⟨b, f, none⟩) hlb).trans HCC.out
  clear hb1 c0 hcon
  go_wp2_with fail
  refine (hcon2 _).mono ?_
  rintro e w2 ⟨rfl, hb2⟩
  have hV2 := hV.below hb2
  have hbw2 := below_step hbw hb2
  have HV : Hid (Var4 w2 w.heap.size (.int .u8 0) (.int .u8 0) (.int .u8 0) (.int .i32 0)) := hV2
  obtain ⟨⟨r0, r1, r2, r3⟩, hfr⟩ := hV2
  have hld := load4 (HV.out.1.stored (.int .u8 0) (.int .u8 0) (.int .u8 0) (.int .i32 0))
  clear hV hb2 hbw c1 hcon2
  go_wp2
  exact bodyPost_ret (v := decT 0 0 0 0 0 120) (by simp [results, Tryz.results57, asAddr, hld]) rfl ⟨rfl, below_stored hbw2 (Nat.le_refl _) _ _ _ _⟩

set_option maxRecDepth 16000 in
set_option maxHeartbeats 2000000 in
theorem rdec_FFF (f z o : Int) (L : Nat) (D : Bool) (b f0 n cp : Nat) (xs es : List Int) (R : Bool) (w : World)
    (hlen : ∀ w, Calls Tryz.prog 89 #[.int .u8 z] w fun e w' => e = .returned (.int .i64 L) ∧ Below w.heap.size w w')
    (hof : ∀ w, Calls Tryz.prog 91 #[.int .u8 z] w fun e w' => e = .returned (.tuple #[.int .u8 o, .bool true]) ∧ Below w.heap.size w w')
    (hfrm : ∀ w, Calls Tryz.prog 92 #[.int .u8 o] w fun e w' => e = .returned (.tuple #[frm f L false false false D, .bool true]) ∧ Below w.heap.size w w')
    (henc : (R = true ∧ ∀ w, Calls Tryz.prog 93 #[ins o 0 0 0] w fun e w' => ∃ g cap, e = .returned (.tuple #[.slice (some ⟨g, 0, none⟩) L cap, .int .i64 0]) ∧ Own w' w.heap.size g cap es ∧ Below w.heap.size w w') ∨
      (R = false ∧ ∀ w, Calls Tryz.prog 93 #[ins o 0 0 0] w fun e w' => e = .returned (.tuple #[.slice none 0 0, .int .i64 2]) ∧ Below w.heap.size w w'))
    (hel : es.length = L) (hn : n ≤ 140737488355328) (hl6 : 1 ≤ L) (hl : L ≤ n) (hz : xs.getD 0 0 = z) (hcell : ∀ i, i < n → w.cell? ⟨b, f0 + i, none⟩ = some (.int .u8 (xs.getD i 0))) :
    Calls Tryz.prog 57 #[.slice (some ⟨b, f0, none⟩) n cp] w fun e w' => e = .returned (if (R && eqB L es xs) then decT o 0 0 0 L 0 else decT 0 0 0 0 0 120) ∧ Below w.heap.size w w' := by
  have HC : Hid (∀ w', Below w.heap.size w w' → ∀ i, i < n → w'.cell? ⟨b, f0 + i, none⟩ = some (.int .u8 (xs.getD i 0))) := fun w' hb i hi => (hb.cell (p := ⟨b, f0 + i, none⟩) (cell_lt (hcell i hi))).trans (hcell i hi)
  have HZ : Hid (∀ w', Below w.heap.size w w' → w'.cell? ⟨b, f0, none⟩ = some (.int .u8 z)) := fun w' hb => by have := HC.out w' hb 0 (by omega); rw [hz] at this; exact this
  have HEL : Hid (es.length = L) := hel
  clear hcell hz hel
  have c0 := fun ob => HZ.out _ (new_alloc w ob)
  have hd : ((n : Int) == 0) = false := by simp; omega
  go_enter Tryz.func57, Tryz.ntmps57
  go_wp2_with fail
  refine (hlen _).mono ?_
  rintro e w1 ⟨rfl, hb1⟩
  have hV := (Var4.new w (.int .u8 0) (.int .u8 0) (.int .u8 0) (.int .i32 0) 117).below hb1
  have hbw := below_step (new_alloc w _) hb1
  have c1 := HZ.out _ hbw
  clear hb1 c0 hlen
  go_wp2_with fail
  refine (hof _).mono ?_
  rintro e w2 ⟨rfl, hb2⟩
  have hV2 := hV.below hb2
  have hbw2 := below_step hbw hb2
  clear hV hb2 hbw c1 hof
  go_wp2_with fail
  refine (hfrm _).mono ?_
  rintro e w3 ⟨rfl, hb3⟩
  have hV3 := (hV2.below hb3).push (.cells #[.int .u8 f, .int .i64 L, .bool false, .bool false, .bool false, .bool D] 167)
  have hF3 := At6.new w3 (.int .u8 f) (.int .i64 L) (.bool false) (.bool false) (.bool false) (.bool D) 167
  have hbw3 := below_alloc (below_step hbw2 hb3) (.cells #[.int .u8 f, .int .i64 L, .bool false, .bool false, .bool false, .bool D] 167)
  have lRF : w.heap.size < w3.heap.size := cell_lt (hV2.below hb3).1.1
  clear hV2 hb3 hbw2 hfrm
  go_upto_region 7 with fail
  generalize w3.alloc (.cells #[.int .u8 f, .int .i64 L, .bool false, .bool false, .bool false, .bool D] 167) = w4 at *
  generalize w3.heap.size = gF at *
  have HF4 : Hid (At6 w4 gF (.int .u8 f) (.int .i64 L) (.bool false) (.bool false) (.bool false) (.bool D)) := hF3
  have HV4 : Hid (Var4 w4 w.heap.size (.int .u8 0) (.int .u8 0) (.int .u8 0) (.int .i32 0)) := hV3
  have lF : gF < w4.heap.size := cell_lt hF3.1.1
  have lR : w.heap.size < w4.heap.size := cell_lt hV3.1.1
  have hFp := fun ob => hF3.keep (new_alloc w4 ob) lF
  have f2 := fun ob => (hFp ob).1.2.2
  have f3 := fun ob => (hFp ob).2.1
  have f4 := fun ob => (hFp ob).2.2.1
  clear hFp hF3 hV3
  go_wp2_with fail
  have hI5 := At4.new w4 (.int .u8 o) (.int .u8 0) (.int .u8 0) (.int .i32 0) 117
  have hF5 := HF4.out.below (new_alloc w4 (.cells #[.int .u8 o, .int .u8 0, .int .u8 0, .int .i32 0] 117))
  have hV5 := HV4.out.push (.cells #[.int .u8 o, .int .u8 0, .int .u8 0, .int .i32 0] 117)
  have hbw5 := below_alloc hbw3 (.cells #[.int .u8 o, .int .u8 0, .int .u8 0, .int .i32 0] 117)
  clear f2 f3 f4 HF4 HV4 hbw3
  generalize (w4.alloc (.cells #[.int .u8 o, .int .u8 0, .int .u8 0, .int .i32 0] 117)) = w5 at *
  generalize w4.heap.size = gI at *
  rcases henc with ⟨rfl, he⟩ | ⟨rfl, he⟩
  · refine (he _).mono ?_
    rintro e w6 ⟨gE, cE, rfl, hoE, hb6⟩
    have HI : Hid (At4 w6 gI (.int .u8 o) (.int .u8 0) (.int .u8 0) (.int .i32 0)) := hI5.below hb6
    have HF : Hid (At6 w6 gF (.int .u8 f) (.int .i64 L) (.bool false) (.bool false) (.bool false) (.bool D)) := hF5.below hb6
    have HV : Hid (Var4 w6 w.heap.size (.int .u8 0) (.int .u8 0) (.int .u8 0) (.int .i32 0)) := hV5.below hb6
    have hbw6 := below_step hbw5 hb6
    clear hI5 hF5 hV5 hbw5 hb6 he
    go_wp2_with fail
    go_loopw [14] (fun i wr => ∃ k m : Nat, k ≤ L ∧ i = .int .i64 k ∧ wr = w6.drewN m ∧ ∀ j, j < k → es.getD j 0 = xs.getD j 0) (fun i _ => L - (intOf i).toNat)
    case atStart => exact ⟨0, 0, Nat.zero_le _, rfl, rfl, fun j hj => absurd hj (Nat.not_lt_zero _)⟩
    case round =>
      obtain ⟨k, m, hk, rfl, rfl, hs⟩ := hrel
      have HS : Hid (∀ j, j < k → es.getD j 0 = xs.getD j 0) := hs
      clear hs
      have g1 := HF.out.1.2.1
      by_cases hlt : k < L
      · have q1 := hoE.cell k (by rw [HEL.out]; exact hlt)
        have q2 := HC.out w6 hbw6 k (by omega)
        obtain ⟨x, hx⟩ : ∃ x, x = es.getD k 0 := ⟨_, rfl⟩
        obtain ⟨y, hy⟩ : ∃ y, y = xs.getD k 0 := ⟨_, rfl⟩
        rw [← hx] at q1
        rw [← hy] at q2
        have E1 : Hid (x = es.getD k 0) := hx
        have E2 : Hid (y = xs.getD k 0) := hy
        clear hx hy
        cases hxy : (x != y)
        · go_wp2
          go_quiet (fail)
          go_wp2
          go_roundw
          case rel =>
            refine ⟨k + 1, _, by omega, by go_num, rfl, fun j hj => ?_⟩
            by_cases e : j = k
            · subst e; rw [← E1.out, ← E2.out]; simpa using hxy
            · exact HS.out j (by omega)
          case measure => simp [intOf]; omega
        · obtain ⟨⟨r0, r1, r2, r3⟩, hfr⟩ := HV.out
          go_wp2
          go_quiet (fail)
          have hld : ∀ q, (loadVar 117 ⟨w.heap.size, 0, none⟩).run Tryz.prog (set4 (w6.drewN q) w.heap.size (.int .u8 0) (.int .u8 0) (.int .u8 0) (.int .i32 0)) = .ok (.agg #[.int .u8 0, .int .u8 0, .int .u8 0, .int .i32 0]) (set4 (w6.drewN q) w.heap.size (.int .u8 0) (.int .u8 0) (.int .u8 0) (.int .i32 0)) :=
            fun q => load4 (At4.stored (w := w6.drewN q) HV.out.1 (.int .u8 0) (.int .u8 0) (.int .u8 0) (.int .i32 0))
          have hf : eqB L es xs = false := decide_eq_false fun hh => by
            have := hh k hlt
            rw [← E1.out, ← E2.out] at this
            simp [this] at hxy
          go_wp2
          all_goals exact bodyPost_ret (v := decT 0 0 0 0 0 120) (by simp [results, Tryz.results57, asAddr, hld]) rfl ⟨rfl, below_stored (below_draws hbw6 _) (Nat.le_refl _) _ _ _ _⟩
      · have hf : eqB L es xs = true := decide_eq_true fun j hj => HS.out j (by omega)
        obtain ⟨⟨r0, r1, r2, r3⟩, hfr⟩ := HV.out
        obtain ⟨i0, i1, i2, i3⟩ := HI.out
        go_wp2_with fail
        have hld : ∀ q, (loadVar 117 ⟨w.heap.size, 0, none⟩).run Tryz.prog (set4 (w6.drewN q) w.heap.size (.int .u8 o) (.int .u8 0) (.int .u8 0) (.int .i32 0)) = .ok (.agg #[.int .u8 o, .int .u8 0, .int .u8 0, .int .i32 0]) (set4 (w6.drewN q) w.heap.size (.int .u8 o) (.int .u8 0) (.int .u8 0) (.int .i32 0)) :=
          fun q => load4 (At4.stored (w := w6.drewN q) HV.out.1 (.int .u8 o) (.int .u8 0) (.int .u8 0) (.int .i32 0))
        have n1 : ¬ w.heap.size = gF := by omega
        have n2 : ¬ gF = w.heap.size := by omega
        have n3 : ¬ w.heap.size = gI := by omega
        have n4' : ¬ gI = w.heap.size := by omega
        go_region
        all_goals
          go_wp2
          exact bodyPost_ret (v := decT o 0 0 0 L 0) (by simp [results, Tryz.results57, asAddr, hld]) rfl ⟨rfl, below_stored (below_draws hbw6 _) (Nat.le_refl _) _ _ _ _⟩
  · refine (he _).mono ?_
    rintro e w6 ⟨rfl, hb6⟩
    have hV6 := hV5.below hb6
    have hbw6 := below_step hbw5 hb6
    have HV : Hid (Var4 w6 w.heap.size (.int .u8 0) (.int .u8 0) (.int .u8 0) (.int .i32 0)) := hV6
    obtain ⟨⟨r0, r1, r2, r3⟩, hfr⟩ := hV6
    have hld := load4 (HV.out.1.stored (.int .u8 0) (.int .u8 0) (.int .u8 0) (.int .i32 0))
    clear hI5 hF5 hV5 hb6 hbw5 he
    go_wp2
    exact bodyPost_ret (v := decT 0 0 0 0 0 120) (by simp [results, Tryz.results57, asAddr, hld]) rfl ⟨rfl, below_stored hbw6 (Nat.le_refl _) _ _ _ _⟩

set_option maxRecDepth 16000 in
set_option maxHeartbeats 2000000 in
theorem rdec_TFT (f z o z1 z2 z3 z4 z5 : Int) (L : Nat) (D : Bool) (b f0 n cp : Nat) (xs es : List Int) (R : Bool) (w : World)
    (hlen : ∀ w, Calls Tryz.prog 89 #[.int .u8 z] w fun e w' => e = .returned (.int .i64 L) ∧ Below w.heap.size w w')
    (hof : ∀ w, Calls Tryz.prog 91 #[.int .u8 z] w fun e w' => e = .returned (.tuple #[.int .u8 o, .bool true]) ∧ Below w.heap.size w w')
    (hfrm : ∀ w, Calls Tryz.prog 92 #[.int .u8 o] w fun e w' => e = .returned (.tuple #[frm f L true false true D, .bool true]) ∧ Below w.heap.size w w')
    (henc : (R = true ∧ ∀ w, Calls Tryz.prog 93 #[ins o z1 0 (wrap32 (z2 + 256 * z3 + 65536 * z4 + 16777216 * z5))] w fun e w' => ∃ g cap, e = .returned (.tuple #[.slice (some ⟨g, 0, none⟩) L cap, .int .i64 0]) ∧ Own w' w.heap.size g cap es ∧ Below w.heap.size w w') ∨
      (R = false ∧ ∀ w, Calls Tryz.prog 93 #[ins o z1 0 (wrap32 (z2 + 256 * z3 + 65536 * z4 + 16777216 * z5))] w fun e w' => e = .returned (.tuple #[.slice none 0 0, .int .i64 2]) ∧ Below w.heap.size w w'))
    (hel : es.length = L) (hn : n ≤ 140737488355328) (hl6 : 6 ≤ L) (hl : L ≤ n) (hby : Byt xs) (hz : xs.getD 0 0 = z) (e1 : xs.getD 1 0 = z1) (e2 : xs.getD 2 0 = z2) (e3 : xs.getD 3 0 = z3) (e4 : xs.getD 4 0 = z4) (e5 : xs.getD 5 0 = z5) (hcell : ∀ i, i < n → w.cell? ⟨b, f0 + i, none⟩ = some (.int .u8 (xs.getD i 0))) :
    Calls Tryz.prog 57 #[.slice (some ⟨b, f0, none⟩) n cp] w fun e w' => e = .returned (if (R && eqB L es xs) then decT o z1 0 (wrap32 (z2 + 256 * z3 + 65536 * z4 + 16777216 * z5)) L 0 else decT 0 0 0 0 0 120) ∧ Below w.heap.size w w' := by
  have HC : Hid (∀ w', Below w.heap.size w w' → ∀ i, i < n → w'.cell? ⟨b, f0 + i, none⟩ = some (.int .u8 (xs.getD i 0))) := fun w' hb i hi => (hb.cell (p := ⟨b, f0 + i, none⟩) (cell_lt (hcell i hi))).trans (hcell i hi)
  have HZ : Hid (∀ w', Below w.heap.size w w' → w'.cell? ⟨b, f0, none⟩ = some (.int .u8 z)) := fun w' hb => by have := HC.out w' hb 0 (by omega); rw [hz] at this; exact this
  have HEL : Hid (es.length = L) := hel
  clear hcell hz hel
  have c0 := fun ob => HZ.out _ (new_alloc w ob)
  have hd : ((n : Int) == 0) = false := by simp; omega
  have y1 := hby 1
  rw [e1] at y1
  have y2 := hby 2
  rw [e2] at y2
  have y3 := hby 3
  rw [e3] at y3
  have y4 := hby 4
  rw [e4] at y4
  have y5 := hby 5
  rw [e5] at y5
  have D1 : Hid (∀ w', Below w.heap.size w w' → w'.cell? ⟨b, f0 + 1, none⟩ = some (.int .u8 z1)) := fun w' hb => by have := HC.out w' hb 1 (by omega); rw [e1] at this; exact this
  have D2 : Hid (∀ w', Below w.heap.size w w' → w'.cell? ⟨b, f0 + 2, none⟩ = some (.int .u8 z2)) := fun w' hb => by have := HC.out w' hb 2 (by omega); rw [e2] at this; exact this
  have D3 : Hid (∀ w', Below w.heap.size w w' → w'.cell? ⟨b, f0 + 3, none⟩ = some (.int .u8 z3)) := fun w' hb => by have := HC.out w' hb 3 (by omega); rw [e3] at this; exact this
  have D4 : Hid (∀ w', Below w.heap.size w w' → w'.cell? ⟨b, f0 + 4, none⟩ = some (.int .u8 z4)) := fun w' hb => by have := HC.out w' hb 4 (by omega); rw [e4] at this; exact this
  have D5 : Hid (∀ w', Below w.heap.size w w' → w'.cell? ⟨b, f0 + 5, none⟩ = some (.int .u8 z5)) := fun w' hb => by have := HC.out w' hb 5 (by omega); rw [e5] at this; exact this
  clear e1 e2 e3 e4 e5
  go_enter Tryz.func57, Tryz.ntmps57
  go_wp2_with fail
  refine (hlen _).mono ?_
  rintro e w1 ⟨rfl, hb1⟩
  have hV := (Var4.new w (.int .u8 0) (.int .u8 0) (.int .u8 0) (.int .i32 0) 117).below hb1
  have hbw := below_step (new_alloc w _) hb1
  have c1 := HZ.out _ hbw
  clear hb1 c0 hlen
  go_wp2_with fail
  refine (hof _).mono ?_
  rintro e w2 ⟨rfl, hb2⟩
  have hV2 := hV.below hb2
  have hbw2 := below_step hbw hb2
  clear hV hb2 hbw c1 hof
  go_wp2_with fail
  refine (hfrm _).mono ?_
  rintro e w3 ⟨rfl, hb3⟩
  have hV3 := (hV2.below hb3).push (.cells #[.int .u8 f, .int .i64 L, .bool true, .bool false, .bool true, .bool D] 167)
  have hF3 := At6.new w3 (.int .u8 f) (.int .i64 L) (.bool true) (.bool false) (.bool true) (.bool D) 167
  have hbw3 := below_alloc (below_step hbw2 hb3) (.cells #[.int .u8 f, .int .i64 L, .bool true, .bool false, .bool true, .bool D] 167)
  have lRF : w.heap.size < w3.heap.size := cell_lt (hV2.below hb3).1.1
  clear hV2 hb3 hbw2 hfrm
  go_upto_region 7 with fail
  generalize w3.alloc (.cells #[.int .u8 f, .int .i64 L, .bool true, .bool false, .bool true, .bool D] 167) = w4 at *
  generalize w3.heap.size = gF at *
  have HF4 : Hid (At6 w4 gF (.int .u8 f) (.int .i64 L) (.bool true) (.bool false) (.bool true) (.bool D)) := hF3
  have HV4 : Hid (Var4 w4 w.heap.size (.int .u8 0) (.int .u8 0) (.int .u8 0) (.int .i32 0)) := hV3
  have lF : gF < w4.heap.size := cell_lt hF3.1.1
  have lR : w.heap.size < w4.heap.size := cell_lt hV3.1.1
  have hFp := fun ob => hF3.keep (new_alloc w4 ob) lF
  have f2 := fun ob => (hFp ob).1.2.2
  have f3 := fun ob => (hFp ob).2.1
  have f4 := fun ob => (hFp ob).2.2.1
  have d1 := fun ob => D1.out _ (below_alloc hbw3 ob)
  have d2 := fun ob => D2.out _ (below_alloc hbw3 ob)
  have d3 := fun ob => D3.out _ (below_alloc hbw3 ob)
  have d4 := fun ob => D4.out _ (below_alloc hbw3 ob)
  have d5 := fun ob => D5.out _ (below_alloc hbw3 ob)
  clear hFp hF3 hV3
  go_wp2_with fail
  go_quiet (fail)
  go_wp2_with fail
  have hI5 : At4 (((w4.alloc (.cells #[.int .u8 o, .int .u8 z1, .int .u8 0, .int .i32 0] 117)).drewN nq).setCell ⟨w4.heap.size, 3, none⟩ (.int .i32 (wrap32 (z2 + 256 * z3 + 65536 * z4 + 16777216 * z5)))) w4.heap.size (.int .u8 o) (.int .u8 z1) (.int .u8 0) (.int .i32 (wrap32 (z2 + 256 * z3 + 65536 * z4 + 16777216 * z5))) := ((At4.new w4 (.int .u8 o) (.int .u8 z1) (.int .u8 0) (.int .i32 0) 117).drewN nq).set3 _
  have hF5 : At6 (((w4.alloc (.cells #[.int .u8 o, .int .u8 z1, .int .u8 0, .int .i32 0] 117)).drewN nq).setCell ⟨w4.heap.size, 3, none⟩ (.int .i32 (wrap32 (z2 + 256 * z3 + 65536 * z4 + 16777216 * z5)))) gF (.int .u8 f) (.int .i64 L) (.bool true) (.bool false) (.bool true) (.bool D) := ((HF4.out.below (new_alloc w4 (.cells #[.int .u8 o, .int .u8 z1, .int .u8 0, .int .i32 0] 117))).drewN nq).far (by omega)
  have hV5 : Var4 (((w4.alloc (.cells #[.int .u8 o, .int .u8 z1, .int .u8 0, .int .i32 0] 117)).drewN nq).setCell ⟨w4.heap.size, 3, none⟩ (.int .i32 (wrap32 (z2 + 256 * z3 + 65536 * z4 + 16777216 * z5)))) w.heap.size (.int .u8 0) (.int .u8 0) (.int .u8 0) (.int .i32 0) := ((HV4.out.push (.cells #[.int .u8 o, .int .u8 z1, .int .u8 0, .int .i32 0] 117)).drewN nq).far (by omega)
  have hbw5 : Below w.heap.size w (((w4.alloc (.cells #[.int .u8 o, .int .u8 z1, .int .u8 0, .int .i32 0] 117)).drewN nq).setCell ⟨w4.heap.size, 3, none⟩ (.int .i32 (wrap32 (z2 + 256 * z3 + 65536 * z4 + 16777216 * z5)))) := (below_draws (below_alloc hbw3 _) nq).setCell (Nat.le_of_lt lR) _
  clear f2 f3 f4 HF4 HV4 hbw3 d1 d2 d3 d4 d5
  generalize (((w4.alloc (.cells #[.int .u8 o, .int .u8 z1, .int .u8 0, .int .i32 0] 117)).drewN nq).setCell ⟨w4.heap.size, 3, none⟩ (.int .i32 (wrap32 (z2 + 256 * z3 + 65536 * z4 + 16777216 * z5)))) = w5 at *
  generalize w4.heap.size = gI at *
  rcases henc with ⟨rfl, he⟩ | ⟨rfl, he⟩
  · refine (he _).mono ?_
    rintro e w6 ⟨gE, cE, rfl, hoE, hb6⟩
    have HI : Hid (At4 w6 gI (.int .u8 o) (.int .u8 z1) (.int .u8 0) (.int .i32 (wrap32 (z2 + 256 * z3 + 65536 * z4 + 16777216 * z5)))) := hI5.below hb6
    have HF : Hid (At6 w6 gF (.int .u8 f) (.int .i64 L) (.bool true) (.bool false) (.bool true) (.bool D)) := hF5.below hb6
    have HV : Hid (Var4 w6 w.heap.size (.int .u8 0) (.int .u8 0) (.int .u8 0) (.int .i32 0)) := hV5.below hb6
    have hbw6 := below_step hbw5 hb6
    clear hI5 hF5 hV5 hbw5 hb6 he
    go_wp2_with fail
    go_loopw [14] (fun i wr => ∃ k m : Nat, k ≤ L ∧ i = .int .i64 k ∧ wr = w6.drewN m ∧ ∀ j, j < k → es.getD j 0 = xs.getD j 0) (fun i _ => L - (intOf i).toNat)
    case atStart => exact ⟨0, 0, Nat.zero_le _, rfl, rfl, fun j hj => absurd hj (Nat.not_lt_zero _)⟩
    case round =>
      obtain ⟨k, m, hk, rfl, rfl, hs⟩ := hrel
      have HS : Hid (∀ j, j < k → es.getD j 0 = xs.getD j 0) := hs
      clear hs
      have g1 := HF.out.1.2.1
      by_cases hlt : k < L
      · have q1 := hoE.cell k (by rw [HEL.out]; exact hlt)
        have q2 := HC.out w6 hbw6 k (by omega)
        obtain ⟨x, hx⟩ : ∃ x, x = es.getD k 0 := ⟨_, rfl⟩
        obtain ⟨y, hy⟩ : ∃ y, y = xs.getD k 0 := ⟨_, rfl⟩
        rw [← hx] at q1
        rw [← hy] at q2
        have E1 : Hid (x = es.getD k 0) := hx
        have E2 : Hid (y = xs.getD k 0) := hy
        clear hx hy
        cases hxy : (x != y)
        · go_wp2
          go_quiet (fail)
          go_wp2
          go_roundw
          case rel =>
            refine ⟨k + 1, _, by omega, by go_num, rfl, fun j hj => ?_⟩
            by_cases e : j = k
            · subst e; rw [← E1.out, ← E2.out]; simpa using hxy
            · exact HS.out j (by omega)
          case measure => simp [intOf]; omega
        · obtain ⟨⟨r0, r1, r2, r3⟩, hfr⟩ := HV.out
          go_wp2
          go_quiet (fail)
          have hld : ∀ q, (loadVar 117 ⟨w.heap.size, 0, none⟩).run Tryz.prog (set4 (w6.drewN q) w.heap.size (.int .u8 0) (.int .u8 0) (.int .u8 0) (.int .i32 0)) = .ok (.agg #[.int .u8 0, .int .u8 0, .int .u8 0, .int .i32 0]) (set4 (w6.drewN q) w.heap.size (.int .u8 0) (.int .u8 0) (.int .u8 0) (.int .i32 0)) :=
            fun q => load4 (At4.stored (w := w6.drewN q) HV.out.1 (.int .u8 0) (.int .u8 0) (.int .u8 0) (.int .i32 0))
          have hf : eqB L es xs = false := decide_eq_false fun hh => by
            have := hh k hlt
            rw [← E1.out, ← E2.out] at this
            simp [this] at hxy
          go_wp2
          all_goals exact bodyPost_ret (v := decT 0 0 0 0 0 120) (by simp [results, Tryz.results57, asAddr, hld]) rfl ⟨rfl, below_stored (below_draws hbw6 _) (Nat.le_refl _) _ _ _ _⟩
      · have hf : eqB L es xs = true := decide_eq_true fun j hj => HS.out j (by omega)
        obtain ⟨⟨r0, r1, r2, r3⟩, hfr⟩ := HV.out
        obtain ⟨i0, i1, i2, i3⟩ := HI.out
        go_wp2_with fail
        have hld : ∀ q, (loadVar 117 ⟨w.heap.size, 0, none⟩).run Tryz.prog (set4 (w6.drewN q) w.heap.size (.int .u8 o) (.int .u8 z1) (.int .u8 0) (.int .i32 (wrap32 (z2 + 256 * z3 + 65536 * z4 + 16777216 * z5)))) = .ok (.agg #[.int .u8 o, .int .u8 z1, .int .u8 0, .int .i32 (wrap32 (z2 + 256 * z3 + 65536 * z4 + 16777216 * z5))]) (set4 (w6.drewN q) w.heap.size (.int .u8 o) (.int .u8 z1) (.int .u8 0) (.int .i32 (wrap32 (z2 + 256 * z3 + 65536 * z4 + 16777216 * z5)))) :=
          fun q => load4 (At4.stored (w := w6.drewN q) HV.out.1 (.int .u8 o) (.int .u8 z1) (.int .u8 0) (.int .i32 (wrap32 (z2 + 256 * z3 + 65536 * z4 + 16777216 * z5))))
        have n1 : ¬ w.heap.size = gF := by omega
        have n2 : ¬ gF = w.heap.size := by omega
        have n3 : ¬ w.heap.size = gI := by omega
        have n4' : ¬ gI = w.heap.size := by omega
        go_region
        all_goals
          go_wp2
          exact bodyPost_ret (v := decT o z1 0 (wrap32 (z2 + 256 * z3 + 65536 * z4 + 16777216 * z5)) L 0) (by simp [results, Tryz.results57, asAddr, hld]) rfl ⟨rfl, below_stored (below_draws hbw6 _) (Nat.le_refl _) _ _ _ _⟩
  · refine (he _).mono ?_
    rintro e w6 ⟨rfl, hb6⟩
    have hV6 := hV5.below hb6
    have hbw6 := below_step hbw5 hb6
    have HV : Hid (Var4 w6 w.heap.size (.int .u8 0) (.int .u8 0) (.int .u8 0) (.int .i32 0)) := hV6
    obtain ⟨⟨r0, r1, r2, r3⟩, hfr⟩ := hV6
    have hld := load4 (HV.out.1.stored (.int .u8 0) (.int .u8 0) (.int .u8 0) (.int .i32 0))
    clear hI5 hF5 hV5 hb6 hbw5 he
    go_wp2
    exact bodyPost_ret (v := decT 0 0 0 0 0 120) (by simp [results, Tryz.results57, asAddr, hld]) rfl ⟨rfl, below_stored hbw6 (Nat.le_refl _) _ _ _ _⟩

set_option maxRecDepth 16000 in
set_option maxHeartbeats 2000000 in
theorem rdec_TTF (f z o z1 z2 : Int) (L : Nat) (D : Bool) (b f0 n cp : Nat) (xs es : List Int) (R : Bool) (w : World)
    (hlen : ∀ w, Calls Tryz.prog 89 #[.int .u8 z] w fun e w' => e = .returned (.int .i64 L) ∧ Below w.heap.size w w')
    (hof : ∀ w, Calls Tryz.prog 91 #[.int .u8 z] w fun e w' => e = .returned (.tuple #[.int .u8 o, .bool true]) ∧ Below w.heap.size w w')
    (hfrm : ∀ w, Calls Tryz.prog 92 #[.int .u8 o] w fun e w' => e = .returned (.tuple #[frm f L true true false D, .bool true]) ∧ Below w.heap.size w w')
    (henc : (R = true ∧ ∀ w, Calls Tryz.prog 93 #[ins o z1 z2 0] w fun e w' => ∃ g cap, e = .returned (.tuple #[.slice (some ⟨g, 0, none⟩) L cap, .int .i64 0]) ∧ Own w' w.heap.size g cap es ∧ Below w.heap.size w w') ∨
      (R = false ∧ ∀ w, Calls Tryz.prog 93 #[ins o z1 z2 0] w fun e w' => e = .returned (.tuple #[.slice none 0 0, .int .i64 2]) ∧ Below w.heap.size w w'))
    (hel : es.length = L) (hn : n ≤ 140737488355328) (hl6 : 3 ≤ L) (hl : L ≤ n) (hby : Byt xs) (hz : xs.getD 0 0 = z) (e1 : xs.getD 1 0 = z1) (e2 : xs.getD 2 0 = z2) (hcell : ∀ i, i < n → w.cell? ⟨b, f0 + i, none⟩ = some (.int .u8 (xs.getD i 0))) :
    Calls Tryz.prog 57 #[.slice (some ⟨b, f0, none⟩) n cp] w fun e w' => e = .returned (if (R && eqB L es xs) then decT o z1 z2 0 L 0 else decT 0 0 0 0 0 120) ∧ Below w.heap.size w w' := by
  have HC : Hid (∀ w', Below w.heap.size w w' → ∀ i, i < n → w'.cell? ⟨b, f0 + i, none⟩ = some (.int .u8 (xs.getD i 0))) := fun w' hb i hi => (hb.cell (p := ⟨b, f0 + i, none⟩) (cell_lt (hcell i hi))).trans (hcell i hi)
  have HZ : Hid (∀ w', Below w.heap.size w w' → w'.cell? ⟨b, f0, none⟩ = some (.int .u8 z)) := fun w' hb => by have := HC.out w' hb 0 (by omega); rw [hz] at this; exact this
  have HEL : Hid (es.length = L) := hel
  clear hcell hz hel
  have c0 := fun ob => HZ.out _ (new_alloc w ob)
  have hd : ((n : Int) == 0) = false := by simp; omega
  have y1 := hby 1
  rw [e1] at y1
  have y2 := hby 2
  rw [e2] at y2
  have D1 : Hid (∀ w', Below w.heap.size w w' → w'.cell? ⟨b, f0 + 1, none⟩ = some (.int .u8 z1)) := fun w' hb => by have := HC.out w' hb 1 (by omega); rw [e1] at this; exact this
  have D2 : Hid (∀ w', Below w.heap.size w w' → w'.cell? ⟨b, f0 + 2, none⟩ = some (.int .u8 z2)) := fun w' hb => by have := HC.out w' hb 2 (by omega); rw [e2] at this; exact this
  clear e1 e2
  go_enter Tryz.func57, Tryz.ntmps57
  go_wp2_with fail
  refine (hlen _).mono ?_
  rintro e w1 ⟨rfl, hb1⟩
  have hV := (Var4.new w (.int .u8 0) (.int .u8 0) (.int .u8 0) (.int .i32 0) 117).below hb1
  have hbw := below_step (new_alloc w _) hb1
  have c1 := HZ.out _ hbw
  clear hb1 c0 hlen
  go_wp2_with fail
  refine (hof _).mono ?_
  rintro e w2 ⟨rfl, hb2⟩
  have hV2 := hV.below hb2
  have hbw2 := below_step hbw hb2
  clear hV hb2 hbw c1 hof
  go_wp2_with fail
  refine (hfrm _).mono ?_
  rintro e w3 ⟨rfl, hb3⟩
  have hV3 := (hV2.below hb3).push (.cells #[.int .u8 f, .int .i64 L, .bool true, .bool true, .bool false, .bool D] 167)
  have hF3 := At6.new w3 (.int .u8 f) (.int .i64 L) (.bool true) (.bool true) (.bool false) (.bool D) 167
  have hbw3 := below_alloc (below_step hbw2 hb3) (.cells #[.int .u8 f, .int .i64 L, .bool true, .bool true, .bool false, .bool D] 167)
  have lRF : w.heap.size < w3.heap.size := cell_lt (hV2.below hb3).1.1
  clear hV2 hb3 hbw2 hfrm
  go_upto_region 7 with fail
  generalize w3.alloc (.cells #[.int .u8 f, .int .i64 L, .bool true, .bool true, .bool false, .bool D] 167) = w4 at *
  generalize w3.heap.size = gF at *
  have HF4 : Hid (At6 w4 gF (.int .u8 f) (.int .i64 L) (.bool true) (.bool true) (.bool false) (.bool D)) := hF3
  have HV4 : Hid (Var4 w4 w.heap.size (.int .u8 0) (.int .u8 0) (.int .u8 0) (.int .i32 0)) := hV3
  have lF : gF < w4.heap.size := cell_lt hF3.1.1
  have lR : w.heap.size < w4.heap.size := cell_lt hV3.1.1
  have hFp := fun ob => hF3.keep (new_alloc w4 ob) lF
  have f2 := fun ob => (hFp ob).1.2.2
  have f3 := fun ob => (hFp ob).2.1
  have f4 := fun ob => (hFp ob).2.2.1
  have d1 := fun ob => D1.out _ (below_alloc hbw3 ob)
  have d2 := fun ob => D2.out _ (below_alloc hbw3 ob)
  clear hFp hF3 hV3
  go_wp2_with fail
  have hI5 := At4.new w4 (.int .u8 o) (.int .u8 z1) (.int .u8 z2) (.int .i32 0) 117
  have hF5 := HF4.out.below (new_alloc w4 (.cells #[.int .u8 o, .int .u8 z1, .int .u8 z2, .int .i32 0] 117))
  have hV5 := HV4.out.push (.cells #[.int .u8 o, .int .u8 z1, .int .u8 z2, .int .i32 0] 117)
  have hbw5 := below_alloc hbw3 (.cells #[.int .u8 o, .int .u8 z1, .int .u8 z2, .int .i32 0] 117)
  clear f2 f3 f4 HF4 HV4 hbw3 d1 d2
  generalize (w4.alloc (.cells #[.int .u8 o, .int .u8 z1, .int .u8 z2, .int .i32 0] 117)) = w5 at *
  generalize w4.heap.size = gI at *
  rcases henc with ⟨rfl, he⟩ | ⟨rfl, he⟩
  · refine (he _).mono ?_
    rintro e w6 ⟨gE, cE, rfl, hoE, hb6⟩
    have HI : Hid (At4 w6 gI (.int .u8 o) (.int .u8 z1) (.int .u8 z2) (.int .i32 0)) := hI5.below hb6
    have HF : Hid (At6 w6 gF (.int .u8 f) (.int .i64 L) (.bool true) (.bool true) (.bool false) (.bool D)) := hF5.below hb6
    have HV : Hid (Var4 w6 w.heap.size (.int .u8 0) (.int .u8 0) (.int .u8 0) (.int .i32 0)) := hV5.below hb6
    have hbw6 := below_step hbw5 hb6
    clear hI5 hF5 hV5 hbw5 hb6 he
    go_wp2_with fail
    go_loopw [14] (fun i wr => ∃ k m : Nat, k ≤ L ∧ i = .int .i64 k ∧ wr = w6.drewN m ∧ ∀ j, j < k → es.getD j 0 = xs.getD j 0) (fun i _ => L - (intOf i).toNat)
    case atStart => exact ⟨0, 0, Nat.zero_le _, rfl, rfl, fun j hj => absurd hj (Nat.not_lt_zero _)⟩
    case round =>
      obtain ⟨k, m, hk, rfl, rfl, hs⟩ := hrel
      have HS : Hid (∀ j, j < k → es.getD j 0 = xs.getD j 0) := hs
      clear hs
      have g1 := HF.out.1.2.1
      by_cases hlt : k < L
      · have q1 := hoE.cell k (by rw [HEL.out]; exact hlt)
        have q2 := HC.out w6 hbw6 k (by omega)
        obtain ⟨x, hx⟩ : ∃ x, x = es.getD k 0 := ⟨_, rfl⟩
        obtain ⟨y, hy⟩ : ∃ y, y = xs.getD k 0 := ⟨_, rfl⟩
        rw [← hx] at q1
        rw [← hy] at q2
        have E1 : Hid (x = es.getD k 0) := hx
        have E2 : Hid (y = xs.getD k 0) := hy
        clear hx hy
        cases hxy : (x != y)
        · go_wp2
          go_quiet (fail)
          go_wp2
          go_roundw
          case rel =>
            refine ⟨k + 1, _, by omega, by go_num, rfl, fun j hj => ?_⟩
            by_cases e : j = k
            · subst e; rw [← E1.out, ← E2.out]; simpa using hxy
            · exact HS.out j (by omega)
          case measure => simp [intOf]; omega
        · obtain ⟨⟨r0, r1, r2, r3⟩, hfr⟩ := HV.out
          go_wp2
          go_quiet (fail)
          have hld : ∀ q, (loadVar 117 ⟨w.heap.size, 0, none⟩).run Tryz.prog (set4 (w6.drewN q) w.heap.size (.int .u8 0) (.int .u8 0) (.int .u8 0) (.int .i32 0)) = .ok (.agg #[.int .u8 0, .int .u8 0, .int .u8 0, .int .i32 0]) (set4 (w6.drewN q) w.heap.size (.int .u8 0) (.int .u8 0) (.int .u8 0) (.int .i32 0)) :=
            fun q => load4 (At4.stored (w := w6.drewN q) HV.out.1 (.int .u8 0) (.int .u8 0) (.int .u8 0) (.int .i32 0))
          have hf : eqB L es xs = false := decide_eq_false fun hh => by
            have := hh k hlt
            rw [← E1.out, ← E2.out] at this
            simp [this] at hxy
          go_wp2
          all_goals exact bodyPost_ret (v := decT 0 0 0 0 0 120) (by simp [results, Tryz.results57, asAddr, hld]) rfl ⟨rfl, below_stored (below_draws hbw6 _) (Nat.le_refl _) _ _ _ _⟩
      · have hf : eqB L es xs = true := decide_eq_true fun j hj => HS.out j (by omega)
        obtain ⟨⟨r0, r1, r2, r3⟩, hfr⟩ := HV.out
        obtain ⟨i0, i1, i2, i3⟩ := HI.out
        go_wp2_with fail
        have hld : ∀ q, (loadVar 117 ⟨w.heap.size, 0, none⟩).run Tryz.prog (set4 (w6.drewN q) w.heap.size (.int .u8 o) (.int .u8 z1) (.int .u8 z2) (.int .i32 0)) = .ok (.agg #[.int .u8 o, .int .u8 z1, .int .u8 z2, .int .i32 0]) (set4 (w6.drewN q) w.heap.size (.int .u8 o) (.int .u8 z1) (.int .u8 z2) (.int .i32 0)) :=
          fun q => load4 (At4.stored (w := w6.drewN q) HV.out.1 (.int .u8 o) (.int .u8 z1) (.int .u8 z2) (.int .i32 0))
        have n1 : ¬ w.heap.size = gF := by omega
        have n2 : ¬ gF = w.heap.size := by omega
        have n3 : ¬ w.heap.size = gI := by omega
        have n4' : ¬ gI = w.heap.size := by omega
        go_region
        all_goals
          go_wp2
          exact bodyPost_ret (v := decT o z1 z2 0 L 0) (by simp [results, Tryz.results57, asAddr, hld]) rfl ⟨rfl, below_stored (below_draws hbw6 _) (Nat.le_refl _) _ _ _ _⟩
  · refine (he _).mono ?_
    rintro e w6 ⟨rfl, hb6⟩
    have hV6 := hV5.below hb6
    have hbw6 := below_step hbw5 hb6
    have HV : Hid (Var4 w6 w.heap.size (.int .u8 0) (.int .u8 0) (.int .u8 0) (.int .i32 0)) := hV6
    obtain ⟨⟨r0, r1, r2, r3⟩, hfr⟩ := hV6
    have hld := load4 (HV.out.1.stored (.int .u8 0) (.int .u8 0) (.int .u8 0) (.int .i32 0))
    clear hI5 hF5 hV5 hb6 hbw5 he
    go_wp2
    exact bodyPost_ret (v := decT 0 0 0 0 0 120) (by simp [results, Tryz.results57, asAddr, hld]) rfl ⟨rfl, below_stored hbw6 (Nat.le_refl _) _ _ _ _⟩

set_option maxRecDepth 16000 in
set_option maxHeartbeats 2000000 in
theorem rdec_FFT (f z o z1 z2 z3 z4 : Int) (L : Nat) (D : Bool) (b f0 n cp : Nat) (xs es : List Int) (R : Bool) (w : World)
    (hlen : ∀ w, Calls Tryz.prog 89 #[.int .u8 z] w fun e w' => e = .returned (.int .i64 L) ∧ Below w.heap.size w w')
    (hof : ∀ w, Calls Tryz.prog 91 #[.int .u8 z] w fun e w' => e = .returned (.tuple #[.int .u8 o, .bool true]) ∧ Below w.heap.size w w')
    (hfrm : ∀ w, Calls Tryz.prog 92 #[.int .u8 o] w fun e w' => e = .returned (.tuple #[frm f L false false true D, .bool true]) ∧ Below w.heap.size w w')
    (henc : (R = true ∧ ∀ w, Calls Tryz.prog 93 #[ins o 0 0 (wrap32 (z1 + 256 * z2 + 65536 * z3 + 16777216 * z4))] w fun e w' => ∃ g cap, e = .returned (.tuple #[.slice (some ⟨g, 0, none⟩) L cap, .int .i64 0]) ∧ Own w' w.heap.size g cap es ∧ Below w.heap.size w w') ∨
      (R = false ∧ ∀ w, Calls Tryz.prog 93 #[ins o 0 0 (wrap32 (z1 + 256 * z2 + 65536 * z3 + 16777216 * z4))] w fun e w' => e = .returned (.tuple #[.slice none 0 0, .int .i64 2]) ∧ Below w.heap.size w w'))
    (hel : es.length = L) (hn : n ≤ 140737488355328) (hl6 : 5 ≤ L) (hl : L ≤ n) (hby : Byt xs) (hz : xs.getD 0 0 = z) (e1 : xs.getD 1 0 = z1) (e2 : xs.getD 2 0 = z2) (e3 : xs.getD 3 0 = z3) (e4 : xs.getD 4 0 = z4) (hcell : ∀ i, i < n → w.cell? ⟨b, f0 + i, none⟩ = some (.int .u8 (xs.getD i 0))) :
    Calls Tryz.prog 57 #[.slice (some ⟨b, f0, none⟩) n cp] w fun e w' => e = .returned (if (R && eqB L es xs) then decT o 0 0 (wrap32 (z1 + 256 * z2 + 65536 * z3 + 16777216 * z4)) L 0 else decT 0 0 0 0 0 120) ∧ Below w.heap.size w w' := by
  have HC : Hid (∀ w', Below w.heap.size w w' → ∀ i, i < n → w'.cell? ⟨b, f0 + i, none⟩ = some (.int .u8 (xs.getD i 0))) := fun w' hb i hi => (hb.cell (p := ⟨b, f0 + i, none⟩) (cell_lt (hcell i hi))).trans (hcell i hi)
  have HZ : Hid (∀ w', Below w.heap.size w w' → w'.cell? ⟨b, f0, none⟩ = some (.int .u8 z)) := fun w' hb => by have := HC.out w' hb 0 (by omega); rw [hz] at this; exact this
  have HEL : Hid (es.length = L) := hel
  clear hcell hz hel
  have c0 := fun ob => HZ.out _ (new_alloc w ob)
  have hd : ((n : Int) == 0) = false := by simp; omega
  have y1 := hby 1
  rw [e1] at y1
  have y2 := hby 2
  rw [e2] at y2
  have y3 := hby 3
  rw [e3] at y3
  have y4 := hby 4
  rw [e4] at y4
  have D1 : Hid (∀ w', Below w.heap.size w w' → w'.cell? ⟨b, f0 + 1, none⟩ = some (.int .u8 z1)) := fun w' hb => by have := HC.out w' hb 1 (by omega); rw [e1] at this; exact this
  have D2 : Hid (∀ w', Below w.heap.size w w' → w'.cell? ⟨b, f0 + 2, none⟩ = some (.int .u8 z2)) := fun w' hb => by have := HC.out w' hb 2 (by omega); rw [e2] at this; exact this
  have D3 : Hid (∀ w', Below w.heap.size w w' → w'.cell? ⟨b, f0 + 3, none⟩ = some (.int .u8 z3)) := fun w' hb => by have := HC.out w' hb 3 (by omega); rw [e3] at this; exact this
  have D4 : Hid (∀ w', Below w.heap.size w w' → w'.cell? ⟨b, f0 + 4, none⟩ = some (.int .u8 z4)) := fun w' hb => by have := HC.out w' hb 4 (by omega); rw [e4] at this; exact this
  clear e1 e2 e3 e4
  go_enter Tryz.func57, Tryz.ntmps57
  go_wp2_with fail
  refine (hlen _).mono ?_
  rintro e w1 ⟨rfl, hb1⟩
  have hV := (Var4.new w (.int .u8 0) (.int .u8 0) (.int .u8 0) (.int .i32 0) 117).below hb1
  have hbw := below_step (new_alloc w _) hb1
  have c1 := HZ.out _ hbw
  clear hb1 c0 hlen
  go_wp2_with fail
  refine (hof _).mono ?_
  rintro e w2 ⟨rfl, hb2⟩
  have hV2 := hV.below hb2
  have hbw2 := below_step hbw hb2
  clear hV hb2 hbw c1 hof
  go_wp2_with fail
  refine (hfrm _).mono ?_
  rintro e w3 ⟨rfl, hb3⟩
  have hV3 := (hV2.below hb3).push (.cells #[.int .u8 f, .int .i64 L, .bool false, .bool false, .bool true, .bool D] 167)
  have hF3 := At6.new w3 (.int .u8 f) (.int .i64 L) (.bool false) (.bool false) (.bool true) (.bool D) 167
  have hbw3 := below_alloc (below_step hbw2 hb3) (.cells #[.int .u8 f, .int .i64 L, .bool false, .bool false, .bool true, .bool D] 167)
  have lRF : w.heap.size < w3.heap.size := cell_lt (hV2.below hb3).1.1
  clear hV2 hb3 hbw2 hfrm
  go_upto_region 7 with fail
  generalize w3.alloc (.cells #[.int .u8 f, .int .i64 L, .bool false, .bool false, .bool true, .bool D] 167) = w4 at *
  generalize w3.heap.size = gF at *
  have HF4 : Hid (At6 w4 gF (.int .u8 f) (.int .i64 L) (.bool false) (.bool false) (.bool true) (.bool D)) := hF3
  have HV4 : Hid (Var4 w4 w.heap.size (.int .u8 0) (.int .u8 0) (.int .u8 0) (.int .i32 0)) := hV3
  have lF : gF < w4.heap.size := cell_lt hF3.1.1
  have lR : w.heap.size < w4.heap.size := cell_lt hV3.1.1
  have hFp := fun ob => hF3.keep (new_alloc w4 ob) lF
  have f2 := fun ob => (hFp ob).1.2.2
  have f3 := fun ob => (hFp ob).2.1
  have f4 := fun ob => (hFp ob).2.2.1
  have d1 := fun ob => D1.out _ (below_alloc hbw3 ob)
  have d2 := fun ob => D2.out _ (below_alloc hbw3 ob)
  have d3 := fun ob => D3.out _ (below_alloc hbw3 ob)
  have d4 := fun ob => D4.out _ (below_alloc hbw3 ob)
  clear hFp hF3 hV3
  go_wp2_with fail
  go_quiet (fail)
  go_wp2_with fail
  have hI5 : At4 (((w4.alloc (.cells #[.int .u8 o, .int .u8 0, .int .u8 0, .int .i32 0] 117)).drewN nq).setCell ⟨w4.heap.size, 3, none⟩ (.int .i32 (wrap32 (z1 + 256 * z2 + 65536 * z3 + 16777216 * z4)))) w4.heap.size (.int .u8 o) (.int .u8 0) (.int .u8 0) (.int .i32 (wrap32 (z1 + 256 * z2 + 65536 * z3 + 16777216 * z4))) := ((At4.new w4 (.int .u8 o) (.int .u8 0) (.int .u8 0) (.int .i32 0) 117).drewN nq).set3 _
  have hF5 : At6 (((w4.alloc (.cells #[.int .u8 o, .int .u8 0, .int .u8 0, .int .i32 0] 117)).drewN nq).setCell ⟨w4.heap.size, 3, none⟩ (.int .i32 (wrap32 (z1 + 256 * z2 + 65536 * z3 + 16777216 * z4)))) gF (.int .u8 f) (.int .i64 L) (.bool false) (.bool false) (.bool true) (.bool D) := ((HF4.out.below (new_alloc w4 (.cells #[.int .u8 o, .int .u8 0, .int .u8 0, .int .i32 0] 117))).drewN nq).far (by omega)
  have hV5 : Var4 (((w4.alloc (.cells #[.int .u8 o, .int .u8 0, .int .u8 0, .int .i32 0] 117)).drewN nq).setCell ⟨w4.heap.size, 3, none⟩ (.int .i32 (wrap32 (z1 + 256 * z2 + 65536 * z3 + 16777216 * z4)))) w.heap.size (.int .u8 0) (.int .u8 0) (.int .u8 0) (.int .i32 0) := ((HV4.out.push (.cells #[.int .u8 o, .int .u8 0, .int .u8 0, .int .i32 0] 117)).drewN nq).far (by omega)
  have hbw5 : Below w.heap.size w (((w4.alloc (.cells #[.int .u8 o, .int .u8 0, .int .u8 0, .int .i32 0] 117)).drewN nq).setCell ⟨w4.heap.size, 3, none⟩ (.int .i32 (wrap32 (z1 + 256 * z2 + 65536 * z3 + 16777216 * z4)))) := (below_draws (below_alloc hbw3 _) nq).setCell (Nat.le_of_lt lR) _
  clear f2 f3 f4 HF4 HV4 hbw3 d1 d2 d3 d4
  generalize (((w4.alloc (.cells #[.int .u8 o, .int .u8 0, .int .u8 0, .int .i32 0] 117)).drewN nq).setCell ⟨w4.heap.size, 3, none⟩ (.int .i32 (wrap32 (z1 + 256 * z2 + 65536 * z3 + 16777216 * z4)))) = w5 at *
  generalize w4.heap.size = gI at *
  rcases henc with ⟨rfl, he⟩ | ⟨rfl, he⟩
  · refine (he _).mono ?_
    rintro e w6 ⟨gE, cE, rfl, hoE, hb6⟩
    have HI : Hid (At4 w6 gI (.int .u8 o) (.int .u8 0) (.int .u8 0) (.int .i32 (wrap32 (z1 + 256 * z2 + 65536 * z3 + 16777216 * z4)))) := hI5.below hb6
    have HF : Hid (At6 w6 gF (.int .u8 f) (.int .i64 L) (.bool false) (.bool false) (.bool true) (.bool D)) := hF5.below hb6
    have HV : Hid (Var4 w6 w.heap.size (.int .u8 0) (.int .u8 0) (.int .u8 0) (.int .i32 0)) := hV5.below hb6
    have hbw6 := below_step hbw5 hb6
    clear hI5 hF5 hV5 hbw5 hb6 he
    go_wp2_with fail
    go_loopw [14] (fun i wr => ∃ k m : Nat, k ≤ L ∧ i = .int .i64 k ∧ wr = w6.drewN m ∧ ∀ j, j < k → es.getD j 0 = xs.getD j 0) (fun i _ => L - (intOf i).toNat)
    case atStart => exact ⟨0, 0, Nat.zero_le _, rfl, rfl, fun j hj => absurd hj (Nat.not_lt_zero _)⟩
    case round =>
      obtain ⟨k, m, hk, rfl, rfl, hs⟩ := hrel
      have HS : Hid (∀ j, j < k → es.getD j 0 = xs.getD j 0) := hs
      clear hs
      have g1 := HF.out.1.2.1
      by_cases hlt : k < L
      · have q1 := hoE.cell k (by rw [HEL.out]; exact hlt)
        have q2 := HC.out w6 hbw6 k (by omega)
        obtain ⟨x, hx⟩ : ∃ x, x = es.getD k 0 := ⟨_, rfl⟩
        obtain ⟨y, hy⟩ : ∃ y, y = xs.getD k 0 := ⟨_, rfl⟩
        rw [← hx] at q1
        rw [← hy] at q2
        have E1 : Hid (x = es.getD k 0) := hx
        have E2 : Hid (y = xs.getD k 0) := hy
        clear hx hy
        cases hxy : (x != y)
        · go_wp2
          go_quiet (fail)
          go_wp2
          go_roundw
          case rel =>
            refine ⟨k + 1, _, by omega, by go_num, rfl, fun j hj => ?_⟩
            by_cases e : j = k
            · subst e; rw [← E1.out, ← E2.out]; simpa using hxy
            · exact HS.out j (by omega)
          case measure => simp [intOf]; omega
        · obtain ⟨⟨r0, r1, r2, r3⟩, hfr⟩ := HV.out
          go_wp2
          go_quiet (fail)
          have hld : ∀ q, (loadVar 117 ⟨w.heap.size, 0, none⟩).run Tryz.prog (set4 (w6.drewN q) w.heap.size (.int .u8 0) (.int .u8 0) (.int .u8 0) (.int .i32 0)) = .ok (.agg #[.int .u8 0, .int .u8 0, .int .u8 0, .int .i32 0]) (set4 (w6.drewN q) w.heap.size (.int .u8 0) (.int .u8 0) (.int .u8 0) (.int .i32 0)) :=
            fun q => load4 (At4.stored (w := w6.drewN q) HV.out.1 (.int .u8 0) (.int .u8 0) (.int .u8 0) (.int .i32 0))
          have hf : eqB L es xs = false := decide_eq_false fun hh => by
            have := hh k hlt
            rw [← E1.out, ← E2.out] at this
            simp [this] at hxy
          go_wp2
          all_goals exact bodyPost_ret (v := decT 0 0 0 0 0 120) (by simp [results, Tryz.results57, asAddr, hld]) rfl ⟨rfl, below_stored (below_draws hbw6 _) (Nat.le_refl _) _ _ _ _⟩
      · have hf : eqB L es xs = true := decide_eq_true fun j hj => HS.out j (by omega)
        obtain ⟨⟨r0, r1, r2, r3⟩, hfr⟩ := HV.out
        obtain ⟨i0, i1, i2, i3⟩ := HI.out
        go_wp2_with fail
        have hld : ∀ q, (loadVar 117 ⟨w.heap.size, 0, none⟩).run Tryz.prog (set4 (w6.drewN q) w.heap.size (.int .u8 o) (.int .u8 0) (.int .u8 0) (.int .i32 (wrap32 (z1 + 256 * z2 + 65536 * z3 + 16777216 * z4)))) = .ok (.agg #[.int .u8 o, .int .u8 0, .int .u8 0, .int .i32 (wrap32 (z1 + 256 * z2 + 65536 * z3 + 16777216 * z4))]) (set4 (w6.drewN q) w.heap.size (.int .u8 o) (.int .u8 0) (.int .u8 0) (.int .i32 (wrap32 (z1 + 256 * z2 + 65536 * z3 + 16777216 * z4)))) :=
          fun q => load4 (At4.stored (w := w6.drewN q) HV.out.1 (.int .u8 o) (.int .u8 0) (.int .u8 0) (.int .i32 (wrap32 (z1 + 256 * z2 + 65536 * z3 + 16777216 * z4))))
        have n1 : ¬ w.heap.size = gF := by omega
        have n2 : ¬ gF = w.heap.size := by omega
        have n3 : ¬ w.heap.size = gI := by omega
        have n4' : ¬ gI = w.heap.size := by omega
        go_region
        all_goals
          go_wp2
          exact bodyPost_ret (v := decT o 0 0 (wrap32 (z1 + 256 * z2 + 65536 * z3 + 16777216 * z4)) L 0) (by simp [results, Tryz.results57, asAddr, hld]) rfl ⟨rfl, below_stored (below_draws hbw6 _) (Nat.le_refl _) _ _ _ _⟩
  · refine (he _).mono ?_
    rintro e w6 ⟨rfl, hb6⟩
    have hV6 := hV5.below hb6
    have hbw6 := below_step hbw5 hb6
    have HV : Hid (Var4 w6 w.heap.size (.int .u8 0) (.int .u8 0) (.int .u8 0) (.int .i32 0)) := hV6
    obtain ⟨⟨r0, r1, r2, r3⟩, hfr⟩ := hV6
    have hld := load4 (HV.out.1.stored (.int .u8 0) (.int .u8 0) (.int .u8 0) (.int .i32 0))
    clear hI5 hF5 hV5 hb6 hbw5 he
    go_wp2
    exact bodyPost_ret (v := decT 0 0 0 0 0 120) (by simp [results, Tryz.results57, asAddr, hld]) rfl ⟨rfl, below_stored hbw6 (Nat.le_refl _) _ _ _ _⟩

set_option maxRecDepth 16000 in
set_option maxHeartbeats 2000000 in
theorem rdec_TFF (f z o z1 : Int) (L : Nat) (D : Bool) (b f0 n cp : Nat) (xs es : List Int) (R : Bool) (w : World)
    (hlen : ∀ w, Calls Tryz.prog 89 #[.int .u8 z] w fun e w' => e = .returned (.int .i64 L) ∧ Below w.heap.size w w')
    (hof : ∀ w, Calls Tryz.prog 91 #[.int .u8 z] w fun e w' => e = .returned (.tuple #[.int .u8 o, .bool true]) ∧ Below w.heap.size w w')
    (hfrm : ∀ w, Calls Tryz.prog 92 #[.int .u8 o] w fun e w' => e = .returned (.tuple #[frm f L true false false D, .bool true]) ∧ Below w.heap.size w w')
    (henc : (R = true ∧ ∀ w, Calls Tryz.prog 93 #[ins o z1 0 0] w fun e w' => ∃ g cap, e = .returned (.tuple #[.slice (some ⟨g, 0, none⟩) L cap, .int .i64 0]) ∧ Own w' w.heap.size g cap es ∧ Below w.heap.size w w') ∨
      (R = false ∧ ∀ w, Calls Tryz.prog 93 #[ins o z1 0 0] w fun e w' => e = .returned (.tuple #[.slice none 0 0, .int .i64 2]) ∧ Below w.heap.size w w'))
    (hel : es.length = L) (hn : n ≤ 140737488355328) (hl6 : 2 ≤ L) (hl : L ≤ n) (hby : Byt xs) (hz : xs.getD 0 0 = z) (e1 : xs.getD 1 0 = z1) (hcell : ∀ i, i < n → w.cell? ⟨b, f0 + i, none⟩ = some (.int .u8 (xs.getD i 0))) :
    Calls Tryz.prog 57 #[.slice (some ⟨b, f0, none⟩) n cp] w fun e w' => e = .returned (if (R && eqB L es xs) then decT o z1 0 0 L 0 else decT 0 0 0 0 0 120) ∧ Below w.heap.size w w' := by
  have HC : Hid (∀ w', Below w.heap.size w w' → ∀ i, i < n → w'.cell? ⟨b, f0 + i, none⟩ = some (.int .u8 (xs.getD i 0))) := fun w' hb i hi => (hb.cell (p := ⟨b, f0 + i, none⟩) (cell_lt (hcell i hi))).trans (hcell i hi)
  have HZ : Hid (∀ w', Below w.heap.size w w' → w'.cell? ⟨b, f0, none⟩ = some (.int .u8 z)) := fun w' hb => by have := HC.out w' hb 0 (by omega); rw [hz] at this; exact this
  have HEL : Hid (es.length = L) := hel
  clear hcell hz hel
  have c0 := fun ob => HZ.out _ (new_alloc w ob)
  have hd : ((n : Int) == 0) = false := by simp; omega
  have y1 := hby 1
  rw [e1] at y1
  have D1 : Hid (∀ w', Below w.heap.size w w' → w'.cell? ⟨b, f0 + 1, none⟩ = some (.int .u8 z1)) := fun w' hb => by have := HC.out w' hb 1 (by omega); rw [e1] at this; exact this
  clear e1
  go_enter Tryz.func57, Tryz.ntmps57
  go_wp2_with fail
  refine (hlen _).mono ?_
  rintro e w1 ⟨rfl, hb1⟩
  have hV := (Var4.new w (.int .u8 0) (.int .u8 0) (.int .u8 0) (.int .i32 0) 117).below hb1
  have hbw := below_step (new_alloc w _) hb1
  have c1 := HZ.out _ hbw
  clear hb1 c0 hlen
  go_wp2_with fail
  refine (hof _).mono ?_
  rintro e w2 ⟨rfl, hb2⟩
  have hV2 := hV.below hb2
  have hbw2 := below_step hbw hb2
  clear hV hb2 hbw c1 hof
  go_wp2_with fail
  refine (hfrm _).mono ?_
  rintro e w3 ⟨rfl, hb3⟩
  have hV3 := (hV2.below hb3).push (.cells #[.int .u8 f, .int .i64 L, .bool true, .bool false, .bool false, .bool D] 167)
  have hF3 := At6.new w3 (.int .u8 f) (.int .i64 L) (.bool true) (.bool false) (.bool false) (.bool D) 167
  have hbw3 := below_alloc (below_step hbw2 hb3) (.cells #[.int .u8 f, .int .i64 L, .bool true, .bool false, .bool false, .bool D] 167)
  have lRF : w.heap.size < w3.heap.size := cell_lt (hV2.below hb3).1.1
  clear hV2 hb3 hbw2 hfrm
  go_upto_region 7 with fail
  generalize w3.alloc (.cells #[.int .u8 f, .int .i64 L, .bool true, .bool false, .bool false, .bool D] 167) = w4 at *
  generalize w3.heap.size = gF at *
  have HF4 : Hid (At6 w4 gF (.int .u8 f) (.int .i64 L) (.bool true) (.bool false) (.bool false) (.bool D)) := hF3
  have HV4 : Hid (Var4 w4 w.heap.size (.int .u8 0) (.int .u8 0) (.int .u8 0) (.int .i32 0)) := hV3
  have lF : gF < w4.heap.size := cell_lt hF3.1.1
  have lR : w.heap.size < w4.heap.size := cell_lt hV3.1.1
  have hFp := fun ob => hF3.keep (new_alloc w4 ob) lF
  have f2 := fun ob => (hFp ob).1.2.2
  have f3 := fun ob => (hFp ob).2.1
  have f4 := fun ob => (hFp ob).2.2.1
  have d1 := fun ob => D1.out _ (below_alloc hbw3 ob)
  clear hFp hF3 hV3
  go_wp2_with fail
  have hI5 := At4.new w4 (.int .u8 o) (.int .u8 z1) (.int .u8 0) (.int .i32 0) 117
  have hF5 := HF4.out.below (new_alloc w4 (.cells #[.int .u8 o, .int .u8 z1, .int .u8 0, .int .i32 0] 117))
  have hV5 := HV4.out.push (.cells #[.int .u8 o, .int .u8 z1, .int .u8 0, .int .i32 0] 117)
  have hbw5 := below_alloc hbw3 (.cells #[.int .u8 o, .int .u8 z1, .int .u8 0, .int .i32 0] 117)
  clear f2 f3 f4 HF4 HV4 hbw3 d1
  generalize (w4.alloc (.cells #[.int .u8 o, .int .u8 z1, .int .u8 0, .int .i32 0] 117)) = w5 at *
  generalize w4.heap.size = gI at *
  rcases henc with ⟨rfl, he⟩ | ⟨rfl, he⟩
  · refine (he _).mono ?_
    rintro e w6 ⟨gE, cE, rfl, hoE, hb6⟩
    have HI : Hid (At4 w6 gI (.int .u8 o) (.int .u8 z1) (.int .u8 0) (.int .i32 0)) := hI5.below hb6
    have HF : Hid (At6 w6 gF (.int .u8 f) (.int .i64 L) (.bool true) (.bool false) (.bool false) (.bool D)) := hF5.below hb6
    have HV : Hid (Var4 w6 w.heap.size (.int .u8 0) (.int .u8 0) (.int .u8 0) (.int .i32 0)) := hV5.below hb6
    have hbw6 := below_step hbw5 hb6
    clear hI5 hF5 hV5 hbw5 hb6 he
    go_wp2_with fail
    go_loopw [14] (fun i wr => ∃ k m : Nat, k ≤ L ∧ i = .int .i64 k ∧ wr = w6.drewN m ∧ ∀ j, j < k → es.getD j 0 = xs.getD j 0) (fun i _ => L - (intOf i).toNat)
    case atStart => exact ⟨0, 0, Nat.zero_le _, rfl, rfl, fun j hj => absurd hj (Nat.not_lt_zero _)⟩
    case round =>
      obtain ⟨k, m, hk, rfl, rfl, hs⟩ := hrel
      have HS : Hid (∀ j, j < k → es.getD j 0 = xs.getD j 0) := hs
      clear hs
      have g1 := HF.out.1.2.1
      by_cases hlt : k < L
      · have q1 := hoE.cell k (by rw [HEL.out]; exact hlt)
        have q2 := HC.out w6 hbw6 k (by omega)
        obtain ⟨x, hx⟩ : ∃ x, x = es.getD k 0 := ⟨_, rfl⟩
        obtain ⟨y, hy⟩ : ∃ y, y = xs.getD k 0 := ⟨_, rfl⟩
        rw [← hx] at q1
        rw [← hy] at q2
        have E1 : Hid (x = es.getD k 0) := hx
        have E2 : Hid (y = xs.getD k 0) := hy
        clear hx hy
        cases hxy : (x != y)
        · go_wp2
          go_quiet (fail)
          go_wp2
          go_roundw
          case rel =>
            refine ⟨k + 1, _, by omega, by go_num, rfl, fun j hj => ?_⟩
            by_cases e : j = k
            · subst e; rw [← E1.out, ← E2.out]; simpa using hxy
            · exact HS.out j (by omega)
          case measure => simp [intOf]; omega
        · obtain ⟨⟨r0, r1, r2, r3⟩, hfr⟩ := HV.out
          go_wp2
          go_quiet (fail)
          have hld : ∀ q, (loadVar 117 ⟨w.heap.size, 0, none⟩).run Tryz.prog (set4 (w6.drewN q) w.heap.size (.int .u8 0) (.int .u8 0) (.int .u8 0) (.int .i32 0)) = .ok (.agg #[.int .u8 0, .int .u8 0, .int .u8 0, .int .i32 0]) (set4 (w6.drewN q) w.heap.size (.int .u8 0) (.int .u8 0) (.int .u8 0) (.int .i32 0)) :=
            fun q => load4 (At4.stored (w := w6.drewN q) HV.out.1 (.int .u8 0) (.int .u8 0) (.int .u8 0) (.int .i32 0))
          have hf : eqB L es xs = false := decide_eq_false fun hh => by
            have := hh k hlt
            rw [← E1.out, ← E2.out] at this
            simp [this] at hxy
          go_wp2
          all_goals exact bodyPost_ret (v := decT 0 0 0 0 0 120) (by simp [results, Tryz.results57, asAddr, hld]) rfl ⟨rfl, below_stored (below_draws hbw6 _) (Nat.le_refl _) _ _ _ _⟩
      · have hf : eqB L es xs = true := decide_eq_true fun j hj => HS.out j (by omega)
        obtain ⟨⟨r0, r1, r2, r3⟩, hfr⟩ := HV.out
        obtain ⟨i0, i1, i2, i3⟩ := HI.out
        go_wp2_with fail
        have hld : ∀ q, (loadVar 117 ⟨w.heap.size, 0, none⟩).run Tryz.prog (set4 (w6.drewN q) w.heap.size (.int .u8 o) (.int .u8 z1) (.int .u8 0) (.int .i32 0)) = .ok (.agg #[.int .u8 o, .int .u8 z1, .int .u8 0, .int .i32 0]) (set4 (w6.drewN q) w.heap.size (.int .u8 o) (.int .u8 z1) (.int .u8 0) (.int .i32 0)) :=
          fun q => load4 (At4.stored (w := w6.drewN q) HV.out.1 (.int .u8 o) (.int .u8 z1) (.int .u8 0) (.int .i32 0))
        have n1 : ¬ w.heap.size = gF := by omega
        have n2 : ¬ gF = w.heap.size := by omega
        have n3 : ¬ w.heap.size = gI := by omega
        have n4' : ¬ gI = w.heap.size := by omega
        go_region
        all_goals
          go_wp2
          exact bodyPost_ret (v := decT o z1 0 0 L 0) (by simp [results, Tryz.results57, asAddr, hld]) rfl ⟨rfl, below_stored (below_draws hbw6 _) (Nat.le_refl _) _ _ _ _⟩
  · refine (he _).mono ?_
    rintro e w6 ⟨rfl, hb6⟩
    have hV6 := hV5.below hb6
    have hbw6 := below_step hbw5 hb6
    have HV : Hid (Var4 w6 w.heap.size (.int .u8 0) (.int .u8 0) (.int .u8 0) (.int .i32 0)) := hV6
    obtain ⟨⟨r0, r1, r2, r3⟩, hfr⟩ := hV6
    have hld := load4 (HV.out.1.stored (.int .u8 0) (.int .u8 0) (.int .u8 0) (.int .i32 0))
    clear hI5 hF5 hV5 hb6 hbw5 he
    go_wp2
    exact bodyPost_ret (v := decT 0 0 0 0 0 120) (by simp [results, Tryz.results57, asAddr, hld]) rfl ⟨rfl, below_stored hbw6 (Nat.le_refl _) _ _ _ _⟩
end Go.Proofs.YtnpaijbkhmnfpaaGreat
