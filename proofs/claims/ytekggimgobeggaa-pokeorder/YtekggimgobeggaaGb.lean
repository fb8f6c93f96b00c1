/- Texts put together: PokD, PokE, PokF, PokG. -/
import Derived.Test.YtekggimgobeggaaGa
import Derived.Test.YtekggimgobeggaaJmp
import Derived.Maps.OwnOps

/- The pieces of a site: instruction, breakpoint, tail, first. -/
namespace Go.Proofs.Ytekggimgobeggaa
open Go.RowKit Go.Sort

/-- what a piece is made of keeps to -/
structure SiB (x : Si) : Prop where
  a0 : 0 ≤ x.at_
  a1 : x.at_ ≤ 65531
  t0 : 0 ≤ x.to_
  t1 : x.to_ ≤ 65536
theorem newB_len (x : Si) : (newB x).length = 5 := by
  unfold newB
  split
  · exact encL_length 11 0 0 _ (by decide)
  · exact encL_length 3 0 0 0 (by decide)
abbrev siA (x : Si) : Array Value := #[.int .i64 x.key, .int .i64 x.at_, .int .i64 x.to_]
set_option maxRecDepth 20000 in
set_option maxHeartbeats 1000000 in
theorem instr_any (x : Si) (w : World) (hx : SiB x) :
    Calls Try.prog 96 #[.agg (siA x)] w fun e w' => ∃ g cap, e = .returned (.slice (some ⟨g, 0, none⟩) 5 cap) ∧ Own w' w.heap.size g cap (newB x) ∧ Below w.heap.size w w' := by
  obtain ⟨k, a, t⟩ := x
  obtain ⟨a0, a1, t0, t1⟩ := hx
  simp only at a0 a1 t0 t1
  by_cases hk : k = 1
  · subst hk
    have HN : Hid (newB ⟨1, a, t⟩ = encL 11 0 0 (t - (a + 5))) := if_pos rfl
    have hz : IntKind.i32.wrap (t - (a + 5)) = t - (a + 5) := by
      rw [IntKind.wrap_i32]; omega
    generalize newB ⟨1, a, t⟩ = nb at *
    go_enter Try.func96, Try.ntmps96
    go_wp2_with (go_at_call 75; refine Hid.out ?_)
    refine Lib.hid ?_
    refine (jump_any (t - (a + 5)) _).mono ?_
    rintro e w1 ⟨g, cap, rfl, ho, hb⟩
    have HO : Hid (Own w1 w.heap.size g cap nb) := by rw [HN.out]; exact ho.lower (by simp)
    have HB : Hid (Below w.heap.size w w1) := below_step (new_alloc _ _) hb
    clear ho hb
    go_wp2_with fail
    go_ret
    exact ⟨g, cap, rfl, HO.out, HB.out⟩
  · have HN : Hid (newB ⟨k, a, t⟩ = encL 3 0 0 0) := if_neg hk
    generalize newB ⟨k, a, t⟩ = nb at *
    go_enter Try.func96, Try.ntmps96
    go_wp2_with (go_at_call 76; refine Hid.out ?_)
    refine Lib.hid ?_
    refine (quiet_any _).mono ?_
    rintro e w1 ⟨g, cap, rfl, ho, hb⟩
    have HO : Hid (Own w1 w.heap.size g cap nb) := by rw [HN.out]; exact ho.lower (by simp)
    have HB : Hid (Below w.heap.size w w1) := below_step (new_alloc _ _) hb
    clear ho hb
    go_wp2_with fail
    go_ret
    exact ⟨g, cap, rfl, HO.out, HB.out⟩
/-- what a piece answers -/
def PieceIs (w : World) (a : Int) (ys : List Int) : Ending → World → Prop := fun e w' => ∃ p c, e = .returned (.tuple #[.int .i64 a, .slice p ys.length c]) ∧ Row w' p ys ∧ Below w.heap.size w w'
set_option maxRecDepth 20000 in
set_option maxHeartbeats 1000000 in
theorem break_any (x : Si) (w : World) : Calls Try.prog 80 #[.agg (siA x)] w (PieceIs w x.at_ [204]) := by
  obtain ⟨k, a, t⟩ := x
  have hen := encode_yes 4 0 0 0 (w.alloc (.cells #[.int .i64 k, .int .i64 a, .int .i64 t] 48)) (by decide) (by decide) (by simp [rightB, regB, numB, rg, kd])
  have hl : lenN 4 = 1 := by decide
  have hE : encL 4 0 0 0 = [204] := by decide
  rw [hl, hE] at hen
  have HR : Hid (∀ p c w', Row w' p [204] → Below w.heap.size w w' → PieceIs w a [204] (.returned (.tuple #[.int .i64 a, .slice p 1 c])) w') := fun p c w' hr hb => ⟨p, c, rfl, hr, hb⟩
  generalize PieceIs w a [204] = R at *
  clear hl hE
  go_enter Try.func80, Try.ntmps80
  go_wp2_with (go_at_call 91; refine Hid.out ?_)
  refine Lib.hid ?_
  refine hen.mono ?_
  rintro e w1 ⟨g, cap, rfl, ho, hb⟩
  have HO := Hid.in ho.row
  have HB : Hid (Below w.heap.size w w1) := below_step (new_alloc _ _) hb
  have c1 : w1.cell? ⟨w.heap.size, 1, none⟩ = some (.int .i64 a) := by rw [hb.cell (p := ⟨w.heap.size, 1, none⟩) (by simp)]; simp
  clear ho hb hen
  go_wp2_with fail
  exact HR.out _ _ _ HO.out HB.out
theorem Closed.step {md : Region.Mode} {ops : Array Oper} {listed : Array Bool} {j : Nat} (h : Closed md ops listed) (hr : (Region.ready md ops listed).contains j = true) : Closed md ops (listed.setIfInBounds j true) := h.set (by simpa using hr)
theorem sl_lo (g cap : Nat) (h : 5 ≤ cap) (W : World) : (Instr.sliceAt 54 (.slice (some ⟨g, 0, none⟩) 5 cap) (some (.int .i64 1)) none none).run Try.prog W = .ok (.slice (some ⟨g, 1, none⟩) 4 (cap - 1)) W := by
  have hc : ¬ cap = 1 := by omega
  simp [Instr.sliceAt, Instr.slice, Instr.sliceBounds, go_sem, hc]
theorem sl_hi (g cap : Nat) (h : 5 ≤ cap) (W : World) : (Instr.sliceAt 54 (.slice (some ⟨g, 0, none⟩) 5 cap) none (some (.int .i64 1)) none).run Try.prog W = .ok (.slice (some ⟨g, 0, none⟩) 1 cap) W := by
  have h1 : (1 : Int) ≤ (cap : Int) := by omega
  simp [Instr.sliceAt, Instr.slice, Instr.sliceBounds, go_sem, h1]
theorem Row.tail {w : World} {g : Nat} {xs : List Int} (h : Row w (some ⟨g, 0, none⟩) xs) (h0 : 0 < xs.length) : Row w (some ⟨g, 1, none⟩) (xs.drop 1) := fun _ => by
  obtain ⟨b, o, e, hc⟩ := h h0
  injection e with e
  injection e with e1 e2 _
  subst e1
  subst e2
  refine ⟨g, 1, rfl, fun i hi => ?_⟩
  rw [List.length_drop] at hi
  have := hc (1 + i) (by omega)
  rw [Nat.zero_add] at this
  rw [this]
  congr 2
  simp [List.getD, Nat.add_comm]
theorem Row.head {w : World} {g : Nat} {xs : List Int} (h : Row w (some ⟨g, 0, none⟩) xs) (h0 : 0 < xs.length) : Row w (some ⟨g, 0, none⟩) (xs.take 1) := fun _ => by
  obtain ⟨b, o, e, hc⟩ := h h0
  refine ⟨b, o, e, fun i hi => ?_⟩
  rw [List.length_take] at hi
  have hi0 : i = 0 := by omega
  subst hi0
  rw [hc 0 h0]
  congr 2
  simp [List.getD]
set_option maxRecDepth 20000 in
set_option maxHeartbeats 1000000 in
theorem tail_any (x : Si) (w : World) (hx : SiB x) : Calls Try.prog 81 #[.agg (siA x)] w (PieceIs w (x.at_ + 1) ((newB x).drop 1)) := by
  have HR : Hid (∀ g cap w1 w', Own w1 w.heap.size g cap (newB x) → Below w.heap.size w w1 → w' = w1 → PieceIs w (x.at_ + 1) ((newB x).drop 1) (.returned (.tuple #[.int .i64 (x.at_ + 1), .slice (some ⟨g, 1, none⟩) 4 (cap - 1)])) w') := fun g cap w1 w' ho hb hw => by
    subst hw
    have hl := newB_len x
    exact ⟨_, _, by rw [List.length_drop, hl], ho.row.tail (by omega), hb⟩
  have HL := Hid.in (newB_len x)
  have HSB := Hid.in hx
  have hb0 := hx.a0
  have hb1 := hx.a1
  have hin := fun W => instr_any x W HSB.out
  generalize PieceIs w (x.at_ + 1) ((newB x).drop 1) = R at *
  obtain ⟨k, a, t⟩ := x
  simp only at hb0 hb1
  go_enter Try.func81, Try.ntmps81
  go_upto_region 1 with fail
  obtain ⟨w1, hw1⟩ : ∃ w1, w1 = w.alloc (.cells #[.int .i64 k, .int .i64 a, .int .i64 t] 48) := ⟨_, rfl⟩
  rw [← hw1]
  have HX1 : Hid (Blk w1 w.heap.size 48 #[.int .i64 k, .int .i64 a, .int .i64 t]) := by rw [hw1]; exact Blk.new _ _ _
  have HB1 : Hid (Below w.heap.size w w1) := by rw [hw1]; exact new_alloc _ _
  clear hw1
  have x0r := fun d os => cell_regrown (show w1.cell? ⟨w.heap.size, 0, none⟩ = some (.int .i64 k) by rw [HX1.out.cell]; rfl) d os
  have x1r := fun d os => cell_regrown (show w1.cell? ⟨w.heap.size, 1, none⟩ = some (.int .i64 a) by rw [HX1.out.cell]; rfl) d os
  have x2r := fun d os => cell_regrown (show w1.cell? ⟨w.heap.size, 2, none⟩ = some (.int .i64 t) by rw [HX1.out.cell]; rfl) d os
  refine wp_region_noPanic ?_
  refine wp_region_sink 4 [] 4 (by kernel_rfl) (by kernel_rfl) (by kernel_rfl) (by kernel_rfl) (by kernel_rfl) (fun _ _ _ _ _ h => h) ?_
  simp only [List.take_succ_cons, List.take_zero]
  iterate 4 (go_big_quiet_step (fail))
  refine wpQuiet_nil ?_
  rintro _ ⟨⟨dq, osq⟩, rfl⟩
  have HQ := Hid.in (below_regrown w1 dq osq)
  generalize Go.Sort.grow (redrawn w1 dq) osq = w2 at HQ ⊢
  clear x0r x1r x2r
  refine wpAnyG_one (i := 4) (by kernel_rfl) rfl (fun K hK => ?_)
  go_simp
  go_at_call 96
  refine (hin w2).mono ?_
  rintro e w3 ⟨g, cap, rfl, ho, hb⟩
  have hc5 : 5 ≤ cap := by have h1 := ho.cap; rw [HL.out] at h1; exact h1
  have HO := Hid.in (ho.lower (Nat.le_trans HB1.out.size HQ.out.size))
  have HB3 : Hid (Below w.heap.size w w3) := below_step (below_step HB1.out HQ.out) hb
  have HQ3 := Hid.in (below_step HQ.out hb)
  clear ho hb
  refine hK.out _ _ (regrown_of_below HQ3.out) (fun _ => ?_)
  clear hK
  have hs5 := fun W => sl_lo g cap hc5 W
  go_simp
  refine wpAnyG_takeW (i := 5) (v := .slice (some ⟨g, 1, none⟩) 4 (cap - 1)) rfl (by kernel_rfl) (by kernel_rfl) (by kernel_rfl) (fun _ _ _ h => h) (Closed.step (j := 4) (Closed.picked (ex := []) (List.range 4) _ (by kernel_rfl) (Closed.start _)) (by kernel_rfl)) (by kernel_rfl) (fun W => by go_simp) ?_
  clear hs5
  go_simp
  refine wpAnyG_one (i := 6) (by kernel_rfl) rfl (fun K hK => ?_)
  go_simp
  refine hK.out _ _ (regrown_of_below HQ3.out) (fun _ => ?_)
  clear hK
  refine wpAnyG_one (i := 7) (by kernel_rfl) rfl (fun K hK => ?_)
  go_simp
  refine hK.out _ _ (regrown_of_below HQ3.out) (fun _ => ?_)
  clear hK
  refine wpAnyG_done (by kernel_rfl) ?_ _
  refine NoPanic.normal ?_
  go_simp
  go_wp2_with fail
  exact HR.out g cap w3 w3 HO.out HB3.out rfl
set_option maxRecDepth 20000 in
set_option maxHeartbeats 1000000 in
theorem first_any (x : Si) (w : World) (hx : SiB x) : Calls Try.prog 82 #[.agg (siA x)] w (PieceIs w x.at_ ((newB x).take 1)) := by
  have HR : Hid (∀ g cap w1 w', Own w1 w.heap.size g cap (newB x) → Below w.heap.size w w1 → w' = w1 → PieceIs w x.at_ ((newB x).take 1) (.returned (.tuple #[.int .i64 x.at_, .slice (some ⟨g, 0, none⟩) 1 cap])) w') := fun g cap w1 w' ho hb hw => by
    subst hw
    have hl := newB_len x
    exact ⟨_, _, by rw [List.length_take, hl]; rfl, ho.row.head (by omega), hb⟩
  have HL := Hid.in (newB_len x)
  have HSB := Hid.in hx
  have hin := fun W => instr_any x W HSB.out
  generalize PieceIs w x.at_ ((newB x).take 1) = R at *
  obtain ⟨k, a, t⟩ := x
  go_enter Try.func82, Try.ntmps82
  go_upto_region 1 with fail
  obtain ⟨w1, hw1⟩ : ∃ w1, w1 = w.alloc (.cells #[.int .i64 k, .int .i64 a, .int .i64 t] 48) := ⟨_, rfl⟩
  rw [← hw1]
  have HX1 : Hid (Blk w1 w.heap.size 48 #[.int .i64 k, .int .i64 a, .int .i64 t]) := by rw [hw1]; exact Blk.new _ _ _
  have HB1 : Hid (Below w.heap.size w w1) := by rw [hw1]; exact new_alloc _ _
  clear hw1
  have x0r := fun d os => cell_regrown (show w1.cell? ⟨w.heap.size, 0, none⟩ = some (.int .i64 k) by rw [HX1.out.cell]; rfl) d os
  have x1r := fun d os => cell_regrown (show w1.cell? ⟨w.heap.size, 1, none⟩ = some (.int .i64 a) by rw [HX1.out.cell]; rfl) d os
  have x2r := fun d os => cell_regrown (show w1.cell? ⟨w.heap.size, 2, none⟩ = some (.int .i64 t) by rw [HX1.out.cell]; rfl) d os
  refine wp_region_noPanic ?_
  refine wp_region_sink 3 [] 4 (by kernel_rfl) (by kernel_rfl) (by kernel_rfl) (by kernel_rfl) (by kernel_rfl) (fun _ _ _ _ _ h => h) ?_
  simp only [List.take_succ_cons, List.take_zero]
  iterate 3 (go_big_quiet_step (fail))
  refine wpQuiet_nil ?_
  rintro _ ⟨⟨dq, osq⟩, rfl⟩
  have HQ := Hid.in (below_regrown w1 dq osq)
  generalize Go.Sort.grow (redrawn w1 dq) osq = w2 at HQ ⊢
  clear x0r x1r x2r
  refine wpAnyG_one (i := 3) (by kernel_rfl) rfl (fun K hK => ?_)
  go_simp
  go_at_call 96
  refine (hin w2).mono ?_
  rintro e w3 ⟨g, cap, rfl, ho, hb⟩
  have hc5 : 5 ≤ cap := by have h1 := ho.cap; rw [HL.out] at h1; exact h1
  have HO := Hid.in (ho.lower (Nat.le_trans HB1.out.size HQ.out.size))
  have HB3 : Hid (Below w.heap.size w w3) := below_step (below_step HB1.out HQ.out) hb
  have HQ3 := Hid.in (below_step HQ.out hb)
  clear ho hb
  refine hK.out _ _ (regrown_of_below HQ3.out) (fun _ => ?_)
  clear hK
  have hs5 := fun W => sl_hi g cap hc5 W
  go_simp
  refine wpAnyG_takeW (i := 4) (v := .slice (some ⟨g, 0, none⟩) 1 cap) rfl (by kernel_rfl) (by kernel_rfl) (by kernel_rfl) (fun _ _ _ h => h) (Closed.step (j := 3) (Closed.picked (ex := []) (List.range 3) _ (by kernel_rfl) (Closed.start _)) (by kernel_rfl)) (by kernel_rfl) (fun W => by go_simp) ?_
  clear hs5
  go_simp
  refine wpAnyG_one (i := 5) (by kernel_rfl) rfl (fun K hK => ?_)
  go_simp
  refine hK.out _ _ (regrown_of_below HQ3.out) (fun _ => ?_)
  clear hK
  refine wpAnyG_one (i := 6) (by kernel_rfl) rfl (fun K hK => ?_)
  go_simp
  refine hK.out _ _ (regrown_of_below HQ3.out) (fun _ => ?_)
  clear hK
  refine wpAnyG_done (by kernel_rfl) ?_ _
  refine NoPanic.normal ?_
  go_simp
  go_wp2_with fail
  exact HR.out g cap w3 w3 HO.out HB3.out rfl
end Go.Proofs.Ytekggimgobeggaa

/- send. -/
namespace Go.Proofs.Ytekggimgobeggaa
open Go.RowKit Go.Sort

set_option maxRecDepth 20000 in
set_option maxHeartbeats 2000000 in
theorem psend_any (B pq mq mg rq bq : Nat) (lp : Option Addr) (lc : Nat) (s : PS) (p : Option Addr) (c : Nat) (rs : List Bool) (nx : Nat) (w : World) (h : PA w B pq mq mg rq bq lp lc s) (hr : BRow w p rs) (h0 : 0 ≤ s.ct.st) (h1 : s.ct.st ≤ 1000000000000) (k0 : 0 ≤ s.ct.ro) (k1 : s.ct.ro ≤ 1000000000000) (n0 : 0 ≤ s.n) (n1 : s.n ≤ 1000000) :
    Calls Try.prog 95 #[.pointer (some ⟨pq, 0, none⟩), .slice p rs.length c, .int .u8 nx] w (StIs w B pq mq mg rq bq (sndP s rs nx)) := by
  have c1 : w.cell? ⟨pq, 1, none⟩ = some (.pointer (some ⟨rq, 0, none⟩)) := h.c 1 rfl
  have HP := Hid.in h
  by_cases hok : rs.length = s.fs.length ∧ ovr s.fs = true
  · have hsd := send_ok rq c p s.fs rs s.n w h.rnd hr n0 n1 hok.1 hok.2
    have HR : Hid (∀ w' v, EOwn 43 w' w.heap.size v [⟨11, 0, 0, 0, s.n + 1⟩] → PA w' B pq mq mg rq bq lp lc { s with ph := 5, nx := nx, wr := 0, fs := rs, n := s.n + 1, ct := { s.ct with ro := s.ct.ro + 1, st := s.ct.st + 1 } } → Keeps (GP pq mg rq bq) w w' → StIs w B pq mq mg rq bq (sndP s rs nx) (.returned (.tuple #[v, .bool false, .int .i64 0])) w') := fun w' v hv hP hk => by
      unfold sndP; rw [if_pos hok]; exact stIs_of rfl rfl hv hP hk
    generalize StIs w B pq mq mg rq bq (sndP s rs nx) = R at *
    have HSZ := Hid.in h.pat.lt
    clear hok h hr
    go_enter Try.func95, Try.ntmps95
    go_wp2_with (go_at_call 29; refine Hid.out ?_)
    refine Lib.hid ?_
    refine hsd.mono ?_
    rintro e w1 ⟨rfl, hb1, hg1⟩
    have HP1 := Hid.in (HP.out.setR hb1 hg1)
    have HK1 : Hid (Keeps (GP pq mg rq bq) w w1) := keepsR hg1
    have HZ1 : Hid (w.heap.size ≤ w1.heap.size) := hg1.size
    clear hb1 hg1 hsd c1 HP
    have c5 : w1.cell? ⟨pq, 5, none⟩ = some (.int .u8 s.ph) := HP1.out.c 5 rfl
    have c6 : w1.cell? ⟨pq, 6, none⟩ = some (.int .i64 s.wr) := HP1.out.c 6 rfl
    have c7 : w1.cell? ⟨pq, 7, none⟩ = some (.int .u8 s.nx) := HP1.out.c 7 rfl
    have c10 : w1.cell? ⟨pq, 10, none⟩ = some (.int .i64 s.ct.ro) := HP1.out.c 10 rfl
    have c11 : w1.cell? ⟨pq, 11, none⟩ = some (.int .i64 s.ct.st) := HP1.out.c 11 rfl
    have f5 := HP1.out.f 5
    have f6 := HP1.out.f 6
    have f7 := HP1.out.f 7
    have f10 := HP1.out.f 10
    have f11 := HP1.out.f 11
    go_upto_region 7 with fail
    obtain ⟨w2, hw2⟩ : ∃ w2, w2 = ((((w1.setCell ⟨pq, 5, none⟩ (.int .u8 5)).setCell ⟨pq, 7, none⟩ (.int .u8 nx)).setCell ⟨pq, 6, none⟩ (.int .i64 0)).setCell ⟨pq, 10, none⟩ (.int .i64 (s.ct.ro + 1))).setCell ⟨pq, 11, none⟩ (.int .i64 (s.ct.st + 1)) := ⟨_, rfl⟩
    rw [← hw2]
    have HG2 : Hid (w1.grownBy w2 (some pq)) := by rw [hw2]; exact ((((grown_setCell _ _ _ _).trans (grown_setCell _ _ _ _)).trans (grown_setCell _ _ _ _)).trans (grown_setCell _ _ _ _)).trans (grown_setCell _ _ _ _)
    have HP2 : Hid (PA w2 B pq mq mg rq bq lp lc { s with ph := 5, nx := nx, wr := 0, fs := rs, n := s.n + 1, ct := { s.ct with ro := s.ct.ro + 1, st := s.ct.st + 1 } }) := by
      refine HP1.out.setP (s' := { s with ph := 5, nx := nx, wr := 0, fs := rs, n := s.n + 1, ct := { s.ct with ro := s.ct.ro + 1, st := s.ct.st + 1 } }) ?_ HG2.out HP1.out.row HP1.out.lcl HP1.out.lcm rfl rfl rfl rfl
      rw [hw2]
      exact ((((HP1.out.pat.set 5 _).set 7 _).set 6 _).set 10 _).set 11 _
    clear hw2 c5 c6 c7 c10 c11 f5 f6 f7 f10 f11
    have HE := Hid.in (EOwn.one w2 ⟨11, 0, 0, 0, s.n + 1⟩)
    have HL2 : Hid (w.heap.size ≤ w2.heap.size) := Nat.le_trans HZ1.out HG2.out.size
    go_wp2_with fail
    go_ret3
    exact HR.out _ _ (HE.out.lower HL2.out) (HP2.out.below (new_alloc _ _)) ((HK1.out.trans' (keepsP HG2.out)).alloc _)
  · have hsd := send_bad rq c p s.fs rs s.n w h.rnd (by
      by_cases h5 : rs.length = s.fs.length
      · exact .inr (by cases ho : ovr s.fs; rfl; exact absurd ⟨h5, ho⟩ hok)
      · exact .inl h5)
    have HR : Hid (StIs w B pq mq mg rq bq (sndP s rs nx) (.returned (.tuple #[.slice none 0 0, .bool false, .int .i64 2])) w) := by
      unfold sndP; rw [if_neg hok]; exact stIs_of rfl rfl (EOwn.nil _ _ _) h (Keeps.refl _ _)
    generalize StIs w B pq mq mg rq bq (sndP s rs nx) = R at *
    clear hok h hr HP
    go_enter Try.func95, Try.ntmps95
    go_wp2_with (go_at_call 29; refine Hid.out ?_)
    refine Lib.hid ?_
    refine hsd.mono ?_
    rintro e w1 ⟨rfl, hw⟩
    rw [hw]
    clear hw
    go_wp2_with fail
    go_ret3
    exact HR.out
end Go.Proofs.Ytekggimgobeggaa

/- write: a piece of the batch's next site, or the sync. -/
namespace Go.Proofs.Ytekggimgobeggaa
open Go.RowKit Go.Sort

theorem StIs.from {w w1 : World} {B pq mq mg rq bq : Nat} {a : SA} {e : Ending} {w' : World} (h : StIs w1 B pq mq mg rq bq a e w') (hb : Below w.heap.size w w1) : StIs w B pq mq mg rq bq a e w' := by
  obtain ⟨v, lp, lc, he, hv, hP, hk⟩ := h
  exact ⟨v, lp, lc, he, hv.lower hb.size, hP, (Keeps.ofBelow hb).trans' hk⟩
/-- what the sites of a batch keep to -/
def BtOk (L : List Si) : Prop := ∀ x ∈ L, 0 ≤ x.to_ ∧ x.to_ ≤ 65536
theorem BtOk.sib {L : List Si} (h : BtOk L) (hs : Srt L) (i : Nat) (hi : i < L.length) : SiB L[i] := ⟨hs.lo i hi, hs.hi i hi, (h _ (List.getElem_mem hi)).1, (h _ (List.getElem_mem hi)).2⟩
theorem piece_len (ph : Nat) (x : Si) : (pieceP ph x).2.length ≤ 5 := by
  unfold pieceP
  have h := newB_len x
  split
  · simp
  · split
    · simp [h]
    · simp [h]
theorem piece_bd (ph : Nat) (x : Si) (h : SiB x) : 0 ≤ (pieceP ph x).1 ∧ (pieceP ph x).1 ≤ 65536 := by
  unfold pieceP
  have h1 := h.a0
  have h2 := h.a1
  split
  · exact ⟨h1, by show x.at_ ≤ _; omega⟩
  · split
    · exact ⟨by show 0 ≤ x.at_ + 1; omega, by show x.at_ + 1 ≤ _; omega⟩
    · exact ⟨h1, by show x.at_ ≤ _; omega⟩

set_option maxRecDepth 20000 in
set_option maxHeartbeats 4000000 in
theorem pwrite_2 (B pq mq mg rq bq : Nat) (lp : Option Addr) (lc : Nat) (s : PS) (p : Option Addr) (c : Nat) (rs : List Bool) (w : World) (h : PA w B pq mq mg rq bq lp lc s) (hr : BRow w p rs) (hph : s.ph = 2) (hwr : s.wr ≤ s.bt.length) (hbt : BtOk s.bt) (hxl : s.xs.length ≤ 65536)
    (h0 : 0 ≤ s.ct.st) (h1 : s.ct.st ≤ 1000000000000) (k0 : 0 ≤ s.ct.ro) (k1 : s.ct.ro ≤ 1000000000000) (m0 : 0 ≤ s.ct.wr) (m1 : s.ct.wr ≤ 1000000000000) (n0 : 0 ≤ s.n) (n1 : s.n ≤ 1000000) :
    Calls Try.prog 79 #[.pointer (some ⟨pq, 0, none⟩), .slice p rs.length c, .func (.func 80) #[] #[], .int .u8 3] w (StIs w B pq mq mg rq bq (wriP s rs)) := by
  have c2 : w.cell? ⟨pq, 2, none⟩ = some (.pointer (some ⟨bq, 0, none⟩)) := h.c 2 rfl
  have hall := ball_any bq s.bt w h.bat
  have HP := Hid.in h
  have HBR := Hid.in hr
  have hle : s.bt.length ≤ 4 := h.bat.le
  have HSR := Hid.in h.bat.srt
  by_cases hw : s.wr = s.bt.length
  · have HR : Hid (∀ e w', StIs w B pq mq mg rq bq (sndP s rs 3) e w' → StIs w B pq mq mg rq bq (wriP s rs) e w') := fun e w' hh => by
      unfold wriP
      rw [hw, List.getElem?_eq_none (Nat.le_refl _), hph]
      exact hh
    generalize StIs w B pq mq mg rq bq (wriP s rs) = R at *
    clear h hr
    go_enter Try.func79, Try.ntmps79
    go_wp2_with (go_at_call 59; refine Hid.out ?_)
    refine Lib.hid ?_
    refine hall.mono ?_
    rintro e w1 ⟨v, rfl, ht, hb⟩
    obtain ⟨p1, q1, hv, -, -, -⟩ := ht.rowS
    subst hv
    have HP1 := Hid.in (HP.out.below hb)
    have HB1 := Hid.in hb
    have c6 : w1.cell? ⟨pq, 6, none⟩ = some (.int .i64 s.wr) := HP1.out.c 6 rfl
    have hsd := psend_any B pq mq mg rq bq lp lc s p c rs 3 w1 HP1.out (HBR.out.below hb) h0 h1 k0 k1 n0 n1
    clear ht hb hall c2 HP
    rw [hw] at c6
    generalize s.bt.length = bl at *
    go_wp2_with (go_at_call 95; refine Hid.out ?_)
    refine Lib.hid ?_
    refine hsd.mono ?_
    rintro e w2 ⟨v, lp', lc', rfl, hv, hP, hk⟩
    have HST := Hid.in ((stIs_of rfl rfl hv hP hk).from HB1.out)
    obtain ⟨pv, cv, ev, -⟩ := hv.shape
    clear hv hP hk hsd
    generalize sndP s rs 3 = ca at *
    subst ev
    go_wp2_with fail
    go_ret3
    exact HR.out _ _ HST.out
  · have hlt : s.wr < s.bt.length := by omega
    obtain ⟨x, hx⟩ : ∃ x, x = s.bt[s.wr] := ⟨_, rfl⟩
    have HSB : Hid (SiB x) := by rw [hx]; exact hbt.sib HSR.out _ hlt
    have HGX : Hid (s.bt[s.wr]? = some x) := by rw [hx]; exact List.getElem?_eq_getElem hlt
    have hpl := piece_len 2 x
    have hpb := piece_bd 2 x HSB.out
    have HPC : Hid (∀ W, Calls Try.prog 80 #[.agg (siA x)] W (PieceIs W (pieceP 2 x).1 (pieceP 2 x).2)) := fun W => break_any x W
    obtain ⟨pa, ys, hpy⟩ : ∃ pa ys, (pa, ys) = pieceP 2 x := ⟨_, _, rfl⟩
    have HPY := Hid.in hpy
    rw [← hpy] at HPC hpl hpb
    simp only at hpl hpb
    have HPC' : Hid (∀ W, Calls Try.prog 80 #[.agg (siA x)] W (PieceIs W pa ys)) := HPC.out
    clear hpy HPC
    have HW : Hid (wriP s rs = if 0 ≤ pa ∧ pa ≤ (s.xs.length : Int) - ys.length then ⟨{ s with xs := putA s.xs pa.toNat ys, wr := s.wr + 1, ct := { s.ct with wr := s.ct.wr + 1, st := s.ct.st + 1 } }, [⟨10, 0, pa, 0, ys.length⟩], false, 0⟩ else ⟨s, [], false, 2⟩) := by
      show wriP s rs = _
      unfold wriP
      rw [HGX.out, hph]
      show (if 0 ≤ (pieceP 2 x).1 ∧ _ then _ else _) = _
      rw [← HPY.out]
    obtain ⟨R, hR⟩ : ∃ R, R = StIs w B pq mq mg rq bq (wriP s rs) := ⟨_, rfl⟩
    rw [← hR]
    have HRe := Hid.in hR
    clear hR h hr
    go_enter Try.func79, Try.ntmps79
    go_wp2_with (go_at_call 59; refine Hid.out ?_)
    refine Lib.hid ?_
    refine hall.mono ?_
    rintro e w1 ⟨v, rfl, ht, hb⟩
    obtain ⟨p1, q1, hv, -, -, hrow⟩ := ht.rowS
    subst hv
    have HP1 := Hid.in (HP.out.below hb)
    have HB1 := Hid.in hb
    obtain ⟨b, o, cur, rfl, -, -, hc⟩ := hrow (by omega)
    have d0 : w1.cell? ⟨b, o + s.wr * 3, none⟩ = some (.int .i64 x.key) := by have := hc s.wr hlt 0 (by decide); rw [← hx] at this; exact this
    have d1 : w1.cell? ⟨b, o + s.wr * 3 + 1, none⟩ = some (.int .i64 x.at_) := by have := hc s.wr hlt 1 (by decide); rw [← hx] at this; exact this
    have d2 : w1.cell? ⟨b, o + s.wr * 3 + 2, none⟩ = some (.int .i64 x.to_) := by have := hc s.wr hlt 2 (by decide); rw [← hx] at this; exact this
    have c6 : w1.cell? ⟨pq, 6, none⟩ = some (.int .i64 s.wr) := HP1.out.c 6 rfl
    clear ht hb hall c2 HP hc hrow hx HGX HPY
    have hne : ¬ (s.wr : Int) = s.bt.length := by omega
    go_wp2_with (go_at_call 80; refine Hid.out ?_)
    refine Lib.hid ?_
    refine (HPC'.out w1).mono ?_
    rintro e w2 ⟨py, cy, rfl, hrow2, hb2⟩
    have HP2 := Hid.in (HP1.out.below hb2)
    have HB2 := Hid.in (below_step HB1.out hb2)
    have HRY := Hid.in hrow2
    clear hrow2 hb2 HP1 HB1 d0 d1 d2 c6 HPC'
    have c0 : w2.cell? ⟨pq, 0, none⟩ = some (.pointer (some ⟨mq, 0, none⟩)) := HP2.out.c 0 rfl
    by_cases hfit : 0 ≤ pa ∧ pa ≤ (s.xs.length : Int) - ys.length
    · have HW2 := HW.out
      rw [if_pos hfit] at HW2
      obtain ⟨a, rfl⟩ : ∃ a : Nat, pa = a := ⟨pa.toNat, by omega⟩
      have hwk := write_ok mq mg B a cy py s.xs ys w2 HP2.out.mem HRY.out (by omega) hxl
      rw [Int.toNat_natCast] at HW2
      have HR : Hid (∀ w' v, EOwn 43 w' w.heap.size v [⟨10, 0, a, 0, ys.length⟩] → PA w' B pq mq mg rq bq lp lc { s with xs := putA s.xs a ys, wr := s.wr + 1, ct := { s.ct with wr := s.ct.wr + 1, st := s.ct.st + 1 } } → Keeps (GP pq mg rq bq) w w' → R (.returned (.tuple #[v, .bool false, .int .i64 0])) w') := fun w' v hv hP hk => by
        rw [HRe.out, HW2]; exact stIs_of rfl rfl hv hP hk
      clear HW HW2 hfit hpb
      go_wp2_with (go_at_call 31; refine Hid.out ?_)
      refine Lib.hid ?_
      refine hwk.mono ?_
      rintro e w3 ⟨rfl, hm3, hk3⟩
      have HP3 := Hid.in (HP2.out.setM hm3 hk3)
      have HK3 : Hid (Keeps (GP pq mg rq bq) w w3) := (Keeps.ofBelow HB2.out).trans' (keepsM hk3)
      have HZ3 : Hid (w.heap.size ≤ w3.heap.size) := HK3.out.size
      clear hm3 hk3 hwk c0 HP2 HRY
      have c6 : w3.cell? ⟨pq, 6, none⟩ = some (.int .i64 s.wr) := HP3.out.c 6 rfl
      have c9 : w3.cell? ⟨pq, 9, none⟩ = some (.int .i64 s.ct.wr) := HP3.out.c 9 rfl
      have c11 : w3.cell? ⟨pq, 11, none⟩ = some (.int .i64 s.ct.st) := HP3.out.c 11 rfl
      have f6 := HP3.out.f 6
      have f9 := HP3.out.f 9
      have f11 := HP3.out.f 11
      go_upto_region 10 with fail
      obtain ⟨w4, hw4⟩ : ∃ w4, w4 = ((w3.setCell ⟨pq, 6, none⟩ (.int .i64 ((s.wr : Int) + 1))).setCell ⟨pq, 9, none⟩ (.int .i64 (s.ct.wr + 1))).setCell ⟨pq, 11, none⟩ (.int .i64 (s.ct.st + 1)) := ⟨_, rfl⟩
      rw [← hw4]
      have HG4 : Hid (w3.grownBy w4 (some pq)) := by rw [hw4]; exact ((grown_setCell _ _ _ _).trans (grown_setCell _ _ _ _)).trans (grown_setCell _ _ _ _)
      have HP4 : Hid (PA w4 B pq mq mg rq bq lp lc { s with xs := putA s.xs a ys, wr := s.wr + 1, ct := { s.ct with wr := s.ct.wr + 1, st := s.ct.st + 1 } }) := by
        refine HP3.out.setP (s' := { s with xs := putA s.xs a ys, wr := s.wr + 1, ct := { s.ct with wr := s.ct.wr + 1, st := s.ct.st + 1 } }) ?_ HG4.out HP3.out.row HP3.out.lcl HP3.out.lcm rfl rfl rfl rfl
        rw [hw4]
        exact ((HP3.out.pat.set 6 _).set 9 _).set 11 _
      clear hw4 c6 c9 c11 f6 f9 f11
      have HE := Hid.in (EOwn.one w4 ⟨10, 0, a, 0, ys.length⟩)
      have HL4 : Hid (w.heap.size ≤ w4.heap.size) := Nat.le_trans HZ3.out HG4.out.size
      generalize ys.length = yl at *
      go_wp2_with fail
      go_ret3
      exact HR.out _ _ (HE.out.lower HL4.out) (HP4.out.below (new_alloc _ _)) ((HK3.out.trans' (keepsP HG4.out)).alloc _)
    · have HW2 := HW.out
      rw [if_neg hfit] at HW2
      have hwk := write_out mq mg B ys.length cy py pa s.xs w2 HP2.out.mem (by omega) hfit
      have HR : Hid (R (.returned (.tuple #[.slice none 0 0, .bool false, .int .i64 2])) w2) := by
        rw [HRe.out, HW2]; exact stIs_of rfl rfl (EOwn.nil _ _ _) HP2.out (Keeps.ofBelow HB2.out)
      clear HW HW2 hfit hpb
      go_wp2_with (go_at_call 31; refine Hid.out ?_)
      refine Lib.hid ?_
      refine hwk.mono ?_
      rintro e w3 ⟨rfl, hw⟩
      rw [hw]
      clear hw
      go_wp2_with fail
      go_ret3
      exact HR.out

set_option maxRecDepth 20000 in
set_option maxHeartbeats 4000000 in
theorem pwrite_3 (B pq mq mg rq bq : Nat) (lp : Option Addr) (lc : Nat) (s : PS) (p : Option Addr) (c : Nat) (rs : List Bool) (w : World) (h : PA w B pq mq mg rq bq lp lc s) (hr : BRow w p rs) (hph : s.ph = 3) (hwr : s.wr ≤ s.bt.length) (hbt : BtOk s.bt) (hxl : s.xs.length ≤ 65536)
    (h0 : 0 ≤ s.ct.st) (h1 : s.ct.st ≤ 1000000000000) (k0 : 0 ≤ s.ct.ro) (k1 : s.ct.ro ≤ 1000000000000) (m0 : 0 ≤ s.ct.wr) (m1 : s.ct.wr ≤ 1000000000000) (n0 : 0 ≤ s.n) (n1 : s.n ≤ 1000000) :
    Calls Try.prog 79 #[.pointer (some ⟨pq, 0, none⟩), .slice p rs.length c, .func (.func 81) #[] #[], .int .u8 4] w (StIs w B pq mq mg rq bq (wriP s rs)) := by
  have c2 : w.cell? ⟨pq, 2, none⟩ = some (.pointer (some ⟨bq, 0, none⟩)) := h.c 2 rfl
  have hall := ball_any bq s.bt w h.bat
  have HP := Hid.in h
  have HBR := Hid.in hr
  have hle : s.bt.length ≤ 4 := h.bat.le
  have HSR := Hid.in h.bat.srt
  by_cases hw : s.wr = s.bt.length
  · have HR : Hid (∀ e w', StIs w B pq mq mg rq bq (sndP s rs 4) e w' → StIs w B pq mq mg rq bq (wriP s rs) e w') := fun e w' hh => by
      unfold wriP
      rw [hw, List.getElem?_eq_none (Nat.le_refl _), hph]
      exact hh
    generalize StIs w B pq mq mg rq bq (wriP s rs) = R at *
    clear h hr
    go_enter Try.func79, Try.ntmps79
    go_wp2_with (go_at_call 59; refine Hid.out ?_)
    refine Lib.hid ?_
    refine hall.mono ?_
    rintro e w1 ⟨v, rfl, ht, hb⟩
    obtain ⟨p1, q1, hv, -, -, -⟩ := ht.rowS
    subst hv
    have HP1 := Hid.in (HP.out.below hb)
    have HB1 := Hid.in hb
    have c6 : w1.cell? ⟨pq, 6, none⟩ = some (.int .i64 s.wr) := HP1.out.c 6 rfl
    have hsd := psend_any B pq mq mg rq bq lp lc s p c rs 4 w1 HP1.out (HBR.out.below hb) h0 h1 k0 k1 n0 n1
    clear ht hb hall c2 HP
    rw [hw] at c6
    generalize s.bt.length = bl at *
    go_wp2_with (go_at_call 95; refine Hid.out ?_)
    refine Lib.hid ?_
    refine hsd.mono ?_
    rintro e w2 ⟨v, lp', lc', rfl, hv, hP, hk⟩
    have HST := Hid.in ((stIs_of rfl rfl hv hP hk).from HB1.out)
    obtain ⟨pv, cv, ev, -⟩ := hv.shape
    clear hv hP hk hsd
    generalize sndP s rs 4 = ca at *
    subst ev
    go_wp2_with fail
    go_ret3
    exact HR.out _ _ HST.out
  · have hlt : s.wr < s.bt.length := by omega
    obtain ⟨x, hx⟩ : ∃ x, x = s.bt[s.wr] := ⟨_, rfl⟩
    have HSB : Hid (SiB x) := by rw [hx]; exact hbt.sib HSR.out _ hlt
    have HGX : Hid (s.bt[s.wr]? = some x) := by rw [hx]; exact List.getElem?_eq_getElem hlt
    have hpl := piece_len 3 x
    have hpb := piece_bd 3 x HSB.out
    have HPC : Hid (∀ W, Calls Try.prog 81 #[.agg (siA x)] W (PieceIs W (pieceP 3 x).1 (pieceP 3 x).2)) := fun W => tail_any x W HSB.out
    obtain ⟨pa, ys, hpy⟩ : ∃ pa ys, (pa, ys) = pieceP 3 x := ⟨_, _, rfl⟩
    have HPY := Hid.in hpy
    rw [← hpy] at HPC hpl hpb
    simp only at hpl hpb
    have HPC' : Hid (∀ W, Calls Try.prog 81 #[.agg (siA x)] W (PieceIs W pa ys)) := HPC.out
    clear hpy HPC
    have HW : Hid (wriP s rs = if 0 ≤ pa ∧ pa ≤ (s.xs.length : Int) - ys.length then ⟨{ s with xs := putA s.xs pa.toNat ys, wr := s.wr + 1, ct := { s.ct with wr := s.ct.wr + 1, st := s.ct.st + 1 } }, [⟨10, 0, pa, 0, ys.length⟩], false, 0⟩ else ⟨s, [], false, 2⟩) := by
      show wriP s rs = _
      unfold wriP
      rw [HGX.out, hph]
      show (if 0 ≤ (pieceP 3 x).1 ∧ _ then _ else _) = _
      rw [← HPY.out]
    obtain ⟨R, hR⟩ : ∃ R, R = StIs w B pq mq mg rq bq (wriP s rs) := ⟨_, rfl⟩
    rw [← hR]
    have HRe := Hid.in hR
    clear hR h hr
    go_enter Try.func79, Try.ntmps79
    go_wp2_with (go_at_call 59; refine Hid.out ?_)
    refine Lib.hid ?_
    refine hall.mono ?_
    rintro e w1 ⟨v, rfl, ht, hb⟩
    obtain ⟨p1, q1, hv, -, -, hrow⟩ := ht.rowS
    subst hv
    have HP1 := Hid.in (HP.out.below hb)
    have HB1 := Hid.in hb
    obtain ⟨b, o, cur, rfl, -, -, hc⟩ := hrow (by omega)
    have d0 : w1.cell? ⟨b, o + s.wr * 3, none⟩ = some (.int .i64 x.key) := by have := hc s.wr hlt 0 (by decide); rw [← hx] at this; exact this
    have d1 : w1.cell? ⟨b, o + s.wr * 3 + 1, none⟩ = some (.int .i64 x.at_) := by have := hc s.wr hlt 1 (by decide); rw [← hx] at this; exact this
    have d2 : w1.cell? ⟨b, o + s.wr * 3 + 2, none⟩ = some (.int .i64 x.to_) := by have := hc s.wr hlt 2 (by decide); rw [← hx] at this; exact this
    have c6 : w1.cell? ⟨pq, 6, none⟩ = some (.int .i64 s.wr) := HP1.out.c 6 rfl
    clear ht hb hall c2 HP hc hrow hx HGX HPY
    have hne : ¬ (s.wr : Int) = s.bt.length := by omega
    go_wp2_with (go_at_call 81; refine Hid.out ?_)
    refine Lib.hid ?_
    refine (HPC'.out w1).mono ?_
    rintro e w2 ⟨py, cy, rfl, hrow2, hb2⟩
    have HP2 := Hid.in (HP1.out.below hb2)
    have HB2 := Hid.in (below_step HB1.out hb2)
    have HRY := Hid.in hrow2
    clear hrow2 hb2 HP1 HB1 d0 d1 d2 c6 HPC'
    have c0 : w2.cell? ⟨pq, 0, none⟩ = some (.pointer (some ⟨mq, 0, none⟩)) := HP2.out.c 0 rfl
    by_cases hfit : 0 ≤ pa ∧ pa ≤ (s.xs.length : Int) - ys.length
    · have HW2 := HW.out
      rw [if_pos hfit] at HW2
      obtain ⟨a, rfl⟩ : ∃ a : Nat, pa = a := ⟨pa.toNat, by omega⟩
      have hwk := write_ok mq mg B a cy py s.xs ys w2 HP2.out.mem HRY.out (by omega) hxl
      rw [Int.toNat_natCast] at HW2
      have HR : Hid (∀ w' v, EOwn 43 w' w.heap.size v [⟨10, 0, a, 0, ys.length⟩] → PA w' B pq mq mg rq bq lp lc { s with xs := putA s.xs a ys, wr := s.wr + 1, ct := { s.ct with wr := s.ct.wr + 1, st := s.ct.st + 1 } } → Keeps (GP pq mg rq bq) w w' → R (.returned (.tuple #[v, .bool false, .int .i64 0])) w') := fun w' v hv hP hk => by
        rw [HRe.out, HW2]; exact stIs_of rfl rfl hv hP hk
      clear HW HW2 hfit hpb
      go_wp2_with (go_at_call 31; refine Hid.out ?_)
      refine Lib.hid ?_
      refine hwk.mono ?_
      rintro e w3 ⟨rfl, hm3, hk3⟩
      have HP3 := Hid.in (HP2.out.setM hm3 hk3)
      have HK3 : Hid (Keeps (GP pq mg rq bq) w w3) := (Keeps.ofBelow HB2.out).trans' (keepsM hk3)
      have HZ3 : Hid (w.heap.size ≤ w3.heap.size) := HK3.out.size
      clear hm3 hk3 hwk c0 HP2 HRY
      have c6 : w3.cell? ⟨pq, 6, none⟩ = some (.int .i64 s.wr) := HP3.out.c 6 rfl
      have c9 : w3.cell? ⟨pq, 9, none⟩ = some (.int .i64 s.ct.wr) := HP3.out.c 9 rfl
      have c11 : w3.cell? ⟨pq, 11, none⟩ = some (.int .i64 s.ct.st) := HP3.out.c 11 rfl
      have f6 := HP3.out.f 6
      have f9 := HP3.out.f 9
      have f11 := HP3.out.f 11
      go_upto_region 10 with fail
      obtain ⟨w4, hw4⟩ : ∃ w4, w4 = ((w3.setCell ⟨pq, 6, none⟩ (.int .i64 ((s.wr : Int) + 1))).setCell ⟨pq, 9, none⟩ (.int .i64 (s.ct.wr + 1))).setCell ⟨pq, 11, none⟩ (.int .i64 (s.ct.st + 1)) := ⟨_, rfl⟩
      rw [← hw4]
      have HG4 : Hid (w3.grownBy w4 (some pq)) := by rw [hw4]; exact ((grown_setCell _ _ _ _).trans (grown_setCell _ _ _ _)).trans (grown_setCell _ _ _ _)
      have HP4 : Hid (PA w4 B pq mq mg rq bq lp lc { s with xs := putA s.xs a ys, wr := s.wr + 1, ct := { s.ct with wr := s.ct.wr + 1, st := s.ct.st + 1 } }) := by
        refine HP3.out.setP (s' := { s with xs := putA s.xs a ys, wr := s.wr + 1, ct := { s.ct with wr := s.ct.wr + 1, st := s.ct.st + 1 } }) ?_ HG4.out HP3.out.row HP3.out.lcl HP3.out.lcm rfl rfl rfl rfl
        rw [hw4]
        exact ((HP3.out.pat.set 6 _).set 9 _).set 11 _
      clear hw4 c6 c9 c11 f6 f9 f11
      have HE := Hid.in (EOwn.one w4 ⟨10, 0, a, 0, ys.length⟩)
      have HL4 : Hid (w.heap.size ≤ w4.heap.size) := Nat.le_trans HZ3.out HG4.out.size
      generalize ys.length = yl at *
      go_wp2_with fail
      go_ret3
      exact HR.out _ _ (HE.out.lower HL4.out) (HP4.out.below (new_alloc _ _)) ((HK3.out.trans' (keepsP HG4.out)).alloc _)
    · have HW2 := HW.out
      rw [if_neg hfit] at HW2
      have hwk := write_out mq mg B ys.length cy py pa s.xs w2 HP2.out.mem (by omega) hfit
      have HR : Hid (R (.returned (.tuple #[.slice none 0 0, .bool false, .int .i64 2])) w2) := by
        rw [HRe.out, HW2]; exact stIs_of rfl rfl (EOwn.nil _ _ _) HP2.out (Keeps.ofBelow HB2.out)
      clear HW HW2 hfit hpb
      go_wp2_with (go_at_call 31; refine Hid.out ?_)
      refine Lib.hid ?_
      refine hwk.mono ?_
      rintro e w3 ⟨rfl, hw⟩
      rw [hw]
      clear hw
      go_wp2_with fail
      go_ret3
      exact HR.out

set_option maxRecDepth 20000 in
set_option maxHeartbeats 4000000 in
theorem pwrite_4 (B pq mq mg rq bq : Nat) (lp : Option Addr) (lc : Nat) (s : PS) (p : Option Addr) (c : Nat) (rs : List Bool) (w : World) (h : PA w B pq mq mg rq bq lp lc s) (hr : BRow w p rs) (hph : s.ph = 4) (hwr : s.wr ≤ s.bt.length) (hbt : BtOk s.bt) (hxl : s.xs.length ≤ 65536)
    (h0 : 0 ≤ s.ct.st) (h1 : s.ct.st ≤ 1000000000000) (k0 : 0 ≤ s.ct.ro) (k1 : s.ct.ro ≤ 1000000000000) (m0 : 0 ≤ s.ct.wr) (m1 : s.ct.wr ≤ 1000000000000) (n0 : 0 ≤ s.n) (n1 : s.n ≤ 1000000) :
    Calls Try.prog 79 #[.pointer (some ⟨pq, 0, none⟩), .slice p rs.length c, .func (.func 82) #[] #[], .int .u8 6] w (StIs w B pq mq mg rq bq (wriP s rs)) := by
  have c2 : w.cell? ⟨pq, 2, none⟩ = some (.pointer (some ⟨bq, 0, none⟩)) := h.c 2 rfl
  have hall := ball_any bq s.bt w h.bat
  have HP := Hid.in h
  have HBR := Hid.in hr
  have hle : s.bt.length ≤ 4 := h.bat.le
  have HSR := Hid.in h.bat.srt
  by_cases hw : s.wr = s.bt.length
  · have HR : Hid (∀ e w', StIs w B pq mq mg rq bq (sndP s rs 6) e w' → StIs w B pq mq mg rq bq (wriP s rs) e w') := fun e w' hh => by
      unfold wriP
      rw [hw, List.getElem?_eq_none (Nat.le_refl _), hph]
      exact hh
    generalize StIs w B pq mq mg rq bq (wriP s rs) = R at *
    clear h hr
    go_enter Try.func79, Try.ntmps79
    go_wp2_with (go_at_call 59; refine Hid.out ?_)
    refine Lib.hid ?_
    refine hall.mono ?_
    rintro e w1 ⟨v, rfl, ht, hb⟩
    obtain ⟨p1, q1, hv, -, -, -⟩ := ht.rowS
    subst hv
    have HP1 := Hid.in (HP.out.below hb)
    have HB1 := Hid.in hb
    have c6 : w1.cell? ⟨pq, 6, none⟩ = some (.int .i64 s.wr) := HP1.out.c 6 rfl
    have hsd := psend_any B pq mq mg rq bq lp lc s p c rs 6 w1 HP1.out (HBR.out.below hb) h0 h1 k0 k1 n0 n1
    clear ht hb hall c2 HP
    rw [hw] at c6
    generalize s.bt.length = bl at *
    go_wp2_with (go_at_call 95; refine Hid.out ?_)
    refine Lib.hid ?_
    refine hsd.mono ?_
    rintro e w2 ⟨v, lp', lc', rfl, hv, hP, hk⟩
    have HST := Hid.in ((stIs_of rfl rfl hv hP hk).from HB1.out)
    obtain ⟨pv, cv, ev, -⟩ := hv.shape
    clear hv hP hk hsd
    generalize sndP s rs 6 = ca at *
    subst ev
    go_wp2_with fail
    go_ret3
    exact HR.out _ _ HST.out
  · have hlt : s.wr < s.bt.length := by omega
    obtain ⟨x, hx⟩ : ∃ x, x = s.bt[s.wr] := ⟨_, rfl⟩
    have HSB : Hid (SiB x) := by rw [hx]; exact hbt.sib HSR.out _ hlt
    have HGX : Hid (s.bt[s.wr]? = some x) := by rw [hx]; exact List.getElem?_eq_getElem hlt
    have hpl := piece_len 4 x
    have hpb := piece_bd 4 x HSB.out
    have HPC : Hid (∀ W, Calls Try.prog 82 #[.agg (siA x)] W (PieceIs W (pieceP 4 x).1 (pieceP 4 x).2)) := fun W => first_any x W HSB.out
    obtain ⟨pa, ys, hpy⟩ : ∃ pa ys, (pa, ys) = pieceP 4 x := ⟨_, _, rfl⟩
    have HPY := Hid.in hpy
    rw [← hpy] at HPC hpl hpb
    simp only at hpl hpb
    have HPC' : Hid (∀ W, Calls Try.prog 82 #[.agg (siA x)] W (PieceIs W pa ys)) := HPC.out
    clear hpy HPC
    have HW : Hid (wriP s rs = if 0 ≤ pa ∧ pa ≤ (s.xs.length : Int) - ys.length then ⟨{ s with xs := putA s.xs pa.toNat ys, wr := s.wr + 1, ct := { s.ct with wr := s.ct.wr + 1, st := s.ct.st + 1 } }, [⟨10, 0, pa, 0, ys.length⟩], false, 0⟩ else ⟨s, [], false, 2⟩) := by
      show wriP s rs = _
      unfold wriP
      rw [HGX.out, hph]
      show (if 0 ≤ (pieceP 4 x).1 ∧ _ then _ else _) = _
      rw [← HPY.out]
    obtain ⟨R, hR⟩ : ∃ R, R = StIs w B pq mq mg rq bq (wriP s rs) := ⟨_, rfl⟩
    rw [← hR]
    have HRe := Hid.in hR
    clear hR h hr
    go_enter Try.func79, Try.ntmps79
    go_wp2_with (go_at_call 59; refine Hid.out ?_)
    refine Lib.hid ?_
    refine hall.mono ?_
    rintro e w1 ⟨v, rfl, ht, hb⟩
    obtain ⟨p1, q1, hv, -, -, hrow⟩ := ht.rowS
    subst hv
    have HP1 := Hid.in (HP.out.below hb)
    have HB1 := Hid.in hb
    obtain ⟨b, o, cur, rfl, -, -, hc⟩ := hrow (by omega)
    have d0 : w1.cell? ⟨b, o + s.wr * 3, none⟩ = some (.int .i64 x.key) := by have := hc s.wr hlt 0 (by decide); rw [← hx] at this; exact this
    have d1 : w1.cell? ⟨b, o + s.wr * 3 + 1, none⟩ = some (.int .i64 x.at_) := by have := hc s.wr hlt 1 (by decide); rw [← hx] at this; exact this
    have d2 : w1.cell? ⟨b, o + s.wr * 3 + 2, none⟩ = some (.int .i64 x.to_) := by have := hc s.wr hlt 2 (by decide); rw [← hx] at this; exact this
    have c6 : w1.cell? ⟨pq, 6, none⟩ = some (.int .i64 s.wr) := HP1.out.c 6 rfl
    clear ht hb hall c2 HP hc hrow hx HGX HPY
    have hne : ¬ (s.wr : Int) = s.bt.length := by omega
    go_wp2_with (go_at_call 82; refine Hid.out ?_)
    refine Lib.hid ?_
    refine (HPC'.out w1).mono ?_
    rintro e w2 ⟨py, cy, rfl, hrow2, hb2⟩
    have HP2 := Hid.in (HP1.out.below hb2)
    have HB2 := Hid.in (below_step HB1.out hb2)
    have HRY := Hid.in hrow2
    clear hrow2 hb2 HP1 HB1 d0 d1 d2 c6 HPC'
    have c0 : w2.cell? ⟨pq, 0, none⟩ = some (.pointer (some ⟨mq, 0, none⟩)) := HP2.out.c 0 rfl
    by_cases hfit : 0 ≤ pa ∧ pa ≤ (s.xs.length : Int) - ys.length
    · have HW2 := HW.out
      rw [if_pos hfit] at HW2
      obtain ⟨a, rfl⟩ : ∃ a : Nat, pa = a := ⟨pa.toNat, by omega⟩
      have hwk := write_ok mq mg B a cy py s.xs ys w2 HP2.out.mem HRY.out (by omega) hxl
      rw [Int.toNat_natCast] at HW2
      have HR : Hid (∀ w' v, EOwn 43 w' w.heap.size v [⟨10, 0, a, 0, ys.length⟩] → PA w' B pq mq mg rq bq lp lc { s with xs := putA s.xs a ys, wr := s.wr + 1, ct := { s.ct with wr := s.ct.wr + 1, st := s.ct.st + 1 } } → Keeps (GP pq mg rq bq) w w' → R (.returned (.tuple #[v, .bool false, .int .i64 0])) w') := fun w' v hv hP hk => by
        rw [HRe.out, HW2]; exact stIs_of rfl rfl hv hP hk
      clear HW HW2 hfit hpb
      go_wp2_with (go_at_call 31; refine Hid.out ?_)
      refine Lib.hid ?_
      refine hwk.mono ?_
      rintro e w3 ⟨rfl, hm3, hk3⟩
      have HP3 := Hid.in (HP2.out.setM hm3 hk3)
      have HK3 : Hid (Keeps (GP pq mg rq bq) w w3) := (Keeps.ofBelow HB2.out).trans' (keepsM hk3)
      have HZ3 : Hid (w.heap.size ≤ w3.heap.size) := HK3.out.size
      clear hm3 hk3 hwk c0 HP2 HRY
      have c6 : w3.cell? ⟨pq, 6, none⟩ = some (.int .i64 s.wr) := HP3.out.c 6 rfl
      have c9 : w3.cell? ⟨pq, 9, none⟩ = some (.int .i64 s.ct.wr) := HP3.out.c 9 rfl
      have c11 : w3.cell? ⟨pq, 11, none⟩ = some (.int .i64 s.ct.st) := HP3.out.c 11 rfl
      have f6 := HP3.out.f 6
      have f9 := HP3.out.f 9
      have f11 := HP3.out.f 11
      go_upto_region 10 with fail
      obtain ⟨w4, hw4⟩ : ∃ w4, w4 = ((w3.setCell ⟨pq, 6, none⟩ (.int .i64 ((s.wr : Int) + 1))).setCell ⟨pq, 9, none⟩ (.int .i64 (s.ct.wr + 1))).setCell ⟨pq, 11, none⟩ (.int .i64 (s.ct.st + 1)) := ⟨_, rfl⟩
      rw [← hw4]
      have HG4 : Hid (w3.grownBy w4 (some pq)) := by rw [hw4]; exact ((grown_setCell _ _ _ _).trans (grown_setCell _ _ _ _)).trans (grown_setCell _ _ _ _)
      have HP4 : Hid (PA w4 B pq mq mg rq bq lp lc { s with xs := putA s.xs a ys, wr := s.wr + 1, ct := { s.ct with wr := s.ct.wr + 1, st := s.ct.st + 1 } }) := by
        refine HP3.out.setP (s' := { s with xs := putA s.xs a ys, wr := s.wr + 1, ct := { s.ct with wr := s.ct.wr + 1, st := s.ct.st + 1 } }) ?_ HG4.out HP3.out.row HP3.out.lcl HP3.out.lcm rfl rfl rfl rfl
        rw [hw4]
        exact ((HP3.out.pat.set 6 _).set 9 _).set 11 _
      clear hw4 c6 c9 c11 f6 f9 f11
      have HE := Hid.in (EOwn.one w4 ⟨10, 0, a, 0, ys.length⟩)
      have HL4 : Hid (w.heap.size ≤ w4.heap.size) := Nat.le_trans HZ3.out HG4.out.size
      generalize ys.length = yl at *
      go_wp2_with fail
      go_ret3
      exact HR.out _ _ (HE.out.lower HL4.out) (HP4.out.below (new_alloc _ _)) ((HK3.out.trans' (keepsP HG4.out)).alloc _)
    · have HW2 := HW.out
      rw [if_neg hfit] at HW2
      have hwk := write_out mq mg B ys.length cy py pa s.xs w2 HP2.out.mem (by omega) hfit
      have HR : Hid (R (.returned (.tuple #[.slice none 0 0, .bool false, .int .i64 2])) w2) := by
        rw [HRe.out, HW2]; exact stIs_of rfl rfl (EOwn.nil _ _ _) HP2.out (Keeps.ofBelow HB2.out)
      clear HW HW2 hfit hpb
      go_wp2_with (go_at_call 31; refine Hid.out ?_)
      refine Lib.hid ?_
      refine hwk.mono ?_
      rintro e w3 ⟨rfl, hw⟩
      rw [hw]
      clear hw
      go_wp2_with fail
      go_ret3
      exact HR.out

end Go.Proofs.Ytekggimgobeggaa

/- writeBreak, writeTail, writeFirst, Step. -/
namespace Go.Proofs.Ytekggimgobeggaa
open Go.RowKit Go.Sort

set_option maxRecDepth 20000 in
set_option maxHeartbeats 2000000 in
theorem pw_2 (B pq mq mg rq bq : Nat) (lp : Option Addr) (lc : Nat) (s : PS) (p : Option Addr) (c : Nat) (rs : List Bool) (w : World) (h : PA w B pq mq mg rq bq lp lc s) (hr : BRow w p rs) (hph : s.ph = 2) (hwr : s.wr ≤ s.bt.length) (hbt : BtOk s.bt) (hxl : s.xs.length ≤ 65536)
    (h0 : 0 ≤ s.ct.st) (h1 : s.ct.st ≤ 1000000000000) (k0 : 0 ≤ s.ct.ro) (k1 : s.ct.ro ≤ 1000000000000) (m0 : 0 ≤ s.ct.wr) (m1 : s.ct.wr ≤ 1000000000000) (n0 : 0 ≤ s.n) (n1 : s.n ≤ 1000000) :
    Calls Try.prog 43 #[.pointer (some ⟨pq, 0, none⟩), .slice p rs.length c] w (StIs w B pq mq mg rq bq (wriP s rs)) := by
  have hw := pwrite_2 B pq mq mg rq bq lp lc s p c rs w h hr hph hwr hbt hxl h0 h1 k0 k1 m0 m1 n0 n1
  clear h hr hph hwr hbt hxl h0 h1 k0 k1 m0 m1 n0 n1
  generalize wriP s rs = ca at *
  obtain ⟨R, hR⟩ : ∃ R, R = StIs w B pq mq mg rq bq ca := ⟨_, rfl⟩
  rw [← hR] at hw ⊢
  have HRe := Hid.in hR
  clear hR
  go_enter Try.func43, Try.ntmps43
  go_wp2_with (go_at_call 79; refine Hid.out ?_)
  refine Lib.hid ?_
  refine hw.mono ?_
  intro e w2 hst
  rw [HRe.out] at hst
  obtain ⟨v, lp', lc', rfl, hv, hP, hk⟩ := hst
  have HST : Hid (R (.returned (.tuple #[v, .bool ca.back, .int .i64 ca.e])) w2) := by rw [HRe.out]; exact stIs_of rfl rfl hv hP hk
  obtain ⟨pv, cv, ev, -⟩ := hv.shape
  clear hv hP hk hw HRe
  subst ev
  go_wp2_with fail
  go_ret3
  exact HST.out
set_option maxRecDepth 20000 in
set_option maxHeartbeats 2000000 in
theorem pw_3 (B pq mq mg rq bq : Nat) (lp : Option Addr) (lc : Nat) (s : PS) (p : Option Addr) (c : Nat) (rs : List Bool) (w : World) (h : PA w B pq mq mg rq bq lp lc s) (hr : BRow w p rs) (hph : s.ph = 3) (hwr : s.wr ≤ s.bt.length) (hbt : BtOk s.bt) (hxl : s.xs.length ≤ 65536)
    (h0 : 0 ≤ s.ct.st) (h1 : s.ct.st ≤ 1000000000000) (k0 : 0 ≤ s.ct.ro) (k1 : s.ct.ro ≤ 1000000000000) (m0 : 0 ≤ s.ct.wr) (m1 : s.ct.wr ≤ 1000000000000) (n0 : 0 ≤ s.n) (n1 : s.n ≤ 1000000) :
    Calls Try.prog 44 #[.pointer (some ⟨pq, 0, none⟩), .slice p rs.length c] w (StIs w B pq mq mg rq bq (wriP s rs)) := by
  have hw := pwrite_3 B pq mq mg rq bq lp lc s p c rs w h hr hph hwr hbt hxl h0 h1 k0 k1 m0 m1 n0 n1
  clear h hr hph hwr hbt hxl h0 h1 k0 k1 m0 m1 n0 n1
  generalize wriP s rs = ca at *
  obtain ⟨R, hR⟩ : ∃ R, R = StIs w B pq mq mg rq bq ca := ⟨_, rfl⟩
  rw [← hR] at hw ⊢
  have HRe := Hid.in hR
  clear hR
  go_enter Try.func44, Try.ntmps44
  go_wp2_with (go_at_call 79; refine Hid.out ?_)
  refine Lib.hid ?_
  refine hw.mono ?_
  intro e w2 hst
  rw [HRe.out] at hst
  obtain ⟨v, lp', lc', rfl, hv, hP, hk⟩ := hst
  have HST : Hid (R (.returned (.tuple #[v, .bool ca.back, .int .i64 ca.e])) w2) := by rw [HRe.out]; exact stIs_of rfl rfl hv hP hk
  obtain ⟨pv, cv, ev, -⟩ := hv.shape
  clear hv hP hk hw HRe
  subst ev
  go_wp2_with fail
  go_ret3
  exact HST.out
set_option maxRecDepth 20000 in
set_option maxHeartbeats 2000000 in
theorem pw_4 (B pq mq mg rq bq : Nat) (lp : Option Addr) (lc : Nat) (s : PS) (p : Option Addr) (c : Nat) (rs : List Bool) (w : World) (h : PA w B pq mq mg rq bq lp lc s) (hr : BRow w p rs) (hph : s.ph = 4) (hwr : s.wr ≤ s.bt.length) (hbt : BtOk s.bt) (hxl : s.xs.length ≤ 65536)
    (h0 : 0 ≤ s.ct.st) (h1 : s.ct.st ≤ 1000000000000) (k0 : 0 ≤ s.ct.ro) (k1 : s.ct.ro ≤ 1000000000000) (m0 : 0 ≤ s.ct.wr) (m1 : s.ct.wr ≤ 1000000000000) (n0 : 0 ≤ s.n) (n1 : s.n ≤ 1000000) :
    Calls Try.prog 45 #[.pointer (some ⟨pq, 0, none⟩), .slice p rs.length c] w (StIs w B pq mq mg rq bq (wriP s rs)) := by
  have hw := pwrite_4 B pq mq mg rq bq lp lc s p c rs w h hr hph hwr hbt hxl h0 h1 k0 k1 m0 m1 n0 n1
  clear h hr hph hwr hbt hxl h0 h1 k0 k1 m0 m1 n0 n1
  generalize wriP s rs = ca at *
  obtain ⟨R, hR⟩ : ∃ R, R = StIs w B pq mq mg rq bq ca := ⟨_, rfl⟩
  rw [← hR] at hw ⊢
  have HRe := Hid.in hR
  clear hR
  go_enter Try.func45, Try.ntmps45
  go_wp2_with (go_at_call 79; refine Hid.out ?_)
  refine Lib.hid ?_
  refine hw.mono ?_
  intro e w2 hst
  rw [HRe.out] at hst
  obtain ⟨v, lp', lc', rfl, hv, hP, hk⟩ := hst
  have HST : Hid (R (.returned (.tuple #[v, .bool ca.back, .int .i64 ca.e])) w2) := by rw [HRe.out]; exact stIs_of rfl rfl hv hP hk
  obtain ⟨pv, cv, ev, -⟩ := hv.shape
  clear hv hP hk hw HRe
  subst ev
  go_wp2_with fail
  go_ret3
  exact HST.out

/-- how the map's elements are told apart: each as it is -/
def RF (v : Value) : Option (DataW Value × List MemPlace) := some (.held v, [])
theorem Try.keyed31 : Go.Maps.Keyed Try.prog 31 := Go.Maps.int_keyed (q := .u8) (by kernel_rfl)
theorem Try.under110 : Try.prog.underlying 110 = some (.map 31 111) := by kernel_rfl
theorem wp_insert {w : World} {ops : Array Oper} {rest : List Oper} {o : Oper} {a : Act} {Q : Exit → Act → World → Prop} {b n : Nat} {D : DataW Value} (hown : w.ownsMap Try.prog 31 RF b n D)
    (hg : o.guard = none) (m x v : Operand) (hop : o.op = Op.insert 110 m x v) (hm : a.eval m = .map (some b)) (hn : n < 100) (k : Int) (val : Value) (hx : a.eval x = .int .u8 k) (hv : a.eval v = val) (hk : (Lit.int .u8 k).wf = true)
    (hK : ∀ w', w'.ownsMap Try.prog 31 RF b (n + 1) (D.put (.int .u8 k) (.held val)) → w.grownBy w' (some b) → wpList Try.prog ops Q rest (a.put o.dst undef) w') :
    wpList Try.prog ops Q (o :: rest) a w := by
  refine wpList_plain hg fun K' hK' => ?_
  obtain ⟨w', hrun, r1, r2⟩ := hown.update Try.keyed31 Try.under110 (by unfold maxLen; omega) (key := .int .u8 k) (Go.Maps.keyOf_int_mk (by kernel_rfl) hk) (val := val) rfl
  unfold Oper.wp
  simp [execOp, hop, hm, hx, hv, hrun, Result.andThen]
  exact hK' _ _ (hK w' r1 r2)
theorem run_look {w : World} {b n : Nat} {D : DataW Value} (hown : w.ownsMap Try.prog 31 RF b n D) (k : Int) (hk : (Lit.int .u8 k).wf = true) (val : Value) (hat : D.atKey (.int .u8 k) (.held .nilFunc) = .held val) :
    (Instr.lookup 110 (.map (some b)) (.int .u8 k) false).run Try.prog w = .ok val w := by
  obtain ⟨v, ps, hrun, hv⟩ := hown.lookup Try.keyed31 Try.under110 (z := .nilFunc) (by kernel_rfl) (zd := .held .nilFunc) (zp := []) rfl (Go.Maps.keyOf_int_mk (by kernel_rfl) hk)
  rw [hat] at hv
  simp only [RF, Option.some.injEq, Prod.mk.injEq, DataW.held.injEq] at hv
  rw [hrun, hv.1]
/-- the phases' actions -/
def actF (pq n : Nat) : DataW Value := .held (.func (.func n) #[.pointer (some ⟨pq, 0, none⟩)] #[])
def actD (pq : Nat) : DataW Value := DataW.map [] |>.put (.int .u8 0) (actF pq 41) |>.put (.int .u8 1) (actF pq 42) |>.put (.int .u8 2) (actF pq 43) |>.put (.int .u8 3) (actF pq 44) |>.put (.int .u8 4) (actF pq 45) |>.put (.int .u8 5) (actF pq 46) |>.put (.int .u8 6) (actF pq 47)
theorem act_0 (pq : Nat) : (actD pq).atKey (.int .u8 0) (.held .nilFunc) = .held (.func (.func 41) #[.pointer (some ⟨pq, 0, none⟩)] #[]) := by kernel_rfl
theorem act_1 (pq : Nat) : (actD pq).atKey (.int .u8 1) (.held .nilFunc) = .held (.func (.func 42) #[.pointer (some ⟨pq, 0, none⟩)] #[]) := by kernel_rfl
theorem act_2 (pq : Nat) : (actD pq).atKey (.int .u8 2) (.held .nilFunc) = .held (.func (.func 43) #[.pointer (some ⟨pq, 0, none⟩)] #[]) := by kernel_rfl
theorem act_3 (pq : Nat) : (actD pq).atKey (.int .u8 3) (.held .nilFunc) = .held (.func (.func 44) #[.pointer (some ⟨pq, 0, none⟩)] #[]) := by kernel_rfl
theorem act_4 (pq : Nat) : (actD pq).atKey (.int .u8 4) (.held .nilFunc) = .held (.func (.func 45) #[.pointer (some ⟨pq, 0, none⟩)] #[]) := by kernel_rfl
theorem act_5 (pq : Nat) : (actD pq).atKey (.int .u8 5) (.held .nilFunc) = .held (.func (.func 46) #[.pointer (some ⟨pq, 0, none⟩)] #[]) := by kernel_rfl
theorem act_6 (pq : Nat) : (actD pq).atKey (.int .u8 6) (.held .nilFunc) = .held (.func (.func 47) #[.pointer (some ⟨pq, 0, none⟩)] #[]) := by kernel_rfl
set_option maxRecDepth 20000 in
set_option maxHeartbeats 2000000 in
theorem pstep_0 (B pq mq mg rq bq : Nat) (lp : Option Addr) (lc : Nat) (s : PS) (p : Option Addr) (c : Nat) (rs : List Bool) (ca : SA) (w : World) (h : PA w B pq mq mg rq bq lp lc s) (hr : BRow w p rs) (hph : s.ph = 0)
    (hc : ∀ W, PA W B pq mq mg rq bq lp lc s → BRow W p rs → Calls Try.prog 41 #[.pointer (some ⟨pq, 0, none⟩), .slice p rs.length c] W (StIs W B pq mq mg rq bq ca)) :
    Calls Try.prog 11 #[.pointer (some ⟨pq, 0, none⟩), .slice p rs.length c] w (StIs w B pq mq mg rq bq ca) := by
  have hnn := pnone_no pq bq w (h.c 2 rfl)
  have HP := Hid.in h
  have HBR := Hid.in hr
  have HC := Hid.in hc
  have HPH := Hid.in hph
  clear h hr hc hph
  obtain ⟨R, hR⟩ : ∃ R, R = StIs w B pq mq mg rq bq ca := ⟨_, rfl⟩
  rw [← hR]
  have HRe := Hid.in hR
  clear hR
  have hmm := @run_makeMap Try.prog
  go_enter Try.func11, Try.ntmps11
  go_wp2_with (go_at_call 40; refine Hid.out ?_)
  refine Lib.hid ?_
  refine hnn.mono ?_
  rintro e w1 ⟨rfl, hw⟩
  rw [hw]
  clear hw hnn
  have HM0 := Hid.in (World.ownsMap_made w Try.prog 31 RF)
  have HL0 := Hid.in (new_alloc w (.map #[] 0))
  go_wp2_with (refine wp_insert HM0.out rfl _ _ _ rfl rfl (by decide) 0 _ rfl rfl (by decide) ?_; intro v1 hm hg; refine Hid.out ?_)
  refine Lib.hid ?_
  have HM1 := Hid.in hm
  have HL1 := Hid.in (HL0.out.trans (below_grown hg (Nat.le_refl _) HL0.out.size))
  clear hm hg HM0 HL0
  go_wp2_with (refine wp_insert HM1.out rfl _ _ _ rfl rfl (by decide) 1 _ rfl rfl (by decide) ?_; intro v2 hm hg; refine Hid.out ?_)
  refine Lib.hid ?_
  have HM2 := Hid.in hm
  have HL2 := Hid.in (HL1.out.trans (below_grown hg (Nat.le_refl _) HL1.out.size))
  clear hm hg HM1 HL1
  go_wp2_with (refine wp_insert HM2.out rfl _ _ _ rfl rfl (by decide) 2 _ rfl rfl (by decide) ?_; intro v3 hm hg; refine Hid.out ?_)
  refine Lib.hid ?_
  have HM3 := Hid.in hm
  have HL3 := Hid.in (HL2.out.trans (below_grown hg (Nat.le_refl _) HL2.out.size))
  clear hm hg HM2 HL2
  go_wp2_with (refine wp_insert HM3.out rfl _ _ _ rfl rfl (by decide) 3 _ rfl rfl (by decide) ?_; intro v4 hm hg; refine Hid.out ?_)
  refine Lib.hid ?_
  have HM4 := Hid.in hm
  have HL4 := Hid.in (HL3.out.trans (below_grown hg (Nat.le_refl _) HL3.out.size))
  clear hm hg HM3 HL3
  go_wp2_with (refine wp_insert HM4.out rfl _ _ _ rfl rfl (by decide) 4 _ rfl rfl (by decide) ?_; intro v5 hm hg; refine Hid.out ?_)
  refine Lib.hid ?_
  have HM5 := Hid.in hm
  have HL5 := Hid.in (HL4.out.trans (below_grown hg (Nat.le_refl _) HL4.out.size))
  clear hm hg HM4 HL4
  go_wp2_with (refine wp_insert HM5.out rfl _ _ _ rfl rfl (by decide) 5 _ rfl rfl (by decide) ?_; intro v6 hm hg; refine Hid.out ?_)
  refine Lib.hid ?_
  have HM6 := Hid.in hm
  have HL6 := Hid.in (HL5.out.trans (below_grown hg (Nat.le_refl _) HL5.out.size))
  clear hm hg HM5 HL5
  go_wp2_with (refine wp_insert HM6.out rfl _ _ _ rfl rfl (by decide) 6 _ rfl rfl (by decide) ?_; intro v7 hm hg; refine Hid.out ?_)
  refine Lib.hid ?_
  have HM7 := Hid.in hm
  have HL7 := Hid.in (HL6.out.trans (below_grown hg (Nat.le_refl _) HL6.out.size))
  clear hm hg HM6 HL6
  have hlk := run_look HM7.out 0 (by decide) _ (act_0 pq)
  have HP7 := Hid.in (HP.out.below HL7.out)
  have HB7 := Hid.in (HBR.out.below HL7.out)
  have c5 : v7.cell? ⟨pq, 5, none⟩ = some (.int .u8 0) := by have := HP7.out.c 5 (v := .int .u8 s.ph) rfl; rw [HPH.out] at this; exact this
  clear HP HBR HM7 HPH
  go_wp2_with (go_at_call 41; refine Hid.out ?_)
  refine Lib.hid ?_
  refine (HC.out v7 HP7.out HB7.out).mono ?_
  rintro e w2 ⟨v, lp', lc', rfl, hv, hP, hk⟩
  have HST : Hid (R (.returned (.tuple #[v, .bool ca.back, .int .i64 ca.e])) w2) := by rw [HRe.out]; exact (stIs_of rfl rfl hv hP hk).from HL7.out
  obtain ⟨pv, cv, ev, -⟩ := hv.shape
  clear hv hP hk HC HRe HP7 HB7 HL7 hlk c5
  subst ev
  go_wp2_with fail
  go_ret3
  exact HST.out
set_option maxRecDepth 20000 in
set_option maxHeartbeats 2000000 in
theorem pstep_1 (B pq mq mg rq bq : Nat) (lp : Option Addr) (lc : Nat) (s : PS) (p : Option Addr) (c : Nat) (rs : List Bool) (ca : SA) (w : World) (h : PA w B pq mq mg rq bq lp lc s) (hr : BRow w p rs) (hph : s.ph = 1)
    (hc : ∀ W, PA W B pq mq mg rq bq lp lc s → BRow W p rs → Calls Try.prog 42 #[.pointer (some ⟨pq, 0, none⟩), .slice p rs.length c] W (StIs W B pq mq mg rq bq ca)) :
    Calls Try.prog 11 #[.pointer (some ⟨pq, 0, none⟩), .slice p rs.length c] w (StIs w B pq mq mg rq bq ca) := by
  have hnn := pnone_no pq bq w (h.c 2 rfl)
  have HP := Hid.in h
  have HBR := Hid.in hr
  have HC := Hid.in hc
  have HPH := Hid.in hph
  clear h hr hc hph
  obtain ⟨R, hR⟩ : ∃ R, R = StIs w B pq mq mg rq bq ca := ⟨_, rfl⟩
  rw [← hR]
  have HRe := Hid.in hR
  clear hR
  have hmm := @run_makeMap Try.prog
  go_enter Try.func11, Try.ntmps11
  go_wp2_with (go_at_call 40; refine Hid.out ?_)
  refine Lib.hid ?_
  refine hnn.mono ?_
  rintro e w1 ⟨rfl, hw⟩
  rw [hw]
  clear hw hnn
  have HM0 := Hid.in (World.ownsMap_made w Try.prog 31 RF)
  have HL0 := Hid.in (new_alloc w (.map #[] 0))
  go_wp2_with (refine wp_insert HM0.out rfl _ _ _ rfl rfl (by decide) 0 _ rfl rfl (by decide) ?_; intro v1 hm hg; refine Hid.out ?_)
  refine Lib.hid ?_
  have HM1 := Hid.in hm
  have HL1 := Hid.in (HL0.out.trans (below_grown hg (Nat.le_refl _) HL0.out.size))
  clear hm hg HM0 HL0
  go_wp2_with (refine wp_insert HM1.out rfl _ _ _ rfl rfl (by decide) 1 _ rfl rfl (by decide) ?_; intro v2 hm hg; refine Hid.out ?_)
  refine Lib.hid ?_
  have HM2 := Hid.in hm
  have HL2 := Hid.in (HL1.out.trans (below_grown hg (Nat.le_refl _) HL1.out.size))
  clear hm hg HM1 HL1
  go_wp2_with (refine wp_insert HM2.out rfl _ _ _ rfl rfl (by decide) 2 _ rfl rfl (by decide) ?_; intro v3 hm hg; refine Hid.out ?_)
  refine Lib.hid ?_
  have HM3 := Hid.in hm
  have HL3 := Hid.in (HL2.out.trans (below_grown hg (Nat.le_refl _) HL2.out.size))
  clear hm hg HM2 HL2
  go_wp2_with (refine wp_insert HM3.out rfl _ _ _ rfl rfl (by decide) 3 _ rfl rfl (by decide) ?_; intro v4 hm hg; refine Hid.out ?_)
  refine Lib.hid ?_
  have HM4 := Hid.in hm
  have HL4 := Hid.in (HL3.out.trans (below_grown hg (Nat.le_refl _) HL3.out.size))
  clear hm hg HM3 HL3
  go_wp2_with (refine wp_insert HM4.out rfl _ _ _ rfl rfl (by decide) 4 _ rfl rfl (by decide) ?_; intro v5 hm hg; refine Hid.out ?_)
  refine Lib.hid ?_
  have HM5 := Hid.in hm
  have HL5 := Hid.in (HL4.out.trans (below_grown hg (Nat.le_refl _) HL4.out.size))
  clear hm hg HM4 HL4
  go_wp2_with (refine wp_insert HM5.out rfl _ _ _ rfl rfl (by decide) 5 _ rfl rfl (by decide) ?_; intro v6 hm hg; refine Hid.out ?_)
  refine Lib.hid ?_
  have HM6 := Hid.in hm
  have HL6 := Hid.in (HL5.out.trans (below_grown hg (Nat.le_refl _) HL5.out.size))
  clear hm hg HM5 HL5
  go_wp2_with (refine wp_insert HM6.out rfl _ _ _ rfl rfl (by decide) 6 _ rfl rfl (by decide) ?_; intro v7 hm hg; refine Hid.out ?_)
  refine Lib.hid ?_
  have HM7 := Hid.in hm
  have HL7 := Hid.in (HL6.out.trans (below_grown hg (Nat.le_refl _) HL6.out.size))
  clear hm hg HM6 HL6
  have hlk := run_look HM7.out 1 (by decide) _ (act_1 pq)
  have HP7 := Hid.in (HP.out.below HL7.out)
  have HB7 := Hid.in (HBR.out.below HL7.out)
  have c5 : v7.cell? ⟨pq, 5, none⟩ = some (.int .u8 1) := by have := HP7.out.c 5 (v := .int .u8 s.ph) rfl; rw [HPH.out] at this; exact this
  clear HP HBR HM7 HPH
  go_wp2_with (go_at_call 42; refine Hid.out ?_)
  refine Lib.hid ?_
  refine (HC.out v7 HP7.out HB7.out).mono ?_
  rintro e w2 ⟨v, lp', lc', rfl, hv, hP, hk⟩
  have HST : Hid (R (.returned (.tuple #[v, .bool ca.back, .int .i64 ca.e])) w2) := by rw [HRe.out]; exact (stIs_of rfl rfl hv hP hk).from HL7.out
  obtain ⟨pv, cv, ev, -⟩ := hv.shape
  clear hv hP hk HC HRe HP7 HB7 HL7 hlk c5
  subst ev
  go_wp2_with fail
  go_ret3
  exact HST.out
set_option maxRecDepth 20000 in
set_option maxHeartbeats 2000000 in
theorem pstep_2 (B pq mq mg rq bq : Nat) (lp : Option Addr) (lc : Nat) (s : PS) (p : Option Addr) (c : Nat) (rs : List Bool) (ca : SA) (w : World) (h : PA w B pq mq mg rq bq lp lc s) (hr : BRow w p rs) (hph : s.ph = 2)
    (hc : ∀ W, PA W B pq mq mg rq bq lp lc s → BRow W p rs → Calls Try.prog 43 #[.pointer (some ⟨pq, 0, none⟩), .slice p rs.length c] W (StIs W B pq mq mg rq bq ca)) :
    Calls Try.prog 11 #[.pointer (some ⟨pq, 0, none⟩), .slice p rs.length c] w (StIs w B pq mq mg rq bq ca) := by
  have hnn := pnone_no pq bq w (h.c 2 rfl)
  have HP := Hid.in h
  have HBR := Hid.in hr
  have HC := Hid.in hc
  have HPH := Hid.in hph
  clear h hr hc hph
  obtain ⟨R, hR⟩ : ∃ R, R = StIs w B pq mq mg rq bq ca := ⟨_, rfl⟩
  rw [← hR]
  have HRe := Hid.in hR
  clear hR
  have hmm := @run_makeMap Try.prog
  go_enter Try.func11, Try.ntmps11
  go_wp2_with (go_at_call 40; refine Hid.out ?_)
  refine Lib.hid ?_
  refine hnn.mono ?_
  rintro e w1 ⟨rfl, hw⟩
  rw [hw]
  clear hw hnn
  have HM0 := Hid.in (World.ownsMap_made w Try.prog 31 RF)
  have HL0 := Hid.in (new_alloc w (.map #[] 0))
  go_wp2_with (refine wp_insert HM0.out rfl _ _ _ rfl rfl (by decide) 0 _ rfl rfl (by decide) ?_; intro v1 hm hg; refine Hid.out ?_)
  refine Lib.hid ?_
  have HM1 := Hid.in hm
  have HL1 := Hid.in (HL0.out.trans (below_grown hg (Nat.le_refl _) HL0.out.size))
  clear hm hg HM0 HL0
  go_wp2_with (refine wp_insert HM1.out rfl _ _ _ rfl rfl (by decide) 1 _ rfl rfl (by decide) ?_; intro v2 hm hg; refine Hid.out ?_)
  refine Lib.hid ?_
  have HM2 := Hid.in hm
  have HL2 := Hid.in (HL1.out.trans (below_grown hg (Nat.le_refl _) HL1.out.size))
  clear hm hg HM1 HL1
  go_wp2_with (refine wp_insert HM2.out rfl _ _ _ rfl rfl (by decide) 2 _ rfl rfl (by decide) ?_; intro v3 hm hg; refine Hid.out ?_)
  refine Lib.hid ?_
  have HM3 := Hid.in hm
  have HL3 := Hid.in (HL2.out.trans (below_grown hg (Nat.le_refl _) HL2.out.size))
  clear hm hg HM2 HL2
  go_wp2_with (refine wp_insert HM3.out rfl _ _ _ rfl rfl (by decide) 3 _ rfl rfl (by decide) ?_; intro v4 hm hg; refine Hid.out ?_)
  refine Lib.hid ?_
  have HM4 := Hid.in hm
  have HL4 := Hid.in (HL3.out.trans (below_grown hg (Nat.le_refl _) HL3.out.size))
  clear hm hg HM3 HL3
  go_wp2_with (refine wp_insert HM4.out rfl _ _ _ rfl rfl (by decide) 4 _ rfl rfl (by decide) ?_; intro v5 hm hg; refine Hid.out ?_)
  refine Lib.hid ?_
  have HM5 := Hid.in hm
  have HL5 := Hid.in (HL4.out.trans (below_grown hg (Nat.le_refl _) HL4.out.size))
  clear hm hg HM4 HL4
  go_wp2_with (refine wp_insert HM5.out rfl _ _ _ rfl rfl (by decide) 5 _ rfl rfl (by decide) ?_; intro v6 hm hg; refine Hid.out ?_)
  refine Lib.hid ?_
  have HM6 := Hid.in hm
  have HL6 := Hid.in (HL5.out.trans (below_grown hg (Nat.le_refl _) HL5.out.size))
  clear hm hg HM5 HL5
  go_wp2_with (refine wp_insert HM6.out rfl _ _ _ rfl rfl (by decide) 6 _ rfl rfl (by decide) ?_; intro v7 hm hg; refine Hid.out ?_)
  refine Lib.hid ?_
  have HM7 := Hid.in hm
  have HL7 := Hid.in (HL6.out.trans (below_grown hg (Nat.le_refl _) HL6.out.size))
  clear hm hg HM6 HL6
  have hlk := run_look HM7.out 2 (by decide) _ (act_2 pq)
  have HP7 := Hid.in (HP.out.below HL7.out)
  have HB7 := Hid.in (HBR.out.below HL7.out)
  have c5 : v7.cell? ⟨pq, 5, none⟩ = some (.int .u8 2) := by have := HP7.out.c 5 (v := .int .u8 s.ph) rfl; rw [HPH.out] at this; exact this
  clear HP HBR HM7 HPH
  go_wp2_with (go_at_call 43; refine Hid.out ?_)
  refine Lib.hid ?_
  refine (HC.out v7 HP7.out HB7.out).mono ?_
  rintro e w2 ⟨v, lp', lc', rfl, hv, hP, hk⟩
  have HST : Hid (R (.returned (.tuple #[v, .bool ca.back, .int .i64 ca.e])) w2) := by rw [HRe.out]; exact (stIs_of rfl rfl hv hP hk).from HL7.out
  obtain ⟨pv, cv, ev, -⟩ := hv.shape
  clear hv hP hk HC HRe HP7 HB7 HL7 hlk c5
  subst ev
  go_wp2_with fail
  go_ret3
  exact HST.out
set_option maxRecDepth 20000 in
set_option maxHeartbeats 2000000 in
theorem pstep_3 (B pq mq mg rq bq : Nat) (lp : Option Addr) (lc : Nat) (s : PS) (p : Option Addr) (c : Nat) (rs : List Bool) (ca : SA) (w : World) (h : PA w B pq mq mg rq bq lp lc s) (hr : BRow w p rs) (hph : s.ph = 3)
    (hc : ∀ W, PA W B pq mq mg rq bq lp lc s → BRow W p rs → Calls Try.prog 44 #[.pointer (some ⟨pq, 0, none⟩), .slice p rs.length c] W (StIs W B pq mq mg rq bq ca)) :
    Calls Try.prog 11 #[.pointer (some ⟨pq, 0, none⟩), .slice p rs.length c] w (StIs w B pq mq mg rq bq ca) := by
  have hnn := pnone_no pq bq w (h.c 2 rfl)
  have HP := Hid.in h
  have HBR := Hid.in hr
  have HC := Hid.in hc
  have HPH := Hid.in hph
  clear h hr hc hph
  obtain ⟨R, hR⟩ : ∃ R, R = StIs w B pq mq mg rq bq ca := ⟨_, rfl⟩
  rw [← hR]
  have HRe := Hid.in hR
  clear hR
  have hmm := @run_makeMap Try.prog
  go_enter Try.func11, Try.ntmps11
  go_wp2_with (go_at_call 40; refine Hid.out ?_)
  refine Lib.hid ?_
  refine hnn.mono ?_
  rintro e w1 ⟨rfl, hw⟩
  rw [hw]
  clear hw hnn
  have HM0 := Hid.in (World.ownsMap_made w Try.prog 31 RF)
  have HL0 := Hid.in (new_alloc w (.map #[] 0))
  go_wp2_with (refine wp_insert HM0.out rfl _ _ _ rfl rfl (by decide) 0 _ rfl rfl (by decide) ?_; intro v1 hm hg; refine Hid.out ?_)
  refine Lib.hid ?_
  have HM1 := Hid.in hm
  have HL1 := Hid.in (HL0.out.trans (below_grown hg (Nat.le_refl _) HL0.out.size))
  clear hm hg HM0 HL0
  go_wp2_with (refine wp_insert HM1.out rfl _ _ _ rfl rfl (by decide) 1 _ rfl rfl (by decide) ?_; intro v2 hm hg; refine Hid.out ?_)
  refine Lib.hid ?_
  have HM2 := Hid.in hm
  have HL2 := Hid.in (HL1.out.trans (below_grown hg (Nat.le_refl _) HL1.out.size))
  clear hm hg HM1 HL1
  go_wp2_with (refine wp_insert HM2.out rfl _ _ _ rfl rfl (by decide) 2 _ rfl rfl (by decide) ?_; intro v3 hm hg; refine Hid.out ?_)
  refine Lib.hid ?_
  have HM3 := Hid.in hm
  have HL3 := Hid.in (HL2.out.trans (below_grown hg (Nat.le_refl _) HL2.out.size))
  clear hm hg HM2 HL2
  go_wp2_with (refine wp_insert HM3.out rfl _ _ _ rfl rfl (by decide) 3 _ rfl rfl (by decide) ?_; intro v4 hm hg; refine Hid.out ?_)
  refine Lib.hid ?_
  have HM4 := Hid.in hm
  have HL4 := Hid.in (HL3.out.trans (below_grown hg (Nat.le_refl _) HL3.out.size))
  clear hm hg HM3 HL3
  go_wp2_with (refine wp_insert HM4.out rfl _ _ _ rfl rfl (by decide) 4 _ rfl rfl (by decide) ?_; intro v5 hm hg; refine Hid.out ?_)
  refine Lib.hid ?_
  have HM5 := Hid.in hm
  have HL5 := Hid.in (HL4.out.trans (below_grown hg (Nat.le_refl _) HL4.out.size))
  clear hm hg HM4 HL4
  go_wp2_with (refine wp_insert HM5.out rfl _ _ _ rfl rfl (by decide) 5 _ rfl rfl (by decide) ?_; intro v6 hm hg; refine Hid.out ?_)
  refine Lib.hid ?_
  have HM6 := Hid.in hm
  have HL6 := Hid.in (HL5.out.trans (below_grown hg (Nat.le_refl _) HL5.out.size))
  clear hm hg HM5 HL5
  go_wp2_with (refine wp_insert HM6.out rfl _ _ _ rfl rfl (by decide) 6 _ rfl rfl (by decide) ?_; intro v7 hm hg; refine Hid.out ?_)
  refine Lib.hid ?_
  have HM7 := Hid.in hm
  have HL7 := Hid.in (HL6.out.trans (below_grown hg (Nat.le_refl _) HL6.out.size))
  clear hm hg HM6 HL6
  have hlk := run_look HM7.out 3 (by decide) _ (act_3 pq)
  have HP7 := Hid.in (HP.out.below HL7.out)
  have HB7 := Hid.in (HBR.out.below HL7.out)
  have c5 : v7.cell? ⟨pq, 5, none⟩ = some (.int .u8 3) := by have := HP7.out.c 5 (v := .int .u8 s.ph) rfl; rw [HPH.out] at this; exact this
  clear HP HBR HM7 HPH
  go_wp2_with (go_at_call 44; refine Hid.out ?_)
  refine Lib.hid ?_
  refine (HC.out v7 HP7.out HB7.out).mono ?_
  rintro e w2 ⟨v, lp', lc', rfl, hv, hP, hk⟩
  have HST : Hid (R (.returned (.tuple #[v, .bool ca.back, .int .i64 ca.e])) w2) := by rw [HRe.out]; exact (stIs_of rfl rfl hv hP hk).from HL7.out
  obtain ⟨pv, cv, ev, -⟩ := hv.shape
  clear hv hP hk HC HRe HP7 HB7 HL7 hlk c5
  subst ev
  go_wp2_with fail
  go_ret3
  exact HST.out
set_option maxRecDepth 20000 in
set_option maxHeartbeats 2000000 in
theorem pstep_4 (B pq mq mg rq bq : Nat) (lp : Option Addr) (lc : Nat) (s : PS) (p : Option Addr) (c : Nat) (rs : List Bool) (ca : SA) (w : World) (h : PA w B pq mq mg rq bq lp lc s) (hr : BRow w p rs) (hph : s.ph = 4)
    (hc : ∀ W, PA W B pq mq mg rq bq lp lc s → BRow W p rs → Calls Try.prog 45 #[.pointer (some ⟨pq, 0, none⟩), .slice p rs.length c] W (StIs W B pq mq mg rq bq ca)) :
    Calls Try.prog 11 #[.pointer (some ⟨pq, 0, none⟩), .slice p rs.length c] w (StIs w B pq mq mg rq bq ca) := by
  have hnn := pnone_no pq bq w (h.c 2 rfl)
  have HP := Hid.in h
  have HBR := Hid.in hr
  have HC := Hid.in hc
  have HPH := Hid.in hph
  clear h hr hc hph
  obtain ⟨R, hR⟩ : ∃ R, R = StIs w B pq mq mg rq bq ca := ⟨_, rfl⟩
  rw [← hR]
  have HRe := Hid.in hR
  clear hR
  have hmm := @run_makeMap Try.prog
  go_enter Try.func11, Try.ntmps11
  go_wp2_with (go_at_call 40; refine Hid.out ?_)
  refine Lib.hid ?_
  refine hnn.mono ?_
  rintro e w1 ⟨rfl, hw⟩
  rw [hw]
  clear hw hnn
  have HM0 := Hid.in (World.ownsMap_made w Try.prog 31 RF)
  have HL0 := Hid.in (new_alloc w (.map #[] 0))
  go_wp2_with (refine wp_insert HM0.out rfl _ _ _ rfl rfl (by decide) 0 _ rfl rfl (by decide) ?_; intro v1 hm hg; refine Hid.out ?_)
  refine Lib.hid ?_
  have HM1 := Hid.in hm
  have HL1 := Hid.in (HL0.out.trans (below_grown hg (Nat.le_refl _) HL0.out.size))
  clear hm hg HM0 HL0
  go_wp2_with (refine wp_insert HM1.out rfl _ _ _ rfl rfl (by decide) 1 _ rfl rfl (by decide) ?_; intro v2 hm hg; refine Hid.out ?_)
  refine Lib.hid ?_
  have HM2 := Hid.in hm
  have HL2 := Hid.in (HL1.out.trans (below_grown hg (Nat.le_refl _) HL1.out.size))
  clear hm hg HM1 HL1
  go_wp2_with (refine wp_insert HM2.out rfl _ _ _ rfl rfl (by decide) 2 _ rfl rfl (by decide) ?_; intro v3 hm hg; refine Hid.out ?_)
  refine Lib.hid ?_
  have HM3 := Hid.in hm
  have HL3 := Hid.in (HL2.out.trans (below_grown hg (Nat.le_refl _) HL2.out.size))
  clear hm hg HM2 HL2
  go_wp2_with (refine wp_insert HM3.out rfl _ _ _ rfl rfl (by decide) 3 _ rfl rfl (by decide) ?_; intro v4 hm hg; refine Hid.out ?_)
  refine Lib.hid ?_
  have HM4 := Hid.in hm
  have HL4 := Hid.in (HL3.out.trans (below_grown hg (Nat.le_refl _) HL3.out.size))
  clear hm hg HM3 HL3
  go_wp2_with (refine wp_insert HM4.out rfl _ _ _ rfl rfl (by decide) 4 _ rfl rfl (by decide) ?_; intro v5 hm hg; refine Hid.out ?_)
  refine Lib.hid ?_
  have HM5 := Hid.in hm
  have HL5 := Hid.in (HL4.out.trans (below_grown hg (Nat.le_refl _) HL4.out.size))
  clear hm hg HM4 HL4
  go_wp2_with (refine wp_insert HM5.out rfl _ _ _ rfl rfl (by decide) 5 _ rfl rfl (by decide) ?_; intro v6 hm hg; refine Hid.out ?_)
  refine Lib.hid ?_
  have HM6 := Hid.in hm
  have HL6 := Hid.in (HL5.out.trans (below_grown hg (Nat.le_refl _) HL5.out.size))
  clear hm hg HM5 HL5
  go_wp2_with (refine wp_insert HM6.out rfl _ _ _ rfl rfl (by decide) 6 _ rfl rfl (by decide) ?_; intro v7 hm hg; refine Hid.out ?_)
  refine Lib.hid ?_
  have HM7 := Hid.in hm
  have HL7 := Hid.in (HL6.out.trans (below_grown hg (Nat.le_refl _) HL6.out.size))
  clear hm hg HM6 HL6
  have hlk := run_look HM7.out 4 (by decide) _ (act_4 pq)
  have HP7 := Hid.in (HP.out.below HL7.out)
  have HB7 := Hid.in (HBR.out.below HL7.out)
  have c5 : v7.cell? ⟨pq, 5, none⟩ = some (.int .u8 4) := by have := HP7.out.c 5 (v := .int .u8 s.ph) rfl; rw [HPH.out] at this; exact this
  clear HP HBR HM7 HPH
  go_wp2_with (go_at_call 45; refine Hid.out ?_)
  refine Lib.hid ?_
  refine (HC.out v7 HP7.out HB7.out).mono ?_
  rintro e w2 ⟨v, lp', lc', rfl, hv, hP, hk⟩
  have HST : Hid (R (.returned (.tuple #[v, .bool ca.back, .int .i64 ca.e])) w2) := by rw [HRe.out]; exact (stIs_of rfl rfl hv hP hk).from HL7.out
  obtain ⟨pv, cv, ev, -⟩ := hv.shape
  clear hv hP hk HC HRe HP7 HB7 HL7 hlk c5
  subst ev
  go_wp2_with fail
  go_ret3
  exact HST.out
set_option maxRecDepth 20000 in
set_option maxHeartbeats 2000000 in
theorem pstep_5 (B pq mq mg rq bq : Nat) (lp : Option Addr) (lc : Nat) (s : PS) (p : Option Addr) (c : Nat) (rs : List Bool) (ca : SA) (w : World) (h : PA w B pq mq mg rq bq lp lc s) (hr : BRow w p rs) (hph : s.ph = 5)
    (hc : ∀ W, PA W B pq mq mg rq bq lp lc s → BRow W p rs → Calls Try.prog 46 #[.pointer (some ⟨pq, 0, none⟩), .slice p rs.length c] W (StIs W B pq mq mg rq bq ca)) :
    Calls Try.prog 11 #[.pointer (some ⟨pq, 0, none⟩), .slice p rs.length c] w (StIs w B pq mq mg rq bq ca) := by
  have hnn := pnone_no pq bq w (h.c 2 rfl)
  have HP := Hid.in h
  have HBR := Hid.in hr
  have HC := Hid.in hc
  have HPH := Hid.in hph
  clear h hr hc hph
  obtain ⟨R, hR⟩ : ∃ R, R = StIs w B pq mq mg rq bq ca := ⟨_, rfl⟩
  rw [← hR]
  have HRe := Hid.in hR
  clear hR
  have hmm := @run_makeMap Try.prog
  go_enter Try.func11, Try.ntmps11
  go_wp2_with (go_at_call 40; refine Hid.out ?_)
  refine Lib.hid ?_
  refine hnn.mono ?_
  rintro e w1 ⟨rfl, hw⟩
  rw [hw]
  clear hw hnn
  have HM0 := Hid.in (World.ownsMap_made w Try.prog 31 RF)
  have HL0 := Hid.in (new_alloc w (.map #[] 0))
  go_wp2_with (refine wp_insert HM0.out rfl _ _ _ rfl rfl (by decide) 0 _ rfl rfl (by decide) ?_; intro v1 hm hg; refine Hid.out ?_)
  refine Lib.hid ?_
  have HM1 := Hid.in hm
  have HL1 := Hid.in (HL0.out.trans (below_grown hg (Nat.le_refl _) HL0.out.size))
  clear hm hg HM0 HL0
  go_wp2_with (refine wp_insert HM1.out rfl _ _ _ rfl rfl (by decide) 1 _ rfl rfl (by decide) ?_; intro v2 hm hg; refine Hid.out ?_)
  refine Lib.hid ?_
  have HM2 := Hid.in hm
  have HL2 := Hid.in (HL1.out.trans (below_grown hg (Nat.le_refl _) HL1.out.size))
  clear hm hg HM1 HL1
  go_wp2_with (refine wp_insert HM2.out rfl _ _ _ rfl rfl (by decide) 2 _ rfl rfl (by decide) ?_; intro v3 hm hg; refine Hid.out ?_)
  refine Lib.hid ?_
  have HM3 := Hid.in hm
  have HL3 := Hid.in (HL2.out.trans (below_grown hg (Nat.le_refl _) HL2.out.size))
  clear hm hg HM2 HL2
  go_wp2_with (refine wp_insert HM3.out rfl _ _ _ rfl rfl (by decide) 3 _ rfl rfl (by decide) ?_; intro v4 hm hg; refine Hid.out ?_)
  refine Lib.hid ?_
  have HM4 := Hid.in hm
  have HL4 := Hid.in (HL3.out.trans (below_grown hg (Nat.le_refl _) HL3.out.size))
  clear hm hg HM3 HL3
  go_wp2_with (refine wp_insert HM4.out rfl _ _ _ rfl rfl (by decide) 4 _ rfl rfl (by decide) ?_; intro v5 hm hg; refine Hid.out ?_)
  refine Lib.hid ?_
  have HM5 := Hid.in hm
  have HL5 := Hid.in (HL4.out.trans (below_grown hg (Nat.le_refl _) HL4.out.size))
  clear hm hg HM4 HL4
  go_wp2_with (refine wp_insert HM5.out rfl _ _ _ rfl rfl (by decide) 5 _ rfl rfl (by decide) ?_; intro v6 hm hg; refine Hid.out ?_)
  refine Lib.hid ?_
  have HM6 := Hid.in hm
  have HL6 := Hid.in (HL5.out.trans (below_grown hg (Nat.le_refl _) HL5.out.size))
  clear hm hg HM5 HL5
  go_wp2_with (refine wp_insert HM6.out rfl _ _ _ rfl rfl (by decide) 6 _ rfl rfl (by decide) ?_; intro v7 hm hg; refine Hid.out ?_)
  refine Lib.hid ?_
  have HM7 := Hid.in hm
  have HL7 := Hid.in (HL6.out.trans (below_grown hg (Nat.le_refl _) HL6.out.size))
  clear hm hg HM6 HL6
  have hlk := run_look HM7.out 5 (by decide) _ (act_5 pq)
  have HP7 := Hid.in (HP.out.below HL7.out)
  have HB7 := Hid.in (HBR.out.below HL7.out)
  have c5 : v7.cell? ⟨pq, 5, none⟩ = some (.int .u8 5) := by have := HP7.out.c 5 (v := .int .u8 s.ph) rfl; rw [HPH.out] at this; exact this
  clear HP HBR HM7 HPH
  go_wp2_with (go_at_call 46; refine Hid.out ?_)
  refine Lib.hid ?_
  refine (HC.out v7 HP7.out HB7.out).mono ?_
  rintro e w2 ⟨v, lp', lc', rfl, hv, hP, hk⟩
  have HST : Hid (R (.returned (.tuple #[v, .bool ca.back, .int .i64 ca.e])) w2) := by rw [HRe.out]; exact (stIs_of rfl rfl hv hP hk).from HL7.out
  obtain ⟨pv, cv, ev, -⟩ := hv.shape
  clear hv hP hk HC HRe HP7 HB7 HL7 hlk c5
  subst ev
  go_wp2_with fail
  go_ret3
  exact HST.out
set_option maxRecDepth 20000 in
set_option maxHeartbeats 2000000 in
theorem pstep_6 (B pq mq mg rq bq : Nat) (lp : Option Addr) (lc : Nat) (s : PS) (p : Option Addr) (c : Nat) (rs : List Bool) (ca : SA) (w : World) (h : PA w B pq mq mg rq bq lp lc s) (hr : BRow w p rs) (hph : s.ph = 6)
    (hc : ∀ W, PA W B pq mq mg rq bq lp lc s → BRow W p rs → Calls Try.prog 47 #[.pointer (some ⟨pq, 0, none⟩), .slice p rs.length c] W (StIs W B pq mq mg rq bq ca)) :
    Calls Try.prog 11 #[.pointer (some ⟨pq, 0, none⟩), .slice p rs.length c] w (StIs w B pq mq mg rq bq ca) := by
  have hnn := pnone_no pq bq w (h.c 2 rfl)
  have HP := Hid.in h
  have HBR := Hid.in hr
  have HC := Hid.in hc
  have HPH := Hid.in hph
  clear h hr hc hph
  obtain ⟨R, hR⟩ : ∃ R, R = StIs w B pq mq mg rq bq ca := ⟨_, rfl⟩
  rw [← hR]
  have HRe := Hid.in hR
  clear hR
  have hmm := @run_makeMap Try.prog
  go_enter Try.func11, Try.ntmps11
  go_wp2_with (go_at_call 40; refine Hid.out ?_)
  refine Lib.hid ?_
  refine hnn.mono ?_
  rintro e w1 ⟨rfl, hw⟩
  rw [hw]
  clear hw hnn
  have HM0 := Hid.in (World.ownsMap_made w Try.prog 31 RF)
  have HL0 := Hid.in (new_alloc w (.map #[] 0))
  go_wp2_with (refine wp_insert HM0.out rfl _ _ _ rfl rfl (by decide) 0 _ rfl rfl (by decide) ?_; intro v1 hm hg; refine Hid.out ?_)
  refine Lib.hid ?_
  have HM1 := Hid.in hm
  have HL1 := Hid.in (HL0.out.trans (below_grown hg (Nat.le_refl _) HL0.out.size))
  clear hm hg HM0 HL0
  go_wp2_with (refine wp_insert HM1.out rfl _ _ _ rfl rfl (by decide) 1 _ rfl rfl (by decide) ?_; intro v2 hm hg; refine Hid.out ?_)
  refine Lib.hid ?_
  have HM2 := Hid.in hm
  have HL2 := Hid.in (HL1.out.trans (below_grown hg (Nat.le_refl _) HL1.out.size))
  clear hm hg HM1 HL1
  go_wp2_with (refine wp_insert HM2.out rfl _ _ _ rfl rfl (by decide) 2 _ rfl rfl (by decide) ?_; intro v3 hm hg; refine Hid.out ?_)
  refine Lib.hid ?_
  have HM3 := Hid.in hm
  have HL3 := Hid.in (HL2.out.trans (below_grown hg (Nat.le_refl _) HL2.out.size))
  clear hm hg HM2 HL2
  go_wp2_with (refine wp_insert HM3.out rfl _ _ _ rfl rfl (by decide) 3 _ rfl rfl (by decide) ?_; intro v4 hm hg; refine Hid.out ?_)
  refine Lib.hid ?_
  have HM4 := Hid.in hm
  have HL4 := Hid.in (HL3.out.trans (below_grown hg (Nat.le_refl _) HL3.out.size))
  clear hm hg HM3 HL3
  go_wp2_with (refine wp_insert HM4.out rfl _ _ _ rfl rfl (by decide) 4 _ rfl rfl (by decide) ?_; intro v5 hm hg; refine Hid.out ?_)
  refine Lib.hid ?_
  have HM5 := Hid.in hm
  have HL5 := Hid.in (HL4.out.trans (below_grown hg (Nat.le_refl _) HL4.out.size))
  clear hm hg HM4 HL4
  go_wp2_with (refine wp_insert HM5.out rfl _ _ _ rfl rfl (by decide) 5 _ rfl rfl (by decide) ?_; intro v6 hm hg; refine Hid.out ?_)
  refine Lib.hid ?_
  have HM6 := Hid.in hm
  have HL6 := Hid.in (HL5.out.trans (below_grown hg (Nat.le_refl _) HL5.out.size))
  clear hm hg HM5 HL5
  go_wp2_with (refine wp_insert HM6.out rfl _ _ _ rfl rfl (by decide) 6 _ rfl rfl (by decide) ?_; intro v7 hm hg; refine Hid.out ?_)
  refine Lib.hid ?_
  have HM7 := Hid.in hm
  have HL7 := Hid.in (HL6.out.trans (below_grown hg (Nat.le_refl _) HL6.out.size))
  clear hm hg HM6 HL6
  have hlk := run_look HM7.out 6 (by decide) _ (act_6 pq)
  have HP7 := Hid.in (HP.out.below HL7.out)
  have HB7 := Hid.in (HBR.out.below HL7.out)
  have c5 : v7.cell? ⟨pq, 5, none⟩ = some (.int .u8 6) := by have := HP7.out.c 5 (v := .int .u8 s.ph) rfl; rw [HPH.out] at this; exact this
  clear HP HBR HM7 HPH
  go_wp2_with (go_at_call 47; refine Hid.out ?_)
  refine Lib.hid ?_
  refine (HC.out v7 HP7.out HB7.out).mono ?_
  rintro e w2 ⟨v, lp', lc', rfl, hv, hP, hk⟩
  have HST : Hid (R (.returned (.tuple #[v, .bool ca.back, .int .i64 ca.e])) w2) := by rw [HRe.out]; exact (stIs_of rfl rfl hv hP hk).from HL7.out
  obtain ⟨pv, cv, ev, -⟩ := hv.shape
  clear hv hP hk HC HRe HP7 HB7 HL7 hlk c5
  subst ev
  go_wp2_with fail
  go_ret3
  exact HST.out

theorem pstep_any (B pq mq mg rq bq : Nat) (lp : Option Addr) (lc : Nat) (s : PS) (p : Option Addr) (c : Nat) (rs : List Bool) (w : World) (h : PA w B pq mq mg rq bq lp lc s) (hr : BRow w p rs) (ho : POk s 1000000) (hb : BtOk s.bt) :
    Calls Try.prog 11 #[.pointer (some ⟨pq, 0, none⟩), .slice p rs.length c] w (StIs w B pq mq mg rq bq (stpP s rs)) := by
  have hph := ho.ph
  have hst := ho.c3
  have hwa := ho.c4
  have hro := ho.c2
  have hwr := ho.c1
  have hn := ho.n
  have he : s.ph = 0 ∨ s.ph = 1 ∨ s.ph = 2 ∨ s.ph = 3 ∨ s.ph = 4 ∨ s.ph = 5 ∨ s.ph = 6 := by omega
  rcases he with e | e | e | e | e | e | e
  · have hS : stpP s rs = ⟨s, [], false, 0⟩ := by unfold stpP; rw [if_pos e]
    rw [hS]
    exact pstep_0 B pq mq mg rq bq lp lc s p c rs _ w h hr e (fun W hP _ => prest_any B pq mq mg rq bq lp lc s _ W hP)
  · have hS : stpP s rs = gatP s := by unfold stpP; simp [e]
    rw [hS]
    exact pstep_1 B pq mq mg rq bq lp lc s p c rs _ w h hr e (fun W hP _ => pgather_any B pq mq mg rq bq lp lc s _ W hP e hst.1 (by omega))
  · have hS : stpP s rs = wriP s rs := by unfold stpP; simp [e]
    rw [hS]
    exact pstep_2 B pq mq mg rq bq lp lc s p c rs _ w h hr e (fun W hP hR => pw_2 B pq mq mg rq bq lp lc s p c rs W hP hR e ho.w1 hb ho.xl hst.1 (by omega) hro.1 (by omega) hwr.1 (by omega) hn.1 hn.2)
  · have hS : stpP s rs = wriP s rs := by unfold stpP; simp [e]
    rw [hS]
    exact pstep_3 B pq mq mg rq bq lp lc s p c rs _ w h hr e (fun W hP hR => pw_3 B pq mq mg rq bq lp lc s p c rs W hP hR e ho.w1 hb ho.xl hst.1 (by omega) hro.1 (by omega) hwr.1 (by omega) hn.1 hn.2)
  · have hS : stpP s rs = wriP s rs := by unfold stpP; simp [e]
    rw [hS]
    exact pstep_4 B pq mq mg rq bq lp lc s p c rs _ w h hr e (fun W hP hR => pw_4 B pq mq mg rq bq lp lc s p c rs W hP hR e ho.w1 hb ho.xl hst.1 (by omega) hro.1 (by omega) hwr.1 (by omega) hn.1 hn.2)
  · have hS : stpP s rs = waiP s := by unfold stpP; simp [e]
    rw [hS]
    exact pstep_5 B pq mq mg rq bq lp lc s p c rs _ w h hr e (fun W hP _ => pwait_any B pq mq mg rq bq lp lc s _ W hP hst.1 (by omega) hwa.1 (by omega))
  · have hS : stpP s rs = clrP s := by unfold stpP; simp [e]
    rw [hS]
    exact pstep_6 B pq mq mg rq bq lp lc s p c rs _ w h hr e (fun W hP _ => pclear_any B pq mq mg rq bq lp lc s _ W hP hst.1 (by omega))

end Go.Proofs.Ytekggimgobeggaa
