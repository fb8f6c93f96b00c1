/-
  Proved here: the law PokeNone (switchyardlaw19) answers true for every input, and each argument reads afterwards as it read before. No condition of ours: the row's own reach alone (each slice and text takes at most 2^47 - 4096 bytes).
-/
import Derived.Test.YtekggimgobeggaaGe
import Derived.Test.YtekggimgobeggaaOpenX

/- Patchers that are none; PokeNone's walk. -/
namespace Go.Proofs.Ytekggimgobeggaa
open Go.RowKit Go.Sort

set_option maxHeartbeats 400000 in
theorem nstep (v rv : Value) (w : World) (h : Calls Try.prog 40 #[v] w fun e w' => e = .returned (.bool true) ∧ w' = w) :
    Calls Try.prog 11 #[v, rv] w fun e w' => e = .returned (.tuple #[.slice none 0 0, .bool false, .int .i64 1]) ∧ w' = w := by
  go_enter Try.func11, Try.ntmps11
  go_wp2_with (go_at_call 40; refine Hid.out ?_)
  refine Lib.hid ?_
  refine h.mono ?_
  rintro e w1 ⟨rfl, hw⟩
  rw [hw]
  clear hw
  go_wp2_with fail
  go_ret3
  exact ⟨rfl, rfl⟩
set_option maxHeartbeats 400000 in
theorem nfind (v av : Value) (w : World) (h : Calls Try.prog 40 #[v] w fun e w' => e = .returned (.bool true) ∧ w' = w) :
    Calls Try.prog 19 #[v, av] w fun e w' => e = .returned (.tuple #[.int .u32 0, .bool false]) ∧ w' = w := by
  go_enter Try.func19, Try.ntmps19
  go_wp2_with (go_at_call 40; refine Hid.out ?_)
  refine Lib.hid ?_
  refine h.mono ?_
  rintro e w1 ⟨rfl, hw⟩
  rw [hw]
  clear hw
  go_wp2_with fail
  go_ret2
  exact ⟨rfl, rfl⟩
set_option maxHeartbeats 400000 in
theorem nstart (v lv uv : Value) (w : World) (h : Calls Try.prog 40 #[v] w fun e w' => e = .returned (.bool true) ∧ w' = w) :
    Calls Try.prog 13 #[v, lv, uv] w fun e w' => e = .returned (.int .i64 1) ∧ w' = w := by
  go_enter Try.func13, Try.ntmps13
  go_wp2_with (go_at_call 40; refine Hid.out ?_)
  refine Lib.hid ?_
  refine h.mono ?_
  rintro e w1 ⟨rfl, hw⟩
  rw [hw]
  clear hw
  go_wp2_with fail
  go_ret
  exact ⟨rfl, rfl⟩
set_option maxHeartbeats 400000 in
theorem nphase (v : Value) (w : World) (h : Calls Try.prog 40 #[v] w fun e w' => e = .returned (.bool true) ∧ w' = w) :
    Calls Try.prog 9 #[v] w fun e w' => e = .returned (.int .u8 0) ∧ w' = w := by
  go_enter Try.func9, Try.ntmps9
  go_wp2_with (go_at_call 40; refine Hid.out ?_)
  refine Lib.hid ?_
  refine h.mono ?_
  rintro e w1 ⟨rfl, hw⟩
  rw [hw]
  clear hw
  go_wp2_with fail
  go_ret
  exact ⟨rfl, rfl⟩
set_option maxHeartbeats 400000 in
theorem npcopy (v mv rv : Value) (w : World) (h : Calls Try.prog 40 #[v] w fun e w' => e = .returned (.bool true) ∧ w' = w) :
    Calls Try.prog 16 #[v, mv, rv] w fun e w' => e = .returned (.pointer none) ∧ w' = w := by
  go_enter Try.func16, Try.ntmps16
  go_wp2_with (go_at_call 40; refine Hid.out ?_)
  refine Lib.hid ?_
  refine h.mono ?_
  rintro e w1 ⟨rfl, hw⟩
  rw [hw]
  clear hw
  go_wp2_with fail
  go_ret
  exact ⟨rfl, rfl⟩
set_option maxHeartbeats 1000000 in
theorem ncounts (v : Value) (w : World) (h : ∀ W, Below w.heap.size w W → Calls Try.prog 40 #[v] W fun e w' => e = .returned (.bool true) ∧ w' = W) :
    Calls Try.prog 12 #[v] w fun e w' => e = .returned (.agg (ctA ⟨0, 0, 0, 0, 0⟩)) ∧ Below w.heap.size w w' := by
  obtain ⟨w1, hw1⟩ : ∃ w1, w1 = w.alloc (.cells #[.int .i64 0, .int .i64 0, .int .i64 0, .int .i64 0, .int .i64 0] 45) := ⟨_, rfl⟩
  have HX : Hid (Blk w1 w.heap.size 45 #[.int .i64 0, .int .i64 0, .int .i64 0, .int .i64 0, .int .i64 0]) := by rw [hw1]; exact Blk.new _ _ _
  have HB : Hid (Below w.heap.size w w1) := by rw [hw1]; exact new_alloc _ _
  have hnn := h w1 HB.out
  have HW := Hid.in hw1
  clear h hw1
  go_enter Try.func12, Try.ntmps12
  go_wp2_with (go_at_call 40; refine Hid.out ?_)
  refine Lib.hid ?_
  rw [← HW.out]
  refine hnn.mono ?_
  rintro e w2 ⟨rfl, hw⟩
  rw [hw]
  clear hw hnn
  go_wp2_with (refine step_store_blk HX.out rfl 45 _ _ rfl rfl rfl (ctA ⟨0, 0, 0, 0, 0⟩) rfl (by kernel_rfl) rfl (by kernel_rfl) ?_; intro w3 hb3 hg3; refine Hid.out ?_)
  refine Lib.hid ?_
  have HB3 := Hid.in hb3
  have HG3 := Hid.in (HB.out.trans (below_grown hg3 (Nat.le_refl _) HB.out.size))
  clear hb3 hg3
  go_wp2_with fail
  exact bodyPost_ret (v := .agg (ctA ⟨0, 0, 0, 0, 0⟩)) (res12 HB3.out rfl) rfl ⟨rfl, HG3.out⟩
set_option maxHeartbeats 1000000 in
theorem pcopy_no {w : World} {q b : Nat} {v u : Value} (hc : w.cell? ⟨q, 2, none⟩ = some (.pointer (some ⟨b, 0, none⟩))) (h : Calls Try.prog 52 #[v, u] w fun e w' => e = .returned (.bool true) ∧ Below w.heap.size w w') :
    Calls Try.prog 16 #[.pointer (some ⟨q, 0, none⟩), v, u] w fun e w' => e = .returned (.pointer none) ∧ Below w.heap.size w w' := by
  have hnn := pnone_no q b w hc
  clear hc
  go_enter Try.func16, Try.ntmps16
  go_wp2_with (go_at_call 40; refine Hid.out ?_)
  refine Lib.hid ?_
  refine hnn.mono ?_
  rintro e w1 ⟨rfl, hw⟩
  rw [hw]
  clear hw w1 hnn
  go_wp2_with (go_at_call 52; refine Hid.out ?_)
  refine Lib.hid ?_
  refine h.mono ?_
  rintro e w1 ⟨rfl, hb⟩
  have HB1 := Hid.in hb
  clear hb h
  go_wp2_with fail
  go_ret
  exact ⟨rfl, HB1.out⟩
set_option maxRecDepth 20000 in
set_option maxHeartbeats 4000000 in
theorem none_walk (av lv uv rv : Value) (w : World) : Calls Try.prog 5 #[av, lv, uv, rv] w fun e w' => e = .returned (.bool true) ∧ Below w.heap.size w w' := by
  go_enter Try.func5, Try.ntmps5
  go_wp2_with (refine wp_make16 rfl _ _ rfl 8 rfl rfl (by decide) ?_; intro w1 HO1 HB1; refine Hid.out ?_)
  refine Lib.hid ?_
  go_wp2_with (go_at_call 20; refine Hid.out ?_)
  refine Lib.hid ?_
  refine (made_any (some ⟨w.heap.size, 0, none⟩) 8 8 (List.replicate 8 0) 1 w1 rfl (by decide) (by decide) HO1.out.row).mono ?_
  rintro e w2 ⟨k, mq, mg, rq, pq, bq, bv, g, hk, -, rfl, hP, hO, -, hb⟩
  have hk1 : k = 1 := hk.trans (by decide)
  subst hk1
  have HP2 : Hid (PA w2 w1.heap.size pq mq mg rq bq none 0 (newP (List.replicate 8 0) [false] 0)) := hP
  have HB2 := Hid.in (below_step HB1.out hb)
  obtain ⟨bp, bc, hbv, -, -⟩ := hO.slice
  subst hbv
  clear hP hO hb hk HO1 HB1
  have HZ66 : Hid (Blk ((w2.alloc (.cells (wA mq rq pq) 26)).alloc (.cells #[.slice none 0 0, .int .i64 0, .slice none 0 0, .int .u8 0, .int .u8 0, .slice none 0 0, .slice none 0 0, .int .i64 0, .bool false, .int .i64 0, .int .i64 0, .int .i64 0, .int .i64 0, .int .i64 0] 66)) (w2.heap.size + 1) 66 #[.slice none 0 0, .int .i64 0, .slice none 0 0, .int .u8 0, .int .u8 0, .slice none 0 0, .slice none 0 0, .int .i64 0, .bool false, .int .i64 0, .int .i64 0, .int .i64 0, .int .i64 0, .int .i64 0]) := by
    have hb := Blk.new (w2.alloc (.cells (wA mq rq pq) 26)) 66 #[.slice none 0 0, .int .i64 0, .slice none 0 0, .int .u8 0, .int .u8 0, .slice none 0 0, .slice none 0 0, .int .i64 0, .bool false, .int .i64 0, .int .i64 0, .int .i64 0, .int .i64 0, .int .i64 0]
    rw [size_one] at hb
    exact hb
  have HX0 : Hid (Blk ((w2.alloc (.cells (wA mq rq pq) 26)).alloc (.cells #[.slice none 0 0, .int .i64 0, .slice none 0 0, .int .u8 0, .int .u8 0, .slice none 0 0, .slice none 0 0, .int .i64 0, .bool false, .int .i64 0, .int .i64 0, .int .i64 0, .int .i64 0, .int .i64 0] 66)) w2.heap.size 26 (wA mq rq pq)) := (Blk.new _ _ _).grow (new_alloc _ _)
  have HL0 : Hid (Below w2.heap.size w2 ((w2.alloc (.cells (wA mq rq pq) 26)).alloc (.cells #[.slice none 0 0, .int .i64 0, .slice none 0 0, .int .u8 0, .int .u8 0, .slice none 0 0, .slice none 0 0, .int .i64 0, .bool false, .int .i64 0, .int .i64 0, .int .i64 0, .int .i64 0, .int .i64 0] 66))) := below_alloc (new_alloc _ _) _
  go_wp2_with (refine step_store_blk HZ66.out rfl 66 _ _ rfl rfl rfl (stA (.slice bp 8 bc) (.slice (some ⟨g, 0, none⟩) 1 1) 0 0 0 (.slice none 0 0) (.slice none 0 0) 0 false ⟨0, 0, 0, 0, 0⟩) rfl (by kernel_rfl) rfl (by kernel_rfl) ?_; intro w3 hb3 hg3; refine Hid.out ?_)
  refine Lib.hid ?_
  have HX3 := Hid.in (HX0.out.kept hg3 (fun e => by injection e with e; omega))
  have HL3 : Hid (Below w2.heap.size w2 w3) := HL0.out.trans (below_grown hg3 (Nat.le_succ _) HL0.out.size)
  have HP3 := Hid.in (HP2.out.below HL3.out)
  have HB3 := Hid.in (below_step HB2.out HL3.out)
  clear hb3 hg3 HZ66 HX0 HL0 HP2 HB2 HL3
  generalize w2.heap.size = r9 at *
  clear w2
  have q1 : w3.cell? ⟨r9, 1, none⟩ = some (.pointer (some ⟨rq, 0, none⟩)) := (HX3.out.cell 1).trans rfl
  go_wp2_with (go_at_call 15; refine Hid.out ?_)
  refine Lib.hid ?_
  refine (pnew_no (missing_m (.inl rfl) _)).mono ?_
  rintro e w4 ⟨rfl, hb⟩
  have HX4 := Hid.in (HX3.out.grow hb)
  have HP4 := Hid.in (HP3.out.below hb)
  have HB4 := Hid.in (below_step HB3.out hb)
  clear hb HX3 HP3 HB3 q1
  have q0 : w4.cell? ⟨r9, 0, none⟩ = some (.pointer (some ⟨mq, 0, none⟩)) := (HX4.out.cell 0).trans rfl
  go_wp2_with (go_at_call 15; refine Hid.out ?_)
  refine Lib.hid ?_
  refine (pnew_no (missing_r HP4.out.mem (.inl rfl) (by decide))).mono ?_
  rintro e w5 ⟨rfl, hb⟩
  have HX5 := Hid.in (HX4.out.grow hb)
  have HP5 := Hid.in (HP4.out.below hb)
  have HB5 := Hid.in (below_step HB4.out hb)
  clear hb HX4 HP4 HB4 q0
  have q1 : w5.cell? ⟨r9, 1, none⟩ = some (.pointer (some ⟨rq, 0, none⟩)) := (HX5.out.cell 1).trans rfl
  have qa1 := (((new_alloc w5 (.cells #[.bool false, .slice none 0 0] 93)).cell (p := ⟨r9, 1, none⟩) (cell_lt q1)).trans q1)
  go_wp2_with (go_at_call 15; refine Hid.out ?_)
  refine Lib.hid ?_
  obtain ⟨w6, hw6⟩ : ∃ w6, w6 = w5.alloc (.cells #[.bool false, .slice none 0 0] 93) := ⟨_, rfl⟩
  rw [← hw6]
  have hal : Below w5.heap.size w5 w6 := by rw [hw6]; exact new_alloc _ _
  have hz0 : w6.cell? ⟨w5.heap.size, 0, none⟩ = some (.bool false) := by rw [hw6]; exact ((Blk.new w5 93 #[.bool false, .slice none 0 0]).cell 0).trans rfl
  have HX6 := Hid.in (HX5.out.grow hal)
  have HP6 := Hid.in (HP5.out.below hal)
  have HB6 := Hid.in (below_step HB5.out hal)
  refine (pnew_no (missing_m (.inr ⟨w5.heap.size, rfl, hz0⟩) _)).mono ?_
  rintro e w7 ⟨rfl, hb⟩
  have HX7 := Hid.in (HX6.out.grow hb)
  have HP7 := Hid.in (HP6.out.below hb)
  have HB7 := Hid.in (below_step HB6.out hb)
  clear hb hal hz0 hw6 HX5 HP5 HB5 HX6 HP6 HB6 q1 qa1
  have q0 : w7.cell? ⟨r9, 0, none⟩ = some (.pointer (some ⟨mq, 0, none⟩)) := (HX7.out.cell 0).trans rfl
  have qa0 := (((new_alloc w7 (.cells #[.bool false, .int .i64 0, .int .i64 0, .bool false, .bool false, .bool false, .bool false, .bool false, .bool false, .bool false, .bool false] 96)).cell (p := ⟨r9, 0, none⟩) (cell_lt q0)).trans q0)
  go_wp2_with (go_at_call 15; refine Hid.out ?_)
  refine Lib.hid ?_
  obtain ⟨w8, hw8⟩ : ∃ w8, w8 = w7.alloc (.cells #[.bool false, .int .i64 0, .int .i64 0, .bool false, .bool false, .bool false, .bool false, .bool false, .bool false, .bool false, .bool false] 96) := ⟨_, rfl⟩
  rw [← hw8]
  have hal : Below w7.heap.size w7 w8 := by rw [hw8]; exact new_alloc _ _
  have hz0 : w8.cell? ⟨w7.heap.size, 0, none⟩ = some (.bool false) := by rw [hw8]; exact ((Blk.new w7 96 #[.bool false, .int .i64 0, .int .i64 0, .bool false, .bool false, .bool false, .bool false, .bool false, .bool false, .bool false, .bool false]).cell 0).trans rfl
  have HX8 := Hid.in (HX7.out.grow hal)
  have HP8 := Hid.in (HP7.out.below hal)
  have HB8 := Hid.in (below_step HB7.out hal)
  refine (pnew_no (missing_r HP8.out.mem (.inr ⟨w7.heap.size, rfl, hz0⟩) (by decide))).mono ?_
  rintro e w9 ⟨rfl, hb⟩
  have HX9 := Hid.in (HX8.out.grow hb)
  have HP9 := Hid.in (HP8.out.below hb)
  have HB9 := Hid.in (below_step HB8.out hb)
  clear hb hal hz0 hw8 HX7 HP7 HB7 HX8 HP8 HB8 q0 qa0
  have q1 : w9.cell? ⟨r9, 1, none⟩ = some (.pointer (some ⟨rq, 0, none⟩)) := (HX9.out.cell 1).trans rfl
  have q2 : w9.cell? ⟨r9, 2, none⟩ = some (.pointer (some ⟨pq, 0, none⟩)) := (HX9.out.cell 2).trans rfl
  go_wp2_with (go_at_call 16; refine Hid.out ?_)
  refine Lib.hid ?_
  refine (pcopy_no (b := bq) (HP9.out.c 2 rfl) (missing_m (.inl rfl) _)).mono ?_
  rintro e w10 ⟨rfl, hb⟩
  have HX10 := Hid.in (HX9.out.grow hb)
  have HP10 := Hid.in (HP9.out.below hb)
  have HB10 := Hid.in (below_step HB9.out hb)
  clear hb HX9 HP9 HB9 q1 q2
  have q0 : w10.cell? ⟨r9, 0, none⟩ = some (.pointer (some ⟨mq, 0, none⟩)) := (HX10.out.cell 0).trans rfl
  have q2 : w10.cell? ⟨r9, 2, none⟩ = some (.pointer (some ⟨pq, 0, none⟩)) := (HX10.out.cell 2).trans rfl
  go_wp2_with (go_at_call 16; refine Hid.out ?_)
  refine Lib.hid ?_
  refine (pcopy_no (b := bq) (HP10.out.c 2 rfl) (missing_r HP10.out.mem (.inl rfl) (by decide))).mono ?_
  rintro e w11 ⟨rfl, hb⟩
  have HX11 := Hid.in (HX10.out.grow hb)
  have HP11 := Hid.in (HP10.out.below hb)
  have HB11 := Hid.in (below_step HB10.out hb)
  clear hb HX10 HP10 HB10 q0 q2
  go_wp2_with fail
  obtain ⟨w12, hw12⟩ : ∃ w12, w12 = (w11.alloc (.cells #[.pointer none, .pointer none, .pointer none, .slice none 0 0, .bool false, .int .u8 0, .int .i64 0, .int .u8 0, .int .i64 0, .int .i64 0, .int .i64 0, .int .i64 0, .int .i64 0] 99)).alloc (.cells #[.pointer none, .pointer (some ⟨w11.heap.size, 0, none⟩)] 24) := ⟨_, rfl⟩
  rw [← hw12]
  have hal : Below w11.heap.size w11 w12 := by rw [hw12]; exact below_alloc (new_alloc _ _) _
  have HZ12 : Hid (w12.cell? ⟨w11.heap.size, 2, none⟩ = some (.pointer none)) := by
    rw [hw12]
    exact (((Blk.new w11 99 #[.pointer none, .pointer none, .pointer none, .slice none 0 0, .bool false, .int .u8 0, .int .i64 0, .int .u8 0, .int .i64 0, .int .i64 0, .int .i64 0, .int .i64 0, .int .i64 0]).grow (new_alloc _ _)).cell 2).trans rfl
  have HS12 : Hid (Blk w12 (w11.heap.size + 1) 24 #[.pointer none, .pointer (some ⟨w11.heap.size, 0, none⟩)]) := by
    rw [hw12]
    have hb := Blk.new (w11.alloc (.cells #[.pointer none, .pointer none, .pointer none, .slice none 0 0, .bool false, .int .u8 0, .int .i64 0, .int .u8 0, .int .i64 0, .int .i64 0, .int .i64 0, .int .i64 0, .int .i64 0] 99)) 24 #[.pointer none, .pointer (some ⟨w11.heap.size, 0, none⟩)]
    rw [size_one] at hb
    exact hb
  have HX12 := Hid.in (HX11.out.grow hal)
  have HP12 := Hid.in (HP11.out.below hal)
  have HB12 := Hid.in (below_step HB11.out hal)
  clear hal hw12 HX11 HP11 HB11
  generalize w11.heap.size = zq at *
  go_loopw [117] (fun v wr => ∃ i : Nat, v = .int .i64 i ∧ i ≤ 2 ∧ Below w12.heap.size w12 wr) (fun v _ => 2 - (intOf v).toNat)
  case atStart => exact ⟨0, rfl, by decide, below_self _⟩
  case round =>
    obtain ⟨i, rfl, hi, hbr⟩ := hrel
    have HBR := Hid.in hbr
    clear hbr
    have HXr := Hid.in (HX12.out.grow HBR.out)
    have s0 : wr.cell? ⟨zq + 1, 0, none⟩ = some (.pointer none) := ((HS12.out.grow HBR.out).cell 0).trans rfl
    have s1 : wr.cell? ⟨zq + 1, 1, none⟩ = some (.pointer (some ⟨zq, 0, none⟩)) := ((HS12.out.grow HBR.out).cell 1).trans rfl
    have q0 : wr.cell? ⟨r9, 0, none⟩ = some (.pointer (some ⟨mq, 0, none⟩)) := (HXr.out.cell 0).trans rfl
    have q1 : wr.cell? ⟨r9, 1, none⟩ = some (.pointer (some ⟨rq, 0, none⟩)) := (HXr.out.cell 1).trans rfl
    have hz : wr.cell? ⟨zq, 2, none⟩ = some (.pointer none) := (HBR.out.cell (p := ⟨zq, 2, none⟩) (cell_lt HZ12.out)).trans HZ12.out
    have HZr := Hid.in hz
    clear hz
    have heq : ∀ W, (binOp .neq 45 (.agg #[.int .i64 0, .int .i64 0, .int .i64 0, .int .i64 0, .int .i64 0]) (.agg #[.int .i64 0, .int .i64 0, .int .i64 0, .int .i64 0, .int .i64 0])).run Try.prog W = .ok (.bool false) W := fun W => by kernel_rfl
    rcases (by omega : i = 0 ∨ i = 1 ∨ i = 2) with rfl | rfl | rfl
    · have hnn : ∀ W, Below wr.heap.size wr W → Calls Try.prog 40 #[.pointer none] W fun e w' => e = .returned (.bool true) ∧ w' = W := fun W hW => pnone_nil W
      have hn0 := hnn wr (below_self _)
      go_wp2_with (go_at_call 11; refine Hid.out ?_)
      refine Lib.hid ?_
      refine (nstep _ _ wr hn0).mono ?_
      rintro e w13 ⟨rfl, hw⟩
      rw [hw]
      clear hw w13
      go_wp2_with (go_at_call 19; refine Hid.out ?_)
      refine Lib.hid ?_
      refine (nfind _ _ wr hn0).mono ?_
      rintro e w13 ⟨rfl, hw⟩
      rw [hw]
      clear hw w13
      go_wp2_with (go_at_call 13; refine Hid.out ?_)
      refine Lib.hid ?_
      refine (nstart _ _ _ wr hn0).mono ?_
      rintro e w13 ⟨rfl, hw⟩
      rw [hw]
      clear hw w13
      go_wp2_with (go_at_call 9; refine Hid.out ?_)
      refine Lib.hid ?_
      refine (nphase _ wr hn0).mono ?_
      rintro e w13 ⟨rfl, hw⟩
      rw [hw]
      clear hw w13
      go_wp2_with (go_at_call 12; refine Hid.out ?_)
      refine Lib.hid ?_
      refine (ncounts _ wr hnn).mono ?_
      rintro e w13 ⟨rfl, hb⟩
      have HL := Hid.in hb
      have p0 : w13.cell? ⟨r9, 0, none⟩ = some (.pointer (some ⟨mq, 0, none⟩)) := (hb.cell (p := ⟨r9, 0, none⟩) (cell_lt q0)).trans q0
      have p1 : w13.cell? ⟨r9, 1, none⟩ = some (.pointer (some ⟨rq, 0, none⟩)) := (hb.cell (p := ⟨r9, 1, none⟩) (cell_lt q1)).trans q1
      have hn1 := hnn w13 hb
      clear hb
      go_wp2_with (go_at_call 16; refine Hid.out ?_)
      refine Lib.hid ?_
      refine (npcopy _ _ _ w13 hn1).mono ?_
      rintro e w14 ⟨rfl, hw⟩
      rw [hw]
      clear hw w14
      go_wp2_with fail
      go_roundw
      case rel => exact ⟨1, rfl, by decide, below_step HBR.out HL.out⟩
      case measure => simp [intOf]
    · have hnn : ∀ W, Below wr.heap.size wr W → Calls Try.prog 40 #[.pointer (some ⟨zq, 0, none⟩)] W fun e w' => e = .returned (.bool true) ∧ w' = W := fun W hW => pnone_zero zq W ((hW.cell (p := ⟨zq, 2, none⟩) (cell_lt HZr.out)).trans HZr.out)
      have hn0 := hnn wr (below_self _)
      go_wp2_with (go_at_call 11; refine Hid.out ?_)
      refine Lib.hid ?_
      refine (nstep _ _ wr hn0).mono ?_
      rintro e w13 ⟨rfl, hw⟩
      rw [hw]
      clear hw w13
      go_wp2_with (go_at_call 19; refine Hid.out ?_)
      refine Lib.hid ?_
      refine (nfind _ _ wr hn0).mono ?_
      rintro e w13 ⟨rfl, hw⟩
      rw [hw]
      clear hw w13
      go_wp2_with (go_at_call 13; refine Hid.out ?_)
      refine Lib.hid ?_
      refine (nstart _ _ _ wr hn0).mono ?_
      rintro e w13 ⟨rfl, hw⟩
      rw [hw]
      clear hw w13
      go_wp2_with (go_at_call 9; refine Hid.out ?_)
      refine Lib.hid ?_
      refine (nphase _ wr hn0).mono ?_
      rintro e w13 ⟨rfl, hw⟩
      rw [hw]
      clear hw w13
      go_wp2_with (go_at_call 12; refine Hid.out ?_)
      refine Lib.hid ?_
      refine (ncounts _ wr hnn).mono ?_
      rintro e w13 ⟨rfl, hb⟩
      have HL := Hid.in hb
      have p0 : w13.cell? ⟨r9, 0, none⟩ = some (.pointer (some ⟨mq, 0, none⟩)) := (hb.cell (p := ⟨r9, 0, none⟩) (cell_lt q0)).trans q0
      have p1 : w13.cell? ⟨r9, 1, none⟩ = some (.pointer (some ⟨rq, 0, none⟩)) := (hb.cell (p := ⟨r9, 1, none⟩) (cell_lt q1)).trans q1
      have hn1 := hnn w13 hb
      clear hb
      go_wp2_with (go_at_call 16; refine Hid.out ?_)
      refine Lib.hid ?_
      refine (npcopy _ _ _ w13 hn1).mono ?_
      rintro e w14 ⟨rfl, hw⟩
      rw [hw]
      clear hw w14
      go_wp2_with fail
      go_roundw
      case rel => exact ⟨2, rfl, by decide, below_step HBR.out HL.out⟩
      case measure => simp [intOf]
    · go_wp2_with (go_at_call 21; refine Hid.out ?_)
      refine Lib.hid ?_
      refine (awake_any wr).mono ?_
      rintro e w13 ⟨rfl, hb⟩
      have HF := Hid.in (below_step (below_step HB12.out HBR.out) hb)
      clear hb
      go_wp2_with fail
      go_ret
      exact ⟨rfl, HF.out⟩
end Go.Proofs.Ytekggimgobeggaa

namespace Go.Proofs.Ytekggimgobeggaa
open Go.ChangeShapes Go.WideShapes Go.ChangeAt Go.RowKit
open Go.ChangeMaps (open_string shut_string)

set_option maxRecDepth 100000 in
theorem pokeNone_lifted (os : Os) (started : os.Started) (H : Type) (enc : TypeId × Value → H) :
    ReturnsInHanded {} Try.checked os 5 .any (Rows.pokeNoneSpec.pre6 enc Try.prog Try.f5 Rows.pokeNoneRow.domain false) (Rows.pokeNoneSpec.post enc Try.prog Try.f5 false true false false) := by
  refine returnsInHanded_of_change_sized (C := Try.checked) Try.own started (by kernel_rfl) Try.func5
    (ChangeSpec.witness6 (enc := enc) (C := Try.checked) false ⟨#[], #[.int .u32 0, .slice none 0 0, .bool false, .slice none 0 0], []⟩ 8 (by kernel_rfl) (by kernel_rfl) (by kernel_rfl) (by kernel_rfl)) ?_
  intro W base args ds gs before hval0 hW hcnd hsz0 _
  have hW' := hW
  obtain ⟨p, q, hA0, hV, rfl, hfz, hnd⟩ := hW
  have hA : DataW.TrodAll enc Try.prog W 0 (fun _ => true) true Try.f5.params.toList args.toList ds p := hA0
  have hval : ∀ (j : Nat) t v, Try.f5.params[j]? = some t → args[j]? = some v → Value.okWide Try.prog W .any base t v := hval0
  have hsz : (DataW.weightsEach Try.prog (Try.f5.params.toList ++ Rows.pokeNoneSpec.plain.varTypes Try.prog) (ds ++ gs)).all (· ≤ reachBytes) = true := hsz0
  rw [Try.params5] at hA hval hsz
  obtain ⟨v0, vs0, d0, ds0, p0, q0_, hargs, rfl, rfl, h0, r0⟩ := trodAll_cons hA
  obtain ⟨v1, vs1, d1, ds1, p1, q1_, rfl, rfl, rfl, h1, r1⟩ := trodAll_cons r0
  obtain ⟨v2, vs2, d2, ds2, p2, q2_, rfl, rfl, rfl, h2, r2⟩ := trodAll_cons r1
  obtain ⟨v3, vs3, d3, ds3, p3, q3_, rfl, rfl, rfl, h3, r3⟩ := trodAll_cons r2
  obtain ⟨rfl, rfl, rfl⟩ := trodAll_nil r3
  obtain rfl : args = #[v0, v1, v2, v3] := by cases args; simp_all
  obtain ⟨rfl, rfl⟩ := trodVars_none hV
  have k0 := h0
  have lt0 : ∀ x ∈ p0, x.block < W.heap.size := by obtain ⟨m, hm⟩ := k0; exact DataW.trod_lt m _ _ _ hm
  obtain ⟨x0, rfl⟩ := open_id (hval 0 60 v0 rfl rfl) h0 hsz (j := 0) rfl rfl
  have k1 := h1
  have lt1 : ∀ x ∈ p1, x.block < W.heap.size := by obtain ⟨m, hm⟩ := k1; exact DataW.trod_lt m _ _ _ hm
  obtain ⟨x1, rfl⟩ := open_id (hval 1 49 v1 rfl rfl) h1 hsz (j := 1) rfl rfl
  have k2 := h2
  have lt2 : ∀ x ∈ p2, x.block < W.heap.size := by obtain ⟨m, hm⟩ := k2; exact DataW.trod_lt m _ _ _ hm
  obtain ⟨x2, rfl⟩ := open_id (hval 2 4 v2 rfl rfl) h2 hsz (j := 2) rfl rfl
  have k3 := h3
  have lt3 : ∀ x ∈ p3, x.block < W.heap.size := by obtain ⟨m, hm⟩ := k3; exact DataW.trod_lt m _ _ _ hm
  obtain ⟨x3, rfl⟩ := open_id (hval 3 39 v3 rfl rfl) h3 hsz (j := 3) rfl rfl
  refine (none_walk v0 v1 v2 v3 W).mono fun e W' ⟨he, bel⟩ => ?_
  subst he
  exact ⟨_, rfl, _, _, _, [], _, [], hW', trodAll_mk1 (shut_bool Try.underlying4 _), (trodAll_cons_mk (Below.trod Try.laidOut (by kernel_rfl) (of_decide_eq_true (by kernel_rfl)) k0 bel lt0) (trodAll_cons_mk (Below.trod Try.laidOut (by kernel_rfl) (of_decide_eq_true (by kernel_rfl)) k1 bel lt1) (trodAll_cons_mk (Below.trod Try.laidOut (by kernel_rfl) (of_decide_eq_true (by kernel_rfl)) k2 bel lt2) (trodAll_cons_mk (Below.trod Try.laidOut (by kernel_rfl) (of_decide_eq_true (by kernel_rfl)) k3 bel lt3) trodAll_mk0)))), rfl, bel.frame _, fun h => by cases h⟩

theorem pokeNone_holds : Rows.PokeNoneSaid :=
  OpenClaim.holds_of_wide 5 Try.f5 rfl rfl rfl rfl rfl rfl rfl ⟨rfl, rfl, rfl, rfl, rfl⟩ rfl rfl rfl rfl rfl (by kernel_rfl) Try.func5 (by kernel_rfl)
    (of_decide_eq_true (by kernel_rfl)) (by unfold Func.isWrapper; first | (rw [if_pos (by decide +kernel)]; kernel_rfl) | (rw [if_neg (by decide +kernel)]; exact ⟨rfl, rfl⟩))
    (fun os started H enc _ => pokeNone_lifted os started H enc)
#print axioms pokeNone_holds

end Go.Proofs.Ytekggimgobeggaa
