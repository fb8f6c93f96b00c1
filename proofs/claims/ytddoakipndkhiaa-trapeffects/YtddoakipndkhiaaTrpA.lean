/- Where a site's instructions lead: Effect, Old, and the document's Effect. -/
import Derived.Test.YtddoakipndkhiaaBatF
import Derived.Laws.ResultCell
import Derived.Deep.WholeRow
namespace Go.Proofs.Ytddoakipndkhiaa
open Go.RowKit

theorem step_build {ops : Array Oper} {rest : List Oper} {o : Oper} {a : Act} {w : World} {Q : Exit → Act → World → Prop} (hg : o.guard = none) (t : TypeId) (parts : Array (Nat × Operand)) (ho : o.op = .build t parts) (cells : Array Value)
    (hb : Try.prog.built t (parts.map fun (i, x) => (i, a.eval x)).toList = some cells)
    (h : wpList Try.prog ops Q rest (a.put o.dst (.agg cells)) w) : wpList Try.prog ops Q (o :: rest) a w := by
  refine wpList_plain hg fun _ hK => ?_
  unfold Oper.wp execOp
  simp only [ho, Sem.run_bind, run_build w t _ _ hb, Result.andThen_ok]
  exact hK _ _ h
theorem step_store_new {ops : Array Oper} {rest : List Oper} {o : Oper} {a : Act} {w : World} {Q : Exit → Act → World → Prop} {c : Array Value} (hg : o.guard = none) (t : TypeId) (p x : Operand) (ho : o.op = .store t p x) (hd : o.dst = none)
    (hp : a.eval p = .pointer (some ⟨w.heap.size, 0, none⟩)) (c' : Array Value) (hx : a.eval x = .agg c') (hi : (Try.prog.info? t).map (·.size) = some c'.size) (hcs : c.size = c'.size) (h1 : c'.all (·.oneCell') = true)
    (h : wpList Try.prog ops Q rest a (w.alloc (.cells c' t))) : wpList Try.prog ops Q (o :: rest) a (w.alloc (.cells c t)) := by
  refine wpList_plain hg fun _ hK => ?_
  unfold Oper.wp execOp
  have hs := run_storeAt_new (P := Try.prog) w t c c' hi hcs h1
  simp only [ho, hp, hx, Sem.run_bind, hs, Result.andThen_ok]
  exact hK _ _ (by rw [hd]; exact h)
theorem wrap_low (a : Int) : wrap64 a % 4294967296 = a % 4294967296 := by
  unfold wrap64
  omega
/-- a site's cells, as a value -/
abbrev siG (s : Si) : Value := .agg #[.int .i64 s.key, .int .i64 s.at_, .int .i64 s.to_]
/-- where its new instruction leads -/
def effT (s : Si) (up : Bool) : Int := if up = true then s.to_ % 4294967296 else (s.at_ + 5) % 4294967296

set_option maxHeartbeats 400000 in
theorem behind_any (s : Si) (w : World) : Calls Try.prog 25 #[siG s] w fun e w' => e = .returned (.int .u32 (effT s false)) ∧ Below w.heap.size w w' := by
  obtain ⟨k, a, t⟩ := s
  go_enter Try.func25, Try.ntmps25
  go_wp2
  go_ret
  refine ⟨?_, new_alloc _ _⟩
  simp [effT]
set_option maxHeartbeats 400000 in
theorem target_any (s : Si) (w : World) : Calls Try.prog 26 #[siG s] w fun e w' => e = .returned (.int .u32 (effT s true)) ∧ Below w.heap.size w w' := by
  obtain ⟨k, a, t⟩ := s
  go_enter Try.func26, Try.ntmps26
  go_wp2
  go_ret
  refine ⟨?_, new_alloc _ _⟩
  simp [effT]
set_option maxHeartbeats 400000 in
theorem tdir_any (up : Bool) (w : World) : Calls Try.prog 20 #[.bool up] w fun e w' => e = .returned (.int .i64 (dirK up)) ∧ w' = w := by
  cases up
  · go_enter Try.func20, Try.ntmps20
    go_wp2
    go_ret
    exact ⟨rfl, rfl⟩
  · go_enter Try.func20, Try.ntmps20
    go_wp2
    go_ret
    exact ⟨rfl, rfl⟩
set_option maxHeartbeats 400000 in
theorem leaders_any (w : World) : Calls Try.prog 19 #[] w fun e w' => e = .returned (.agg #[.func (.func 25) #[] #[], .func (.func 26) #[] #[]]) ∧ Below w.heap.size w w' := by
  go_enter Try.func19, Try.ntmps19
  go_wp2_with (refine step_build rfl 52 _ rfl #[.func (.func 25) #[] #[], .func (.func 26) #[] #[]] (by kernel_rfl) ?_; refine step_store_new rfl 52 _ _ rfl rfl rfl #[.func (.func 25) #[] #[], .func (.func 26) #[] #[]] rfl (by kernel_rfl) rfl (by kernel_rfl) ?_)
  have hld := run_loadVar_new (P := Try.prog) w 52 #[.func (.func 25) #[] #[], .func (.func 26) #[] #[]] 2 51 (by kernel_rfl) (by kernel_rfl)
  refine bodyPost_ret (v := .agg #[.func (.func 25) #[] #[], .func (.func 26) #[] #[]]) ?_ rfl ⟨rfl, new_alloc _ _⟩
  simp only [results, Try.results19]
  simp [asAddr, Act.put, hld]
abbrev ldA : Array Value := #[.func (.func 25) #[] #[], .func (.func 26) #[] #[]]
theorem ld_0 (W : World) : (Instr.index 52 (.agg ldA) (.int .i64 0)).run Try.prog W = .ok (.func (.func 25) #[] #[]) W := by kernel_rfl
theorem ld_1 (W : World) : (Instr.index 52 (.agg ldA) (.int .i64 1)).run Try.prog W = .ok (.func (.func 26) #[] #[]) W := by kernel_rfl
set_option maxHeartbeats 1000000 in
theorem effect_any (s : Si) (up : Bool) (w : World) : Calls Try.prog 12 #[siG s, .bool up] w fun e w' => e = .returned (.int .u32 (effT s up)) ∧ Below w.heap.size w w' := by
  go_enter Try.func12, Try.ntmps12
  go_upto_region 1 with fail
  have HA0 : Hid (Blk (w.alloc (.cells #[.int .i64 s.key, .int .i64 s.at_, .int .i64 s.to_] 35)) w.heap.size 35 #[.int .i64 s.key, .int .i64 s.at_, .int .i64 s.to_]) := Blk.new w 35 _
  have HW0 : Hid (Below w.heap.size w (w.alloc (.cells #[.int .i64 s.key, .int .i64 s.at_, .int .i64 s.to_] 35))) := new_alloc w _
  generalize w.alloc (.cells #[.int .i64 s.key, .int .i64 s.at_, .int .i64 s.to_] 35) = w0 at *
  have a0 : w0.cell? ⟨w.heap.size, 0, none⟩ = some (.int .i64 s.key) := HA0.out.cell 0
  have a1 : w0.cell? ⟨w.heap.size, 1, none⟩ = some (.int .i64 s.at_) := HA0.out.cell 1
  have a2 : w0.cell? ⟨w.heap.size, 2, none⟩ = some (.int .i64 s.to_) := HA0.out.cell 2
  cases up
  · have hd : dirK false = 0 := rfl
    have hix := ld_0
    go_region_held3 (fun W => W.cell? ⟨w.heap.size, 0, none⟩ = some (.int .i64 s.key) ∧ W.cell? ⟨w.heap.size, 1, none⟩ = some (.int .i64 s.at_) ∧ W.cell? ⟨w.heap.size, 2, none⟩ = some (.int .i64 s.to_)) (first | go_keep | exact hk1 | exact hk2)
      (first
        | (go_at_call 19; refine (leaders_any _).mono ?_; rintro E w1 ⟨rfl, hb1⟩; have HW1 := Hid.in (below_step (below_draws HW0.out 1) hb1); have HA1 := Hid.in (HA0.out.grow (below_step (below_draws (below_self w0) 1) hb1)); have hk1 : w1.cell? ⟨w.heap.size, 0, none⟩ = some (.int .i64 s.key) ∧ w1.cell? ⟨w.heap.size, 1, none⟩ = some (.int .i64 s.at_) ∧ w1.cell? ⟨w.heap.size, 2, none⟩ = some (.int .i64 s.to_) := ⟨HA1.out.cell 0, HA1.out.cell 1, HA1.out.cell 2⟩; clear hb1)
        | (go_at_call 20; refine (tdir_any _ _).mono ?_; rintro E w2 ⟨rfl, rfl⟩; rw [hd])
        | (go_at_call 25; refine (behind_any s _).mono ?_; rintro E w3 ⟨rfl, hb3⟩; have HW3 := Hid.in (below_step HW1.out hb3); have hk2 : w3.cell? ⟨w.heap.size, 0, none⟩ = some (.int .i64 s.key) ∧ w3.cell? ⟨w.heap.size, 1, none⟩ = some (.int .i64 s.at_) ∧ w3.cell? ⟨w.heap.size, 2, none⟩ = some (.int .i64 s.to_) := ⟨(HA1.out.grow hb3).cell 0, (HA1.out.grow hb3).cell 1, (HA1.out.grow hb3).cell 2⟩; clear hb3))
    go_wp2_with fail
    go_ret
    exact ⟨rfl, HW3.out⟩
  · have hd : dirK true = 1 := rfl
    have hix := ld_1
    go_region_held3 (fun W => W.cell? ⟨w.heap.size, 0, none⟩ = some (.int .i64 s.key) ∧ W.cell? ⟨w.heap.size, 1, none⟩ = some (.int .i64 s.at_) ∧ W.cell? ⟨w.heap.size, 2, none⟩ = some (.int .i64 s.to_)) (first | go_keep | exact hk1 | exact hk2)
      (first
        | (go_at_call 19; refine (leaders_any _).mono ?_; rintro E w1 ⟨rfl, hb1⟩; have HW1 := Hid.in (below_step (below_draws HW0.out 1) hb1); have HA1 := Hid.in (HA0.out.grow (below_step (below_draws (below_self w0) 1) hb1)); have hk1 : w1.cell? ⟨w.heap.size, 0, none⟩ = some (.int .i64 s.key) ∧ w1.cell? ⟨w.heap.size, 1, none⟩ = some (.int .i64 s.at_) ∧ w1.cell? ⟨w.heap.size, 2, none⟩ = some (.int .i64 s.to_) := ⟨HA1.out.cell 0, HA1.out.cell 1, HA1.out.cell 2⟩; clear hb1)
        | (go_at_call 20; refine (tdir_any _ _).mono ?_; rintro E w2 ⟨rfl, rfl⟩; rw [hd])
        | (go_at_call 26; refine (target_any s _).mono ?_; rintro E w3 ⟨rfl, hb3⟩; have HW3 := Hid.in (below_step HW1.out hb3); have hk2 : w3.cell? ⟨w.heap.size, 0, none⟩ = some (.int .i64 s.key) ∧ w3.cell? ⟨w.heap.size, 1, none⟩ = some (.int .i64 s.at_) ∧ w3.cell? ⟨w.heap.size, 2, none⟩ = some (.int .i64 s.to_) := ⟨(HA1.out.grow hb3).cell 0, (HA1.out.grow hb3).cell 1, (HA1.out.grow hb3).cell 2⟩; clear hb3))
    go_wp2_with fail
    go_ret
    exact ⟨rfl, HW3.out⟩
set_option maxHeartbeats 1000000 in
theorem refEffect_any (s : Si) (up : Bool) (w : World) : Calls Try.prog 13 #[siG s, .bool up] w fun e w' => e = .returned (.int .u32 (effT s up)) ∧ Below w.heap.size w w' := by
  obtain ⟨k, a, t⟩ := s
  cases up
  · go_enter Try.func13, Try.ntmps13
    go_wp2
    go_ret
    refine ⟨?_, new_alloc _ _⟩
    simp [effT, wrap_low]
  · go_enter Try.func13, Try.ntmps13
    go_wp2
    go_ret
    refine ⟨?_, new_alloc _ _⟩
    simp [effT]
set_option maxHeartbeats 1000000 in
theorem old_any (s : Si) (up : Bool) (w : World) : Calls Try.prog 14 #[siG s, .bool up] w fun e w' => e = .returned (.int .u32 (effT s (!up))) ∧ Below w.heap.size w w' := by
  go_enter Try.func14, Try.ntmps14
  go_upto_region 1 with fail
  have HW0 : Hid (Below w.heap.size w (w.alloc (.cells #[.int .i64 s.key, .int .i64 s.at_, .int .i64 s.to_] 35))) := new_alloc w _
  have HA0 : Hid (Blk (w.alloc (.cells #[.int .i64 s.key, .int .i64 s.at_, .int .i64 s.to_] 35)) w.heap.size 35 #[.int .i64 s.key, .int .i64 s.at_, .int .i64 s.to_]) := Blk.new w 35 _
  generalize w.alloc (.cells #[.int .i64 s.key, .int .i64 s.at_, .int .i64 s.to_] 35) = w0 at *
  have a0 : w0.cell? ⟨w.heap.size, 0, none⟩ = some (.int .i64 s.key) := HA0.out.cell 0
  have a1 : w0.cell? ⟨w.heap.size, 1, none⟩ = some (.int .i64 s.at_) := HA0.out.cell 1
  have a2 : w0.cell? ⟨w.heap.size, 2, none⟩ = some (.int .i64 s.to_) := HA0.out.cell 2
  go_wp2_with (go_at_call 12; refine Hid.out ?_)
  refine Lib.hid ?_
  refine (effect_any s (!up) w0).mono ?_
  rintro E w1 ⟨rfl, hb1⟩
  have HW1 := Hid.in (below_step HW0.out hb1)
  clear hb1
  go_wp2_with fail
  go_ret
  exact ⟨rfl, HW1.out⟩
end Go.Proofs.Ytddoakipndkhiaa
