/- isa.shapes answers the table. -/
import Derived.Test.YtekggimgobeggaaTable
import Derived.Laws.ResultCell
namespace Go.Proofs.Ytekggimgobeggaa
open Go.RowKit

theorem step_build {ops : Array Oper} {rest : List Oper} {o : Oper} {a : Act} {w : World} {Q : Exit → Act → World → Prop} (hg : o.guard = none) (t : TypeId) (parts : Array (Nat × Operand)) (ho : o.op = .build t parts) (cells : Array Value)
    (hb : Try.prog.built t (parts.map fun (i, x) => (i, a.eval x)).toList = some cells)
    (h : wpList Try.prog ops Q rest (a.put o.dst (.agg cells)) w) : wpList Try.prog ops Q (o :: rest) a w := by
  refine wpList_plain hg fun _ hK => ?_
  unfold Oper.wp execOp
  simp only [ho, Sem.run_bind, run_build w t _ _ hb, Result.andThen_ok]
  exact hK _ _ h

theorem step_store_new {ops : Array Oper} {rest : List Oper} {o : Oper} {a : Act} {w : World} {Q : Exit → Act → World → Prop} {c : Array Value} (hg : o.guard = none) (t : TypeId) (p x : Operand) (ho : o.op = .store t p x) (hd : o.dst = none)
    (hp : a.eval p = .pointer (some ⟨w.heap.size, 0, none⟩)) (c' : Array Value) (hx : a.eval x = .agg c') (hi : (Try.prog.info? t).map (·.size) = some c'.size) (hcs : c.size = c'.size) (h1 : c'.all (·.oneCell') = true)
    (h : wpList Try.prog ops Q rest a (w.alloc (.cells c' t))) : wpList Try.prog ops Q (o :: rest) a (w.alloc (.cells c t)) := by
  refine wpList_plain hg fun _ hK => ?_
  unfold Oper.wp execOp
  have hs := run_storeAt_new (P := Try.prog) w t c c' hi hcs h1
  simp only [ho, hp, hx, Sem.run_bind, hs, Result.andThen_ok]
  exact hK _ _ (by rw [hd]; exact h)

theorem act_turn {P : Program} {ops : Array Oper} {Q : Exit → Act → World → Prop} {l : List Oper} {W : World} {A B : Act} (h : A = B) (k : wpList P ops Q l B W) : wpList P ops Q l A W := h ▸ k
theorem Try.sizeTab : (Try.prog.info? 155).map (·.size) = some tab.size := by rw [tab_size]; exact Try.size155
theorem zero_tab : ∃ z : Array Value, z.size = tab.size ∧ ∀ w, (zeroValue 155).run Try.prog w = .ok (.agg z) w :=
  ⟨_, by rw [tab_size]; kernel_rfl, (zero_of_info Try.zero155).1⟩

set_option maxHeartbeats 400000 in
theorem shapes_any (w : World) :
    Calls Try.prog 100 #[] w fun e w' => e = .returned (.agg tab) ∧ Below w.heap.size w w' := by
  obtain ⟨z, hzs, hz⟩ := zero_tab
  have HZ : Hid (z.size = tab.size) := hzs
  clear hzs
  go_enter Try.func100, Try.ntmps100
  iterate 11 go_step
  refine step_build rfl 154 _ rfl (shpV 1) ?_ ?_
  · kernel_rfl
  refine step_build rfl 154 _ rfl (shpV 2) ?_ ?_
  · kernel_rfl
  refine step_build rfl 154 _ rfl (shpV 3) ?_ ?_
  · kernel_rfl
  refine step_build rfl 154 _ rfl (shpV 4) ?_ ?_
  · kernel_rfl
  refine step_build rfl 154 _ rfl (shpV 5) ?_ ?_
  · kernel_rfl
  refine step_build rfl 154 _ rfl (shpV 6) ?_ ?_
  · kernel_rfl
  refine step_build rfl 154 _ rfl (shpV 7) ?_ ?_
  · kernel_rfl
  refine step_build rfl 154 _ rfl (shpV 8) ?_ ?_
  · kernel_rfl
  refine step_build rfl 154 _ rfl (shpV 9) ?_ ?_
  · kernel_rfl
  refine step_build rfl 154 _ rfl (shpV 10) ?_ ?_
  · kernel_rfl
  refine step_build rfl 154 _ rfl (shpV 11) ?_ ?_
  · kernel_rfl
  refine step_build rfl 154 _ rfl (shpV 12) ?_ ?_
  · kernel_rfl
  refine step_build rfl 154 _ rfl (shpV 13) ?_ ?_
  · kernel_rfl
  refine step_build rfl 154 _ rfl (shpV 14) ?_ ?_
  · kernel_rfl
  refine step_build rfl 154 _ rfl (shpV 15) ?_ ?_
  · kernel_rfl
  refine step_build rfl 154 _ rfl (shpV 16) ?_ ?_
  · kernel_rfl
  refine step_build rfl 155 _ rfl tab ?_ ?_
  · kernel_rfl
  refine step_store_new rfl 155 _ _ rfl rfl ?_ tab ?_ Try.sizeTab HZ.out tab_one ?_
  · kernel_rfl
  · kernel_rfl
  refine act_turn (B := ⟨#[.pointer (some ⟨w.heap.size, 0, none⟩), .agg (shpV 1), .agg (shpV 2), .agg (shpV 3), .agg (shpV 4), .agg (shpV 5), .agg (shpV 6), .agg (shpV 7), .agg (shpV 8), .agg (shpV 9), .agg (shpV 10), .agg (shpV 11), .agg (shpV 12), .agg (shpV 13), .agg (shpV 14), .agg (shpV 15), .agg (shpV 16), .agg tab], []⟩) ?_ ?_
  · kernel_rfl
  go_wp2
  have hld := run_loadVar_new (P := Try.prog) w 155 tab 17 154 Try.underlying155 Try.sizeTab
  refine bodyPost_ret (v := .agg tab) ?_ rfl ⟨rfl, new_alloc _ _⟩
  simp only [results, Try.results100]
  simp [asAddr, hld]
end Go.Proofs.Ytekggimgobeggaa
