/- Texts put together: WIter, WLines. -/
import Derived.Test.YtgfmmbbebodapaaGreatDoorKg
import Derived.RangeFuncKeeps
import Derived.RangeFuncLeaves
import Derived.RangeFuncCalls
import Derived.Shelf.Abstract
import Derived.WalkKit
import Derived.OwnWalkIn
import Derived.TacticsInMore
import Derived.LoopNIn
import Derived.LoopIn
import Derived.RangeFuncBox
import Derived.OrdersIn

/- The function that words.cut hands out: it hands a text's lines to whatever loop ranges over it. -/
namespace Go.Proofs.YtgfmmbbebodapaaGreatDoor
open Go.RowKit Go.Shelf

attribute [local go_sem] Oper.semAt_some

/-- pieces no longer than M -/
abbrev Sh (M : Nat) : Type := { x : List UInt8 // x.length ≤ M }
/-- what has come, as plain lists -/
def vals {M : Nat} (pre : List (Sh M)) : List (List UInt8) := pre.map (·.1)
theorem vals_snoc {M : Nat} (pre : List (Sh M)) (x : Sh M) : vals (pre ++ [x]) = vals pre ++ [x.1] := by simp [vals]
theorem vals_len {M : Nat} (pre : List (Sh M)) : (vals pre).length = pre.length := by simp [vals]

def sizeOf1 : Value → Nat
  | .string s => s.size
  | _ => 0

/-- what stands ahead of the first byte 10, what behind -/
theorem ten_split (l : List UInt8) : (∀ x ∈ l, x ≠ 10) ∨ ∃ a b, l = a ++ 10 :: b ∧ ∀ x ∈ a, x ≠ 10 := by
  induction l with
  | nil => exact .inl fun x hx => by cases hx
  | cons c cs ih =>
    by_cases hc : c = 10
    · subst hc
      exact .inr ⟨[], cs, rfl, fun x hx => by cases hx⟩
    · rcases ih with h | ⟨a, b, rfl, h⟩
      · refine .inl fun x hx => ?_
        rcases List.mem_cons.1 hx with rfl | hx
        · exact hc
        · exact h x hx
      · refine .inr ⟨c :: a, b, rfl, fun x hx => ?_⟩
        rcases List.mem_cons.1 hx with rfl | hx
        · exact hc
        · exact h x hx
theorem grown_drewN (w : World) (m : Nat) : w.grownBy (w.drewN m) none := ⟨rfl, rfl, rfl, Nat.le_refl _, fun _ _ _ => rfl⟩

set_option maxRecDepth 100000 in
set_option maxHeartbeats 2000000 in
theorem iter_in (n : Nat) (hn : 1 ≤ n) (l B : Nat) (s : ByteArray) (hs : s.size ≤ 9223372036854775807) (J Jx : List (Sh s.size) → World → Prop) (W : World) (hJd : ∀ pre X m, J pre X → J pre (X.drewN m))
    (hY : ∀ pre x W1, J pre W1 → pre.length < (linesL s.data.toList).length → YieldAt Fence.wide (n - 1) Tryz.prog l #[.string (bytesOf x.1)] W1 fun e W' =>
      (e = .returned (.bool true) ∧ J (pre ++ [x]) W' ∧ True) ∨ (e = .returned (.bool false) ∧ Jx (pre ++ [x]) W'))
    (hB : W.cell? ⟨B, 0, none⟩ = some (.string s)) (h0 : J [] W) :
    CallsIn Fence.wide n Tryz.prog 101 #[.func (.yield l) #[] #[], .pointer (some ⟨B, 0, none⟩)] W fun e W' => (∃ v, e = .returned v) ∧
      ((∃ xs, vals xs = linesL s.data.toList ∧ J xs W') ∨ (∃ pre : List (Sh s.size), True ∧ Jx pre W')) := by
  refine callsIn_of_wp Tryz.func101 rfl trivial ?_ rfl
  simp only [Tryz.ntmps101, List.size_toArray, List.length_cons, List.length_nil, Nat.reduceAdd, Nat.reduceSub, Array.replicate_succ, Array.replicate_zero, List.push_toArray, List.append_toArray, List.nil_append, List.cons_append]
  gi_wp2
  gi_loopw [3] (fun t wr => ∃ (pre : List (Sh s.size)) (rest : List UInt8), t = .string (bytesOf rest) ∧ rest.length ≤ s.size ∧ linesL s.data.toList = vals pre ++ linesL rest ∧ J pre wr) (fun t _ => sizeOf1 t)
  case atStart =>
    exact ⟨[], s.data.toList, by rw [bytesOf_self], by rw [← Lib.size_eq]; exact Nat.le_refl _, rfl, h0⟩
  case round =>
    obtain ⟨pre, rest, rfl, hrl, hx, hJs⟩ := hrel
    by_cases hr : rest = []
    · subst hr
      have hz : (bytesOf []).toList.isEmpty = true := by rw [toList_eq, bytesOf_list]; rfl
      gi_wp2
      go_end0
      exact ⟨⟨_, rfl⟩, .inl ⟨pre, by rw [hx]; simp [linesL], hJs⟩⟩
    · have hz : (bytesOf rest).toList.isEmpty = false := by rw [toList_eq, bytesOf_list]; simpa using hr
      have hlen : 0 < rest.length := List.length_pos_iff.2 hr
      rcases ten_split rest with hno | ⟨a, b, rfl, hno⟩
      · have hC := fun w => (callsIn_wide (n := n - 1)).2 (cut_no (bytesOf rest) 10 (by rw [bytesOf_list]; exact hno) w)
        have hx2 : linesL s.data.toList = vals pre ++ [rest] := by rw [hx, linesL_last rest hno hr]
        obtain ⟨fn, tmps, assign, body, hy, hR⟩ := hY pre ⟨rest, hrl⟩ wr hJs (by rw [hx2]; simp [vals_len])
        gi_wp2_with fail
        refine ⟨trivial, (hC _).mono ?_⟩
        rintro e w2 ⟨rfl, rfl⟩
        gi_wp2
        refine hR.mono ?_
        rintro e w3 (⟨rfl, hJ3, _⟩ | ⟨rfl, hJx3⟩)
        · gi_wp2
          go_roundw
          case rel => exact ⟨pre ++ [⟨rest, hrl⟩], [], rfl, by simp, by rw [hx2, vals_snoc]; simp [linesL], hJ3⟩
          case measure => show sizeOf1 (.string (bytesOf [])) < sizeOf1 (.string (bytesOf rest)); simp only [sizeOf1, bytesOf_size]; exact hlen
        · gi_wp2
          refine bodyPost_ret (results_none rfl _ _ _) rfl ?_
          exact ⟨⟨_, rfl⟩, .inr ⟨pre ++ [⟨rest, hrl⟩], trivial, hJx3⟩⟩
      · have hC := fun w => (callsIn_wide (n := n - 1)).2 (cut_yes (bytesOf (a ++ 10 :: b)) a b 10 (by rw [bytesOf_list]) hno w (by rw [bytesOf_size]; omega))
        have hal : a.length ≤ s.size := by simp at hrl; omega
        have hx2 : linesL s.data.toList = vals (pre ++ [⟨a, hal⟩]) ++ linesL b := by rw [hx, linesL_cut a b hno, vals_snoc]; simp
        have hYm := fun m => hY pre ⟨a, hal⟩ (wr.drewN m) (hJd pre wr m hJs) (by rw [hx2, vals_snoc]; simp [vals_len])
        have hbl : b.length ≤ s.size := by simp at hrl; omega
        gi_wp2_with fail
        refine ⟨trivial, (hC _).mono ?_⟩
        rintro e w2 ⟨rfl, m, rfl⟩
        obtain ⟨fn, tmps, assign, body, hy, hR⟩ := hYm m
        gi_wp2
        refine hR.mono ?_
        rintro e w3 (⟨rfl, hJ3, _⟩ | ⟨rfl, hJx3⟩)
        · gi_wp2
          go_roundw
          case rel => exact ⟨pre ++ [⟨a, hal⟩], b, rfl, hbl, hx2, hJ3⟩
          case measure => show sizeOf1 (.string (bytesOf b)) < sizeOf1 (.string (bytesOf (a ++ 10 :: b))); simp only [sizeOf1, bytesOf_size]; simp; omega
        · gi_wp2
          refine bodyPost_ret (results_none rfl _ _ _) rfl ?_
          exact ⟨⟨_, rfl⟩, .inr ⟨pre ++ [⟨a, hal⟩], trivial, hJx3⟩⟩

theorem lines_stops (n : Nat) (hn : 1 ≤ n) (B : Nat) (s : ByteArray) (hs : s.size ≤ 9223372036854775807) (w : World) (hBw : B < w.heap.size) (hB : w.cell? ⟨B, 0, none⟩ = some (.string s)) :
    SeqStopsK Fence.wide n Tryz.prog 101 #[.pointer (some ⟨B, 0, none⟩)] (fun x : Sh s.size => #[Value.string (bytesOf x.1)]) (fun _ _ => True) (fun xs => vals xs = linesL s.data.toList) (fun _ => True) (linesL s.data.toList).length w :=
  fun l J Jx W hW hJ _ hY h0 => iter_in n hn l B s hs J Jx W (fun pre X m h => hJ pre X _ none h (grown_drewN X m) (fun r e => by cases e)) hY ((hW.cell (p := ⟨B, 0, none⟩) hBw).trans hB) h0

set_option maxHeartbeats 1000000 in
theorem cut_any (s : ByteArray) (w : World) :
    Calls Tryz.prog 75 #[.string s] w fun e w' => e = .returned (.func (.func 101) #[] #[.pointer (some ⟨w.heap.size, 0, none⟩)]) ∧ w' = w.alloc (.cells #[.string s] 9) := by
  go_enter Tryz.func75, Tryz.ntmps75
  go_wp2_with fail
  go_ret
  exact ⟨rfl, rfl⟩

end Go.Proofs.YtgfmmbbebodapaaGreatDoor

/- What words.Lines answers, for every text. -/
namespace Go.Proofs.YtgfmmbbebodapaaGreatDoor
open Go.RowKit Go.Shelf

attribute [local go_sem] Oper.semAt_some

/-- In a round of a loop over a function an operation that is no defer statement goes as everywhere. -/
theorem wpIn_of_wp {l n : Nat} {P : Program} {o : Oper} {a : Act} {w : World} {K : Act → World → Prop} {Q : Exit → Act → World → Prop} (hd : ∀ c, o.op ≠ .defer c)
    (h : o.wp P a w K Q) : o.wpIn (Fence.wide.inRound l) n P a w K Q := by
  refine ⟨fun _ _ => trivial, ?_⟩
  rw [Oper.semAt_eq _ _ _ hd]
  unfold Oper.wp at h
  generalize (execOp a.eval o).run P w = r at *
  cases r with
  | ok x w' =>
    cases x with
    | row row args => exact ⟨(fun e => by cases e), fun c cs _ => let ⟨v, w'', r, s⟩ := h c cs; ⟨v, w'', r, stepsIn_wide.2 s⟩⟩
    | enter f args => exact ⟨(fun e => by cases e), CallsIn.inRound l ((callsIn_wide (n := n - 1)).2 h)⟩
    | _ => first | exact h | exact h.elim
  | halt x w' => cases x <;> first | exact h | exact h.elim
/-- so, too, where it may come up in a region that draws its order -/
theorem ready_plain {l n : Nat} {P : Program} {md : Region.Mode} {ops : Array Oper} {Q : Exit → Act → World → Prop} {fuel : Nat} {listed : Array Bool} {a : Act} {w : World} {i : Nat} {o : Oper} {rs : List Nat} (ho : ops[i]? = some o) (hd : ∀ c, o.op ≠ .defer c)
    (h : ∀ K' : Act → World → Prop, (∀ a w, wpAnyIn (Fence.wide.inRound l) n P md ops Q fuel (listed.setIfInBounds i true) a w → K' a w) → if Region.wanted o (yielded ops a.tmps) = true then Oper.wp P o a w K' Q else K' (a.put o.dst undef) w)
    (hs : AllReadyIn (Fence.wide.inRound l) n P md ops Q fuel listed a w rs) : AllReadyIn (Fence.wide.inRound l) n P md ops Q fuel listed a w (i :: rs) :=
  AllReadyIn.cons ho (fun K' hK => by
    have := h K' hK
    split
    · rename_i hw; rw [if_pos hw] at this; exact wpIn_of_wp hd this
    · rename_i hw; rw [if_neg hw] at this; exact ⟨fun _ _ => trivial, this⟩) hs

/-- the block of a box and what it holds stay where a callee makes new blocks alone -/
theorem keeps_below {W W' : World} (h : Below W.heap.size W W') : KeepsOthers W W' :=
  ⟨h.size, fun k _ hk _ => (h.block k (Array.getElem?_eq_some_iff.1 hk).1).trans hk⟩

set_option maxRecDepth 100000 in
set_option maxHeartbeats 4000000 in
theorem lines_in (s : ByteArray) (w : World) (hs : s.size * 16 ≤ 140737488355328) :
    CallsIn Fence.wide 6 Tryz.prog 35 #[.string s] w fun e w' => ∃ v, e = .returned v ∧ GOwnV 9 w' w.heap.size v (strs (texts (linesL s.data.toList))) ∧ Below w.heap.size w w' := by
  have hll := linesL_length s.data.toList
  rw [← Lib.size_eq] at hll
  refine callsIn_of_wp_marks Tryz.func35 rfl trivial ?_ rfl
  simp only [Tryz.ntmps35, List.size_toArray, List.length_cons, List.length_nil, Nat.reduceAdd, Nat.reduceSub, Array.replicate_succ, Array.replicate_zero, List.push_toArray, List.append_toArray, List.nil_append, List.cons_append]
  gi_wp2_with fail
  refine ⟨trivial, ((callsIn_wide (n := 5)).2 (cut_any s _)).mono ?_⟩
  rintro e w1 ⟨rfl, rfl⟩
  gi_wp2_with fail
  have hb0 : Boxed ((w.alloc (.cells #[.slice none 0 0] 50)).alloc (.cells #[.string s] 9)) w.heap.size 50 (.slice none 0 0) := (Boxed.new w 50 _).alloc _
  have hb1 := (Boxed.new (w.alloc (.cells #[.slice none 0 0] 50)) 9 (.string s)).cell
  rw [World.size_alloc] at hb1
  have hB0 : Below w.heap.size w ((w.alloc (.cells #[.slice none 0 0] 50)).alloc (.cells #[.string s] 9)) := below_alloc (new_alloc w _) _
  refine wpIn_rangeFunc_ownF rfl (by decide) (gf := 101) (lb := #[.pointer (some ⟨w.heap.size + 1, 0, none⟩)]) rfl trivial (enters_of Tryz.func101 (by kernel_rfl) rfl)
    (lines_stops 5 (by decide) (w.heap.size + 1) s (by omega) _ (by simp) hb1) (fun _ _ => trivial) (fun _ _ _ _ _ _ _ _ => trivial) (Below.refl _ _) (fun _ => rfl)
    (fun pre W => (∃ v, Boxed W w.heap.size 50 v ∧ W.ownsRow w.heap.size 9 1 v (strs (texts (vals pre))).length (strs (texts (vals pre))) ∧ True) ∧ Below w.heap.size w W)
    (fun _ _ _ => False)
    (OwnFrom.and (Own.from (holdsRow_own w.heap.size w.heap.size 50 9 1 (fun pre => (strs (texts (vals pre))).length) (fun pre => strs (texts (vals pre))) (fun _ _ => True)) _) (ownFrom_below (Nat.le_refl _) (by simp; omega)))
    (fun _ _ _ _ _ hs _ _ => hs)
    ⟨⟨_, hb0, GOwnV.nil _ _ _, trivial⟩, hB0⟩
    (fun x => { tmps := #[.string s, undef, .slice none 0 0, .pointer (some ⟨w.heap.size, 0, none⟩), .string (bytesOf x.1), .string s, .func (.func 101) #[] #[.pointer (some ⟨w.heap.size + 1, 0, none⟩)], .string (bytesOf x.1), undef, undef, undef, undef, undef, undef], defers := [] }) ?assign ?body ?done ?stop
  case assign =>
    intro l x W K hK
    gi_wp2
    exact hK
  case body =>
    rintro l pre ⟨x, hx⟩ W ⟨⟨v, hbx, hrow, _⟩, hB⟩ hlt
    have hxs : (bytesOf x).size ≤ 281474976710656 := by rw [bytesOf_size]; omega
    have hcl := fun w => clone_any (bytesOf x) w hxs
    have hl1 : (strs (texts (vals pre))).length + 1 ≤ 140737488355328 := by simp [texts, vals]; omega
    have hl2 : ((strs (texts (vals pre))).length + 1) * 16 ≤ 140737488355328 := by simp [texts, vals]; omega
    have HS : Hid (strs (texts (vals (pre ++ [⟨x, hx⟩]))) = strs (texts (vals pre)) ++ [.string (bytesOf x)]) := by
      show strs (texts (vals (pre ++ [⟨x, hx⟩]))) = strs (texts (vals pre)) ++ [.string (bytesOf x)]
      rw [vals_snoc]; simp [texts]
    obtain ⟨p, cap, hv, _, _, _⟩ := GOwnV.slice (T := 9) hrow
    generalize strs (texts (vals pre)) = ys at *
    subst hv
    have c0 := hbx.cell
    have hsz := hB.size
    gi_wp2_with fail
    refine wpIn_region_any (by kernel_rfl) ?_
    change wpAnyIn (Fence.wide.inRound l) 4 Tryz.prog .any _ _ 6 #[false, false, false, false, false, false] _ W.drew
    refine wpAnyIn_ready (rs := [0, 1]) (by kernel_rfl) (by decide) (ready_plain rfl (fun c h => by cases h) ?_ (ready_plain rfl (fun c h => by cases h) ?_ AllReadyIn.nil))
    · intro K1 hK1
      go_simp
      refine hK1 _ _ ?_
      refine wpAnyIn_ready (rs := [1]) (by kernel_rfl) (by decide) (ready_plain rfl (fun c h => by cases h) ?_ AllReadyIn.nil)
      intro K2 hK2
      go_simp
      refine hK2 _ _ ?_
      refine wpAnyIn_ready (rs := [2]) (by kernel_rfl) (by decide) (ready_plain rfl (fun c h => by cases h) ?_ AllReadyIn.nil)
      intro K3 hK3
      go_simp
      refine (hcl _).mono ?_
      rintro e w2 ⟨rfl, hb2'⟩
      have hb2 : Below W.heap.size W w2 := below_step (below_self W).drew hb2'
      have hbx1 := boxed_below hbx hb2
      have c1 := hbx1.cell
      have c2 := fun o => (hbx1.alloc o).cell
      have hrow2 := GOwnV.below hrow hb2
      have hle2 : w.heap.size ≤ w2.heap.size := Nat.le_trans hsz hb2.size
      have hbelow : Below w.heap.size w w2 := hB.trans (hb2.mono hsz)
      refine hK3 _ _ ?_
      refine wpAnyIn_ready (rs := [3]) (by kernel_rfl) (by decide) (ready_plain rfl (fun c h => by cases h) ?_ AllReadyIn.nil)
      intro K4 hK4
      go_simp
      refine hK4 _ _ ?_
      refine wpAnyIn_ready (rs := [4]) (by kernel_rfl) (by decide) (ready_plain rfl (fun c h => by cases h) ?_ AllReadyIn.nil)
      intro K5 hK5
      refine step_gpush Tryz.elemS _ (by rfl) _ _ (by rfl) w.heap.size _ ys (by rfl) (hrow2.alloc _) ⟨w2.heap.size, 0, none⟩ 1 1 [.string (bytesOf x)] (by rfl) rfl (by decide) (cell_one_new _ _ _) (one_cell _) hl1 hl2 (by simp; omega) ?_
      intro g cap' w3 hown' hgrow _
      obtain ⟨hbx3, hbx2, hown2, hkeep, hbel2⟩ := Boxed.appended hbx1 (by decide) hrow2 hle2 (Nat.le_refl _) hown' hgrow
      have c3 := hbx3.cell
      have f3 := hbx3.frozen
      refine hK5 _ _ ?_
      refine wpAnyIn_ready (rs := [5]) (by kernel_rfl) (by decide) (ready_plain rfl (fun c h => by cases h) ?_ AllReadyIn.nil)
      intro K6 hK6
      go_simp
      refine hK6 _ _ ?_
      refine wpAnyIn_done (by kernel_rfl) ?_ _
      exact ⟨(keeps_below hb2).trans hkeep, trivial, ⟨_, hbx2, by rw [HS.out]; exact hown2, trivial⟩, hbelow.trans hbel2⟩
    · intro K7 hK7
      go_simp
      refine hK7 _ _ ?_
      refine wpAnyIn_ready (rs := [0, 2]) (by kernel_rfl) (by decide) (ready_plain rfl (fun c h => by cases h) ?_ (ready_plain rfl (fun c h => by cases h) ?_ AllReadyIn.nil))
      · intro K8 hK8
        go_simp
        refine hK8 _ _ ?_
        refine wpAnyIn_ready (rs := [2]) (by kernel_rfl) (by decide) (ready_plain rfl (fun c h => by cases h) ?_ AllReadyIn.nil)
        intro K9 hK9
        go_simp
        refine (hcl _).mono ?_
        rintro e w2 ⟨rfl, hb2'⟩
        have hb2 : Below W.heap.size W w2 := below_step (below_self W).drew hb2'
        have hbx1 := boxed_below hbx hb2
        have c1 := hbx1.cell
        have c2 := fun o => (hbx1.alloc o).cell
        have hrow2 := GOwnV.below hrow hb2
        have hle2 : w.heap.size ≤ w2.heap.size := Nat.le_trans hsz hb2.size
        have hbelow : Below w.heap.size w w2 := hB.trans (hb2.mono hsz)
        refine hK9 _ _ ?_
        refine wpAnyIn_ready (rs := [3]) (by kernel_rfl) (by decide) (ready_plain rfl (fun c h => by cases h) ?_ AllReadyIn.nil)
        intro K10 hK10
        go_simp
        refine hK10 _ _ ?_
        refine wpAnyIn_ready (rs := [4]) (by kernel_rfl) (by decide) (ready_plain rfl (fun c h => by cases h) ?_ AllReadyIn.nil)
        intro K11 hK11
        refine step_gpush Tryz.elemS _ (by rfl) _ _ (by rfl) w.heap.size _ ys (by rfl) (hrow2.alloc _) ⟨w2.heap.size, 0, none⟩ 1 1 [.string (bytesOf x)] (by rfl) rfl (by decide) (cell_one_new _ _ _) (one_cell _) hl1 hl2 (by simp; omega) ?_
        intro g cap' w3 hown' hgrow _
        obtain ⟨hbx3, hbx2, hown2, hkeep, hbel2⟩ := Boxed.appended hbx1 (by decide) hrow2 hle2 (Nat.le_refl _) hown' hgrow
        have c3 := hbx3.cell
        have f3 := hbx3.frozen
        refine hK11 _ _ ?_
        refine wpAnyIn_ready (rs := [5]) (by kernel_rfl) (by decide) (ready_plain rfl (fun c h => by cases h) ?_ AllReadyIn.nil)
        intro K12 hK12
        go_simp
        refine hK12 _ _ ?_
        refine wpAnyIn_done (by kernel_rfl) ?_ _
        exact ⟨(keeps_below hb2).trans hkeep, trivial, ⟨_, hbx2, by rw [HS.out]; exact hown2, trivial⟩, hbelow.trans hbel2⟩
      · intro K13 hK13
        go_simp
        refine (hcl _).mono ?_
        rintro e w2 ⟨rfl, hb2'⟩
        have hb2 : Below W.heap.size W w2 := below_step (below_self W).drew hb2'
        have hbx1 := boxed_below hbx hb2
        have c1 := hbx1.cell
        have c2 := fun o => (hbx1.alloc o).cell
        have hrow2 := GOwnV.below hrow hb2
        have hle2 : w.heap.size ≤ w2.heap.size := Nat.le_trans hsz hb2.size
        have hbelow : Below w.heap.size w w2 := hB.trans (hb2.mono hsz)
        refine hK13 _ _ ?_
        refine wpAnyIn_ready (rs := [0, 3]) (by kernel_rfl) (by decide) (ready_plain rfl (fun c h => by cases h) ?_ (ready_plain rfl (fun c h => by cases h) ?_ AllReadyIn.nil))
        · intro K14 hK14
          go_simp
          refine hK14 _ _ ?_
          refine wpAnyIn_ready (rs := [3]) (by kernel_rfl) (by decide) (ready_plain rfl (fun c h => by cases h) ?_ AllReadyIn.nil)
          intro K15 hK15
          go_simp
          refine hK15 _ _ ?_
          refine wpAnyIn_ready (rs := [4]) (by kernel_rfl) (by decide) (ready_plain rfl (fun c h => by cases h) ?_ AllReadyIn.nil)
          intro K16 hK16
          refine step_gpush Tryz.elemS _ (by rfl) _ _ (by rfl) w.heap.size _ ys (by rfl) (hrow2.alloc _) ⟨w2.heap.size, 0, none⟩ 1 1 [.string (bytesOf x)] (by rfl) rfl (by decide) (cell_one_new _ _ _) (one_cell _) hl1 hl2 (by simp; omega) ?_
          intro g cap' w3 hown' hgrow _
          obtain ⟨hbx3, hbx2, hown2, hkeep, hbel2⟩ := Boxed.appended hbx1 (by decide) hrow2 hle2 (Nat.le_refl _) hown' hgrow
          have c3 := hbx3.cell
          have f3 := hbx3.frozen
          refine hK16 _ _ ?_
          refine wpAnyIn_ready (rs := [5]) (by kernel_rfl) (by decide) (ready_plain rfl (fun c h => by cases h) ?_ AllReadyIn.nil)
          intro K17 hK17
          go_simp
          refine hK17 _ _ ?_
          refine wpAnyIn_done (by kernel_rfl) ?_ _
          exact ⟨(keeps_below hb2).trans hkeep, trivial, ⟨_, hbx2, by rw [HS.out]; exact hown2, trivial⟩, hbelow.trans hbel2⟩
        · intro K18 hK18
          go_simp
          refine hK18 _ _ ?_
          refine wpAnyIn_ready (rs := [0]) (by kernel_rfl) (by decide) (ready_plain rfl (fun c h => by cases h) ?_ AllReadyIn.nil)
          intro K19 hK19
          go_simp
          refine hK19 _ _ ?_
          refine wpAnyIn_ready (rs := [4]) (by kernel_rfl) (by decide) (ready_plain rfl (fun c h => by cases h) ?_ AllReadyIn.nil)
          intro K20 hK20
          refine step_gpush Tryz.elemS _ (by rfl) _ _ (by rfl) w.heap.size _ ys (by rfl) (hrow2.alloc _) ⟨w2.heap.size, 0, none⟩ 1 1 [.string (bytesOf x)] (by rfl) rfl (by decide) (cell_one_new _ _ _) (one_cell _) hl1 hl2 (by simp; omega) ?_
          intro g cap' w3 hown' hgrow _
          obtain ⟨hbx3, hbx2, hown2, hkeep, hbel2⟩ := Boxed.appended hbx1 (by decide) hrow2 hle2 (Nat.le_refl _) hown' hgrow
          have c3 := hbx3.cell
          have f3 := hbx3.frozen
          refine hK20 _ _ ?_
          refine wpAnyIn_ready (rs := [5]) (by kernel_rfl) (by decide) (ready_plain rfl (fun c h => by cases h) ?_ AllReadyIn.nil)
          intro K21 hK21
          go_simp
          refine hK21 _ _ ?_
          refine wpAnyIn_done (by kernel_rfl) ?_ _
          exact ⟨(keeps_below hb2).trans hkeep, trivial, ⟨_, hbx2, by rw [HS.out]; exact hown2, trivial⟩, hbelow.trans hbel2⟩
  case done =>
    rintro D ys W hD hys ⟨⟨v, hbx, hrow, _⟩, hB⟩ hK
    rw [hys] at hrow
    obtain ⟨p, cap, hv, _, _, _⟩ := GOwnV.slice (T := 9) hrow
    generalize hm : (strs (texts (linesL s.data.toList))).length = m at hv
    subst hv
    have c0 := hbx.cell
    gi_wp2
    refine ⟨by simp, .inl ⟨_, _, rfl, run_takeDeferred hK, ?_⟩⟩
    refine ⟨_, results_tmp rfl _ _ _, _, rfl, ?_, hB.trans (belowK_b (w := w) (Nat.le_refl _) W D _ _ (by simp at hD; omega) hK rfl rfl)⟩
    exact ownsRow_putObj hrow _ hK rfl
  case stop =>
    rintro D c pre W _ _ h _
    exact h.elim

theorem lines_any (s : ByteArray) (w : World) (hs : s.size * 16 ≤ 140737488355328) :
    Calls Tryz.prog 35 #[.string s] w fun e w' => ∃ v, e = .returned v ∧ GOwnV 9 w' w.heap.size v (strs (texts (linesL s.data.toList))) ∧ Below w.heap.size w w' := callsIn_wide.1 (lines_in s w hs)

end Go.Proofs.YtgfmmbbebodapaaGreatDoor
