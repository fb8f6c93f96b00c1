/- What words.Lines answers, for every text. -/
import Derived.Test.YtaabdffplfifkaaDoorWIter
import Derived.RangeFuncBox
import Derived.OrdersIn
namespace Go.Proofs.YtaabdffplfifkaaDoor
open Go.RowKit Go.Shelf

attribute [local go_sem] Oper.semAt_some

/-- In a round of a loop over a function an operation that is no defer statement goes as everywhere. -/
theorem wpIn_of_wp {l n : Nat} {P : Program} {o : Oper} {a : Act} {w : World} {K : Act → World → Prop} {Q : Exit → Act → World → Prop} (hd : ∀ c, o.op ≠ .defer c)
    (h : o.wp P a w K Q) : o.wpIn (Fence.wide.inRound l) n P a w K Q := by
  refine ⟨fun _ _ => trivial, ?_⟩
  rw [Oper.semAt_eq _ _ _ hd]
  unfold Oper.wp at h
  generalize (execOp a.eval o).run P w = r at *
  cases r with
  | ok x w' =>
    cases x with
    | row row args => exact ⟨(fun e => by cases e), fun c cs _ => let ⟨v, w'', r, s⟩ := h c cs; ⟨v, w'', r, stepsIn_wide.2 s⟩⟩
    | enter f args => exact ⟨(fun e => by cases e), CallsIn.inRound l ((callsIn_wide (n := n - 1)).2 h)⟩
    | _ => first | exact h | exact h.elim
  | halt x w' => cases x <;> first | exact h | exact h.elim
/-- so, too, where it may come up in a region that draws its order -/
theorem ready_plain {l n : Nat} {P : Program} {md : Region.Mode} {ops : Array Oper} {Q : Exit → Act → World → Prop} {fuel : Nat} {listed : Array Bool} {a : Act} {w : World} {i : Nat} {o : Oper} {rs : List Nat} (ho : ops[i]? = some o) (hd : ∀ c, o.op ≠ .defer c)
    (h : ∀ K' : Act → World → Prop, (∀ a w, wpAnyIn (Fence.wide.inRound l) n P md ops Q fuel (listed.setIfInBounds i true) a w → K' a w) → if Region.wanted o (yielded ops a.tmps) = true then Oper.wp P o a w K' Q else K' (a.put o.dst undef) w)
    (hs : AllReadyIn (Fence.wide.inRound l) n P md ops Q fuel listed a w rs) : AllReadyIn (Fence.wide.inRound l) n P md ops Q fuel listed a w (i :: rs) :=
  AllReadyIn.cons ho (fun K' hK => by
    have := h K' hK
    split
    · rename_i hw; rw [if_pos hw] at this; exact wpIn_of_wp hd this
    · rename_i hw; rw [if_neg hw] at this; exact ⟨fun _ _ => trivial, this⟩) hs

/-- the block of a box and what it holds stay where a callee makes new blocks alone -/
theorem keeps_below {W W' : World} (h : Below W.heap.size W W') : KeepsOthers W W' :=
  ⟨h.size, fun k _ hk _ => (h.block k (Array.getElem?_eq_some_iff.1 hk).1).trans hk⟩

set_option maxRecDepth 100000 in
set_option maxHeartbeats 4000000 in
theorem lines_in (s : ByteArray) (w : World) (hs : s.size * 16 ≤ 140737488355328) :
    CallsIn Fence.wide 6 Tryd.prog 14 #[.string s] w fun e w' => ∃ v, e = .returned v ∧ GOwnV 9 w' w.heap.size v (strs (texts (linesL s.data.toList))) ∧ Below w.heap.size w w' := by
  have hll := linesL_length s.data.toList
  rw [← Lib.size_eq] at hll
  refine callsIn_of_wp_marks Tryd.func14 rfl trivial ?_ rfl
  simp only [Tryd.ntmps14, List.size_toArray, List.length_cons, List.length_nil, Nat.reduceAdd, Nat.reduceSub, Array.replicate_succ, Array.replicate_zero, List.push_toArray, List.append_toArray, List.nil_append, List.cons_append]
  gi_wp2_with fail
  refine ⟨trivial, ((callsIn_wide (n := 5)).2 (cut_any s _)).mono ?_⟩
  rintro e w1 ⟨rfl, rfl⟩
  gi_wp2_with fail
  have hb0 : Boxed ((w.alloc (.cells #[.slice none 0 0] 24)).alloc (.cells #[.string s] 9)) w.heap.size 24 (.slice none 0 0) := (Boxed.new w 24 _).alloc _
  have hb1 := (Boxed.new (w.alloc (.cells #[.slice none 0 0] 24)) 9 (.string s)).cell
  rw [World.size_alloc] at hb1
  have hB0 : Below w.heap.size w ((w.alloc (.cells #[.slice none 0 0] 24)).alloc (.cells #[.string s] 9)) := below_alloc (new_alloc w _) _
  refine wpIn_rangeFunc_ownF rfl (by decide) (gf := 58) (lb := #[.pointer (some ⟨w.heap.size + 1, 0, none⟩)]) rfl trivial (enters_of Tryd.func58 (by kernel_rfl) rfl)
    (lines_stops 5 (by decide) (w.heap.size + 1) s (by omega) _ (by simp) hb1) (fun _ _ => trivial) (fun _ _ _ _ _ _ _ _ => trivial) (Below.refl _ _) (fun _ => rfl)
    (fun pre W => (∃ v, Boxed W w.heap.size 24 v ∧ W.ownsRow w.heap.size 9 1 v (strs (texts (vals pre))).length (strs (texts (vals pre))) ∧ True) ∧ Below w.heap.size w W)
    (fun _ _ _ => False)
    (OwnFrom.and (Own.from (holdsRow_own w.heap.size w.heap.size 24 9 1 (fun pre => (strs (texts (vals pre))).length) (fun pre => strs (texts (vals pre))) (fun _ _ => True)) _) (ownFrom_below (Nat.le_refl _) (by simp; omega)))
    (fun _ _ _ _ _ hs _ _ => hs)
    ⟨⟨_, hb0, GOwnV.nil _ _ _, trivial⟩, hB0⟩
    (fun x => { tmps := #[.string s, undef, .slice none 0 0, .pointer (some ⟨w.heap.size, 0, none⟩), .string (bytesOf x.1), .string s, .func (.func 58) #[] #[.pointer (some ⟨w.heap.size + 1, 0, none⟩)], .string (bytesOf x.1), undef, undef, undef, undef, undef, undef], defers := [] }) ?assign ?body ?done ?stop
  case assign =>
    intro l x W K hK
    gi_wp2
    exact hK
  case body =>
    rintro l pre ⟨x, hx⟩ W ⟨⟨v, hbx, hrow, _⟩, hB⟩ hlt
    have hxs : (bytesOf x).size ≤ 281474976710656 := by rw [bytesOf_size]; omega
    have hcl := fun w => clone_any (bytesOf x) w hxs
    have hl1 : (strs (texts (vals pre))).length + 1 ≤ 140737488355328 := by simp [texts, vals]; omega
    have hl2 : ((strs (texts (vals pre))).length + 1) * 16 ≤ 140737488355328 := by simp [texts, vals]; omega
    have HS : Hid (strs (texts (vals (pre ++ [⟨x, hx⟩]))) = strs (texts (vals pre)) ++ [.string (bytesOf x)]) := by
      show strs (texts (vals (pre ++ [⟨x, hx⟩]))) = strs (texts (vals pre)) ++ [.string (bytesOf x)]
      rw [vals_snoc]; simp [texts]
    obtain ⟨p, cap, hv, _, _, _⟩ := GOwnV.slice (T := 9) hrow
    generalize strs (texts (vals pre)) = ys at *
    subst hv
    have c0 := hbx.cell
    have hsz := hB.size
    gi_wp2_with fail
    refine wpIn_region_any (by kernel_rfl) ?_
    change wpAnyIn (Fence.wide.inRound l) 4 Tryd.prog .any _ _ 6 #[false, false, false, false, false, false] _ W.drew
    refine wpAnyIn_ready (rs := [0, 1]) (by kernel_rfl) (by decide) (ready_plain rfl (fun c h => by cases h) ?_ (ready_plain rfl (fun c h => by cases h) ?_ AllReadyIn.nil))
    · intro K1 hK1
      go_simp
      refine hK1 _ _ ?_
      refine wpAnyIn_ready (rs := [1]) (by kernel_rfl) (by decide) (ready_plain rfl (fun c h => by cases h) ?_ AllReadyIn.nil)
      intro K2 hK2
      go_simp
      refine hK2 _ _ ?_
      refine wpAnyIn_ready (rs := [2]) (by kernel_rfl) (by decide) (ready_plain rfl (fun c h => by cases h) ?_ AllReadyIn.nil)
      intro K3 hK3
      go_simp
      refine (hcl _).mono ?_
      rintro e w2 ⟨rfl, hb2'⟩
      have hb2 : Below W.heap.size W w2 := below_step (below_self W).drew hb2'
      have hbx1 := boxed_below hbx hb2
      have c1 := hbx1.cell
      have c2 := fun o => (hbx1.alloc o).cell
      have hrow2 := GOwnV.below hrow hb2
      have hle2 : w.heap.size ≤ w2.heap.size := Nat.le_trans hsz hb2.size
      have hbelow : Below w.heap.size w w2 := hB.trans (hb2.mono hsz)
      refine hK3 _ _ ?_
      refine wpAnyIn_ready (rs := [3]) (by kernel_rfl) (by decide) (ready_plain rfl (fun c h => by cases h) ?_ AllReadyIn.nil)
      intro K4 hK4
      go_simp
      refine hK4 _ _ ?_
      refine wpAnyIn_ready (rs := [4]) (by kernel_rfl) (by decide) (ready_plain rfl (fun c h => by cases h) ?_ AllReadyIn.nil)
      intro K5 hK5
      refine step_gpush Tryd.elemS _ (by rfl) _ _ (by rfl) w.heap.size _ ys (by rfl) (hrow2.alloc _) ⟨w2.heap.size, 0, none⟩ 1 1 [.string (bytesOf x)] (by rfl) rfl (by decide) (cell_one_new _ _ _) (one_cell _) hl1 hl2 (by simp; omega) ?_
      intro g cap' w3 hown' hgrow _
      obtain ⟨hbx3, hbx2, hown2, hkeep, hbel2⟩ := Boxed.appended hbx1 (by decide) hrow2 hle2 (Nat.le_refl _) hown' hgrow
      have c3 := hbx3.cell
      have f3 := hbx3.frozen
      refine hK5 _ _ ?_
      refine wpAnyIn_ready (rs := [5]) (by kernel_rfl) (by decide) (ready_plain rfl (fun c h => by cases h) ?_ AllReadyIn.nil)
      intro K6 hK6
      go_simp
      refine hK6 _ _ ?_
      refine wpAnyIn_done (by kernel_rfl) ?_ _
      exact ⟨(keeps_below hb2).trans hkeep, trivial, ⟨_, hbx2, by rw [HS.out]; exact hown2, trivial⟩, hbelow.trans hbel2⟩
    · intro K7 hK7
      go_simp
      refine hK7 _ _ ?_
      refine wpAnyIn_ready (rs := [0, 2]) (by kernel_rfl) (by decide) (ready_plain rfl (fun c h => by cases h) ?_ (ready_plain rfl (fun c h => by cases h) ?_ AllReadyIn.nil))
      · intro K8 hK8
        go_simp
        refine hK8 _ _ ?_
        refine wpAnyIn_ready (rs := [2]) (by kernel_rfl) (by decide) (ready_plain rfl (fun c h => by cases h) ?_ AllReadyIn.nil)
        intro K9 hK9
        go_simp
        refine (hcl _).mono ?_
        rintro e w2 ⟨rfl, hb2'⟩
        have hb2 : Below W.heap.size W w2 := below_step (below_self W).drew hb2'
        have hbx1 := boxed_below hbx hb2
        have c1 := hbx1.cell
        have c2 := fun o => (hbx1.alloc o).cell
        have hrow2 := GOwnV.below hrow hb2
        have hle2 : w.heap.size ≤ w2.heap.size := Nat.le_trans hsz hb2.size
        have hbelow : Below w.heap.size w w2 := hB.trans (hb2.mono hsz)
        refine hK9 _ _ ?_
        refine wpAnyIn_ready (rs := [3]) (by kernel_rfl) (by decide) (ready_plain rfl (fun c h => by cases h) ?_ AllReadyIn.nil)
        intro K10 hK10
        go_simp
        refine hK10 _ _ ?_
        refine wpAnyIn_ready (rs := [4]) (by kernel_rfl) (by decide) (ready_plain rfl (fun c h => by cases h) ?_ AllReadyIn.nil)
        intro K11 hK11
        refine step_gpush Tryd.elemS _ (by rfl) _ _ (by rfl) w.heap.size _ ys (by rfl) (hrow2.alloc _) ⟨w2.heap.size, 0, none⟩ 1 1 [.string (bytesOf x)] (by rfl) rfl (by decide) (cell_one_new _ _ _) (one_cell _) hl1 hl2 (by simp; omega) ?_
        intro g cap' w3 hown' hgrow _
        obtain ⟨hbx3, hbx2, hown2, hkeep, hbel2⟩ := Boxed.appended hbx1 (by decide) hrow2 hle2 (Nat.le_refl _) hown' hgrow
        have c3 := hbx3.cell
        have f3 := hbx3.frozen
        refine hK11 _ _ ?_
        refine wpAnyIn_ready (rs := [5]) (by kernel_rfl) (by decide) (ready_plain rfl (fun c h => by cases h) ?_ AllReadyIn.nil)
        intro K12 hK12
        go_simp
        refine hK12 _ _ ?_
        refine wpAnyIn_done (by kernel_rfl) ?_ _
        exact ⟨(keeps_below hb2).trans hkeep, trivial, ⟨_, hbx2, by rw [HS.out]; exact hown2, trivial⟩, hbelow.trans hbel2⟩
      · intro K13 hK13
        go_simp
        refine (hcl _).mono ?_
        rintro e w2 ⟨rfl, hb2'⟩
        have hb2 : Below W.heap.size W w2 := below_step (below_self W).drew hb2'
        have hbx1 := boxed_below hbx hb2
        have c1 := hbx1.cell
        have c2 := fun o => (hbx1.alloc o).cell
        have hrow2 := GOwnV.below hrow hb2
        have hle2 : w.heap.size ≤ w2.heap.size := Nat.le_trans hsz hb2.size
        have hbelow : Below w.heap.size w w2 := hB.trans (hb2.mono hsz)
        refine hK13 _ _ ?_
        refine wpAnyIn_ready (rs := [0, 3]) (by kernel_rfl) (by decide) (ready_plain rfl (fun c h => by cases h) ?_ (ready_plain rfl (fun c h => by cases h) ?_ AllReadyIn.nil))
        · intro K14 hK14
          go_simp
          refine hK14 _ _ ?_
          refine wpAnyIn_ready (rs := [3]) (by kernel_rfl) (by decide) (ready_plain rfl (fun c h => by cases h) ?_ AllReadyIn.nil)
          intro K15 hK15
          go_simp
          refine hK15 _ _ ?_
          refine wpAnyIn_ready (rs := [4]) (by kernel_rfl) (by decide) (ready_plain rfl (fun c h => by cases h) ?_ AllReadyIn.nil)
          intro K16 hK16
          refine step_gpush Tryd.elemS _ (by rfl) _ _ (by rfl) w.heap.size _ ys (by rfl) (hrow2.alloc _) ⟨w2.heap.size, 0, none⟩ 1 1 [.string (bytesOf x)] (by rfl) rfl (by decide) (cell_one_new _ _ _) (one_cell _) hl1 hl2 (by simp; omega) ?_
          intro g cap' w3 hown' hgrow _
          obtain ⟨hbx3, hbx2, hown2, hkeep, hbel2⟩ := Boxed.appended hbx1 (by decide) hrow2 hle2 (Nat.le_refl _) hown' hgrow
          have c3 := hbx3.cell
          have f3 := hbx3.frozen
          refine hK16 _ _ ?_
          refine wpAnyIn_ready (rs := [5]) (by kernel_rfl) (by decide) (ready_plain rfl (fun c h => by cases h) ?_ AllReadyIn.nil)
          intro K17 hK17
          go_simp
          refine hK17 _ _ ?_
          refine wpAnyIn_done (by kernel_rfl) ?_ _
          exact ⟨(keeps_below hb2).trans hkeep, trivial, ⟨_, hbx2, by rw [HS.out]; exact hown2, trivial⟩, hbelow.trans hbel2⟩
        · intro K18 hK18
          go_simp
          refine hK18 _ _ ?_
          refine wpAnyIn_ready (rs := [0]) (by kernel_rfl) (by decide) (ready_plain rfl (fun c h => by cases h) ?_ AllReadyIn.nil)
          intro K19 hK19
          go_simp
          refine hK19 _ _ ?_
          refine wpAnyIn_ready (rs := [4]) (by kernel_rfl) (by decide) (ready_plain rfl (fun c h => by cases h) ?_ AllReadyIn.nil)
          intro K20 hK20
          refine step_gpush Tryd.elemS _ (by rfl) _ _ (by rfl) w.heap.size _ ys (by rfl) (hrow2.alloc _) ⟨w2.heap.size, 0, none⟩ 1 1 [.string (bytesOf x)] (by rfl) rfl (by decide) (cell_one_new _ _ _) (one_cell _) hl1 hl2 (by simp; omega) ?_
          intro g cap' w3 hown' hgrow _
          obtain ⟨hbx3, hbx2, hown2, hkeep, hbel2⟩ := Boxed.appended hbx1 (by decide) hrow2 hle2 (Nat.le_refl _) hown' hgrow
          have c3 := hbx3.cell
          have f3 := hbx3.frozen
          refine hK20 _ _ ?_
          refine wpAnyIn_ready (rs := [5]) (by kernel_rfl) (by decide) (ready_plain rfl (fun c h => by cases h) ?_ AllReadyIn.nil)
          intro K21 hK21
          go_simp
          refine hK21 _ _ ?_
          refine wpAnyIn_done (by kernel_rfl) ?_ _
          exact ⟨(keeps_below hb2).trans hkeep, trivial, ⟨_, hbx2, by rw [HS.out]; exact hown2, trivial⟩, hbelow.trans hbel2⟩
  case done =>
    rintro D ys W hD hys ⟨⟨v, hbx, hrow, _⟩, hB⟩ hK
    rw [hys] at hrow
    obtain ⟨p, cap, hv, _, _, _⟩ := GOwnV.slice (T := 9) hrow
    generalize hm : (strs (texts (linesL s.data.toList))).length = m at hv
    subst hv
    have c0 := hbx.cell
    gi_wp2
    refine ⟨by simp, .inl ⟨_, _, rfl, run_takeDeferred hK, ?_⟩⟩
    refine ⟨_, results_tmp rfl _ _ _, _, rfl, ?_, hB.trans (belowK_b (w := w) (Nat.le_refl _) W D _ _ (by simp at hD; omega) hK rfl rfl)⟩
    exact ownsRow_putObj hrow _ hK rfl
  case stop =>
    rintro D c pre W _ _ h _
    exact h.elim

theorem lines_any (s : ByteArray) (w : World) (hs : s.size * 16 ≤ 140737488355328) :
    Calls Tryd.prog 14 #[.string s] w fun e w' => ∃ v, e = .returned v ∧ GOwnV 9 w' w.heap.size v (strs (texts (linesL s.data.toList))) ∧ Below w.heap.size w w' := callsIn_wide.1 (lines_in s w hs)

end Go.Proofs.YtaabdffplfifkaaDoor
