/- Texts put together: Lit, Copy, Cpy. -/
import Derived.Test.YtkianldkbfjehaaGreatDoorKhb
import Derived.Test.YtkianldkbfjehaaGreatDoorKh
import Derived.Test.YtkianldkbfjehaaGreatDoorKo

/- A literal slice of bytes; a list all of whose numbers are bytes. -/
namespace Go.Proofs.YtkianldkbfjehaaGreatDoor
open Go.RowKit

theorem Own.lit (w : World) (xs : List Int) (hm : xs.length ≤ maxLen) : Own (w.alloc (.cells (byts xs).toArray 5)) w.heap.size w.heap.size xs.length xs :=
  Own.mk (Nat.le_refl _) (heap_alloc_new w _) (Nat.le_refl _) hm (by simp) (by rw [List.take_of_length_le (by simp)])

theorem byt_of (xs : List Int) (h : (xs.all fun x => decide (0 ≤ x ∧ x ≤ 255)) = true) : Byt xs := fun i => by
  simp only [List.all_eq_true, decide_eq_true_eq] at h
  by_cases hi : i < xs.length
  · have := h xs[i] (List.getElem_mem hi)
    simpa [List.getD, hi] using this
  · simp [List.getD, List.getElem?_eq_none (show xs.length ≤ i by omega)]

end Go.Proofs.YtkianldkbfjehaaGreatDoor

/- What switchyardkit.CopyBytes, LentBytes and KeptBytes do, for every slice of bytes. -/
namespace Go.Proofs.YtkianldkbfjehaaGreatDoor
open Go.RowKit

/-- a slice of bytes that the call has made, or nil -/
def OwnV (w : World) (B : Nat) (v : Value) (xs : List Int) : Prop := w.ownsRow B 5 1 v xs.length (byts xs)
theorem OwnV.nil (w : World) (B : Nat) : OwnV w B (.slice none 0 0) [] := World.ownsRow_nil _ _ _ _
theorem OwnV.alloc {w : World} {B : Nat} {v : Value} {xs : List Int} (h : OwnV w B v xs) (o : Obj) : OwnV (w.alloc o) B v xs := World.ownsRow.alloc h o
theorem OwnV.drewN {w : World} {B : Nat} {v : Value} {xs : List Int} (h : OwnV w B v xs) (n : Nat) : OwnV (w.drewN n) B v xs := h
theorem Own.val {w : World} {B g cap : Nat} {xs : List Int} (h : Own w B g cap xs) : OwnV w B (.slice (some ⟨g, 0, none⟩) xs.length cap) xs := h
theorem OwnV.shape {w : World} {B : Nat} {v : Value} {xs : List Int} (h : OwnV w B v xs) : (v = .slice none 0 0 ∧ xs = []) ∨ ∃ g cap, v = .slice (some ⟨g, 0, none⟩) xs.length cap ∧ Own w B g cap xs := by
  rcases h.2 with ⟨h1, h2⟩ | ⟨g, cap, cur, h1, h2⟩
  · exact .inl ⟨h1, List.eq_nil_of_length_eq_zero h2⟩
  · subst h1
    exact .inr ⟨g, cap, rfl, h⟩
theorem OwnV.below {w w' : World} {B : Nat} {v : Value} {xs : List Int} (h : OwnV w B v xs) (hb : Below w.heap.size w w') : OwnV w' B v xs := by
  rcases h.shape with ⟨rfl, rfl⟩ | ⟨g, cap, rfl, ho⟩
  · exact OwnV.nil _ _
  · exact (ho.below hb).val
theorem OwnV.slice {w : World} {B : Nat} {v : Value} {xs : List Int} (h : OwnV w B v xs) : ∃ p cap, v = .slice p xs.length cap ∧ Row w p xs ∧ (p = none → cap = 0) := by
  rcases h.shape with ⟨rfl, rfl⟩ | ⟨g, cap, rfl, ho⟩
  · exact ⟨none, 0, rfl, fun h => absurd h (Nat.lt_irrefl 0), fun _ => rfl⟩
  · exact ⟨_, cap, rfl, ho.row, fun h => by cases h⟩

/-- 'append(out, ..)' on such a slice: the law of the kit in these words -/
theorem wp_push {ops : Array Oper} {rest : List Oper} {o : Oper} {a : Act} {Q : Exit → Act → World → Prop} (w : World) (hgd : o.guard = none) (s x : Operand)
    (ho : o.op = .call { callee := .builtin .append, args := #[s, x], argTypes := #[24, 24] }) (B : Nat) (v : Value) (xs : List Int) (hs : a.eval s = v) (hown : OwnV w B v xs)
    (ad : Addr) (m c : Nat) (ns : List Int) (hx : a.eval x = .slice (some ad) m c) (hl : ns.length = m) (hnews : ∀ j u, (byts ns)[j]? = some u → w.cell? (ad.add j) = some u)
    (hlen : xs.length + m ≤ 140737488355328) (hB : B ≤ w.heap.size)
    (h : ∀ v' w', OwnV w' B v' (xs ++ ns) → w.grownBy w' v.ownBlock → (∀ w0, Below B w0 w → Below B w0 w') → (v' = .slice none 0 0 ↔ v = .slice none 0 0 ∧ m = 0) → wpList Tryz.prog ops Q rest (a.put o.dst v') w') :
    wpList Tryz.prog ops Q (o :: rest) a w := by
  obtain ⟨i0, hi, hz0, hz1, hz2⟩ := info_parts Tryz.info5
  refine wpList_append_own w hgd s x 24 ho B 5 i0 (.int .u8 0) 1 1 Tryz.underlying24 hi hz0 hz1 hz2 rfl (by decide) v xs.length (byts xs) hs hown ad m c (byts ns) hx (by simp [hl]) hnews (fun u hu => ?_) (by unfold maxLen; omega) (by omega) hB ?_
  · simp only [byts, List.mem_map] at hu
    obtain ⟨z, _, rfl⟩ := hu
    rfl
  · intro v' w' h1 h2 h3
    refine h v' w' ?_ h2 (fun w0 hb => hb.grown h2 hB fun k hk => ?_) h3
    · unfold OwnV
      rw [List.length_append, hl]
      simpa [byts] using h1
    · rcases hown.shape with ⟨rfl, _⟩ | ⟨g, cap, rfl, ho⟩
      · simp [Value.ownBlock] at hk
      · simp [Value.ownBlock] at hk
        subst hk
        exact ho.base

theorem take_getD (xs : List Int) (k : Nat) (h : k < xs.length) : xs.take (k + 1) = xs.take k ++ [xs.getD k 0] := by
  rw [List.take_succ_eq_append_getElem h]
  simp [List.getD, h]

set_option maxHeartbeats 400000 in
theorem copy_at (b o n c : Nat) (xs : List Int) (w : World) (hx : xs.length = n) (hn : n ≤ 140737488355328)
    (hc : ∀ i, i < n → w.cell? ⟨b, o + i, none⟩ = some (.int .u8 (xs.getD i 0))) :
    Calls Tryz.prog 37 #[.slice (some ⟨b, o, none⟩) n c] w fun e w' => ∃ v, e = .returned v ∧ OwnV w' w.heap.size v xs ∧ Below w.heap.size w w' := by
  have HX : Hid (xs.length = n) := hx
  have HC : Hid (∀ i, i < n → w.cell? ⟨b, o + i, none⟩ = some (.int .u8 (xs.getD i 0))) := hc
  clear hx hc
  go_enter Tryz.func37, Tryz.ntmps37
  go_wp2
  go_loopw [3, 4] (fun v i wr => ∃ k : Nat, k ≤ n ∧ i = .int .i64 k ∧ OwnV wr w.heap.size v (xs.take k) ∧ Below w.heap.size w wr) (fun _ i _ => n - (intOf i).toNat)
  case atStart => exact ⟨0, Nat.zero_le _, rfl, OwnV.nil _ _, Below.refl _ _⟩
  case round =>
    obtain ⟨k, hk, rfl, hown, hbk⟩ := hrel
    by_cases hlt : k < n
    · have hcd := HC.out k hlt
      have hcl := cell_lt hcd
      have c1 : wr.cell? ⟨b, o + k, none⟩ = some (.int .u8 (xs.getD k 0)) := by rw [hbk.cell (p := ⟨b, o + k, none⟩) hcl]; exact hcd
      have hsz := hbk.size
      have hl : (xs.take k).length + 1 ≤ 140737488355328 := by rw [List.length_take]; omega
      have HT : Hid (xs.take (k + 1) = xs.take k ++ [xs.getD k 0]) := take_getD xs k (by rw [HX.out]; exact hlt)
      clear hcd hcl
      generalize xs.getD k 0 = z at *
      generalize xs.take k = ys at *
      go_wp2_with (at_builtin; refine wp_push _ rfl _ _ rfl w.heap.size _ ys rfl (hown.alloc _) ⟨wr.heap.size, 0, none⟩ 1 1 [z] rfl rfl (cell_one_new _ _ _) hl (by simp; omega) ?_; intro v' w1 hown' _hgrow hbel _hnil)
      go_roundw
      case rel => exact ⟨k + 1, by omega, by go_num, by rw [HT.out]; exact hown', hbel _ (hbk.alloc hsz _)⟩
      case measure => simp [intOf]; omega
    · have HT : Hid (xs.take k = xs) := List.take_of_length_le (by rw [HX.out]; omega)
      go_wp2
      go_ret
      exact ⟨_, rfl, by rw [HT.out] at hown; exact hown, hbk⟩

set_option maxHeartbeats 400000 in
theorem copy_zero (p : Option Addr) (c : Nat) (w : World) :
    Calls Tryz.prog 37 #[.slice p 0 c] w fun e w' => e = .returned (.slice none 0 0) ∧ w' = w := by
  go_enter Tryz.func37, Tryz.ntmps37
  go_wp2
  refine wp_loop_rounds 1 ?_
  rw [rounds_succ]; go_wp2
  go_ret
  exact ⟨rfl, rfl⟩

theorem copy_any (p : Option Addr) (n c : Nat) (xs : List Int) (w : World) (hx : xs.length = n) (hn : n ≤ 140737488355328) (hr : Row w p xs) :
    Calls Tryz.prog 37 #[.slice p n c] w fun e w' => ∃ v, e = .returned v ∧ OwnV w' w.heap.size v xs ∧ Below w.heap.size w w' := by
  rcases Nat.eq_zero_or_pos n with h0 | h0
  · subst h0
    obtain rfl : xs = [] := List.eq_nil_of_length_eq_zero hx
    exact (copy_zero p c w).mono fun e w' h => ⟨_, h.1, OwnV.nil _ _, by rw [h.2]; exact below_self w⟩
  · obtain ⟨b, o, rfl, hc⟩ := hr (by omega)
    exact copy_at b o n c xs w hx hn (fun i hi => hc i (by omega))

end Go.Proofs.YtkianldkbfjehaaGreatDoor

/- switchyardkit.CopyItem, CopyItems. -/
namespace Go.Proofs.YtkianldkbfjehaaGreatDoor
open Go.RowKit

theorem OwnV.gen {w : World} {B : Nat} {v : Value} {xs : List Int} (h : OwnV w B v xs) : GOwnV 5 w B v (byts xs) := by
  have hl : (byts xs).length = xs.length := List.length_map _
  unfold GOwnV
  rw [hl]
  exact h
abbrev item0y : Array Value := #[.int .u8 0, .string ⟨#[]⟩, .string ⟨#[]⟩, .int .u8 0, .int .u8 0, .int .u8 0, .int .i32 0, .int .i64 0, .slice none 0 0]

set_option maxRecDepth 20000 in
set_option maxHeartbeats 1000000 in
theorem copyItem_any (x : Src) (q : Option Addr) (m e : Nat) (w : World) (hm : x.d.length = m) (hm47 : m ≤ 140737488355328) (hr : Row w q x.d) :
    Calls Tryz.prog 22 #[.agg (cellsOf x (.slice q m e))] w fun E w' => ∃ d, E = .returned (.agg (cellsOf x d)) ∧ GOwnV 5 w' w.heap.size d (byts x.d) ∧ Below w.heap.size w w' := by
  have hC := fun W k => copy_any q m e x.d W hm hm47 k
  clear hm hm47
  go_enter Tryz.func22, Tryz.ntmps22
  go_upto_region 1 with fail
  have hB1 : Blk ((w.alloc (.cells (cellsOf x (.slice q m e)) 57)).alloc (.cells item0y 57)) w.heap.size 57 (cellsOf x (.slice q m e)) := (Blk.new w 57 (cellsOf x (.slice q m e))).grow (new_alloc _ (.cells item0y 57))
  have hB2 : Blk ((w.alloc (.cells (cellsOf x (.slice q m e)) 57)).alloc (.cells item0y 57)) (w.heap.size + 1) 57 item0 := by
    have := Blk.new (w.alloc (.cells (cellsOf x (.slice q m e)) 57)) 57 item0
    rw [size_one] at this
    exact this
  have hW := below_alloc (new_alloc w (.cells (cellsOf x (.slice q m e)) 57)) (.cells item0y 57)
  have hR := hr.below hW
  have hsz : w.heap.size + 1 < ((w.alloc (.cells (cellsOf x (.slice q m e)) 57)).alloc (.cells item0y 57)).heap.size := hB2.lt
  generalize (w.alloc (.cells (cellsOf x (.slice q m e)) 57)).alloc (.cells item0y 57) = w2 at *
  have c8 : w2.cell? ⟨w.heap.size, 8, none⟩ = some (.slice q m e) := hB1.cell 8
  have HB1 := Hid.in hB1
  have HB2 := Hid.in hB2
  have HW := Hid.in hW
  have HR := Hid.in hR
  clear hr hB1 hB2 hW hR
  go_wp2_with (go_at_call 37; refine (hC _ HR.out).mono ?_; rintro E w3 ⟨v3, rfl, hv3, hb3⟩; have hk3 := (HB1.out.grow hb3).cell 8; have hz3 := (HB1.out.grow hb3).free 8; simp only [cellsOf] at hk3; have HB3 := Hid.in (HB1.out.grow hb3); have HC3 := Hid.in (HB2.out.grow hb3); have HW3 := Hid.in (below_step HW.out hb3); have HV3 := Hid.in hv3.gen; obtain ⟨p3, c3, hp3, -, -⟩ := hv3.slice; subst hp3; clear hb3 hv3; refine Hid.out ?_)
  refine Lib.hid ?_
  have HS4 : Hid (Blk (w3.setCell ⟨w.heap.size, 8, none⟩ (.slice p3 x.d.length c3)) w.heap.size 57 (cellsOf x (.slice p3 x.d.length c3))) := HB3.out.set 8 (.slice p3 x.d.length c3)
  have HG4 := Hid.in (grown_setCell w3 w.heap.size 8 (.slice p3 x.d.length c3))
  have HC4 : Hid (Blk (w3.setCell ⟨w.heap.size, 8, none⟩ (.slice p3 x.d.length c3)) (w.heap.size + 1) 57 item0) := HC3.out.kept HG4.out (by intro e; injection e with e; omega)
  have HV4 := Hid.in (HV3.out.grownOther HG4.out (.inr (HV3.out.not_low (k := w.heap.size) (by omega)).symm))
  have HW4 := Hid.in (HW3.out.trans (below_grown HG4.out (Nat.le_refl _) HW3.out.size))
  go_upto_region 2 with fail
  generalize w3.setCell ⟨w.heap.size, 8, none⟩ (.slice p3 x.d.length c3) = w4 at *
  clear hk3 hz3 c8
  go_wp2_with (first
    | (refine step_load_blk HS4.out rfl 57 (.tmp 1) rfl rfl _ (List.prefix_refl _) _ Tryz.underlying57 rfl Tryz.sz57 ?_)
    | (refine step_store_blk HC4.out rfl 57 (.tmp 2) (.tmp 7) rfl rfl rfl (cellsOf x (.slice p3 x.d.length c3)) rfl Tryz.sz57 rfl (cells_one _ _ _ _) ?_; intro w5 hB5 hg5))
  have hld := load28 hB5 rfl
  exact bodyPost_ret (v := .agg (cellsOf x (.slice p3 x.d.length c3))) (by simp [results, Tryz.results22, asAddr, Act.put, hld]) rfl ⟨_, rfl, (HV4.out.grownOther hg5 (.inr (HV4.out.not_low (k := w.heap.size + 1) (by omega)).symm)).lowerV (by omega), HW4.out.trans (below_grown hg5 (by omega) HW4.out.size)⟩

set_option maxRecDepth 20000 in
set_option maxHeartbeats 1000000 in
theorem copyItems_any (p : Option Addr) (n c : Nat) (xs : List Src) (w : World) (hn : xs.length = n) (hnm : n ≤ 1048576) (hx : Items w p xs) :
    Calls Tryz.prog 7 #[.slice p n c] w fun E w' => ∃ v L, E = .returned v ∧ L.map Prod.fst = xs ∧ IOwn w' w.heap.size v L ∧ Below w.heap.size w w' := by
  have HX := Hid.in hx
  have HN := Hid.in hn
  clear hx hn
  go_enter Tryz.func7, Tryz.ntmps7
  go_wp2_with fail
  go_loopw [3, 4] (fun v i wr => ∃ (k : Nat) (L : List (Src × Value)), k ≤ n ∧ i = .int .i64 k ∧ L.map Prod.fst = xs.take k ∧ IOwn wr w.heap.size v L ∧ Below w.heap.size w wr) (fun _ i _ => n - (intOf i).toNat)
  case atStart => exact ⟨0, [], Nat.zero_le _, rfl, rfl, IOwn.nil _ _, below_self _⟩
  case round =>
    obtain ⟨k, L, hk, rfl, hm, hI, hb⟩ := hrel
    have HM := Hid.in hm
    have HI := Hid.in hI
    have HB := Hid.in hb
    have hll : L.length = k := by
      have := congrArg List.length hm
      rw [List.length_map, List.length_take, HN.out] at this
      omega
    obtain ⟨pv, cv, hv, -, -, -⟩ := hI.shape
    rw [hll] at hv
    subst hv
    have HLL := Hid.in hll
    clear hm hI hb hll
    by_cases hlt : k < n
    · have hlt' : k < xs.length := by rw [HN.out]; exact hlt
      obtain ⟨b, o, hp, hc⟩ := HX.out.below HB.out (by omega)
      subst hp
      obtain ⟨q, e, hR, hrow, hfit⟩ := hc k hlt'
      have hC := copyItem_any (xs[k]'hlt') q _ e wr rfl (Nat.le_trans hfit.dz (by decide)) hrow
      have HR := Hid.in hR
      have HNX : Hid (∀ d, (L ++ [((xs[k]'hlt'), d)]).map Prod.fst = xs.take (k + 1)) := fun d => by
        rw [List.map_append, HM.out, List.take_succ_eq_append_getElem hlt']; rfl
      clear hc hR hrow hfit
      generalize xs[k] = x at *
      have hc9 : ∀ d, (cellsOf x d).size = 9 := fun _ => rfl
      go_wp2_with (first
        | (refine step_load_at HR.out rfl 57 (.tmp 14) rfl rfl _ Tryz.underlying57 rfl Tryz.sz57 ?_)
        | (go_at_call 22; refine hC.mono ?_; rintro E w5 ⟨d5, rfl, hd5, hb5⟩; obtain ⟨q5, c5, rfl, -⟩ := hd5.rowB; have HI5 := Hid.in (HI.out.below hb5); have HB5 := Hid.in (below_step HB.out hb5); have HD5 := Hid.in (hd5.lowerV HB.out.size); clear hd5 hb5)
        | (at_builtin; refine Hid.out ?_))
      all_goals refine Lib.hid ?_
      all_goals first | rw [build9] | rw [build9b]
      all_goals refine gpush9 _ rfl _ _ rfl w.heap.size _ L rfl (HI5.out.below (new_alloc w5 _)) w5.heap.size x q5 x.d.length c5 rfl (Blk.new w5 57 _) (HD5.out.alloc _) (by rw [HLL.out]; omega) (by have := HB5.out.size; simp; omega) ?_
      all_goals intro v7 w7 hI7 hg7 hb7
      all_goals have HI7 := Hid.in hI7
      all_goals have HB7 := Hid.in (hb7 w (below_alloc HB5.out _))
      all_goals clear hI7 hg7 hb7
      all_goals go_wp2
      all_goals go_roundw
      all_goals first
        | (simp [intOf]; omega)
        | exact ⟨k + 1, _, by omega, by go_num, HNX.out _, HI7.out, HB7.out⟩
    · have hkn : k = n := by omega
      have HE : Hid (L.map Prod.fst = xs) := by
        have := HM.out
        rw [hkn, ← HN.out, List.take_length] at this
        exact this
      go_wp2
      go_ret
      exact ⟨_, L, rfl, HE.out, HI.out, HB.out⟩

end Go.Proofs.YtkianldkbfjehaaGreatDoor
