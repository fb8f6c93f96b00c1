/- Rounds: the methods. -/
import Derived.Test.YtekggimgobeggaaRnd
namespace Go.Proofs.Ytekggimgobeggaa
open Go.RowKit

set_option maxHeartbeats 400000 in
theorem pending_any (q : Nat) (fs : List Bool) (n z : Int) (w : World) (h : Rnd w q fs n) :
    Calls Try.prog 70 #[.pointer (some ⟨q, 0, none⟩), .int .i64 z] w fun e w' => e = .returned (.bool (pnd fs z)) ∧ w' = w := by
  have h24 := none_no q w h.c0
  have c1 := h.c1
  have hl := h.le
  by_cases h0 : 0 ≤ z
  · obtain ⟨k, rfl⟩ := Int.eq_ofNat_of_zero_le h0
    have g0 : decide ((0 : Int) ≤ (k : Int)) = true := decide_eq_true h0
    by_cases hk : k < fs.length
    · have g1 : decide ((k : Int) < (fs.length : Int)) = true := decide_eq_true (by omega)
      have ck := h.at k (by omega)
      have hv : pnd fs (k : Int) = fs.getD k false := by unfold pnd; rw [decide_eq_true h0]; simp
      rw [hv]
      clear hv h
      generalize fs.getD k false = b at *
      generalize fs.length = m at *
      go_enter Try.func70, Try.ntmps70
      go_wp2_with (go_at_call 56; refine h24.mono ?_; rintro e w1 ⟨rfl, rfl⟩)
      go_ret
      exact ⟨rfl, rfl⟩
    · have g1 : decide ((k : Int) < (fs.length : Int)) = false := decide_eq_false (by omega)
      have hv : pnd fs (k : Int) = false := by unfold pnd; simp [List.getD, show fs.length ≤ k by omega]
      rw [hv]
      clear hv h
      generalize fs.length = m at *
      go_enter Try.func70, Try.ntmps70
      go_wp2_with (go_at_call 56; refine h24.mono ?_; rintro e w1 ⟨rfl, rfl⟩)
      go_ret
      exact ⟨rfl, rfl⟩
  · have g0 : decide (0 ≤ z) = false := decide_eq_false h0
    have hv : pnd fs z = false := by unfold pnd; rw [g0]; rfl
    rw [hv]
    clear hv h
    go_enter Try.func70, Try.ntmps70
    go_wp2_with (go_at_call 56; refine h24.mono ?_; rintro e w1 ⟨rfl, rfl⟩)
    go_ret
    exact ⟨rfl, rfl⟩

set_option maxHeartbeats 400000 in
theorem number_any (q : Nat) (fs : List Bool) (n : Int) (w : World) (h : Rnd w q fs n) :
    Calls Try.prog 73 #[.pointer (some ⟨q, 0, none⟩)] w fun e w' => e = .returned (.int .i64 n) ∧ w' = w := by
  have h24 := none_no q w h.c0
  have c2 := h.c2
  clear h
  go_enter Try.func73, Try.ntmps73
  go_wp2_with (go_at_call 56; refine h24.mono ?_; rintro e w1 ⟨rfl, rfl⟩)
  go_ret
  exact ⟨rfl, rfl⟩

theorem Try.und94 : Try.prog.underlying 94 = some (.array 8 4) := by kernel_rfl
theorem Try.plain4 : Try.prog.plainKey 4 = true := by kernel_rfl
theorem Try.cells4' : Try.prog.cellsOf 4 = 1 := by kernel_rfl
theorem Try.info4 : (Try.prog.info? 4).map (fun i => (i.zero, i.size, i.bytes)) = some (some (.bool false), 1, 1) := by kernel_rfl
theorem Try.underlying4' : Try.prog.underlying 4 = some .bool := by kernel_rfl

theorem eq_none8 (r0 r1 r2 r3 r4 r5 r6 r7 : Bool) (w : World) :
    (Op.equalIn 10000 94 (.agg #[.bool r0, .bool r1, .bool r2, .bool r3, .bool r4, .bool r5, .bool r6, .bool r7]) (.agg #[.bool false, .bool false, .bool false, .bool false, .bool false, .bool false, .bool false, .bool false])).run Try.prog w = .ok (ovr [r0, r1, r2, r3, r4, r5, r6, r7]) w := by
  obtain ⟨i0, hi, hz0, hz1, hz2⟩ := info_parts Try.info4
  rw [run_equalIn_array (P := Try.prog) w 9999 (e := 4) (n := 8) _ _ Try.und94 hi]
  obtain ⟨r, h1, h2⟩ := run_eqItems_plain (P := Try.prog) w 9998 Try.plain4 #[.bool r0, .bool r1, .bool r2, .bool r3, .bool r4, .bool r5, .bool r6, .bool r7] #[.bool false, .bool false, .bool false, .bool false, .bool false, .bool false, .bool false, .bool false] (D := 1) (D' := 1) (List.range 8)
    [[.bool r0], [.bool r1], [.bool r2], [.bool r3], [.bool r4], [.bool r5], [.bool r6], [.bool r7]] [[.bool false], [.bool false], [.bool false], [.bool false], [.bool false], [.bool false], [.bool false], [.bool false]]
    (by simp [Try.cells4', List.range, List.range.loop, Program.keyLits])
    (by simp [Try.cells4', List.range, List.range.loop, Program.keyLits])
  rw [h1]
  have : r = ovr [r0, r1, r2, r3, r4, r5, r6, r7] := by
    rw [Bool.eq_iff_iff, h2]
    simp [ovr]
  rw [this]

theorem eightB {R : List Bool} (h : R.length = 8) : ∃ r0 r1 r2 r3 r4 r5 r6 r7, R = [r0, r1, r2, r3, r4, r5, r6, r7] := by
  match R, h with
  | [r0, r1, r2, r3, r4, r5, r6, r7], _ => exact ⟨r0, r1, r2, r3, r4, r5, r6, r7, rfl⟩
theorem ovr_pad (fs : List Bool) (m : Nat) : ovr (fs ++ List.replicate m false) = ovr fs := by
  unfold ovr
  rw [List.all_append]
  simp

theorem Rnd.eight {w : World} {q : Nat} {fs : List Bool} {n : Int} (h : Rnd w q fs n) : ∃ r0 r1 r2 r3 r4 r5 r6 r7 : Bool, ovr [r0, r1, r2, r3, r4, r5, r6, r7] = ovr fs ∧ w.cell? ⟨q, 3, none⟩ = some (.bool r0) ∧ w.cell? ⟨q, 4, none⟩ = some (.bool r1) ∧ w.cell? ⟨q, 5, none⟩ = some (.bool r2) ∧ w.cell? ⟨q, 6, none⟩ = some (.bool r3) ∧ w.cell? ⟨q, 7, none⟩ = some (.bool r4) ∧ w.cell? ⟨q, 8, none⟩ = some (.bool r5) ∧ w.cell? ⟨q, 9, none⟩ = some (.bool r6) ∧ w.cell? ⟨q, 10, none⟩ = some (.bool r7) ∧ (rndL fs n).toArray = #[.bool true, .int .i64 fs.length, .int .i64 n, .bool r0, .bool r1, .bool r2, .bool r3, .bool r4, .bool r5, .bool r6, .bool r7] := by
  have hl := h.le
  obtain ⟨r0, r1, r2, r3, r4, r5, r6, r7, e⟩ := eightB (R := fs ++ List.replicate (8 - fs.length) false) (by simp; omega)
  have hb := h.blk
  have hc := fun i => hb.cell i
  simp only [rndL, e] at hc
  refine ⟨r0, r1, r2, r3, r4, r5, r6, r7, by rw [← e, ovr_pad], hc 3, hc 4, hc 5, hc 6, hc 7, hc 8, hc 9, hc 10, by simp only [rndL, e]; rfl⟩

set_option maxHeartbeats 400000 in
theorem over_any (q : Nat) (fs : List Bool) (n : Int) (w : World) (h : Rnd w q fs n) :
    Calls Try.prog 37 #[.pointer (some ⟨q, 0, none⟩)] w fun e w' => e = .returned (.bool (ovr fs)) ∧ w' = w := by
  have h24 := none_no q w h.c0
  obtain ⟨r0, r1, r2, r3, r4, r5, r6, r7, e, c3, c4, c5, c6, c7, c8, c9, c10, -⟩ := h.eight
  have heq := fun w => eq_none8 r0 r1 r2 r3 r4 r5 r6 r7 w
  rw [e] at heq
  clear h e
  generalize ovr fs = t at *
  go_enter Try.func37, Try.ntmps37
  go_wp2_with (go_at_call 56; refine h24.mono ?_; rintro e w1 ⟨rfl, rfl⟩)
  go_ret
  exact ⟨rfl, rfl⟩

set_option maxHeartbeats 400000 in
theorem rcopy_any (q : Nat) (fs : List Bool) (n : Int) (w : World) (h : Rnd w q fs n) :
    Calls Try.prog 18 #[.pointer (some ⟨q, 0, none⟩)] w fun e w' => e = .returned (.pointer (some ⟨w.heap.size, 0, none⟩)) ∧ Rnd w' w.heap.size fs n ∧ Below w.heap.size w w' := by
  have h24 := none_no q w h.c0
  have hlt := h.lt
  have hle := h.le
  obtain ⟨r0, r1, r2, r3, r4, r5, r6, r7, e, c3, c4, c5, c6, c7, c8, c9, c10, er⟩ := h.eight
  have c0 := h.c0
  have c1 := h.c1
  have c2 := h.c2
  have ER := Hid.in er
  clear h e er
  go_enter Try.func18, Try.ntmps18
  go_wp2_with (go_at_call 56; refine h24.mono ?_; rintro e w1 ⟨rfl, rfl⟩)
  go_ret
  refine ⟨rfl, ⟨hle, ?_⟩, ?_⟩
  · rw [ER.out]
    exact Blk.new _ _ _
  · exact new_alloc _ _

theorem rndL_drop (fs : List Bool) (n : Int) (k : Nat) (hk : k < fs.length) : (rndL fs n).toArray.setIfInBounds (3 + k) (.bool false) = (rndL (fs.set k false) n).toArray := by
  rw [List.setIfInBounds_toArray]
  unfold rndL
  rw [show 3 + k = k + 1 + 1 + 1 by omega, List.set_cons_succ, List.set_cons_succ, List.set_cons_succ, List.length_set, flgs, ← List.map_set, List.set_append_left k _ hk]
theorem Rnd.drop {w : World} {q : Nat} {fs : List Bool} {n : Int} (h : Rnd w q fs n) (k : Nat) (hk : k < fs.length) : Rnd (w.setCell ⟨q, 3 + k, none⟩ (.bool false)) q (drp fs k) n := by
  have hb := h.blk.set (3 + k) (.bool false)
  rw [rndL_drop fs n k hk] at hb
  have e : drp fs (k : Int) = fs.set k false := by unfold drp; rw [if_pos (by omega)]; simp
  rw [e]
  exact ⟨by rw [List.length_set]; exact h.le, hb⟩
set_option maxHeartbeats 400000 in
theorem drop_any (q : Nat) (fs : List Bool) (n z : Int) (w : World) (h : Rnd w q fs n) :
    Calls Try.prog 28 #[.pointer (some ⟨q, 0, none⟩), .int .i64 z] w fun e w' => e = .returned (.bool (pnd fs z)) ∧ Rnd w' q (drp fs z) n ∧ w.grownBy w' (some q) := by
  have h12 := pending_any q fs n z w h
  cases hp : pnd fs z
  · rw [hp] at h12
    have HR := Hid.in h
    have HP := Hid.in hp
    clear hp h
    go_enter Try.func28, Try.ntmps28
    go_wp2_with (go_at_call 70; refine h12.mono ?_; rintro e w1 ⟨rfl, rfl⟩)
    go_ret
    exact ⟨rfl, by rw [drp_no HP.out]; exact HR.out, World.grownBy.refl _ _⟩
  · rw [hp] at h12
    have h0 : 0 ≤ z := by
      by_cases h0 : 0 ≤ z
      · exact h0
      · simp [pnd, h0] at hp
    obtain ⟨k, rfl⟩ := Int.eq_ofNat_of_zero_le h0
    have hk : k < fs.length := by
      by_cases hk : k < fs.length
      · exact hk
      · simp [pnd, List.getD, show fs.length ≤ k by omega] at hp
    have hl := h.le
    have ck := h.at k (by omega)
    have fk := h.blk.free (3 + k)
    have HR := Hid.in h
    clear hp h
    go_enter Try.func28, Try.ntmps28
    go_wp2_with (go_at_call 70; refine h12.mono ?_; rintro e w1 ⟨rfl, rfl⟩)
    go_ret
    exact ⟨rfl, HR.out.drop k hk, grown_setCell _ _ _ _⟩

/-- what Take answers -/
def tkN (fs : List Bool) (n z : Int) : Int := if pnd fs z = true then n else 0
set_option maxHeartbeats 400000 in
theorem rtake_any (q : Nat) (fs : List Bool) (n z : Int) (w : World) (h : Rnd w q fs n) :
    Calls Try.prog 10 #[.pointer (some ⟨q, 0, none⟩), .int .i64 z] w fun e w' => e = .returned (.tuple #[.int .i64 (tkN fs n z), .bool (pnd fs z)]) ∧ Rnd w' q (drp fs z) n ∧ w.grownBy w' (some q) := by
  have h20 := drop_any q fs n z w h
  clear h
  unfold tkN
  cases hp : pnd fs z
  · rw [hp] at h20
    clear hp
    go_enter Try.func10, Try.ntmps10
    go_wp2_with (go_at_call 28; refine h20.mono ?_; rintro e w1 ⟨rfl, hr, hg⟩; have HR := Hid.in hr; have HG := Hid.in hg; clear hr hg)
    go_ret2
    exact ⟨rfl, HR.out, HG.out⟩
  · rw [hp] at h20
    clear hp
    go_enter Try.func10, Try.ntmps10
    go_wp2_with (go_at_call 28; refine h20.mono ?_; rintro e w1 ⟨rfl, hr, hg⟩; have HR := Hid.in hr; have HG := Hid.in hg; have c2 := hr.c2; clear hr hg)
    go_ret2
    exact ⟨rfl, HR.out, HG.out⟩

theorem Try.underlying39' : Try.prog.underlying 39 = some (.slice 4) := by kernel_rfl
theorem Try.size4 : (Try.prog.info? 4).map (·.size) = some 1 := by kernel_rfl
/-- copy of flags, over a row of a block of its own: all other blocks stay -/
theorem wp_copy_flags {w : World} {ops : Array Oper} {rest : List Oper} {o : Oper} {a : Act} {Q : Exit → Act → World → Prop} (hgd : o.guard = none) (d s : Operand)
    (ho : o.op = .call { callee := .builtin .copy, args := #[d, s], argTypes := #[39, 39] })
    (dp sp : Option Addr) (dLen dCap sLen sCap : Nat) (hd : a.eval d = .slice dp dLen dCap) (hs : a.eval s = .slice sp sLen sCap)
    (g off : Nat) (cur : List Value) (t : TypeId) (hg : w.heap[g]? = some (.cells cur.toArray t (0, 0))) (cs : List Value) (hn : cs.length = Nat.min sLen dLen)
    (hpos : 0 < cs.length → dp = some ⟨g, off, none⟩ ∧ ∃ ad, sp = some ad ∧ ∀ j v, cs[j]? = some v → w.cell? (ad.add j) = some v)
    (hfit : off + cs.length ≤ cur.length) (h1 : ∀ v ∈ cs, v.oneCell' = true)
    (h : ∀ w', Hid (w'.heap[g]? = some (.cells (splice cur off cs).toArray t (0, 0))) → Hid (w.grownBy w' (some g)) → wpList Try.prog ops Q rest (a.put o.dst (goInt cs.length)) w') :
    wpList Try.prog ops Q (o :: rest) a w := by
  by_cases h0 : cs.length = 0
  · obtain rfl : cs = [] := List.eq_nil_of_length_eq_zero h0
    refine wpList_copy_nothing hgd d s 39 39 ho 4 Try.underlying39' Try.size4 dp sp dLen dCap sLen sCap hd hs (by simpa using hn.symm) ?_
    exact h w (show _ = _ by simpa [splice] using hg) (World.grownBy.refl _ _)
  · obtain ⟨rfl, ad, rfl, hsrc⟩ := hpos (by omega)
    refine wpList_copy_own hgd d s 39 39 ho 4 Try.underlying39' Try.size4 g off dLen dCap ad sLen sCap hd hs cur.toArray t hg cs hn hsrc (by simpa using hfit) h1 ?_
    exact h _ (show _ = _ by simpa [splice] using setRow_heap w g _ _ t _ hg) ⟨rfl, rfl, rfl, by simp [World.setRow], fun k _ hk => setRow_other w g k _ (fun e => hk (by rw [e]))⟩
theorem one_flgs (xs : List Bool) : ∀ v ∈ flgs xs, v.oneCell' = true := by
  intro v hv
  obtain ⟨x, _, rfl⟩ := List.mem_map.1 hv
  rfl
theorem BRow.src {w : World} {p : Option Addr} {hs : List Bool} (h : BRow w p hs) (h0 : 0 < hs.length) : ∃ ad, p = some ad ∧ ∀ j v, (flgs hs)[j]? = some v → w.cell? (ad.add j) = some v := by
  obtain ⟨b, o, rfl, hc⟩ := h h0
  refine ⟨_, rfl, fun j v hv => ?_⟩
  have hj : j < hs.length := by simpa using (List.getElem?_eq_some_iff.1 hv).1
  rw [getD_flgs hs j hj] at hv
  rw [← hv, ← hc j hj, ← Go.WideShapes.add_plain]
theorem rndL_send (fs rs : List Bool) (n m : Int) (h : rs.length = fs.length) : (splice (rndL fs n) 3 (flgs rs)).toArray.setIfInBounds 2 (.int .i64 m) = (rndL rs m).toArray := by
  rw [List.setIfInBounds_toArray]
  unfold rndL splice flgs
  simp only [List.length_map, List.map_append, List.take_succ_cons, List.take_zero, h]
  rw [show 3 + fs.length = fs.length + 1 + 1 + 1 by omega, List.drop_succ_cons, List.drop_succ_cons, List.drop_succ_cons, List.drop_append_of_le_length (by simp), List.drop_of_length_le (by simp)]
  simp

set_option maxHeartbeats 400000 in
theorem send_bad (q c : Nat) (p : Option Addr) (fs rs : List Bool) (n : Int) (w : World) (h : Rnd w q fs n) (hb : rs.length ≠ fs.length ∨ ovr fs = false) :
    Calls Try.prog 29 #[.pointer (some ⟨q, 0, none⟩), .slice p rs.length c] w fun e w' => e = .returned (.tuple #[.int .i64 0, .int .i64 2]) ∧ w' = w := by
  have h24 := none_no q w h.c0
  have h10 := over_any q fs n w h
  have c1 := h.c1
  clear h
  generalize fs.length = m at *
  generalize rs.length = k at *
  by_cases hk : k = m
  · subst hk
    have ho : ovr fs = false := by
      rcases hb with hb | hb
      · exact absurd rfl hb
      · exact hb
    rw [ho] at h10
    clear hb ho
    go_enter Try.func29, Try.ntmps29
    go_wp2_with (first | (go_at_call 56; refine h24.mono ?_; rintro e w1 ⟨rfl, rfl⟩) | (go_at_call 37; refine h10.mono ?_; rintro e w1 ⟨rfl, rfl⟩))
    go_ret2
    exact ⟨rfl, rfl⟩
  · have g1 : ((k : Int) != (m : Int)) = true := by simp; omega
    have g2 : ¬ (k : Int) = m := by omega
    clear hb
    go_enter Try.func29, Try.ntmps29
    go_wp2_with (first | (go_at_call 56; refine h24.mono ?_; rintro e w1 ⟨rfl, rfl⟩) | (go_at_call 37; refine h10.mono ?_; rintro e w1 ⟨rfl, rfl⟩))
    go_ret2
    exact ⟨rfl, rfl⟩

set_option maxHeartbeats 800000 in
theorem send_ok (q c : Nat) (p : Option Addr) (fs rs : List Bool) (n : Int) (w : World) (h : Rnd w q fs n) (hr : BRow w p rs) (hn0 : 0 ≤ n) (hn : n ≤ 1000000) (hl : rs.length = fs.length) (ho : ovr fs = true) :
    Calls Try.prog 29 #[.pointer (some ⟨q, 0, none⟩), .slice p rs.length c] w fun e w' => e = .returned (.tuple #[.int .i64 (n + 1), .int .i64 0]) ∧ Rnd w' q rs (n + 1) ∧ w.grownBy w' (some q) := by
  have h24 := none_no q w h.c0
  have h10 := over_any q fs n w h
  rw [ho] at h10
  have c1 := h.c1
  have hle := h.le
  have HB := Hid.in h.blk
  have HL := Hid.in hl
  have hL11 := rndL_len hle n
  have HR := Hid.in hr
  rw [← hl] at c1 hle
  clear h ho hl hr
  go_enter Try.func29, Try.ntmps29
  go_wp2_with (first | (go_at_call 56; refine h24.mono ?_; rintro e w1 ⟨rfl, rfl⟩) | (go_at_call 37; refine h10.mono ?_; rintro e w1 ⟨rfl, rfl⟩) | (refine wp_copy_flags rfl _ _ rfl _ _ _ _ _ _ rfl rfl q 3 (rndL fs n) 96 HB.out (flgs rs) (by rw [List.length_map]; exact (Nat.min_eq_left (by omega)).symm) (fun h0 => ⟨rfl, HR.out.src (by simpa using h0)⟩) (by rw [List.length_map, hL11]; omega) (one_flgs rs) ?_; intro w2 HW2 HK2; refine Hid.out ?_))
  refine Lib.hid ?_
  have c2 : w2.cell? ⟨q, 2, none⟩ = some (.int .i64 n) := by
    have := Blk.cell (show Blk w2 q 96 _ from HW2.out) 2
    rw [this]
    simp [splice, rndL]
  have f2 : w2.frozen? ⟨q, 2, none⟩ = false := Blk.free (show Blk w2 q 96 _ from HW2.out) 2
  go_wp2
  go_ret2
  refine ⟨rfl, ⟨hle, ?_⟩, HK2.out.trans (grown_setCell _ _ _ _)⟩
  have := Blk.set (show Blk w2 q 96 _ from HW2.out) 2 (.int .i64 (n + 1))
  rw [rndL_send fs rs n (n + 1) HL.out] at this
  exact this

end Go.Proofs.Ytekggimgobeggaa
