/- The document's rounds (switchyardref17), and the kit's CopyFlags, SameFlags. -/
import Derived.Test.YtibbcenfkmgbcaaOvrL
import Derived.Test.YtibbcenfkmgbcaaMkB
import Derived.BigQuiet
namespace Go.Proofs.Ytibbcenfkmgbcaa
open Go.RowKit

/-- 'append(out, l...)', l whatever list of flags -/
theorem wp_push_flags {ops : Array Oper} {rest : List Oper} {o : Oper} {a : Act} {Q : Exit → Act → World → Prop} (w : World) (hgd : o.guard = none) (s x : Operand)
    (ho : o.op = .call { callee := .builtin .append, args := #[s, x], argTypes := #[29, 29] }) (B : Nat) (v : Value) (xs : List Bool) (hs : a.eval s = v) (hown : GOwnV 4 w B v (flgs xs))
    (q : Option Addr) (m d : Nat) (ys : List Bool) (hx : a.eval x = .slice q m d) (hl : ys.length = m) (hrow : BRow w q ys) (hq : q = none → m = 0 ∧ d = 0)
    (hlen : xs.length + m ≤ 140737488355328) (hB : B ≤ w.heap.size)
    (h : ∀ v' w', Hid (GOwnV 4 w' B v' (flgs (xs ++ ys))) → Hid (w.grownBy w' v.ownBlock) → Hid (∀ w0, Below B w0 w → Below B w0 w') → wpList Try.prog ops Q rest (a.put o.dst v') w') :
    wpList Try.prog ops Q (o :: rest) a w := by
  cases q with
  | none =>
    obtain ⟨rfl, rfl⟩ := hq rfl
    obtain rfl : ys = [] := List.eq_nil_of_length_eq_zero hl
    obtain ⟨i0, hi, hz0, hz1, hz2⟩ := info_parts Try.info4
    exact wpList_append_own_none hgd s x 29 ho B 4 i0 1 Try.underlying29' hi v (flgs xs).length (flgs xs) hs hown hx (h v w (by rw [List.append_nil]; exact hown) (World.grownBy.refl w _) fun _ hb => hb)
  | some ad =>
    refine gpush Try.elem29 w hgd s x ho B v (flgs xs) hs hown ad m d (flgs ys) hx (by simpa using hl) (fun j u hj => ?_) (one_flgs ys) (by simpa using hlen) (by simpa using hlen) hB fun v' w' h1 h2 h3 _ => h v' w' (show GOwnV _ _ _ _ _ by rw [flgs, List.map_append]; exact h1) h2 h3
    have hjl : j < ys.length := by
      rcases Nat.lt_or_ge j ys.length with h | h
      · exact h
      · rw [List.getElem?_eq_none (by simpa using h)] at hj; cases hj
    obtain ⟨b, off, e, hc⟩ := hrow (by omega)
    cases e
    rw [getD_flgs ys j hjl] at hj
    rw [← hj, ← hc j hjl, Go.WideShapes.add_plain]

set_option maxHeartbeats 400000 in
theorem rpending_any (p : Option Addr) (c : Nat) (fs : List Bool) (n z : Int) (w : World) (hl : fs.length ≤ 8) (hr : BRow w p fs) :
    Calls Try.prog 26 #[.agg #[.int .i64 n, .slice p fs.length c], .int .i64 z] w fun e w' => e = .returned (.bool (pnd fs z)) ∧ Below w.heap.size w w' := by
  by_cases h0 : 0 ≤ z
  · obtain ⟨k, rfl⟩ := Int.eq_ofNat_of_zero_le h0
    have g0 : decide ((0 : Int) ≤ (k : Int)) = true := decide_eq_true h0
    by_cases hk : k < fs.length
    · have g1 : decide ((k : Int) < (fs.length : Int)) = true := decide_eq_true (by omega)
      obtain ⟨b, o, rfl, hc⟩ := hr.below (new_alloc w (.cells #[.int .i64 n, .slice p fs.length c] 37)) (by omega)
      have ck := hc k hk
      rw [pnd_at]
      clear hc hr
      generalize fs.getD k false = t at *
      generalize fs.length = m at *
      go_enter Try.func26, Try.ntmps26
      go_wp2_with fail
      go_ret
      exact ⟨rfl, new_alloc _ _⟩
    · have g1 : decide ((k : Int) < (fs.length : Int)) = false := decide_eq_false (by omega)
      have hv : pnd fs (k : Int) = false := by unfold pnd; simp [List.getD, show fs.length ≤ k by omega]
      rw [hv]
      clear hv hr
      generalize fs.length = m at *
      go_enter Try.func26, Try.ntmps26
      go_wp2_with fail
      go_ret
      exact ⟨rfl, new_alloc _ _⟩
  · have g0 : decide (0 ≤ z) = false := decide_eq_false h0
    have hv : pnd fs z = false := by unfold pnd; rw [g0]; rfl
    rw [hv]
    clear hv hr
    go_enter Try.func26, Try.ntmps26
    go_wp2_with fail
    go_ret
    exact ⟨rfl, new_alloc _ _⟩

theorem ovr_hit {fs : List Bool} {i : Nat} (h : fs.getD i false = true) : ovr fs = false := by
  have hi : i < fs.length := by
    by_cases hk : i < fs.length
    · exact hk
    · simp [List.getD, show fs.length ≤ i by omega] at h
  unfold ovr
  rw [List.all_eq_false]
  refine ⟨fs[i], List.getElem_mem hi, ?_⟩
  simp [List.getD, hi] at h
  simp [h]

set_option maxHeartbeats 400000 in
theorem rover_any (p : Option Addr) (c : Nat) (fs : List Bool) (n : Int) (w : World) (hl : fs.length ≤ 8) (hr : BRow w p fs) :
    Calls Try.prog 25 #[.agg #[.int .i64 n, .slice p fs.length c]] w fun e w' => e = .returned (.bool (ovr fs)) ∧ Below w.heap.size w w' := by
  have hr1 := Hid.in (hr.below (new_alloc w (.cells #[.int .i64 n, .slice p fs.length c] 37)))
  have hb1 := Hid.in (new_alloc w (.cells #[.int .i64 n, .slice p fs.length c] 37))
  clear hr
  go_enter Try.func25, Try.ntmps25
  go_wp2_with fail
  have c1 := (Blk.new w 37 #[.int .i64 n, .slice p fs.length c]).cell 1
  generalize w.alloc (.cells #[.int .i64 n, .slice p fs.length c] 37) = W at *
  go_loop [3] (fun vi => ∃ i : Nat, vi = .int .i64 i ∧ i ≤ fs.length ∧ Off8 fs i) (fun vi => fs.length - (intOf vi).toNat)
  case atStart => exact ⟨0, rfl, Nat.zero_le _, fun j hj => absurd hj (Nat.not_lt_zero j)⟩
  case round =>
    obtain ⟨i, rfl, hi, hoff⟩ := hrel
    have HOFF := Hid.in hoff
    clear hoff
    by_cases hil : i < fs.length
    · have hdi : decide ((i : Int) < (fs.length : Int)) = true := decide_eq_true (by omega)
      obtain ⟨b, o, rfl, hc⟩ := hr1.out (by omega)
      have ck := hc i hil
      clear hc
      cases ht : fs.getD i false
      · rw [ht] at ck
        have HT := Hid.in ht
        clear ht
        go_wp2_with fail
        go_round
        case rel => exact ⟨i + 1, by go_num, by omega, fun j hj => by
          by_cases e : j = i
          · subst e; exact HT.out
          · exact HOFF.out j (by omega)⟩
        case measure => simp [intOf]; omega
      · rw [ht] at ck
        have HT := Hid.in (ovr_hit ht)
        clear ht
        go_wp2_with fail
        go_ret
        exact ⟨ret_bool HT.out.symm, hb1.out⟩
    · have hdi : decide ((i : Int) < (fs.length : Int)) = false := decide_eq_false (by omega)
      have hii : i = fs.length := by omega
      have HOV : Hid (ovr fs = true) := off_all (by rw [← hii]; exact HOFF.out)
      clear hii
      go_wp2_with fail
      go_ret
      exact ⟨ret_bool HOV.out.symm, hb1.out⟩

set_option maxHeartbeats 400000 in
theorem rnew_bad (h : Int) (w : World) (hh : h < 0 ∨ 8 < h) :
    Calls Try.prog 15 #[.int .i64 h] w fun e w' => e = .returned (.tuple #[.agg #[.int .i64 0, .slice none 0 0], .int .i64 2]) ∧ Below w.heap.size w w' := by
  rcases hh with hh | hh
  · go_enter Try.func15, Try.ntmps15
    go_wp2
    exact bodyPost_ret (v := .tuple #[.agg #[.int .i64 0, .slice none 0 0], .int .i64 2]) (by simp [results, Try.results15, go_sem]) rfl ⟨rfl, new_alloc _ _⟩
  · have h0 : ¬ h < 0 := by omega
    go_enter Try.func15, Try.ntmps15
    go_wp2
    exact bodyPost_ret (v := .tuple #[.agg #[.int .i64 0, .slice none 0 0], .int .i64 2]) (by simp [results, Try.results15, go_sem]) rfl ⟨rfl, new_alloc _ _⟩

end Go.Proofs.Ytibbcenfkmgbcaa
