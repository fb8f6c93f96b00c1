/- The kit's CopyFlags and SameFlags; the law's looks. -/
import Derived.Test.YtibbcenfkmgbcaaRefU
import Derived.Lib.QuietBelow
namespace Go.Proofs.Ytibbcenfkmgbcaa
open Go.RowKit

theorem take_flag (xs : List Bool) (k : Nat) (h : k < xs.length) : flgs (xs.take (k + 1)) = flgs (xs.take k) ++ [.bool (xs.getD k false)] := by
  unfold flgs
  rw [List.take_succ_eq_append_getElem h, List.map_append]
  simp only [List.getD, List.getElem?_eq_getElem h, Option.getD_some, List.map_cons, List.map_nil]
theorem flag_new (w : World) (z : Bool) : ∀ j u, [Value.bool z][j]? = some u → (w.alloc (.cells #[.bool z] 4)).cell? ((⟨w.heap.size, 0, none⟩ : Addr).add j) = some u := by
  intro j u h
  cases j with
  | zero =>
    rw [Go.WideShapes.add_plain, (Blk.new w 4 #[.bool z]).cell]
    simpa using h
  | succ j => simp at h

set_option maxHeartbeats 400000 in
theorem copyFlags_any (p : Option Addr) (c : Nat) (xs : List Bool) (w : World) (hn : xs.length ≤ 140737488351232) (hr : BRow w p xs) :
    Calls Try.prog 16 #[.slice p xs.length c] w fun e w' => ∃ v, e = .returned v ∧ GOwnV 4 w' w.heap.size v (flgs xs) ∧ Below w.heap.size w w' := by
  have HR : Hid (∀ W, Below w.heap.size w W → BRow W p xs) := fun W hW => hr.below hW
  clear hr
  go_enter Try.func16, Try.ntmps16
  go_wp2
  go_loopw [3, 4] (fun v i wr => ∃ k : Nat, k ≤ xs.length ∧ i = .int .i64 k ∧ GOwnV 4 wr w.heap.size v (flgs (xs.take k)) ∧ Below w.heap.size w wr) (fun _ i _ => xs.length - (intOf i).toNat)
  case atStart => exact ⟨0, Nat.zero_le _, rfl, GOwnV.nil _ _ _, Below.refl _ _⟩
  case round =>
    obtain ⟨k, hk, rfl, hown, hbk⟩ := hrel
    have HOWN := Hid.in hown
    have HBK := Hid.in hbk
    have hsz := hbk.size
    clear hown hbk
    by_cases hlt : k < xs.length
    · have hdk : decide ((k : Int) < (xs.length : Int)) = true := decide_eq_true (by omega)
      obtain ⟨b, o, rfl, hc⟩ := HR.out wr HBK.out (by omega)
      have c1 := hc k hlt
      have hl : (flgs (xs.take k)).length + 1 ≤ 140737488355328 := by rw [List.length_map, List.length_take]; omega
      have HT := Hid.in (take_flag xs k hlt)
      clear hc
      generalize xs.getD k false = z at *
      generalize flgs (xs.take k) = ys at *
      go_wp2_with (at_builtin; refine Hid.out ?_)
      refine Lib.hid ?_
      refine gpush Try.elem29 _ rfl _ _ rfl w.heap.size _ ys rfl (HOWN.out.alloc _) ⟨wr.heap.size, 0, none⟩ 1 1 [.bool z] rfl rfl (flag_new wr z) (fun u hu => by simp at hu; subst hu; rfl) hl (by omega) (by rw [size_one]; omega) ?_
      intro v' w1 hown' _ hbel _
      have HO1 := Hid.in hown'
      have HB1 := Hid.in (hbel _ (HBK.out.alloc hsz _))
      clear hown' hbel HOWN HBK
      go_wp2_with fail
      go_roundw
      case rel => exact ⟨k + 1, by omega, by go_num, by rw [HT.out]; exact HO1.out, HB1.out⟩
      case measure => simp [intOf]; omega
    · have hdk : decide ((k : Int) < (xs.length : Int)) = false := decide_eq_false (by omega)
      have HT : Hid (xs.take k = xs) := List.take_of_length_le (by omega)
      go_wp2
      go_ret
      exact ⟨_, rfl, by have := HOWN.out; rw [HT.out] at this; exact this, HBK.out⟩

set_option maxHeartbeats 400000 in
theorem sameFlags_self (p q : Option Addr) (c d : Nat) (xs : List Bool) (w : World) (hn : xs.length ≤ 140737488351232) (h1 : BRow w p xs) (h2 : BRow w q xs) :
    Calls Try.prog 18 #[.slice p xs.length c, .slice q xs.length d] w fun e w' => e = .returned (.bool true) ∧ Below w.heap.size w w' := by
  have H1 := Hid.in h1
  have H2 := Hid.in h2
  clear h1 h2
  go_enter Try.func18, Try.ntmps18
  go_wp2_with fail
  go_loopw [5] (fun vi wr => ∃ k : Nat, k ≤ xs.length ∧ vi = .int .i64 k ∧ Below w.heap.size w wr) (fun vi _ => xs.length - (intOf vi).toNat)
  case atStart => exact ⟨0, Nat.zero_le _, rfl, below_self w⟩
  case round =>
    obtain ⟨k, hk, rfl, hw⟩ := hrel
    by_cases hlt : k < xs.length
    · have hdk : decide ((k : Int) < (xs.length : Int)) = true := decide_eq_true (by omega)
      obtain ⟨b, o, rfl, hc⟩ := H1.out.below hw (by omega)
      obtain ⟨b', o', rfl, hc'⟩ := H2.out.below hw (by omega)
      have c1 := hc k hlt
      have c2 := hc' k hlt
      have HW := Hid.in hw
      generalize xs.getD k false = z at *
      clear hc hc' hw
      cases z
      all_goals
        go_upto_region 6 with fail
        go_quiet (fail)
        go_wp2_with fail
        go_roundw
        case rel => exact ⟨k + 1, by omega, by go_num, below_draws HW.out _⟩
        case measure => simp [intOf]; omega
    · have hdk : decide ((k : Int) < (xs.length : Int)) = false := decide_eq_false (by omega)
      have HW := Hid.in hw
      clear hw
      go_wp2_with fail
      go_ret
      exact ⟨rfl, HW.out⟩

set_option maxHeartbeats 1000000 in
theorem looks_any (q : Nat) (p : Option Addr) (c : Nat) (fs : List Bool) (n : Int) (w : World) (h : Rnd w q fs n) (hr : BRow w p fs) :
    Calls Try.prog 22 #[.pointer (some ⟨q, 0, none⟩), .agg #[.int .i64 n, .slice p fs.length c]] w fun e w' => e = .returned (.bool true) ∧ Below w.heap.size w w' := by
  have hl := h.le
  have HB1 := Hid.in (new_alloc w (.cells #[.int .i64 n, .slice p fs.length c] 37))
  have HK1 := Hid.in (Blk.new w 37 #[.int .i64 n, .slice p fs.length c])
  have HD1 := Hid.in (h.below HB1.out)
  have HR1 := Hid.in (hr.below HB1.out)
  clear h hr
  go_enter Try.func22, Try.ntmps22
  go_wp2_with fail
  generalize w.alloc (.cells #[.int .i64 n, .slice p fs.length c] 37) = W at *
  go_loopw [5] (fun vz wr => ∃ k : Nat, vz = .int .i64 ((k : Int) - 1) ∧ k ≤ 11 ∧ Below W.heap.size W wr) (fun vz _ => 11 - (intOf vz + 1).toNat)
  case atStart => exact ⟨0, rfl, by decide, below_self W⟩
  case round =>
    obtain ⟨k, rfl, hk, hb⟩ := hrel
    have K := HK1.out.grow hb
    have c0 := K.cell 0
    have c1 := K.cell 1
    have HB := Hid.in hb
    have HD := Hid.in (HD1.out.below hb)
    have HR := Hid.in (HR1.out.below hb)
    clear K hb
    by_cases hk11 : k < 11
    · have hdk : decide ((k : Int) - 1 < 10) = true := decide_eq_true (by omega)
      have h12 : ∀ d os, Calls Try.prog 12 #[.pointer (some ⟨q, 0, none⟩), .int .i64 ((k : Int) - 1)] (Go.Sort.grow (redrawn wr d) os) fun e w' => e = .returned (.bool (pnd fs ((k : Int) - 1))) ∧ Below (Go.Sort.grow (redrawn wr d) os).heap.size (Go.Sort.grow (redrawn wr d) os) w' := fun d os =>
        (pending_any q fs n ((k : Int) - 1) _ (HD.out.below (below_regrown wr d os))).mono fun _ _ ⟨e, hw⟩ => ⟨e, by rw [hw]; exact below_self _⟩
      have h26 : ∀ d os, Calls Try.prog 26 #[.agg #[.int .i64 n, .slice p fs.length c], .int .i64 ((k : Int) - 1)] (Go.Sort.grow (redrawn wr d) os) fun e w' => e = .returned (.bool (pnd fs ((k : Int) - 1))) ∧ Below (Go.Sort.grow (redrawn wr d) os).heap.size (Go.Sort.grow (redrawn wr d) os) w' := fun d os =>
        rpending_any p c fs n ((k : Int) - 1) _ hl (HR.out.below (below_regrown wr d os))
      have c0' : ∀ d os, (Go.Sort.grow (redrawn wr d) os).cell? ⟨w.heap.size, 0, none⟩ = some (.int .i64 n) := fun d os => cell_regrown c0 d os
      have c1' : ∀ d os, (Go.Sort.grow (redrawn wr d) os).cell? ⟨w.heap.size, 1, none⟩ = some (.slice p fs.length c) := fun d os => cell_regrown c1 d os
      generalize pnd fs ((k : Int) - 1) = t at *
      generalize hm : fs.length = m at *
      clear hm c0 c1
      go_upto_region 4 with fail
      refine wp_region_quiet_below (by kernel_rfl) (by kernel_rfl) ?_
      iterate 7 (go_big_quiet_step ((first | exact Calls.regrown_of (h12 _ _) | exact Calls.regrown_of (h26 _ _))))
      refine wpQuiet_nil ?_
      intro _ hw'
      obtain ⟨⟨dq, osq⟩, hw''⟩ := hw'
      subst hw''
      have HB2 := Hid.in (below_step HB.out (below_regrown wr dq osq))
      clear h12 h26 c0' c1' HB HD HR
      generalize Go.Sort.grow (redrawn wr dq) osq = w2 at *
      go_wp2_with fail
      go_roundw
      case rel => exact ⟨k + 1, by go_num, by omega, HB2.out⟩
      case measure => simp [intOf]; omega
    · have hdk : decide ((k : Int) - 1 < 10) = false := decide_eq_false (by omega)
      have h10 : ∀ d os, Calls Try.prog 10 #[.pointer (some ⟨q, 0, none⟩)] (Go.Sort.grow (redrawn wr d) os) fun e w' => e = .returned (.bool (ovr fs)) ∧ Below (Go.Sort.grow (redrawn wr d) os).heap.size (Go.Sort.grow (redrawn wr d) os) w' := fun d os =>
        (over_any q fs n _ (HD.out.below (below_regrown wr d os))).mono fun _ _ ⟨e, hw⟩ => ⟨e, by rw [hw]; exact below_self _⟩
      have h11 : ∀ d os, Calls Try.prog 11 #[.pointer (some ⟨q, 0, none⟩)] (Go.Sort.grow (redrawn wr d) os) fun e w' => e = .returned (.int .i64 n) ∧ Below (Go.Sort.grow (redrawn wr d) os).heap.size (Go.Sort.grow (redrawn wr d) os) w' := fun d os =>
        (number_any q fs n _ (HD.out.below (below_regrown wr d os))).mono fun _ _ ⟨e, hw⟩ => ⟨e, by rw [hw]; exact below_self _⟩
      have h25 : ∀ d os, Calls Try.prog 25 #[.agg #[.int .i64 n, .slice p fs.length c]] (Go.Sort.grow (redrawn wr d) os) fun e w' => e = .returned (.bool (ovr fs)) ∧ Below (Go.Sort.grow (redrawn wr d) os).heap.size (Go.Sort.grow (redrawn wr d) os) w' := fun d os =>
        rover_any p c fs n _ hl (HR.out.below (below_regrown wr d os))
      have c0' : ∀ d os, (Go.Sort.grow (redrawn wr d) os).cell? ⟨w.heap.size, 0, none⟩ = some (.int .i64 n) := fun d os => cell_regrown c0 d os
      have c1' : ∀ d os, (Go.Sort.grow (redrawn wr d) os).cell? ⟨w.heap.size, 1, none⟩ = some (.slice p fs.length c) := fun d os => cell_regrown c1 d os
      generalize ovr fs = t at *
      generalize hm : fs.length = m at *
      clear hm c0 c1
      go_upto_region 6 with fail
      refine wp_region_quiet_below (by kernel_rfl) (by kernel_rfl) ?_
      iterate 13 (go_big_quiet_step ((first | exact Calls.regrown_of (h10 _ _) | exact Calls.regrown_of (h11 _ _) | exact Calls.regrown_of (h25 _ _))))
      refine wpQuiet_nil ?_
      intro _ hw'
      obtain ⟨⟨dq, osq⟩, hw''⟩ := hw'
      subst hw''
      have HB2 := Hid.in (below_step HB.out (below_regrown wr dq osq))
      clear h10 h11 h25 c0' c1' HB HD HR
      generalize Go.Sort.grow (redrawn wr dq) osq = w2 at *
      go_wp2_with fail
      go_ret
      exact ⟨rfl, below_step HB1.out HB2.out⟩

end Go.Proofs.Ytibbcenfkmgbcaa
