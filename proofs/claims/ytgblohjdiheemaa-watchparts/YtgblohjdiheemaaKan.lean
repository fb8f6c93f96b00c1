/- Texts put together: ShelfB, ApaW, IRgW, QThen. -/
import Derived.Shelf.Sort.Plain
import Derived.Shelf.Slices.In.SortNone
import Derived.Ground.NamesProg
import Derived.Test.YtgblohjdiheemaaProg
import Derived.Test.YtgblohjdiheemaaKam
import Derived.Test.YtgblohjdiheemaaKaa
import Derived.Lib.QuietBelow
import Derived.Deep.RegionHeld3
import Derived.BigQuiet

/-
  DERIVED: THE SHELF's CONTRACTS AT THIS DUMP, IN PLAIN WORDS (tools/lay-plain.mjs out of 'TryShelfBTmp.lean', which tools/lay-shelf.mjs wrote): THE SAME DECLARATIONS UNDER THE SAME NAMES: 'import', 'namespace', 'open', 'def', 'theorem' AND NOTHING ELSE: no command of the shelf's: FOR A HAND-IN. Each laying: the table of numbers ('.._ren') and one theorem, a field a fact of the dump's own or the kernel's comparison; each contract: ONE APPLICATION.
-/
namespace Go.Proofs
open Go.Shelf
def Try.laysSort_ren : Go.Shelf.Ren := ⟨fun | 189 => 47 | 125 => 55 | 257 => 56 | 128 => 72 | 129 => 73 | 294 => 74 | 295 => 75 | 296 => 76 | 297 => 77 | 298 => 78 | 299 => 79 | 216 => 80 | 300 => 81 | 301 => 82 | 328 => 96 | 329 => 92 | 330 => 93 | 331 => 97 | 332 => 98 | 215 => 45 | 343 => 100 | n => n, fun | 28 => 22 | 3 => 3 | 46 => 113 | 0 => 0 | 51 => 55 | 53 => 142 | 4 => 4 | 183 => 135 | 182 => 134 | 131 => 68 | 5 => 5 | 9 => 9 | 218 => 155 | 222 => 159 | 228 => 163 | 229 => 38 | n => n, fun | n => n⟩
theorem Try.laysSort : Go.Proofs.Lays.n189 Try.prog Try.laysSort_ren := {
  mixed := by kernel_rfl
  f125 := Try.func55.trans (congrArg some (by kernel_rfl))
  f128 := Try.func72.trans (congrArg some (by kernel_rfl))
  f129 := Try.func73.trans (congrArg some (by kernel_rfl))
  f189 := Try.func47.trans (congrArg some (by kernel_rfl))
  f215 := Try.func45.trans (congrArg some (by kernel_rfl))
  f216 := Try.func80.trans (congrArg some (by kernel_rfl))
  f257 := Try.func56.trans (congrArg some (by kernel_rfl))
  f294 := Try.func74.trans (congrArg some (by kernel_rfl))
  f295 := Try.func75.trans (congrArg some (by kernel_rfl))
  f296 := Try.func76.trans (congrArg some (by kernel_rfl))
  f297 := Try.func77.trans (congrArg some (by kernel_rfl))
  f298 := Try.func78.trans (congrArg some (by kernel_rfl))
  f299 := Try.func79.trans (congrArg some (by kernel_rfl))
  f300 := Try.func81.trans (congrArg some (by kernel_rfl))
  f301 := Try.func82.trans (congrArg some (by kernel_rfl))
  f328 := Try.func96.trans (congrArg some (by kernel_rfl))
  f329 := Try.func92.trans (congrArg some (by kernel_rfl))
  f330 := Try.func93.trans (congrArg some (by kernel_rfl))
  f331 := Try.func97.trans (congrArg some (by kernel_rfl))
  f332 := Try.func98.trans (congrArg some (by kernel_rfl))
  f343 := Try.func100.trans (congrArg some (by kernel_rfl))
  t0 := Try.underlying0
  a0 := Try.isAgg0
  z0 := Try.sizeOf0
  v0 := Try.zeroValue0
  t3 := Try.underlying3
  a3 := Try.isAgg3
  z3 := Try.sizeOf3
  v3 := Try.zeroValue3
  t4 := Try.underlying4
  a4 := Try.isAgg4
  z4 := Try.sizeOf4
  v4 := Try.zeroValue4
  t5 := Try.underlying5
  a5 := Try.isAgg5
  z5 := Try.sizeOf5
  v5 := Try.zeroValue5
  t9 := Try.underlying9
  a9 := Try.isAgg9
  z9 := Try.sizeOf9
  v9 := Try.zeroValue9
  t28 := Try.underlying22
  a28 := Try.isAgg22
  z28 := Try.sizeOf22
  v28 := Try.zeroValue22
  t46 := Try.underlying113
  a46 := Try.isAgg113
  z46 := Try.sizeOf113
  v46 := Try.zeroValue113
  t51 := Try.underlying55
  a51 := Try.isAgg55
  z51 := Try.sizeOf55
  v51 := Try.zeroValue55
  t53 := Try.underlying142
  a53 := Try.isAgg142
  z53 := Try.sizeOf142
  v53 := Try.zeroValue142
  t131 := Try.underlying68
  a131 := Try.isAgg68
  z131 := Try.sizeOf68
  v131 := Try.zeroValue68
  t182 := Try.underlying134
  a182 := Try.isAgg134
  z182 := Try.sizeOf134
  v182 := Try.zeroValue134
  t183 := Try.underlying135
  a183 := Try.isAgg135
  z183 := Try.sizeOf135
  v183 := Try.zeroValue135
  t218 := Try.underlying155
  a218 := Try.isAgg155
  z218 := Try.sizeOf155
  v218 := Try.zeroValue155
  t222 := Try.underlying159
  a222 := Try.isAgg159
  z222 := Try.sizeOf159
  v222 := Try.zeroValue159
  t228 := Try.underlying163
  a228 := Try.isAgg163
  z228 := Try.sizeOf163
  v228 := Try.zeroValue163
  t229 := Try.underlying38
  a229 := Try.isAgg38
  z229 := Try.sizeOf38
  v229 := Try.zeroValue38 }
theorem Try.slices_Sort_int (blk off cap : Nat) (zs : List Int) (w : World) (hH : Go.Sort.Holds (Value.int .i64) w blk off zs.toArray) (hblk : blk < w.heap.size) (hsz : zs.length < 4611686018427387904) :
    Calls Try.prog 47 #[.slice (some ⟨blk, off, none⟩) zs.length cap] w fun e w' => e = .returned (.tuple #[]) ∧ ∃ n os, w' = Go.Sort.grow (Go.Sort.putRow (Value.int .i64) (Sort.ahead w n) blk off (zs.mergeSort fun x y => decide (x ≤ y)).toArray) os := Any.slices_Sort_int Try.laysSort blk off cap zs w hH hblk hsz
theorem Try.slices_Sort_int_none (p : Option Addr) (cap : Nat) (w : World) :
    Calls Try.prog 47 #[.slice p 0 cap] w fun e w' => e = .returned (.tuple #[]) ∧ w' = w := Any.slices_Sort_int_none Try.laysSort p cap w
end Go.Proofs

/- sites.apart: no two sites share a byte. -/
namespace Go.Proofs.Ytgblohjdiheemaa
open Go.RowKit

abbrev intsV (zs : List Int) : List Value := zs.map (Value.int .i64)

/-- numbers, sorted -/
def srt (zs : List Int) : List Int := zs.mergeSort fun x y => decide (x ≤ y)
theorem srt_perm (zs : List Int) : (srt zs).Perm zs := List.mergeSort_perm _ _
theorem srt_sorted (zs : List Int) : (srt zs).Pairwise fun a b => a ≤ b := by
  have := List.pairwise_mergeSort (le := fun x y : Int => decide (x ≤ y)) (fun a b c h1 h2 => by simp at *; omega) (fun a b => by simp; omega) zs
  exact this.imp fun h => by simpa using h
theorem srt_len (zs : List Int) : (srt zs).length = zs.length := (srt_perm zs).length_eq

theorem sortI_own (B g cap : Nat) (zs : List Int) (w : World) (ho : GOwn 3 w B g cap (intsV zs)) (hl : zs.length ≤ 140737488355328) :
    Calls Try.prog 47 #[.slice (some ⟨g, 0, none⟩) zs.length cap] w fun e w' => e = .returned (.tuple #[]) ∧ (∀ j (hj : j < (srt zs).length), w'.cell? ⟨g, j, none⟩ = some (.int .i64 (srt zs)[j])) ∧ ∀ w0, Below B w0 w → Below B w0 w' := by
  have hH : Go.Sort.Holds (Value.int .i64) w g 0 zs.toArray := by
    intro j hj
    have hj' : j < zs.length := by simpa using hj
    rw [Nat.zero_add]
    refine ⟨?_, ho.free j⟩
    rw [ho.cell j (by simpa using hj')]
    simp [hj']
  have hs : (srt zs).toArray.size = zs.toArray.size := by simp [srt_len]
  refine (Try.slices_Sort_int g 0 cap zs w hH ho.lt (by omega)).mono fun e w' ⟨he, n, os, hw⟩ => ⟨he, fun j hj => ?_, fun w0 hb => ?_⟩
  · rw [hw, Go.Sort.cell?_grow _ _ _ (by simpa using ho.lt)]
    have := Go.Sort.cell?_putRow (Value.int .i64) (Go.Sort.ahead w n) g 0 zs.toArray (srt zs).toArray hH hs j (by simpa using hj)
    rw [Nat.zero_add] at this
    refine this.trans ?_
    simp [hj]
  · refine hb.trans ?_
    rw [hw]
    refine ⟨rfl, rfl, rfl, by simp, fun k hk => ?_⟩
    have hkg : k ≠ g := by have := ho.base; omega
    have hks : k < (Go.Sort.putRow (Value.int .i64) (Go.Sort.ahead w n) g 0 (srt zs).toArray).heap.size := by
      have := hb.size
      simp
      have := ho.lt
      have := ho.base
      omega
    refine (Go.Sort.heap_grow_old _ os hks).trans ?_
    simp [Go.Sort.putRow, Go.Sort.mapBlock, Array.getElem?_modify, Ne.symm hkg]

theorem sortI_any (B : Nat) (p : Option Addr) (c : Nat) (zs : List Int) (w : World) (hl : zs.length ≤ 140737488355328) (ho : GOwnV 3 w B (.slice p zs.length c) (intsV zs)) :
    Calls Try.prog 47 #[.slice p zs.length c] w fun e w' => e = .returned (.tuple #[]) ∧ GRow w' p (intsV (srt zs)) ∧ ∀ w0, Below B w0 w → Below B w0 w' := by
  rcases ho.shape with ⟨h1, h2⟩ | ⟨g, cap, h1, h2⟩
  · have hz : zs = [] := by simpa using h2
    subst hz
    simp only [List.length_nil, Value.slice.injEq] at h1
    refine (Try.slices_Sort_int_none p c w).mono fun e w' ⟨he, hw⟩ => ⟨he, fun h => ?_, fun w0 hb => by rw [hw]; exact hb⟩
    simp [srt] at h
  · simp only [List.length_map, Value.slice.injEq] at h1
    obtain ⟨rfl, -, rfl⟩ := h1
    refine (sortI_own B g c zs w h2 hl).mono fun e w' ⟨he, hc, hb⟩ => ⟨he, fun _ => ⟨g, 0, rfl, fun i hi => ?_⟩, hb⟩
    have hi' : i < (srt zs).length := by simpa using hi
    rw [Nat.zero_add, hc i hi']
    simp [hi']

set_option maxRecDepth 4000 in
set_option maxHeartbeats 4000000 in
theorem apart_any (p : Option Addr) (n c : Nat) (T : List Si) (w : World) (hn : T.length = n) (hn6 : n ≤ 1000) (hr : Row3 w p (T.map siV)) (hT : ∀ s ∈ T, 0 ≤ s.at_ ∧ s.at_ ≤ 65536) :
    Calls Try.prog 38 #[.slice p n c] w fun E w' => E = .returned (.bool (decide (apP (T.map (·.at_))))) ∧ Below w.heap.size w w' := by
  have HN := Hid.in hn
  have HR := Hid.in hr
  have HT := Hid.in hT
  clear hn hr hT
  obtain ⟨r, hrr⟩ : ∃ r, decide (apP (T.map (·.at_))) = r := ⟨_, rfl⟩
  rw [hrr]
  have HRR := Hid.in hrr
  clear hrr
  go_enter Try.func38, Try.ntmps38
  go_wp2_with fail
  go_loopw [3, 9] (fun v vi wr => ∃ k : Nat, vi = .int .i64 k ∧ k ≤ n ∧ GOwnV 3 wr w.heap.size v (intsV ((T.map (·.at_)).take k)) ∧ Below w.heap.size w wr) (fun _ vi _ => n - (intOf vi).toNat)
  case atStart => exact ⟨0, rfl, Nat.zero_le _, GOwnV.nil _ _ _, below_self w⟩
  case round =>
    obtain ⟨k, rfl, hk, hown, hb⟩ := hrel
    have HB := Hid.in hb
    have hsz := hb.size
    clear hb
    by_cases hlt : k < n
    · have hkT : k < T.length := by rw [HN.out]; exact hlt
      obtain ⟨b, o, rfl, hcc⟩ := (HR.out.below HB.out).at3 (by omega)
      have c0 := (hcc k hkT).1
      have c1 := (hcc k hkT).2.1
      have c2 := (hcc k hkT).2.2
      have HTK : Hid (intsV ((T.map (·.at_)).take (k + 1)) = intsV ((T.map (·.at_)).take k) ++ [.int .i64 T[k].at_]) := by
        have h : intsV ((T.map (·.at_)).take (k + 1)) = intsV ((T.map (·.at_)).take k) ++ [.int .i64 T[k].at_] := by
          rw [List.take_succ_eq_append_getElem (by simpa using hkT)]
          simp
        exact h
      have hl2 : (intsV ((T.map (·.at_)).take k)).length ≤ 1000 := by rw [List.length_map, List.length_take]; omega
      clear hcc
      generalize T[k].key = x0 at *
      generalize T[k].at_ = x1 at *
      generalize T[k].to_ = x2 at *
      generalize intsV ((T.map (·.at_)).take k) = us at *
      go_wp2_with (at_builtin; refine gpush Try.elemI _ rfl _ _ rfl w.heap.size _ us rfl ((hown.alloc _).alloc _) ⟨wr.heap.size + 1, 0, none⟩ 1 1 [.int .i64 x1] rfl rfl (by have h := cell_one_new (wr.alloc (.cells #[.int .i64 x0, .int .i64 x1, .int .i64 x2] 37)) (.int .i64 x1) 3; rw [size_one] at h; exact h) (by simp [Value.oneCell']) (by omega) (by omega) (by simp; omega) ?_; intro v' w1 hown' _hgrow hbel _hnil)
      go_roundw
      case rel => exact ⟨k + 1, by go_num, by omega, by rw [HTK.out]; exact hown', hbel _ (below_alloc (below_alloc HB.out _) _)⟩
      case measure => simp [intOf]; omega
    · obtain ⟨zs, hzs⟩ : ∃ zs, zs = T.map (·.at_) := ⟨_, rfl⟩
      have hzl : zs.length = n := by rw [hzs, List.length_map, HN.out]
      rw [← hzs, List.take_of_length_le (by omega)] at hown
      have HAP : Hid (adjB (srt zs) = r) := by rw [adj_ap (srt_sorted zs), ← HRR.out, ← hzs]; exact decide_eq_decide.2 (ap_perm (srt_perm zs))
      have HRG : Hid (∀ i (hi : i < (srt zs).length), 0 ≤ (srt zs)[i] ∧ (srt zs)[i] ≤ 65536) := by
        intro i hi
        have hm : (srt zs)[i] ∈ T.map (·.at_) := by
          have h := (srt_perm zs).mem_iff.1 (List.getElem_mem hi)
          have e : zs = T.map (·.at_) := hzs
          exact e ▸ h
        obtain ⟨s, hs, e⟩ := List.mem_map.1 hm
        rw [← e]; exact HT.out s hs
      have hsl : (srt zs).length = n := by rw [srt_len]; exact hzl
      have HSL := Hid.in hsl
      obtain ⟨pv, cv, hv, -, -, -⟩ := hown.slice
      rw [List.length_map] at hv
      subst hv
      have hS := sortI_any w.heap.size pv cv zs wr (by omega) hown
      clear hown hzs HRR HR HT hsl
      subst hzl
      generalize srt zs = P at *
      go_wp2_with (go_at_call 47; refine hS.mono ?_; rintro e w1 ⟨rfl, hg, hb1⟩; have HG := Hid.in hg; have HB1 := Hid.in (hb1 w HB.out); clear hS hg hb1)
      go_loopw [6] (fun vi wr => ∃ k m : Nat, vi = .int .i64 ((k : Int) + 1) ∧ k ≤ zs.length ∧ (∀ i, i < k → i + 1 < P.length → ¬ P.getD (i + 1) 0 - P.getD i 0 < 5) ∧ wr = w1.drewN m) (fun vi _ => zs.length + 1 - (intOf vi).toNat)
      case atStart => exact ⟨0, 0, rfl, Nat.zero_le _, fun i h => absurd h (Nat.not_lt_zero _), rfl⟩
      case round =>
        obtain ⟨j, m, rfl, hj, hgo, rfl⟩ := hrel
        have HGO := Hid.in hgo
        clear hgo
        by_cases hl2 : j + 1 < zs.length
        · have hP1 : j + 1 < P.length := by rw [HSL.out]; exact hl2
          have hP0 : j < P.length := by omega
          obtain ⟨gb, go_, rfl, hcc⟩ := HG.out (by simp; omega)
          have d1 := hcc (j + 1) (by simpa using hP1)
          have d0 := hcc j (by simpa using hP0)
          rw [List.getElem?_map, List.getElem?_eq_getElem hP1, Option.map_some] at d1
          rw [List.getElem?_map, List.getElem?_eq_getElem hP0, Option.map_some] at d0
          have r1 := HRG.out (j + 1) hP1
          have r0 := HRG.out j hP0
          have hg1 : P.getD (j + 1) 0 = P[j + 1] := by simp [List.getD, hP1]
          have hg0 : P.getD j 0 = P[j] := by simp [List.getD, hP0]
          clear hcc
          by_cases hd : P[j + 1] - P[j] < 5
          · have HE : Hid (r = false) := by
              have : adjB P = false := by
                unfold adjB
                refine decide_eq_false fun h => ?_
                exact h j (by omega) (by rw [hg1, hg0]; exact hd)
              rw [← HAP.out, this]; exact rfl
            clear hg1 hg0
            generalize P[j + 1] = y1 at *
            generalize P[j] = y0 at *
            have hw1 : IntKind.i64.wrap ((j : Int) + 1 - 1) = (j : Int) := by rw [IntKind.wrap_i64]; omega
            have hw2 : IntKind.i64.wrap (j : Int) = (j : Int) := by rw [IntKind.wrap_i64]; omega
            have hw3 : IntKind.i64.wrap (y1 - y0) = y1 - y0 := by rw [IntKind.wrap_i64]; omega
            have hb0 : (0 : Int) ≤ (j : Int) + 1 := by omega
            have hb1 : (j : Int) + 1 < (zs.length : Int) := by omega
            have hb2 : j < zs.length := by omega
            have hb3 : ((j : Int) + 1).toNat = j + 1 := by omega
            have hdd : decide (y1 - y0 < 5) = true := decide_eq_true hd
            go_wp2_with fail
            go_quiet (fail)
            go_wp2
            go_ret
            exact ⟨by rw [HE.out]; rfl, below_draws (below_draws HB1.out _) _⟩
          · have HG2 : Hid (∀ i, i < j + 1 → i + 1 < P.length → ¬ P.getD (i + 1) 0 - P.getD i 0 < 5) := fun i h1 h2 => by
              by_cases e : i = j
              · subst e; rw [hg1, hg0]; exact hd
              · exact HGO.out i (by omega) h2
            clear hg1 hg0
            generalize P[j + 1] = y1 at *
            generalize P[j] = y0 at *
            have hw1 : IntKind.i64.wrap ((j : Int) + 1 - 1) = (j : Int) := by rw [IntKind.wrap_i64]; omega
            have hw2 : IntKind.i64.wrap (j : Int) = (j : Int) := by rw [IntKind.wrap_i64]; omega
            have hw3 : IntKind.i64.wrap (y1 - y0) = y1 - y0 := by rw [IntKind.wrap_i64]; omega
            have hb0 : (0 : Int) ≤ (j : Int) + 1 := by omega
            have hb1 : (j : Int) + 1 < (zs.length : Int) := by omega
            have hb2 : j < zs.length := by omega
            have hb3 : ((j : Int) + 1).toNat = j + 1 := by omega
            have hdd : decide (y1 - y0 < 5) = false := decide_eq_false hd
            go_wp2_with fail
            go_quiet (fail)
            go_wp2
            go_roundw
            case rel => exact ⟨j + 1, _, by go_num, by omega, fun i h1 h2 => (by have := HG2.out i h1 h2; omega), rfl⟩
            case measure => simp [intOf]; omega
        · have HE : Hid (r = true) := by
            have : adjB P = true := by
              unfold adjB
              exact decide_eq_true fun i hi => HGO.out i (by have := HSL.out; omega) (by omega)
            rw [← HAP.out, this]; exact rfl
          go_wp2_with fail
          go_ret
          exact ⟨by rw [HE.out]; rfl, below_draws HB1.out _⟩

set_option maxRecDepth 4000 in
set_option maxHeartbeats 2000000 in
theorem sright_any (p : Option Addr) (n c : Nat) (T : List Si) (k : Int) (w : World) (hn : T.length = n) (hn6 : n ≤ 140737488355328) (hr : Row3 w p (T.map siV)) :
    Calls Try.prog 26 #[.slice p n c, .int .i64 k] w fun E w' => E = .returned (.bool (rightS T k)) ∧ Below w.heap.size w w' := by
  by_cases h0 : 0 ≤ k ∧ k ≤ 64 ∧ T.length ≤ 256
  · have HF : Hid (rightS T k = (T.all (siteB k) && (nsB T && decide (apP (T.map (·.at_)))))) := by
      have h : rightS T k = (T.all (siteB k) && (nsB T && decide (apP (T.map (·.at_))))) := by rw [right_eq, decide_eq_true h0, Bool.true_and]
      exact h
    rw [HF.out]
    clear HF
    obtain ⟨r, hrr⟩ : ∃ r, (T.all (siteB k) && (nsB T && decide (apP (T.map (·.at_))))) = r := ⟨_, rfl⟩
    rw [hrr]
    have HRR := Hid.in hrr
    have HN := Hid.in hn
    have HR := Hid.in hr
    obtain ⟨h1, h2, h3⟩ := h0
    rw [hn] at h3
    clear hrr hn hr
    go_enter Try.func26, Try.ntmps26
    go_wp2_with fail
    go_loopw [20] (fun vi wr => ∃ j : Nat, vi = .int .i64 j ∧ j ≤ n ∧ (∀ i (hi : i < T.length), i < j → siteB k T[i] = true) ∧ Below w.heap.size w wr) (fun vi _ => n - (intOf vi).toNat)
    case atStart => exact ⟨0, rfl, Nat.zero_le _, fun i _ h => absurd h (Nat.not_lt_zero _), below_self w⟩
    case round =>
      obtain ⟨j, rfl, hj, hgo, hb⟩ := hrel
      have HGO := Hid.in hgo
      have HB := Hid.in hb
      clear hgo hb
      by_cases hlt : j < n
      · have hjT : j < T.length := by rw [HN.out]; exact hlt
        obtain ⟨b, o, rfl, hcc⟩ := (HR.out.below HB.out).at3 (by omega)
        have c0 := (hcc j hjT).1
        have c1 := (hcc j hjT).2.1
        have c2 := (hcc j hjT).2.2
        have hcl := fun W => rightSite_any T[j] k W
        dsimp only [sV] at hcl
        clear hcc
        cases hs : siteB k T[j] with
        | true =>
          have HG2 : Hid (∀ i (hi : i < T.length), i < j + 1 → siteB k T[i] = true) := fun i hi h => by
            by_cases e : i = j
            · subst e; exact hs
            · exact HGO.out i hi (by omega)
          rw [hs] at hcl
          clear hs
          generalize T[j].key = x0 at *
          generalize T[j].at_ = x1 at *
          generalize T[j].to_ = x2 at *
          go_wp2_with (go_at_call 35; refine (hcl _).mono ?_; rintro e w1 ⟨rfl, hb1⟩; have HB1 := Hid.in (below_step (below_alloc HB.out _) hb1); clear hb1)
          go_roundw
          case rel => exact ⟨j + 1, by go_num, by omega, HG2.out, HB1.out⟩
          case measure => simp [intOf]; omega
        | false =>
          have HE : Hid (r = false) := by
            have : T.all (siteB k) = false := by
              rw [List.all_eq_false]
              exact ⟨T[j], List.getElem_mem hjT, by rw [hs]; decide⟩
            rw [← HRR.out, this, Bool.false_and]; exact rfl
          rw [hs] at hcl
          clear hs
          generalize T[j].key = x0 at *
          generalize T[j].at_ = x1 at *
          generalize T[j].to_ = x2 at *
          go_wp2_with (go_at_call 35; refine (hcl _).mono ?_; rintro e w1 ⟨rfl, hb1⟩; have HB1 := Hid.in (below_step (below_alloc HB.out _) hb1); clear hb1)
          go_ret
          exact ⟨by rw [HE.out]; rfl, HB1.out⟩
      · have hall : ∀ s ∈ T, siteB k s = true := fun s hs => by
          obtain ⟨i, hi, rfl⟩ := List.getElem_of_mem hs
          exact HGO.out i hi (by rw [HN.out] at hi; omega)
        have HE : Hid (r = (nsB T && decide (apP (T.map (·.at_))))) := by
          have : T.all (siteB k) = true := List.all_eq_true.2 hall
          rw [← HRR.out, this, Bool.true_and]; exact rfl
        have hI := isSorted_any p n c T wr HN.out (by omega) (HR.out.below HB.out)
        have hA := fun W (hW : Below wr.heap.size wr W) => apart_any p n c T W HN.out (by omega) ((HR.out.below HB.out).below hW) (fun s hs => by
          have := hall s hs
          unfold siteB at this
          simp only [Bool.and_eq_true, decide_eq_true_eq] at this
          omega)
        clear hall
        cases hns : nsB T with
        | true =>
          rw [hns] at hI HE
          rw [Bool.true_and] at HE
          clear hns
          go_wp2_with (first
            | (go_at_call 36; refine hI.mono ?_; rintro e w1 ⟨rfl, hb1⟩; have HB1 := Hid.in hb1; clear hb1 hI)
            | (go_at_call 38; refine (hA _ HB1.out).mono ?_; rintro e w2 ⟨rfl, hb2⟩; have HB2 := Hid.in (below_step (below_step HB.out HB1.out) hb2); clear hb2 hA))
          go_ret
          exact ⟨by rw [HE.out]; simp, HB2.out⟩
        | false =>
          rw [hns] at hI HE
          rw [Bool.false_and] at HE
          clear hns
          go_wp2_with (first
            | (go_at_call 36; refine hI.mono ?_; rintro e w1 ⟨rfl, hb1⟩; have HB1 := Hid.in (below_step HB.out hb1); clear hb1 hI))
          go_ret
          exact ⟨by rw [HE.out]; rfl, HB1.out⟩
  · have HF : Hid (rightS T k = false) := by
      have h : rightS T k = false := by rw [right_eq, decide_eq_false h0, Bool.false_and, Bool.false_and]
      exact h
    rw [HF.out]
    rw [hn] at h0
    clear HF hr
    rcases (by omega : k < 0 ∨ (0 ≤ k ∧ 64 < k) ∨ (0 ≤ k ∧ k ≤ 64 ∧ 256 < n)) with h1 | ⟨h1, h2⟩ | ⟨h1, h2, h3⟩
    all_goals
      clear h0
      go_enter Try.func26, Try.ntmps26
      go_wp2_with fail
      go_ret
      exact ⟨rfl, below_self w⟩

end Go.Proofs.Ytgblohjdiheemaa

/- image.Right answers P9.3. -/
namespace Go.Proofs.Ytgblohjdiheemaa
open Go.RowKit

theorem right_sites {T : List Si} {k : Nat} (h : rightS T k = true) : k ≤ 64 ∧ T.length ≤ 256 ∧ ∀ s ∈ T, 0 ≤ s.at_ ∧ s.at_ ≤ 65531 := by
  unfold rightS at h
  simp only [Bool.and_eq_true, decide_eq_true_eq] at h
  obtain ⟨⟨⟨⟨_, h1, h2⟩, h3⟩, _⟩, _⟩ := h
  refine ⟨by omega, h2, fun s hs => ?_⟩
  have := List.all_eq_true.1 h3 s hs
  unfold siteB at this
  simp only [Bool.and_eq_true, decide_eq_true_eq] at this
  omega

set_option maxRecDepth 20000 in
set_option maxHeartbeats 1000000 in
theorem iright_any (m : IM) (pb pk ps pu : Option Addr) (nb cb nk ck ns cs nu cu : Nat) (w : World) (h : ImIn w m pb pk ps pu nb cb nk ck ns cs nu cu) :
    Calls Try.prog 18 #[.agg (imA pb pk ps pu nb cb nk ck ns cs nu cu)] w fun E w' => E = .returned (.bool (okI m)) ∧ Below w.heap.size w w' := by
  have H := Hid.in h
  have hkb := h.kb
  have hcb := h.mb
  have hnk := h.mc
  clear h
  have HE : Hid (okI m = (decide (nb ≤ 65536) && rightS m.si nk && keysB m.ks && quietB m.bs m.si && unitsB m.bs.length m.un)) := by
    have : okI m = (decide (nb ≤ 65536) && rightS m.si nk && keysB m.ks && quietB m.bs m.si && unitsB m.bs.length m.un) := by
      unfold okI; rw [H.out.lk, H.out.lb]
    exact this
  obtain ⟨r, hrr⟩ : ∃ r, okI m = r := ⟨_, rfl⟩
  rw [hrr]
  rw [hrr] at HE
  clear hrr
  have HK0 : Hid (Blk (w.alloc (.cells (imA pb pk ps pu nb cb nk ck ns cs nu cu) 29)) w.heap.size 29 (imA pb pk ps pu nb cb nk ck ns cs nu cu)) := Blk.new _ _ _
  have HB0 : Hid (Below w.heap.size w (w.alloc (.cells (imA pb pk ps pu nb cb nk ck ns cs nu cu) 29))) := new_alloc _ _
  have k0 : (w.alloc (.cells (imA pb pk ps pu nb cb nk ck ns cs nu cu) 29)).cell? ⟨w.heap.size, 0, none⟩ = some (.slice pb nb cb) := HK0.out.cell 0
  have k1 : (w.alloc (.cells (imA pb pk ps pu nb cb nk ck ns cs nu cu) 29)).cell? ⟨w.heap.size, 1, none⟩ = some (.slice pk nk ck) := HK0.out.cell 1
  have k2 : (w.alloc (.cells (imA pb pk ps pu nb cb nk ck ns cs nu cu) 29)).cell? ⟨w.heap.size, 2, none⟩ = some (.slice ps ns cs) := HK0.out.cell 2
  have hS := fun W (hW : Below w.heap.size w W) => sright_any ps ns cs m.si (nk : Int) W H.out.ls H.out.ms (H.out.below hW).rs
  by_cases h6 : nb ≤ 65536
  · have q1 : decide ((nb : Int) ≤ 65536) = true := decide_eq_true (by omega)
    rw [decide_eq_true h6, Bool.true_and] at HE
    cases hs : rightS m.si nk with
    | false =>
      rw [hs] at hS
      rw [hs, Bool.false_and, Bool.false_and, Bool.false_and] at HE
      go_enter Try.func18, Try.ntmps18
      go_wp2_with (go_at_call 26; refine (hS _ HB0.out).mono ?_; rintro e w1 ⟨rfl, hb1⟩)
      go_ret
      exact ⟨by rw [HE.out]; rfl, below_step HB0.out hb1⟩
    | true =>
      obtain ⟨h64, h256, hat⟩ := right_sites hs
      rw [hs] at hS
      rw [hs, Bool.true_and] at HE
      have HAT := Hid.in hat
      have hK := fun W (hW : Below w.heap.size w W) => rightKeys_any pk nk ck m.ks W H.out.lk h64 H.out.ksz (H.out.below hW).rk
      have hQ := fun W (hW : Below w.heap.size w W) => quietSites_any m pb pk ps pu nb cb nk ck ns cs nu cu W (H.out.below hW) HAT.out
      have hU := fun W (hW : Below w.heap.size w W) => rightUnits_any m pb pk ps pu nb cb nk ck ns cs nu cu W (H.out.below hW)
      clear hs hat
      generalize unitsB m.bs.length m.un = ru at *
      generalize keysB m.ks = rk at *
      generalize quietB m.bs m.si = rq at *
      have HFIN : ∀ {x : Bool} {w' : World}, x = r → Below w.heap.size w w' → Ending.returned (.bool x) = .returned (.bool r) ∧ Below w.heap.size w w' := fun e hb => ⟨by rw [e], hb⟩
      cases rk with
      | false =>
        go_enter Try.func18, Try.ntmps18
        go_wp2_with (first
          | (go_at_call 26; refine (hS _ HB0.out).mono ?_; rintro e w1 ⟨rfl, hb1⟩; have HB1 := Hid.in (below_step HB0.out hb1); have j1 : w1.cell? ⟨w.heap.size, 1, none⟩ = some (.slice pk nk ck) := (HK0.out.grow hb1).cell 1; clear hb1)
          | (go_at_call 27; refine (hK _ HB1.out).mono ?_; rintro e w2 ⟨rfl, hb2⟩; have HB2 := Hid.in (below_step HB1.out hb2); clear hb2))
        go_ret
        exact HFIN (by rw [HE.out]; rfl) HB2.out
      | true => 
        cases rq with
        | false =>
          go_enter Try.func18, Try.ntmps18
          go_wp2_with (first
            | (go_at_call 26; refine (hS _ HB0.out).mono ?_; rintro e w1 ⟨rfl, hb1⟩; have HB1 := Hid.in (below_step HB0.out hb1); have HK1 := Hid.in (HK0.out.grow hb1); have j1 : w1.cell? ⟨w.heap.size, 1, none⟩ = some (.slice pk nk ck) := HK1.out.cell 1; clear hb1)
            | (go_at_call 27; refine (hK _ HB1.out).mono ?_; rintro e w2 ⟨rfl, hb2⟩; have HB2 := Hid.in (below_step HB1.out hb2); have HK2 := Hid.in (HK1.out.grow hb2); have i0 : w2.cell? ⟨w.heap.size, 0, none⟩ = some (.slice pb nb cb) := HK2.out.cell 0; have i1 : w2.cell? ⟨w.heap.size, 1, none⟩ = some (.slice pk nk ck) := HK2.out.cell 1; have i2 : w2.cell? ⟨w.heap.size, 2, none⟩ = some (.slice ps ns cs) := HK2.out.cell 2; have i3 : w2.cell? ⟨w.heap.size, 3, none⟩ = some (.slice pu nu cu) := HK2.out.cell 3; clear hb2)
            | (go_at_call 28; refine (hQ _ HB2.out).mono ?_; rintro e w3 ⟨rfl, hb3⟩; have HB3 := Hid.in (below_step HB2.out hb3); have HK3 := Hid.in (HK2.out.grow hb3); have l0 : w3.cell? ⟨w.heap.size, 0, none⟩ = some (.slice pb nb cb) := HK3.out.cell 0; have l1 : w3.cell? ⟨w.heap.size, 1, none⟩ = some (.slice pk nk ck) := HK3.out.cell 1; have l2 : w3.cell? ⟨w.heap.size, 2, none⟩ = some (.slice ps ns cs) := HK3.out.cell 2; have l3 : w3.cell? ⟨w.heap.size, 3, none⟩ = some (.slice pu nu cu) := HK3.out.cell 3; clear hb3)
            | (go_at_call 29; refine (hU _ HB3.out).mono ?_; rintro e w4 ⟨rfl, hb4⟩; have HB4 := Hid.in (below_step HB3.out hb4); clear hb4))
          go_ret
          exact HFIN (by rw [HE.out]; rfl) HB3.out
        | true =>
          go_enter Try.func18, Try.ntmps18
          go_wp2_with (first
            | (go_at_call 26; refine (hS _ HB0.out).mono ?_; rintro e w1 ⟨rfl, hb1⟩; have HB1 := Hid.in (below_step HB0.out hb1); have HK1 := Hid.in (HK0.out.grow hb1); have j1 : w1.cell? ⟨w.heap.size, 1, none⟩ = some (.slice pk nk ck) := HK1.out.cell 1; clear hb1)
            | (go_at_call 27; refine (hK _ HB1.out).mono ?_; rintro e w2 ⟨rfl, hb2⟩; have HB2 := Hid.in (below_step HB1.out hb2); have HK2 := Hid.in (HK1.out.grow hb2); have i0 : w2.cell? ⟨w.heap.size, 0, none⟩ = some (.slice pb nb cb) := HK2.out.cell 0; have i1 : w2.cell? ⟨w.heap.size, 1, none⟩ = some (.slice pk nk ck) := HK2.out.cell 1; have i2 : w2.cell? ⟨w.heap.size, 2, none⟩ = some (.slice ps ns cs) := HK2.out.cell 2; have i3 : w2.cell? ⟨w.heap.size, 3, none⟩ = some (.slice pu nu cu) := HK2.out.cell 3; clear hb2)
            | (go_at_call 28; refine (hQ _ HB2.out).mono ?_; rintro e w3 ⟨rfl, hb3⟩; have HB3 := Hid.in (below_step HB2.out hb3); have HK3 := Hid.in (HK2.out.grow hb3); have l0 : w3.cell? ⟨w.heap.size, 0, none⟩ = some (.slice pb nb cb) := HK3.out.cell 0; have l1 : w3.cell? ⟨w.heap.size, 1, none⟩ = some (.slice pk nk ck) := HK3.out.cell 1; have l2 : w3.cell? ⟨w.heap.size, 2, none⟩ = some (.slice ps ns cs) := HK3.out.cell 2; have l3 : w3.cell? ⟨w.heap.size, 3, none⟩ = some (.slice pu nu cu) := HK3.out.cell 3; clear hb3)
            | (go_at_call 29; refine (hU _ HB3.out).mono ?_; rintro e w4 ⟨rfl, hb4⟩; have HB4 := Hid.in (below_step HB3.out hb4); clear hb4))
          go_ret
          exact HFIN (by rw [HE.out]; simp) HB4.out
  · have q1 : decide ((nb : Int) ≤ 65536) = false := decide_eq_false (by omega)
    rw [decide_eq_false h6, Bool.false_and, Bool.false_and, Bool.false_and, Bool.false_and] at HE
    go_enter Try.func18, Try.ntmps18
    go_wp2_with fail
    go_ret
    exact ⟨by rw [HE.out]; rfl, HB0.out⟩
end Go.Proofs.Ytgblohjdiheemaa

/- A region that draws its order: its first operations only read; what stands behind them may make memory. -/
namespace Go.Proofs.Ytgblohjdiheemaa
open Go.RowKit Go.Sort

/-- an operation whose answer is a value -/
def plainOp (o : Oper) : Bool := match o.op with
  | .move _ | .assign _ | .pick _ _ _ | .load _ _ | .binOp _ _ _ _ _ | .unOp _ _ _ | .slice _ _ _ _ _ | .fieldAddr _ _ _ | .field _ _ _ | .indexAddr _ _ _ | .index _ _ _ | .extract _ _ | .convert _ _ _ | .nilCheck _ | .lookup _ _ _ _ => true
  | .call c => match c.callee with
    | .builtin .len => true
    | _ => false
  | _ => false
theorem value_only {P : Program} (s : Sem Value) (w w' : World) (n : Next) (h : (do pure (.value (← s)) : Sem Next).run P w = .ok n w') : ∃ v, n = .value v := by
  rw [Sem.run_bind] at h
  cases hs : s.run P w with
  | ok x w1 =>
    rw [hs] at h
    simp only [Result.andThen_ok, Sem.run_pure] at h
    injection h with h1 h2
    exact ⟨x, h1.symm⟩
  | halt x w1 =>
    rw [hs] at h
    simp [Result.andThen] at h
theorem plain_value {P : Program} {o : Oper} (hp : plainOp o = true) {ρ : Operand → Value} {w w' : World} {n : Next} (h : (execOp ρ o).run P w = .ok n w') : ∃ v, n = .value v := by
  unfold plainOp at hp
  unfold execOp at h
  obtain ⟨dst, op, ty, pos, aft, gd⟩ := o
  cases op <;> simp only at hp h
  case move => injection h with h1 _; exact ⟨_, h1.symm⟩
  case assign => injection h with h1 _; exact ⟨_, h1.symm⟩
  case pick c x y =>
    rw [Sem.run_bind] at h
    cases hs : (asBool (ρ c)).run P w with
    | ok b w1 =>
      rw [hs] at h
      simp only [Result.andThen_ok, Sem.run_pure] at h
      injection h with h1 _
      exact ⟨_, h1.symm⟩
    | halt x w1 =>
      rw [hs] at h
      simp [Result.andThen] at h
  case nilCheck x =>
    split at h
    · simp [runtimePanic] at h
    · simp [runtimePanic] at h
    · simp [runtimePanic] at h
    · split at h
      · simp [runtimePanic] at h
      · rename_i t w0 _
        simp only [Sem.run_bind] at h
        generalize Sem.run P program w = R0 at h
        cases R0 with
        | halt x w1 => simp [Result.andThen] at h
        | ok p w1 =>
          simp only [Result.andThen_ok] at h
          generalize Sem.run P _ w1 = R1 at h
          cases R1 with
          | halt x w2 => simp [Result.andThen] at h
          | ok b w2 =>
            simp only [Result.andThen_ok] at h
            split at h
            · simp [Result.andThen] at h
            · simp at h; exact ⟨_, h.1.symm⟩
      · simp at h; exact ⟨_, h.1.symm⟩
    · simp at h; exact ⟨_, h.1.symm⟩
  case call c =>
    cases hc : c.callee with
    | builtin b =>
      rw [hc] at hp
      cases b <;> simp at hp
      simp only [resolve, hc, pure_bind, invoke, builtin] at h
      exact value_only _ _ _ _ h
    | _ => rw [hc] at hp; simp at hp
  all_goals first
    | exact value_only _ _ _ _ h
    | (cases hp; done)

section
variable {P : Program} {ops : Array Oper} {md : Region.Mode} {C : World → Prop} {Q : Exit → Act → World → Prop}
theorem yieldsIf_of_plain {o : Oper} {v : Value} {a : Act} (hp : plainOp o = true) (h : YieldsIn P ops C o v a) : YieldsIf P ops C o v a := by
  rcases h with ⟨hw, hv⟩ | h
  · refine .inl ⟨hw, fun w hC => ?_⟩
    have h1 := hv w hC
    unfold Oper.quietAt at h1
    cases hr : (execOp a.eval o).run P w with
    | ok n w' =>
      obtain ⟨u, rfl⟩ := plain_value hp hr
      rw [hr] at h1
      obtain ⟨rfl, rfl⟩ := h1
      rfl
    | halt x w' =>
      rw [hr] at h1
      exact h1.elim
  · exact .inr h
/-- the first n operations come up in the order of the text -/
def lexUp (md : Region.Mode) (ops : Array Oper) : Nat → Nat → Array Bool → Bool
  | 0, _, _ => true
  | n + 1, k, listed => (Region.ready md ops listed).contains k && Region.free md ops listed k && lexUp md ops n (k + 1) (listed.setIfInBounds k true)
def listedUp : Nat → Nat → Array Bool → Array Bool
  | 0, _, listed => listed
  | n + 1, k, listed => listedUp n (k + 1) (listed.setIfInBounds k true)
theorem wpAnyH_lex (hs : Region.noSelect ops = true) (hQ : ∀ c a d v w, Q (.panic c) (Act.put a d v) w → Q (.panic c) a w) (m : Nat) :
    ∀ (l : List Oper) (k : Nat) (listed : Array Bool) (a : Act) (w : World), (∀ j, j < l.length → l[j]? = ops[k + j]?) → l.all plainOp = true → lexUp md ops l.length k listed = true → C w →
      wpQuiet P ops C (fun a' => ∀ w', C w' → wpAnyH P md ops Q C m (listedUp l.length k listed) a' w') l a → wpAnyH P md ops Q C (l.length + m) listed a w
  | [], _, _, _, w, _, _, _, hC, h => by
    have := h w hC
    rw [List.length_nil, Nat.zero_add]
    exact this
  | o :: l, k, listed, a, w, hl, hp, hB, hC, h => by
    have h0 : ops[k]? = some o := by simpa using (hl 0 (by simp)).symm
    simp only [List.length_cons, lexUp, Bool.and_eq_true] at hB
    obtain ⟨⟨hr, hf⟩, hB'⟩ := hB
    rw [List.all_cons, Bool.and_eq_true] at hp
    have hst : qOp P ops C k (wpQuiet P ops C (fun a' => ∀ w', C w' → wpAnyH P md ops Q C m (listedUp (o :: l).length k listed) a' w') l) a := by unfold qOp; simp only [h0]; exact h
    obtain ⟨v, hy, hK⟩ := yieldsIn_of_qOp h0 hst
    rw [List.length_cons, show l.length + 1 + m = l.length + m + 1 by omega]
    exact wpAnyH_take h0 hs hf hr (fun c a w => hQ c a _ _ w) (yieldsIf_of_plain hp.1 hy) hC
      (wpAnyH_lex hs hQ m l (k + 1) _ _ w (fun j hj => by have := hl (j + 1) (by simpa using hj); simpa [Nat.add_assoc, Nat.add_comm 1 j] using this) hp.2 hB' hC hK)
/-- **the first n operations only read; the rest in whatever order** -/
theorem wp_region_first (n m : Nat) {id : Nat} {a : Act} {w : World} {l : List Oper} (hm : P.follows .mixedOrders = true) (hs : Region.noSelect l.toArray = true) (hn : (l.length == n + m) = true) (hp : (l.take n).all plainOp = true)
    (hB : lexUp .any l.toArray n 0 (Array.replicate l.length false) = true) (hQ : ∀ c a d v w, Q (.panic c) (Act.put a d v) w → Q (.panic c) a w) (hC : C { w with drawn := w.drawn + 1 })
    (h : wpQuiet P l.toArray C (fun a' => ∀ w', C w' → wpAnyH P .any l.toArray Q C m (listedUp n 0 (Array.replicate l.length false)) a' w') (l.take n) a) :
    (Code.region id l.toArray true).wp P Q a w := by
  refine wp_region_held (S := C) hm ?_
  have hn' : l.length = n + m := by simpa using hn
  have hl : (l.take n).length = n := by rw [List.length_take]; omega
  have := wpAnyH_lex (P := P) (md := .any) (C := C) (Q := Q) hs hQ m (l.take n) 0 (Array.replicate l.length false) a _ (fun j hj => by rw [hl] at hj; simp [hj]) hp (by rw [hl]; exact hB) hC (by rw [hl]; exact h)
  rw [hl, ← hn'] at this
  simpa using this
/-- .. at the worlds in which of what was there nothing has turned -/
theorem wp_region_first_below (n m : Nat) {id : Nat} {a : Act} {w : World} {l : List Oper} (hm : P.follows .mixedOrders = true) (hs : Region.noSelect l.toArray = true) (hn : (l.length == n + m) = true) (hp : (l.take n).all plainOp = true)
    (hB : lexUp .any l.toArray n 0 (Array.replicate l.length false) = true) (hQ : ∀ c a d v w, Q (.panic c) (Act.put a d v) w → Q (.panic c) a w)
    (h : wpQuiet P l.toArray (fun w' => ∃ p : Regrown, w' = grow (redrawn w p.d) p.os) (fun a' => ∀ w', (∃ p : Regrown, w' = grow (redrawn w p.d) p.os) → wpAnyH P .any l.toArray Q (fun w' => ∃ p : Regrown, w' = grow (redrawn w p.d) p.os) m (listedUp n 0 (Array.replicate l.length false)) a' w') (l.take n) a) :
    (Code.region id l.toArray true).wp P Q a w :=
  wp_region_first n m hm hs hn hp hB hQ ⟨⟨w.drawn + 1, #[]⟩, by rw [grow_empty]; rfl⟩ h
/-- one operation alone may come up -/
theorem wpAnyH_one {S : World → Prop} {i : Nat} {o : Oper} {fuel : Nat} {listed : Array Bool} {a : Act} {w : World} (hr : Region.ready md ops listed = [i]) (ho : ops[i]? = some o)
    (h : ∀ K' : Act → World → Prop, Shut (∀ a w, S w → (S w → wpAnyH P md ops Q S fuel (listed.setIfInBounds i true) a w) → K' a w) → if Region.wanted o (yielded ops a.tmps) = true then Oper.wp P o a w K' Q else K' (a.put o.dst undef) w) :
    wpAnyH P md ops Q S (fuel + 1) listed a w :=
  wpAnyH_ready hr (by simp) (AllReadyH.cons ho h AllReadyH.nil)
end

end Go.Proofs.Ytgblohjdiheemaa
