/- Texts put together: SrtL, SrtW, ShelfB, ApaW, IRgW. -/
import Derived.Test.YtgblohjdiheemaaGreatKah
import Derived.Test.YtgblohjdiheemaaGreatKaj
import Derived.Shelf.Sort.Plain
import Derived.Shelf.Slices.In.SortNone
import Derived.Ground.NamesProg
import Derived.Test.YtgblohjdiheemaaGreatProg
import Derived.Test.YtgblohjdiheemaaGreatKam

/- Sorted, and apart: what sites.Right asks for, in the words of the code. -/
namespace Go.Proofs.YtgblohjdiheemaaGreat
open Go.RowKit

def nsB (T : List Si) : Bool := decide (∀ i, i < T.length - 1 → ltS (T.getD (i + 1) ⟨0, 0, 0⟩) (T.getD i ⟨0, 0, 0⟩) = false)
theorem getD_si {T : List Si} {i : Nat} (h : i < T.length) : T.getD i ⟨0, 0, 0⟩ = T[i] := by simp [List.getD, h]

/-- no two places share a byte -/
def apP (L : List Int) : Prop := L.Pairwise fun a b => ¬ (b - a < 5 ∧ a - b < 5)
instance (L : List Int) : Decidable (apP L) := inferInstanceAs (Decidable (L.Pairwise _))

theorem lt_asym {a b : Si} (h : ltS a b = true) : ltS b a = false := by
  unfold ltS at *
  simp only [decide_eq_true_eq] at h
  exact decide_eq_false (by omega)
theorem lt_of_not {a b : Si} (h : ltS b a = false) (hd : a.at_ ≠ b.at_) : ltS a b = true := by
  unfold ltS at *
  simp only [decide_eq_false_iff_not] at h
  exact decide_eq_true (by omega)

theorem ns_pair {T : List Si} (ha : apP (T.map (·.at_))) : nsB T = true ↔ T.Pairwise fun a b => ltS a b = true := by
  have hd : ∀ i j (hi : i < T.length) (hj : j < T.length), i < j → T[i].at_ ≠ T[j].at_ := by
    intro i j hi hj hij e
    have := List.pairwise_iff_getElem.1 ha i j (by simpa using hi) (by simpa using hj) hij
    simp only [List.getElem_map] at this
    omega
  unfold nsB
  rw [decide_eq_true_eq]
  constructor
  · intro h
    have hc : ∀ i (hi : i + 1 < T.length), ltS T[i] T[i + 1] = true := by
      intro i hi
      have := h i (by omega)
      rw [getD_si hi, getD_si (by omega)] at this
      exact lt_of_not this (hd i (i + 1) (by omega) hi (by omega))
    have hg : ∀ d i (hi : i + (d + 1) < T.length), ltS T[i] T[i + (d + 1)] = true := by
      intro d
      induction d with
      | zero => exact fun i hi => hc i hi
      | succ d ih => exact fun i hi => ltS_trans (ih i (by omega)) (hc (i + (d + 1)) hi)
    refine List.pairwise_iff_getElem.2 fun i j hi hj hij => ?_
    obtain ⟨d, rfl⟩ : ∃ d, j = i + (d + 1) := ⟨j - i - 1, by omega⟩
    exact hg d i hj
  · intro h i hi'
    have hi : i + 1 < T.length := by omega
    rw [getD_si hi, getD_si (by omega)]
    exact lt_asym (List.pairwise_iff_getElem.1 h i (i + 1) (by omega) hi (by omega))

theorem right_eq (T : List Si) (n : Int) : rightS T n = (decide (0 ≤ n ∧ n ≤ 64 ∧ T.length ≤ 256) && T.all (siteB n) && (nsB T && decide (apP (T.map (·.at_))))) := by
  have hap : (T.Pairwise fun a b => ¬ (b.at_ - a.at_ < 5 ∧ a.at_ - b.at_ < 5)) ↔ apP (T.map (·.at_)) := by unfold apP; rw [List.pairwise_map]
  unfold rightS
  rw [show decide (T.Pairwise fun a b => ¬ (b.at_ - a.at_ < 5 ∧ a.at_ - b.at_ < 5)) = decide (apP (T.map (·.at_))) from decide_eq_decide.2 hap]
  by_cases h : apP (T.map (·.at_))
  · rw [decide_eq_true h, Bool.and_true, Bool.and_true]
    congr 1
    have := ns_pair h
    cases hn : nsB T with
    | true => exact decide_eq_true (this.1 hn)
    | false => exact decide_eq_false fun hp => by rw [this.2 hp] at hn; cases hn
  · rw [decide_eq_false h, Bool.and_false, Bool.and_false, Bool.and_false]

/-- of a sorted list of places: neighbours tell all -/
def adjB (P : List Int) : Bool := decide (∀ i, i < P.length - 1 → ¬ P.getD (i + 1) 0 - P.getD i 0 < 5)
theorem adj_ap {P : List Int} (hs : P.Pairwise fun a b => a ≤ b) : adjB P = decide (apP P) := by
  unfold adjB
  refine decide_eq_decide.2 ⟨fun h => ?_, fun h i hi' => ?_⟩
  · have hc : ∀ i (hi : i + 1 < P.length), P[i] + 5 ≤ P[i + 1] := by
      intro i hi
      have := h i (by omega)
      simp only [List.getD, List.getElem?_eq_getElem hi, List.getElem?_eq_getElem (show i < P.length by omega), Option.getD_some] at this
      omega
    refine List.pairwise_iff_getElem.2 fun i j hi hj hij => ?_
    obtain ⟨d, rfl⟩ : ∃ d, j = i + (d + 1) := ⟨j - i - 1, by omega⟩
    have h1 := hc i (by omega)
    have h2 : P[i + 1] ≤ P[i + (d + 1)] := by
      by_cases e : d = 0
      · subst e; exact Int.le_refl _
      · exact List.pairwise_iff_getElem.1 hs (i + 1) (i + (d + 1)) (by omega) hj (by omega)
    omega
  · have hi : i + 1 < P.length := by omega
    have h1 := List.pairwise_iff_getElem.1 h i (i + 1) (by omega) hi (by omega)
    have h2 := List.pairwise_iff_getElem.1 hs i (i + 1) (by omega) hi (by omega)
    simp only [List.getD, List.getElem?_eq_getElem hi, List.getElem?_eq_getElem (show i < P.length by omega), Option.getD_some]
    omega
theorem ap_perm {L P : List Int} (h : L.Perm P) : apP L ↔ apP P :=
  h.pairwise_iff (fun {a b} hab => by omega)

end Go.Proofs.YtgblohjdiheemaaGreat

/- rightSite, slices.IsSortedFunc, the reference's Of and Sorted. -/
namespace Go.Proofs.YtgblohjdiheemaaGreat
open Go.RowKit

set_option maxHeartbeats 1000000 in
theorem rightSite_any (s : Si) (n : Int) (w : World) : Calls Tryz.prog 66 #[sV s, .int .i64 n] w fun e w' => e = .returned (.bool (siteB n s)) ∧ Below w.heap.size w w' := by
  by_cases hall : 0 ≤ s.key ∧ s.key < n ∧ 0 ≤ s.at_ ∧ s.at_ ≤ 65531 ∧ 0 ≤ s.to_ ∧ s.to_ ≤ 65536
  · have hR := fun W => inReach_any s W ⟨by omega, by omega, by omega, by omega⟩
    have HF : Hid (siteB n s = !farS s) := by
      have : siteB n s = !farS s := by unfold siteB; rw [decide_eq_true hall, Bool.true_and]
      exact this
    rw [HF.out]
    generalize farS s = f at *
    clear HF
    obtain ⟨sk, sa, st⟩ := s
    obtain ⟨h1, h2, h3, h4, h5, h6⟩ := hall
    dsimp only at h1 h2 h3 h4 h5 h6
    go_enter Tryz.func66, Tryz.ntmps66
    go_wp2_with (go_at_call 79; refine (hR _).mono ?_; rintro e w1 ⟨rfl, hb⟩; have HB := Hid.in (below_step (new_alloc w _) hb); clear hb)
    go_ret
    exact ⟨rfl, HB.out⟩
  · have HF : Hid (siteB n s = false) := by
      have : siteB n s = false := by unfold siteB; rw [decide_eq_false hall, Bool.false_and]
      exact this
    rw [HF.out]
    clear HF
    obtain ⟨sk, sa, st⟩ := s
    dsimp only at hall
    rcases (by omega : sk < 0 ∨ (0 ≤ sk ∧ n ≤ sk) ∨ (0 ≤ sk ∧ sk < n ∧ sa < 0) ∨ (0 ≤ sk ∧ sk < n ∧ 0 ≤ sa ∧ 65531 < sa) ∨ (0 ≤ sk ∧ sk < n ∧ 0 ≤ sa ∧ sa ≤ 65531 ∧ st < 0) ∨ (0 ≤ sk ∧ sk < n ∧ 0 ≤ sa ∧ sa ≤ 65531 ∧ 0 ≤ st ∧ 65536 < st)) with h1 | ⟨h1, h2⟩ | ⟨h1, h2, h3⟩ | ⟨h1, h2, h3, h4⟩ | ⟨h1, h2, h3, h4, h5⟩ | ⟨h1, h2, h3, h4, h5, h6⟩
    all_goals
      clear hall
      go_enter Tryz.func66, Tryz.ntmps66
      go_wp2_with fail
      go_ret
      exact ⟨ret_bool (by simp), new_alloc _ _⟩

theorem cmpS_neg {s t : Si} (h : ltS s t = true) : cmpS s t < 0 := by
  have := cmpS_lt s t
  rw [h] at this
  simpa using this
theorem cmpS_nneg {s t : Si} (h : ltS s t = false) : ¬ cmpS s t < 0 := by
  have := cmpS_lt s t
  rw [h] at this
  simpa using this

set_option maxRecDepth 4000 in
set_option maxHeartbeats 2000000 in
theorem isSorted_any (p : Option Addr) (n c : Nat) (T : List Si) (w : World) (hn : T.length = n) (hn6 : n ≤ 140737488355328) (hr : Row3 w p (T.map siV)) :
    Calls Tryz.prog 67 #[.slice p n c, .func (Fn.func 68) #[] #[]] w fun E w' => E = .returned (.bool (nsB T)) ∧ Below w.heap.size w w' := by
  have hC := fun s t W => byKey_any s t W
  have HN := Hid.in hn
  have HR := Hid.in hr
  clear hn hr
  obtain ⟨r, hrr⟩ : ∃ r, nsB T = r := ⟨_, rfl⟩
  rw [hrr]
  have HRR := Hid.in hrr
  clear hrr
  have hwn : IntKind.i64.wrap ((n : Int) - 1) = (n : Int) - 1 := by rw [IntKind.wrap_i64]; omega
  go_enter Tryz.func67, Tryz.ntmps67
  go_wp2_with fail
  go_loopw [5] (fun vi wr => ∃ k : Int, vi = .int .i64 k ∧ -1 ≤ k ∧ k ≤ (n : Int) - 1 ∧ (∀ j : Nat, j + 1 < T.length → k < (j : Int) + 1 → ltS (T.getD (j + 1) ⟨0, 0, 0⟩) (T.getD j ⟨0, 0, 0⟩) = false) ∧ Below w.heap.size w wr) (fun vi _ => (intOf vi).toNat)
  case atStart => exact ⟨(n : Int) - 1, rfl, by omega, by omega, fun j h1 h2 => by rw [HN.out] at h1; omega, below_self w⟩
  case round =>
    obtain ⟨k, rfl, hk0, hk1, hgo, hb⟩ := hrel
    have HGO := Hid.in hgo
    have HB := Hid.in hb
    clear hgo hb
    by_cases hlt : 0 < k
    · obtain ⟨m, rfl⟩ : ∃ m : Nat, k = (m : Int) + 1 := ⟨(k - 1).toNat, by omega⟩
      have hm1 : m + 1 < T.length := by rw [HN.out]; omega
      have hm0 : m < T.length := by omega
      obtain ⟨b, o, rfl, hcc⟩ := (HR.out.below HB.out).at3 (by omega)
      have c0 := (hcc (m + 1) hm1).1
      have c1 := (hcc (m + 1) hm1).2.1
      have c2 := (hcc (m + 1) hm1).2.2
      have d0 := (hcc m hm0).1
      have d1 := (hcc m hm0).2.1
      have d2 := (hcc m hm0).2.2
      have hcl := hC T[m + 1] T[m] wr.drew
      dsimp only [sV] at hcl
      have hw1 : IntKind.i64.wrap ((m : Int) + 1 - 1) = (m : Int) := by rw [IntKind.wrap_i64]; omega
      have hw2 : ((m : Int) + 1).toNat = m + 1 := by omega
      have hw3 : IntKind.i64.wrap (m : Int) = (m : Int) := by rw [IntKind.wrap_i64]; omega
      have hb0 : (0 : Int) ≤ (m : Int) + 1 := by omega
      have hb1 : (m : Int) + 1 < (n : Int) := by omega
      have hb2 : m < n := by omega
      clear hcc hC
      cases hl : ltS T[m + 1] T[m] with
      | true =>
        have hneg := cmpS_neg hl
        have HE : Hid (r = false) := by
          have : nsB T = false := by
            unfold nsB
            refine decide_eq_false fun h => ?_
            have := h m (by omega)
            rw [getD_si hm1, getD_si hm0, hl] at this
            cases this
          rw [← HRR.out, this]; exact rfl
        generalize cmpS T[m + 1] T[m] = cc at *
        generalize T[m + 1].key = x0 at *
        generalize T[m + 1].at_ = x1 at *
        generalize T[m + 1].to_ = x2 at *
        generalize T[m].key = y0 at *
        generalize T[m].at_ = y1 at *
        generalize T[m].to_ = y2 at *
        clear hl
        go_wp2_with fail
        go_region_law (go_simp; go_at_call 68; (with_reducible refine hcl.mono ?_); rintro e w1 ⟨rfl, q, os, hw⟩; have HB1 : Hid (Below w.heap.size w w1) := (by rw [hw]; exact below_step HB.out (below_step (below_draws (below_self wr) 1) (grow_below _ _ _))); clear hw)
        all_goals
          go_wp2
          go_ret
          exact ⟨by rw [HE.out]; rfl, HB1.out⟩
      | false =>
        have hneg := cmpS_nneg hl
        have HG2 : Hid (∀ j : Nat, j + 1 < T.length → (m : Int) < (j : Int) + 1 → ltS (T.getD (j + 1) ⟨0, 0, 0⟩) (T.getD j ⟨0, 0, 0⟩) = false) := fun j h1 h2 => by
          by_cases e : j = m
          · subst e; rw [getD_si hm1, getD_si hm0]; exact hl
          · exact HGO.out j h1 (by omega)
        generalize cmpS T[m + 1] T[m] = cc at *
        generalize T[m + 1].key = x0 at *
        generalize T[m + 1].at_ = x1 at *
        generalize T[m + 1].to_ = x2 at *
        generalize T[m].key = y0 at *
        generalize T[m].at_ = y1 at *
        generalize T[m].to_ = y2 at *
        clear hl
        go_wp2_with fail
        go_region_law (go_simp; go_at_call 68; (with_reducible refine hcl.mono ?_); rintro e w1 ⟨rfl, q, os, hw⟩; have HB1 : Hid (Below w.heap.size w w1) := (by rw [hw]; exact below_step HB.out (below_step (below_draws (below_self wr) 1) (grow_below _ _ _))); clear hw)
        all_goals
          go_wp2
          go_roundw
          case rel => exact ⟨m, by first | rfl | go_num, by omega, by omega, HG2.out, HB1.out⟩
          case measure => simp [intOf]
    · have HE : Hid (r = true) := by
        have : nsB T = true := by
          unfold nsB
          exact decide_eq_true fun j h1 => HGO.out j (by omega) (by omega)
        rw [← HRR.out, this]; exact rfl
      go_wp2_with fail
      go_ret
      exact ⟨by rw [HE.out]; rfl, HB.out⟩

end Go.Proofs.YtgblohjdiheemaaGreat

/-
  DERIVED: THE SHELF's CONTRACTS AT THIS DUMP, IN PLAIN WORDS (tools/lay-plain.mjs out of 'TryShelfBTmp.lean', which tools/lay-shelf.mjs wrote): THE SAME DECLARATIONS UNDER THE SAME NAMES: 'import', 'namespace', 'open', 'def', 'theorem' AND NOTHING ELSE: no command of the shelf's: FOR A HAND-IN. Each laying: the table of numbers ('.._ren') and one theorem, a field a fact of the dump's own or the kernel's comparison; each contract: ONE APPLICATION.
-/
namespace Go.Proofs
open Go.Shelf
def Tryz.laysSort_ren : Go.Shelf.Ren := ⟨fun | 189 => 80 | 125 => 88 | 257 => 89 | 128 => 105 | 129 => 106 | 294 => 107 | 295 => 108 | 296 => 109 | 297 => 110 | 298 => 111 | 299 => 112 | 216 => 113 | 300 => 114 | 301 => 115 | 328 => 129 | 329 => 125 | 330 => 126 | 331 => 130 | 332 => 131 | 215 => 76 | 343 => 133 | n => n, fun | 28 => 25 | 3 => 3 | 46 => 137 | 0 => 0 | 51 => 87 | 53 => 165 | 4 => 4 | 183 => 158 | 182 => 157 | 131 => 78 | 5 => 5 | 9 => 9 | 218 => 178 | 222 => 182 | 228 => 186 | 229 => 41 | n => n, fun | n => n⟩
theorem Tryz.laysSort : Go.Proofs.Lays.n189 Tryz.prog Tryz.laysSort_ren := {
  mixed := by kernel_rfl
  f125 := Tryz.func88.trans (congrArg some (by kernel_rfl))
  f128 := Tryz.func105.trans (congrArg some (by kernel_rfl))
  f129 := Tryz.func106.trans (congrArg some (by kernel_rfl))
  f189 := Tryz.func80.trans (congrArg some (by kernel_rfl))
  f215 := Tryz.func76.trans (congrArg some (by kernel_rfl))
  f216 := Tryz.func113.trans (congrArg some (by kernel_rfl))
  f257 := Tryz.func89.trans (congrArg some (by kernel_rfl))
  f294 := Tryz.func107.trans (congrArg some (by kernel_rfl))
  f295 := Tryz.func108.trans (congrArg some (by kernel_rfl))
  f296 := Tryz.func109.trans (congrArg some (by kernel_rfl))
  f297 := Tryz.func110.trans (congrArg some (by kernel_rfl))
  f298 := Tryz.func111.trans (congrArg some (by kernel_rfl))
  f299 := Tryz.func112.trans (congrArg some (by kernel_rfl))
  f300 := Tryz.func114.trans (congrArg some (by kernel_rfl))
  f301 := Tryz.func115.trans (congrArg some (by kernel_rfl))
  f328 := Tryz.func129.trans (congrArg some (by kernel_rfl))
  f329 := Tryz.func125.trans (congrArg some (by kernel_rfl))
  f330 := Tryz.func126.trans (congrArg some (by kernel_rfl))
  f331 := Tryz.func130.trans (congrArg some (by kernel_rfl))
  f332 := Tryz.func131.trans (congrArg some (by kernel_rfl))
  f343 := Tryz.func133.trans (congrArg some (by kernel_rfl))
  t0 := Tryz.underlying0
  a0 := Tryz.isAgg0
  z0 := Tryz.sizeOf0
  v0 := Tryz.zeroValue0
  t3 := Tryz.underlying3
  a3 := Tryz.isAgg3
  z3 := Tryz.sizeOf3
  v3 := Tryz.zeroValue3
  t4 := Tryz.underlying4
  a4 := Tryz.isAgg4
  z4 := Tryz.sizeOf4
  v4 := Tryz.zeroValue4
  t5 := Tryz.underlying5
  a5 := Tryz.isAgg5
  z5 := Tryz.sizeOf5
  v5 := Tryz.zeroValue5
  t9 := Tryz.underlying9
  a9 := Tryz.isAgg9
  z9 := Tryz.sizeOf9
  v9 := Tryz.zeroValue9
  t28 := Tryz.underlying25
  a28 := Tryz.isAgg25
  z28 := Tryz.sizeOf25
  v28 := Tryz.zeroValue25
  t46 := Tryz.underlying137
  a46 := Tryz.isAgg137
  z46 := Tryz.sizeOf137
  v46 := Tryz.zeroValue137
  t51 := Tryz.underlying87
  a51 := Tryz.isAgg87
  z51 := Tryz.sizeOf87
  v51 := Tryz.zeroValue87
  t53 := Tryz.underlying165
  a53 := Tryz.isAgg165
  z53 := Tryz.sizeOf165
  v53 := Tryz.zeroValue165
  t131 := Tryz.underlying78
  a131 := Tryz.isAgg78
  z131 := Tryz.sizeOf78
  v131 := Tryz.zeroValue78
  t182 := Tryz.underlying157
  a182 := Tryz.isAgg157
  z182 := Tryz.sizeOf157
  v182 := Tryz.zeroValue157
  t183 := Tryz.underlying158
  a183 := Tryz.isAgg158
  z183 := Tryz.sizeOf158
  v183 := Tryz.zeroValue158
  t218 := Tryz.underlying178
  a218 := Tryz.isAgg178
  z218 := Tryz.sizeOf178
  v218 := Tryz.zeroValue178
  t222 := Tryz.underlying182
  a222 := Tryz.isAgg182
  z222 := Tryz.sizeOf182
  v222 := Tryz.zeroValue182
  t228 := Tryz.underlying186
  a228 := Tryz.isAgg186
  z228 := Tryz.sizeOf186
  v228 := Tryz.zeroValue186
  t229 := Tryz.underlying41
  a229 := Tryz.isAgg41
  z229 := Tryz.sizeOf41
  v229 := Tryz.zeroValue41 }
theorem Tryz.slices_Sort_int (blk off cap : Nat) (zs : List Int) (w : World) (hH : Go.Sort.Holds (Value.int .i64) w blk off zs.toArray) (hblk : blk < w.heap.size) (hsz : zs.length < 4611686018427387904) :
    Calls Tryz.prog 80 #[.slice (some ⟨blk, off, none⟩) zs.length cap] w fun e w' => e = .returned (.tuple #[]) ∧ ∃ n os, w' = Go.Sort.grow (Go.Sort.putRow (Value.int .i64) (Sort.ahead w n) blk off (zs.mergeSort fun x y => decide (x ≤ y)).toArray) os := Any.slices_Sort_int Tryz.laysSort blk off cap zs w hH hblk hsz
theorem Tryz.slices_Sort_int_none (p : Option Addr) (cap : Nat) (w : World) :
    Calls Tryz.prog 80 #[.slice p 0 cap] w fun e w' => e = .returned (.tuple #[]) ∧ w' = w := Any.slices_Sort_int_none Tryz.laysSort p cap w
end Go.Proofs

/- sites.apart: no two sites share a byte. -/
namespace Go.Proofs.YtgblohjdiheemaaGreat
open Go.RowKit

abbrev intsV (zs : List Int) : List Value := zs.map (Value.int .i64)

/-- numbers, sorted -/
def srt (zs : List Int) : List Int := zs.mergeSort fun x y => decide (x ≤ y)
theorem srt_perm (zs : List Int) : (srt zs).Perm zs := List.mergeSort_perm _ _
theorem srt_sorted (zs : List Int) : (srt zs).Pairwise fun a b => a ≤ b := by
  have := List.pairwise_mergeSort (le := fun x y : Int => decide (x ≤ y)) (fun a b c h1 h2 => by simp at *; omega) (fun a b => by simp; omega) zs
  exact this.imp fun h => by simpa using h
theorem srt_len (zs : List Int) : (srt zs).length = zs.length := (srt_perm zs).length_eq

theorem sortI_own (B g cap : Nat) (zs : List Int) (w : World) (ho : GOwn 3 w B g cap (intsV zs)) (hl : zs.length ≤ 140737488355328) :
    Calls Tryz.prog 80 #[.slice (some ⟨g, 0, none⟩) zs.length cap] w fun e w' => e = .returned (.tuple #[]) ∧ (∀ j (hj : j < (srt zs).length), w'.cell? ⟨g, j, none⟩ = some (.int .i64 (srt zs)[j])) ∧ ∀ w0, Below B w0 w → Below B w0 w' := by
  have hH : Go.Sort.Holds (Value.int .i64) w g 0 zs.toArray := by
    intro j hj
    have hj' : j < zs.length := by simpa using hj
    rw [Nat.zero_add]
    refine ⟨?_, ho.free j⟩
    rw [ho.cell j (by simpa using hj')]
    simp [hj']
  have hs : (srt zs).toArray.size = zs.toArray.size := by simp [srt_len]
  refine (Tryz.slices_Sort_int g 0 cap zs w hH ho.lt (by omega)).mono fun e w' ⟨he, n, os, hw⟩ => ⟨he, fun j hj => ?_, fun w0 hb => ?_⟩
  · rw [hw, Go.Sort.cell?_grow _ _ _ (by simpa using ho.lt)]
    have := Go.Sort.cell?_putRow (Value.int .i64) (Go.Sort.ahead w n) g 0 zs.toArray (srt zs).toArray hH hs j (by simpa using hj)
    rw [Nat.zero_add] at this
    refine this.trans ?_
    simp [hj]
  · refine hb.trans ?_
    rw [hw]
    refine ⟨rfl, rfl, rfl, by simp, fun k hk => ?_⟩
    have hkg : k ≠ g := by have := ho.base; omega
    have hks : k < (Go.Sort.putRow (Value.int .i64) (Go.Sort.ahead w n) g 0 (srt zs).toArray).heap.size := by
      have := hb.size
      simp
      have := ho.lt
      have := ho.base
      omega
    refine (Go.Sort.heap_grow_old _ os hks).trans ?_
    simp [Go.Sort.putRow, Go.Sort.mapBlock, Array.getElem?_modify, Ne.symm hkg]

theorem sortI_any (B : Nat) (p : Option Addr) (c : Nat) (zs : List Int) (w : World) (hl : zs.length ≤ 140737488355328) (ho : GOwnV 3 w B (.slice p zs.length c) (intsV zs)) :
    Calls Tryz.prog 80 #[.slice p zs.length c] w fun e w' => e = .returned (.tuple #[]) ∧ GRow w' p (intsV (srt zs)) ∧ ∀ w0, Below B w0 w → Below B w0 w' := by
  rcases ho.shape with ⟨h1, h2⟩ | ⟨g, cap, h1, h2⟩
  · have hz : zs = [] := by simpa using h2
    subst hz
    simp only [List.length_nil, Value.slice.injEq] at h1
    refine (Tryz.slices_Sort_int_none p c w).mono fun e w' ⟨he, hw⟩ => ⟨he, fun h => ?_, fun w0 hb => by rw [hw]; exact hb⟩
    simp [srt] at h
  · simp only [List.length_map, Value.slice.injEq] at h1
    obtain ⟨rfl, -, rfl⟩ := h1
    refine (sortI_own B g c zs w h2 hl).mono fun e w' ⟨he, hc, hb⟩ => ⟨he, fun _ => ⟨g, 0, rfl, fun i hi => ?_⟩, hb⟩
    have hi' : i < (srt zs).length := by simpa using hi
    rw [Nat.zero_add, hc i hi']
    simp [hi']

set_option maxRecDepth 4000 in
set_option maxHeartbeats 4000000 in
theorem apart_any (p : Option Addr) (n c : Nat) (T : List Si) (w : World) (hn : T.length = n) (hn6 : n ≤ 1000) (hr : Row3 w p (T.map siV)) (hT : ∀ s ∈ T, 0 ≤ s.at_ ∧ s.at_ ≤ 65536) :
    Calls Tryz.prog 69 #[.slice p n c] w fun E w' => E = .returned (.bool (decide (apP (T.map (·.at_))))) ∧ Below w.heap.size w w' := by
  have HN := Hid.in hn
  have HR := Hid.in hr
  have HT := Hid.in hT
  clear hn hr hT
  obtain ⟨r, hrr⟩ : ∃ r, decide (apP (T.map (·.at_))) = r := ⟨_, rfl⟩
  rw [hrr]
  have HRR := Hid.in hrr
  clear hrr
  go_enter Tryz.func69, Tryz.ntmps69
  go_wp2_with fail
  go_loopw [3, 9] (fun v vi wr => ∃ k : Nat, vi = .int .i64 k ∧ k ≤ n ∧ GOwnV 3 wr w.heap.size v (intsV ((T.map (·.at_)).take k)) ∧ Below w.heap.size w wr) (fun _ vi _ => n - (intOf vi).toNat)
  case atStart => exact ⟨0, rfl, Nat.zero_le _, GOwnV.nil _ _ _, below_self w⟩
  case round =>
    obtain ⟨k, rfl, hk, hown, hb⟩ := hrel
    have HB := Hid.in hb
    have hsz := hb.size
    clear hb
    by_cases hlt : k < n
    · have hkT : k < T.length := by rw [HN.out]; exact hlt
      obtain ⟨b, o, rfl, hcc⟩ := (HR.out.below HB.out).at3 (by omega)
      have c0 := (hcc k hkT).1
      have c1 := (hcc k hkT).2.1
      have c2 := (hcc k hkT).2.2
      have HTK : Hid (intsV ((T.map (·.at_)).take (k + 1)) = intsV ((T.map (·.at_)).take k) ++ [.int .i64 T[k].at_]) := by
        have h : intsV ((T.map (·.at_)).take (k + 1)) = intsV ((T.map (·.at_)).take k) ++ [.int .i64 T[k].at_] := by
          rw [List.take_succ_eq_append_getElem (by simpa using hkT)]
          simp
        exact h
      have hl2 : (intsV ((T.map (·.at_)).take k)).length ≤ 1000 := by rw [List.length_map, List.length_take]; omega
      clear hcc
      generalize T[k].key = x0 at *
      generalize T[k].at_ = x1 at *
      generalize T[k].to_ = x2 at *
      generalize intsV ((T.map (·.at_)).take k) = us at *
      go_wp2_with (at_builtin; refine gpush Tryz.elemI _ rfl _ _ rfl w.heap.size _ us rfl ((hown.alloc _).alloc _) ⟨wr.heap.size + 1, 0, none⟩ 1 1 [.int .i64 x1] rfl rfl (by have h := cell_one_new (wr.alloc (.cells #[.int .i64 x0, .int .i64 x1, .int .i64 x2] 68)) (.int .i64 x1) 3; rw [size_one] at h; exact h) (by simp [Value.oneCell']) (by omega) (by omega) (by simp; omega) ?_; intro v' w1 hown' _hgrow hbel _hnil)
      go_roundw
      case rel => exact ⟨k + 1, by go_num, by omega, by rw [HTK.out]; exact hown', hbel _ (below_alloc (below_alloc HB.out _) _)⟩
      case measure => simp [intOf]; omega
    · obtain ⟨zs, hzs⟩ : ∃ zs, zs = T.map (·.at_) := ⟨_, rfl⟩
      have hzl : zs.length = n := by rw [hzs, List.length_map, HN.out]
      rw [← hzs, List.take_of_length_le (by omega)] at hown
      have HAP : Hid (adjB (srt zs) = r) := by rw [adj_ap (srt_sorted zs), ← HRR.out, ← hzs]; exact decide_eq_decide.2 (ap_perm (srt_perm zs))
      have HRG : Hid (∀ i (hi : i < (srt zs).length), 0 ≤ (srt zs)[i] ∧ (srt zs)[i] ≤ 65536) := by
        intro i hi
        have hm : (srt zs)[i] ∈ T.map (·.at_) := by
          have h := (srt_perm zs).mem_iff.1 (List.getElem_mem hi)
          have e : zs = T.map (·.at_) := hzs
          exact e ▸ h
        obtain ⟨s, hs, e⟩ := List.mem_map.1 hm
        rw [← e]; exact HT.out s hs
      have hsl : (srt zs).length = n := by rw [srt_len]; exact hzl
      have HSL := Hid.in hsl
      obtain ⟨pv, cv, hv, -, -, -⟩ := hown.slice
      rw [List.length_map] at hv
      subst hv
      have hS := sortI_any w.heap.size pv cv zs wr (by omega) hown
      clear hown hzs HRR HR HT hsl
      subst hzl
      generalize srt zs = P at *
      go_wp2_with (go_at_call 80; refine hS.mono ?_; rintro e w1 ⟨rfl, hg, hb1⟩; have HG := Hid.in hg; have HB1 := Hid.in (hb1 w HB.out); clear hS hg hb1)
      go_loopw [6] (fun vi wr => ∃ k m : Nat, vi = .int .i64 ((k : Int) + 1) ∧ k ≤ zs.length ∧ (∀ i, i < k → i + 1 < P.length → ¬ P.getD (i + 1) 0 - P.getD i 0 < 5) ∧ wr = w1.drewN m) (fun vi _ => zs.length + 1 - (intOf vi).toNat)
      case atStart => exact ⟨0, 0, rfl, Nat.zero_le _, fun i h => absurd h (Nat.not_lt_zero _), rfl⟩
      case round =>
        obtain ⟨j, m, rfl, hj, hgo, rfl⟩ := hrel
        have HGO := Hid.in hgo
        clear hgo
        by_cases hl2 : j + 1 < zs.length
        · have hP1 : j + 1 < P.length := by rw [HSL.out]; exact hl2
          have hP0 : j < P.length := by omega
          obtain ⟨gb, go_, rfl, hcc⟩ := HG.out (by simp; omega)
          have d1 := hcc (j + 1) (by simpa using hP1)
          have d0 := hcc j (by simpa using hP0)
          rw [List.getElem?_map, List.getElem?_eq_getElem hP1, Option.map_some] at d1
          rw [List.getElem?_map, List.getElem?_eq_getElem hP0, Option.map_some] at d0
          have r1 := HRG.out (j + 1) hP1
          have r0 := HRG.out j hP0
          have hg1 : P.getD (j + 1) 0 = P[j + 1] := by simp [List.getD, hP1]
          have hg0 : P.getD j 0 = P[j] := by simp [List.getD, hP0]
          clear hcc
          by_cases hd : P[j + 1] - P[j] < 5
          · have HE : Hid (r = false) := by
              have : adjB P = false := by
                unfold adjB
                refine decide_eq_false fun h => ?_
                exact h j (by omega) (by rw [hg1, hg0]; exact hd)
              rw [← HAP.out, this]; exact rfl
            clear hg1 hg0
            generalize P[j + 1] = y1 at *
            generalize P[j] = y0 at *
            have hw1 : IntKind.i64.wrap ((j : Int) + 1 - 1) = (j : Int) := by rw [IntKind.wrap_i64]; omega
            have hw2 : IntKind.i64.wrap (j : Int) = (j : Int) := by rw [IntKind.wrap_i64]; omega
            have hw3 : IntKind.i64.wrap (y1 - y0) = y1 - y0 := by rw [IntKind.wrap_i64]; omega
            have hb0 : (0 : Int) ≤ (j : Int) + 1 := by omega
            have hb1 : (j : Int) + 1 < (zs.length : Int) := by omega
            have hb2 : j < zs.length := by omega
            have hb3 : ((j : Int) + 1).toNat = j + 1 := by omega
            have hdd : decide (y1 - y0 < 5) = true := decide_eq_true hd
            go_wp2_with fail
            go_quiet (fail)
            go_wp2
            go_ret
            exact ⟨by rw [HE.out]; rfl, below_draws (below_draws HB1.out _) _⟩
          · have HG2 : Hid (∀ i, i < j + 1 → i + 1 < P.length → ¬ P.getD (i + 1) 0 - P.getD i 0 < 5) := fun i h1 h2 => by
              by_cases e : i = j
              · subst e; rw [hg1, hg0]; exact hd
              · exact HGO.out i (by omega) h2
            clear hg1 hg0
            generalize P[j + 1] = y1 at *
            generalize P[j] = y0 at *
            have hw1 : IntKind.i64.wrap ((j : Int) + 1 - 1) = (j : Int) := by rw [IntKind.wrap_i64]; omega
            have hw2 : IntKind.i64.wrap (j : Int) = (j : Int) := by rw [IntKind.wrap_i64]; omega
            have hw3 : IntKind.i64.wrap (y1 - y0) = y1 - y0 := by rw [IntKind.wrap_i64]; omega
            have hb0 : (0 : Int) ≤ (j : Int) + 1 := by omega
            have hb1 : (j : Int) + 1 < (zs.length : Int) := by omega
            have hb2 : j < zs.length := by omega
            have hb3 : ((j : Int) + 1).toNat = j + 1 := by omega
            have hdd : decide (y1 - y0 < 5) = false := decide_eq_false hd
            go_wp2_with fail
            go_quiet (fail)
            go_wp2
            go_roundw
            case rel => exact ⟨j + 1, _, by go_num, by omega, fun i h1 h2 => (by have := HG2.out i h1 h2; omega), rfl⟩
            case measure => simp [intOf]; omega
        · have HE : Hid (r = true) := by
            have : adjB P = true := by
              unfold adjB
              exact decide_eq_true fun i hi => HGO.out i (by have := HSL.out; omega) (by omega)
            rw [← HAP.out, this]; exact rfl
          go_wp2_with fail
          go_ret
          exact ⟨by rw [HE.out]; rfl, below_draws HB1.out _⟩

set_option maxRecDepth 4000 in
set_option maxHeartbeats 2000000 in
theorem sright_any (p : Option Addr) (n c : Nat) (T : List Si) (k : Int) (w : World) (hn : T.length = n) (hn6 : n ≤ 140737488355328) (hr : Row3 w p (T.map siV)) :
    Calls Tryz.prog 53 #[.slice p n c, .int .i64 k] w fun E w' => E = .returned (.bool (rightS T k)) ∧ Below w.heap.size w w' := by
  by_cases h0 : 0 ≤ k ∧ k ≤ 64 ∧ T.length ≤ 256
  · have HF : Hid (rightS T k = (T.all (siteB k) && (nsB T && decide (apP (T.map (·.at_)))))) := by
      have h : rightS T k = (T.all (siteB k) && (nsB T && decide (apP (T.map (·.at_))))) := by rw [right_eq, decide_eq_true h0, Bool.true_and]
      exact h
    rw [HF.out]
    clear HF
    obtain ⟨r, hrr⟩ : ∃ r, (T.all (siteB k) && (nsB T && decide (apP (T.map (·.at_))))) = r := ⟨_, rfl⟩
    rw [hrr]
    have HRR := Hid.in hrr
    have HN := Hid.in hn
    have HR := Hid.in hr
    obtain ⟨h1, h2, h3⟩ := h0
    rw [hn] at h3
    clear hrr hn hr
    go_enter Tryz.func53, Tryz.ntmps53
    go_wp2_with fail
    go_loopw [20] (fun vi wr => ∃ j : Nat, vi = .int .i64 j ∧ j ≤ n ∧ (∀ i (hi : i < T.length), i < j → siteB k T[i] = true) ∧ Below w.heap.size w wr) (fun vi _ => n - (intOf vi).toNat)
    case atStart => exact ⟨0, rfl, Nat.zero_le _, fun i _ h => absurd h (Nat.not_lt_zero _), below_self w⟩
    case round =>
      obtain ⟨j, rfl, hj, hgo, hb⟩ := hrel
      have HGO := Hid.in hgo
      have HB := Hid.in hb
      clear hgo hb
      by_cases hlt : j < n
      · have hjT : j < T.length := by rw [HN.out]; exact hlt
        obtain ⟨b, o, rfl, hcc⟩ := (HR.out.below HB.out).at3 (by omega)
        have c0 := (hcc j hjT).1
        have c1 := (hcc j hjT).2.1
        have c2 := (hcc j hjT).2.2
        have hcl := fun W => rightSite_any T[j] k W
        dsimp only [sV] at hcl
        clear hcc
        cases hs : siteB k T[j] with
        | true =>
          have HG2 : Hid (∀ i (hi : i < T.length), i < j + 1 → siteB k T[i] = true) := fun i hi h => by
            by_cases e : i = j
            · subst e; exact hs
            · exact HGO.out i hi (by omega)
          rw [hs] at hcl
          clear hs
          generalize T[j].key = x0 at *
          generalize T[j].at_ = x1 at *
          generalize T[j].to_ = x2 at *
          go_wp2_with (go_at_call 66; refine (hcl _).mono ?_; rintro e w1 ⟨rfl, hb1⟩; have HB1 := Hid.in (below_step (below_alloc HB.out _) hb1); clear hb1)
          go_roundw
          case rel => exact ⟨j + 1, by go_num, by omega, HG2.out, HB1.out⟩
          case measure => simp [intOf]; omega
        | false =>
          have HE : Hid (r = false) := by
            have : T.all (siteB k) = false := by
              rw [List.all_eq_false]
              exact ⟨T[j], List.getElem_mem hjT, by rw [hs]; decide⟩
            rw [← HRR.out, this, Bool.false_and]; exact rfl
          rw [hs] at hcl
          clear hs
          generalize T[j].key = x0 at *
          generalize T[j].at_ = x1 at *
          generalize T[j].to_ = x2 at *
          go_wp2_with (go_at_call 66; refine (hcl _).mono ?_; rintro e w1 ⟨rfl, hb1⟩; have HB1 := Hid.in (below_step (below_alloc HB.out _) hb1); clear hb1)
          go_ret
          exact ⟨by rw [HE.out]; rfl, HB1.out⟩
      · have hall : ∀ s ∈ T, siteB k s = true := fun s hs => by
          obtain ⟨i, hi, rfl⟩ := List.getElem_of_mem hs
          exact HGO.out i hi (by rw [HN.out] at hi; omega)
        have HE : Hid (r = (nsB T && decide (apP (T.map (·.at_))))) := by
          have : T.all (siteB k) = true := List.all_eq_true.2 hall
          rw [← HRR.out, this, Bool.true_and]; exact rfl
        have hI := isSorted_any p n c T wr HN.out (by omega) (HR.out.below HB.out)
        have hA := fun W (hW : Below wr.heap.size wr W) => apart_any p n c T W HN.out (by omega) ((HR.out.below HB.out).below hW) (fun s hs => by
          have := hall s hs
          unfold siteB at this
          simp only [Bool.and_eq_true, decide_eq_true_eq] at this
          omega)
        clear hall
        cases hns : nsB T with
        | true =>
          rw [hns] at hI HE
          rw [Bool.true_and] at HE
          clear hns
          go_wp2_with (first
            | (go_at_call 67; refine hI.mono ?_; rintro e w1 ⟨rfl, hb1⟩; have HB1 := Hid.in hb1; clear hb1 hI)
            | (go_at_call 69; refine (hA _ HB1.out).mono ?_; rintro e w2 ⟨rfl, hb2⟩; have HB2 := Hid.in (below_step (below_step HB.out HB1.out) hb2); clear hb2 hA))
          go_ret
          exact ⟨by rw [HE.out]; simp, HB2.out⟩
        | false =>
          rw [hns] at hI HE
          rw [Bool.false_and] at HE
          clear hns
          go_wp2_with (first
            | (go_at_call 67; refine hI.mono ?_; rintro e w1 ⟨rfl, hb1⟩; have HB1 := Hid.in (below_step HB.out hb1); clear hb1 hI))
          go_ret
          exact ⟨by rw [HE.out]; rfl, HB1.out⟩
  · have HF : Hid (rightS T k = false) := by
      have h : rightS T k = false := by rw [right_eq, decide_eq_false h0, Bool.false_and, Bool.false_and]
      exact h
    rw [HF.out]
    rw [hn] at h0
    clear HF hr
    rcases (by omega : k < 0 ∨ (0 ≤ k ∧ 64 < k) ∨ (0 ≤ k ∧ k ≤ 64 ∧ 256 < n)) with h1 | ⟨h1, h2⟩ | ⟨h1, h2, h3⟩
    all_goals
      clear h0
      go_enter Tryz.func53, Tryz.ntmps53
      go_wp2_with fail
      go_ret
      exact ⟨rfl, below_self w⟩

end Go.Proofs.YtgblohjdiheemaaGreat

/- image.Right answers P9.3. -/
namespace Go.Proofs.YtgblohjdiheemaaGreat
open Go.RowKit

theorem right_sites {T : List Si} {k : Nat} (h : rightS T k = true) : k ≤ 64 ∧ T.length ≤ 256 ∧ ∀ s ∈ T, 0 ≤ s.at_ ∧ s.at_ ≤ 65531 := by
  unfold rightS at h
  simp only [Bool.and_eq_true, decide_eq_true_eq] at h
  obtain ⟨⟨⟨⟨_, h1, h2⟩, h3⟩, _⟩, _⟩ := h
  refine ⟨by omega, h2, fun s hs => ?_⟩
  have := List.all_eq_true.1 h3 s hs
  unfold siteB at this
  simp only [Bool.and_eq_true, decide_eq_true_eq] at this
  omega

set_option maxRecDepth 20000 in
set_option maxHeartbeats 1000000 in
theorem iright_any (m : IM) (pb pk ps pu : Option Addr) (nb cb nk ck ns cs nu cu : Nat) (w : World) (h : ImIn w m pb pk ps pu nb cb nk ck ns cs nu cu) :
    Calls Tryz.prog 31 #[.agg (imA pb pk ps pu nb cb nk ck ns cs nu cu)] w fun E w' => E = .returned (.bool (okI m)) ∧ Below w.heap.size w w' := by
  have H := Hid.in h
  have hkb := h.kb
  have hcb := h.mb
  have hnk := h.mc
  clear h
  have HE : Hid (okI m = (decide (nb ≤ 65536) && rightS m.si nk && keysB m.ks && quietB m.bs m.si && unitsB m.bs.length m.un)) := by
    have : okI m = (decide (nb ≤ 65536) && rightS m.si nk && keysB m.ks && quietB m.bs m.si && unitsB m.bs.length m.un) := by
      unfold okI; rw [H.out.lk, H.out.lb]
    exact this
  obtain ⟨r, hrr⟩ : ∃ r, okI m = r := ⟨_, rfl⟩
  rw [hrr]
  rw [hrr] at HE
  clear hrr
  have HK0 : Hid (Blk (w.alloc (.cells (imA pb pk ps pu nb cb nk ck ns cs nu cu) 27)) w.heap.size 27 (imA pb pk ps pu nb cb nk ck ns cs nu cu)) := Blk.new _ _ _
  have HB0 : Hid (Below w.heap.size w (w.alloc (.cells (imA pb pk ps pu nb cb nk ck ns cs nu cu) 27))) := new_alloc _ _
  have k0 : (w.alloc (.cells (imA pb pk ps pu nb cb nk ck ns cs nu cu) 27)).cell? ⟨w.heap.size, 0, none⟩ = some (.slice pb nb cb) := HK0.out.cell 0
  have k1 : (w.alloc (.cells (imA pb pk ps pu nb cb nk ck ns cs nu cu) 27)).cell? ⟨w.heap.size, 1, none⟩ = some (.slice pk nk ck) := HK0.out.cell 1
  have k2 : (w.alloc (.cells (imA pb pk ps pu nb cb nk ck ns cs nu cu) 27)).cell? ⟨w.heap.size, 2, none⟩ = some (.slice ps ns cs) := HK0.out.cell 2
  have hS := fun W (hW : Below w.heap.size w W) => sright_any ps ns cs m.si (nk : Int) W H.out.ls H.out.ms (H.out.below hW).rs
  by_cases h6 : nb ≤ 65536
  · have q1 : decide ((nb : Int) ≤ 65536) = true := decide_eq_true (by omega)
    rw [decide_eq_true h6, Bool.true_and] at HE
    cases hs : rightS m.si nk with
    | false =>
      rw [hs] at hS
      rw [hs, Bool.false_and, Bool.false_and, Bool.false_and] at HE
      go_enter Tryz.func31, Tryz.ntmps31
      go_wp2_with (go_at_call 53; refine (hS _ HB0.out).mono ?_; rintro e w1 ⟨rfl, hb1⟩)
      go_ret
      exact ⟨by rw [HE.out]; rfl, below_step HB0.out hb1⟩
    | true =>
      obtain ⟨h64, h256, hat⟩ := right_sites hs
      rw [hs] at hS
      rw [hs, Bool.true_and] at HE
      have HAT := Hid.in hat
      have hK := fun W (hW : Below w.heap.size w W) => rightKeys_any pk nk ck m.ks W H.out.lk h64 H.out.ksz (H.out.below hW).rk
      have hQ := fun W (hW : Below w.heap.size w W) => quietSites_any m pb pk ps pu nb cb nk ck ns cs nu cu W (H.out.below hW) HAT.out
      have hU := fun W (hW : Below w.heap.size w W) => rightUnits_any m pb pk ps pu nb cb nk ck ns cs nu cu W (H.out.below hW)
      clear hs hat
      generalize unitsB m.bs.length m.un = ru at *
      generalize keysB m.ks = rk at *
      generalize quietB m.bs m.si = rq at *
      have HFIN : ∀ {x : Bool} {w' : World}, x = r → Below w.heap.size w w' → Ending.returned (.bool x) = .returned (.bool r) ∧ Below w.heap.size w w' := fun e hb => ⟨by rw [e], hb⟩
      cases rk with
      | false =>
        go_enter Tryz.func31, Tryz.ntmps31
        go_wp2_with (first
          | (go_at_call 53; refine (hS _ HB0.out).mono ?_; rintro e w1 ⟨rfl, hb1⟩; have HB1 := Hid.in (below_step HB0.out hb1); have j1 : w1.cell? ⟨w.heap.size, 1, none⟩ = some (.slice pk nk ck) := (HK0.out.grow hb1).cell 1; clear hb1)
          | (go_at_call 54; refine (hK _ HB1.out).mono ?_; rintro e w2 ⟨rfl, hb2⟩; have HB2 := Hid.in (below_step HB1.out hb2); clear hb2))
        go_ret
        exact HFIN (by rw [HE.out]; rfl) HB2.out
      | true => 
        cases rq with
        | false =>
          go_enter Tryz.func31, Tryz.ntmps31
          go_wp2_with (first
            | (go_at_call 53; refine (hS _ HB0.out).mono ?_; rintro e w1 ⟨rfl, hb1⟩; have HB1 := Hid.in (below_step HB0.out hb1); have HK1 := Hid.in (HK0.out.grow hb1); have j1 : w1.cell? ⟨w.heap.size, 1, none⟩ = some (.slice pk nk ck) := HK1.out.cell 1; clear hb1)
            | (go_at_call 54; refine (hK _ HB1.out).mono ?_; rintro e w2 ⟨rfl, hb2⟩; have HB2 := Hid.in (below_step HB1.out hb2); have HK2 := Hid.in (HK1.out.grow hb2); have i0 : w2.cell? ⟨w.heap.size, 0, none⟩ = some (.slice pb nb cb) := HK2.out.cell 0; have i1 : w2.cell? ⟨w.heap.size, 1, none⟩ = some (.slice pk nk ck) := HK2.out.cell 1; have i2 : w2.cell? ⟨w.heap.size, 2, none⟩ = some (.slice ps ns cs) := HK2.out.cell 2; have i3 : w2.cell? ⟨w.heap.size, 3, none⟩ = some (.slice pu nu cu) := HK2.out.cell 3; clear hb2)
            | (go_at_call 55; refine (hQ _ HB2.out).mono ?_; rintro e w3 ⟨rfl, hb3⟩; have HB3 := Hid.in (below_step HB2.out hb3); have HK3 := Hid.in (HK2.out.grow hb3); have l0 : w3.cell? ⟨w.heap.size, 0, none⟩ = some (.slice pb nb cb) := HK3.out.cell 0; have l1 : w3.cell? ⟨w.heap.size, 1, none⟩ = some (.slice pk nk ck) := HK3.out.cell 1; have l2 : w3.cell? ⟨w.heap.size, 2, none⟩ = some (.slice ps ns cs) := HK3.out.cell 2; have l3 : w3.cell? ⟨w.heap.size, 3, none⟩ = some (.slice pu nu cu) := HK3.out.cell 3; clear hb3)
            | (go_at_call 56; refine (hU _ HB3.out).mono ?_; rintro e w4 ⟨rfl, hb4⟩; have HB4 := Hid.in (below_step HB3.out hb4); clear hb4))
          go_ret
          exact HFIN (by rw [HE.out]; rfl) HB3.out
        | true =>
          go_enter Tryz.func31, Tryz.ntmps31
          go_wp2_with (first
            | (go_at_call 53; refine (hS _ HB0.out).mono ?_; rintro e w1 ⟨rfl, hb1⟩; have HB1 := Hid.in (below_step HB0.out hb1); have HK1 := Hid.in (HK0.out.grow hb1); have j1 : w1.cell? ⟨w.heap.size, 1, none⟩ = some (.slice pk nk ck) := HK1.out.cell 1; clear hb1)
            | (go_at_call 54; refine (hK _ HB1.out).mono ?_; rintro e w2 ⟨rfl, hb2⟩; have HB2 := Hid.in (below_step HB1.out hb2); have HK2 := Hid.in (HK1.out.grow hb2); have i0 : w2.cell? ⟨w.heap.size, 0, none⟩ = some (.slice pb nb cb) := HK2.out.cell 0; have i1 : w2.cell? ⟨w.heap.size, 1, none⟩ = some (.slice pk nk ck) := HK2.out.cell 1; have i2 : w2.cell? ⟨w.heap.size, 2, none⟩ = some (.slice ps ns cs) := HK2.out.cell 2; have i3 : w2.cell? ⟨w.heap.size, 3, none⟩ = some (.slice pu nu cu) := HK2.out.cell 3; clear hb2)
            | (go_at_call 55; refine (hQ _ HB2.out).mono ?_; rintro e w3 ⟨rfl, hb3⟩; have HB3 := Hid.in (below_step HB2.out hb3); have HK3 := Hid.in (HK2.out.grow hb3); have l0 : w3.cell? ⟨w.heap.size, 0, none⟩ = some (.slice pb nb cb) := HK3.out.cell 0; have l1 : w3.cell? ⟨w.heap.size, 1, none⟩ = some (.slice pk nk ck) := HK3.out.cell 1; have l2 : w3.cell? ⟨w.heap.size, 2, none⟩ = some (.slice ps ns cs) := HK3.out.cell 2; have l3 : w3.cell? ⟨w.heap.size, 3, none⟩ = some (.slice pu nu cu) := HK3.out.cell 3; clear hb3)
            | (go_at_call 56; refine (hU _ HB3.out).mono ?_; rintro e w4 ⟨rfl, hb4⟩; have HB4 := Hid.in (below_step HB3.out hb4); clear hb4))
          go_ret
          exact HFIN (by rw [HE.out]; simp) HB4.out
  · have q1 : decide ((nb : Int) ≤ 65536) = false := decide_eq_false (by omega)
    rw [decide_eq_false h6, Bool.false_and, Bool.false_and, Bool.false_and, Bool.false_and] at HE
    go_enter Tryz.func31, Tryz.ntmps31
    go_wp2_with fail
    go_ret
    exact ⟨by rw [HE.out]; rfl, HB0.out⟩
end Go.Proofs.YtgblohjdiheemaaGreat
