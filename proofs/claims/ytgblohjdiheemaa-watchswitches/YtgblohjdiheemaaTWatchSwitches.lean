/-
  Proved here: the law WatchSwitches (switchyardlaw23) answers true for every input, and each argument reads afterwards as it read before. No condition of ours: the row's own reach alone (each slice and text takes at most 2^47 - 4096 bytes).
-/
import Derived.Test.YtgblohjdiheemaaKai
import Derived.Test.YtgblohjdiheemaaKah
import Derived.Deep.MidRow
import Derived.SizedLaws
import Derived.Test.YtgblohjdiheemaaKak
import Derived.Test.YtgblohjdiheemaaKao
import Derived.Test.YtgblohjdiheemaaKas
import Derived.Test.YtgblohjdiheemaaKar
import Derived.Deep.QuietTactic
import Derived.BigQuiet

/- Ours: how a list of events, and a list of numbers, that came in is opened: a generic row of k cells. -/
namespace Go.Proofs.Ytgblohjdiheemaa
open Go.ChangeShapes Go.WideShapes Go.ChangeAt Go.RowKit

theorem list_ofE {X : Type} {P : Nat → X → Prop} : ∀ n, (∀ i, i < n → ∃ x, P i x) → ∃ xs : List X, xs.length = n ∧ ∀ i (h : i < xs.length), P i xs[i]
  | 0, _ => ⟨[], rfl, fun i h => absurd h (by simp)⟩
  | n + 1, h => by
    obtain ⟨xs, hl, hx⟩ := list_ofE n fun i hi => h i (by omega)
    obtain ⟨x, hp⟩ := h n (by omega)
    refine ⟨xs ++ [x], by simp [hl], fun i hi => ?_⟩
    by_cases hin : i < xs.length
    · rw [List.getElem_append_left hin]; exact hx i hin
    · have : i = n := by simp at hi; omega
      subst this
      rw [List.getElem_append_right (by omega)]
      simp [hl]
      exact hp
/-- a row of k cells that came in -/
theorem openedK {α H : Type} (F : Fm α) {enc : TypeId × Value → H} {W : World} {fuel : Nat} {v : Value} {x : DataW H × List MemPlace} {ST ET : TypeId} (P : α → Prop) (hu : Try.prog.underlying ST = some (.slice ET)) (hck : Try.prog.cellsOf ET = F.k)
    (hone : ∀ (fuel : Nat) (cs : List Value) (x : DataW H × List MemPlace), DataW.trod enc Try.prog W 0 (fun _ => true) true fuel ET cs = some x → ∃ y, cs = F.f y ∧ P y)
    (h : DataW.trod enc Try.prog W 0 (fun _ => true) true fuel ST [v] = some x) :
    ∃ (q : Option Addr) (e : Nat) (L : List α), v = .slice q L.length e ∧ L.length ≤ e ∧ e ≤ maxLen ∧ KRow F W q L ∧ ∀ y ∈ L, P y := by
  rcases DataW.trod_slice hu h with ⟨hcs, hx⟩ | ⟨ad, l, cc, elems, rest, f, hfu, hcs, hx, _, hl, hm, hlen, hel, hsp, _⟩
  · simp only [List.cons.injEq, and_true] at hcs
    exact ⟨none, 0, [], by rw [hcs]; rfl, Nat.le_refl _, Nat.zero_le _, KRow.nil W none, fun y hy => by cases hy⟩
  · simp only [List.cons.injEq, and_true] at hcs
    obtain ⟨L, hL, hP⟩ := list_ofE (P := fun i y => (∀ j u, (F.f y)[j]? = some u → W.cell? ((ad.add (i * F.k)).add j) = some u) ∧ P y) l fun i hi => by
      have he := hel i hi
      rw [hck, List.getElem?_eq_getElem (by omega), Option.bind_eq_some_iff] at he
      obtain ⟨cs, hcs, htr⟩ := he
      obtain ⟨_, hcl, hcc⟩ := World.cells?_some hcs
      obtain ⟨y, hy, hp⟩ := hone _ _ _ htr
      refine ⟨y, fun j u hu => ?_, hp⟩
      rw [← hy] at hu
      have hj : j < F.k := by rw [← hcl]; exact (List.getElem?_eq_some_iff.1 hu).1
      rw [hcc j hj]; exact hu
    refine ⟨some ad, cc, L, by rw [hcs, hL], by rw [hL]; exact hl, hm, fun h0 => ?_, fun y hy => ?_⟩
    · obtain ⟨b, o, s⟩ := ad
      obtain rfl : s = none := by
        have h3 : 0 < (F.f L[0]).length := by rw [F.len]; exact F.pos
        have := (hP 0 h0).1 0 _ (List.getElem?_eq_getElem h3)
        simpa [Addr.add] using World.cell?_spot this
      refine ⟨b, o, rfl, fun i hi j hj => ?_⟩
      have h3 : j < (F.f L[i]).length := by rw [F.len]; exact hj
      have := (hP i hi).1 j _ (List.getElem?_eq_getElem h3)
      rw [Addr.add_mid, Addr.add_mid] at this
      rw [this, List.getElem?_eq_getElem h3]
    · obtain ⟨i, hi, rfl⟩ := List.getElem_of_mem hy
      exact (hP i hi).2
theorem list_seven {X : Type} {l : List X} (h : l.length = 7) : ∃ a b c d e f g, l = [a, b, c, d, e, f, g] := by
  match l, h with
  | [a, b, c, d, e, f, g], _ => exact ⟨a, b, c, d, e, f, g, rfl⟩
theorem open_event {H : Type} {enc : TypeId × Value → H} {W : World} {fuel : Nat} {cs : List Value} {x : DataW H × List MemPlace} (h : DataW.trod enc Try.prog W 0 (fun _ => true) true fuel 43 cs = some x) :
    ∃ y : Fv, cs = fE.f y ∧ FvOk y := by
  obtain ⟨xs, n, rfl, hx, hlen, hxl, hf⟩ := DataW.trod_struct Try.underlying43 h
  have hc43 : Try.prog.cellsOf 43 = 7 := by kernel_rfl
  have hc3 : Try.prog.cellsOf 3 = 1 := by kernel_rfl
  have hc2 : Try.prog.cellsOf 2 = 1 := by kernel_rfl
  have hc40 : Try.prog.cellsOf 40 = 1 := by kernel_rfl
  have hc41 : Try.prog.cellsOf 41 = 1 := by kernel_rfl
  rw [hc43] at hlen
  obtain ⟨a, b, c, d, e, f, g, rfl⟩ := list_seven hlen
  have f0 := hf 0
  have f1 := hf 1
  have f2 := hf 2
  have f3 := hf 3
  have f4 := hf 4
  have f5 := hf 5
  have f6 := hf 6
  simp [hc3, hc2, hc40, hc41] at f0 f1 f2 f3 f4 f5 f6
  obtain ⟨x0, x1, x2, x3, x4, x5, x6, rfl⟩ := list_seven (show xs.length = 7 from hxl)
  simp only [List.getElem?_cons_zero, List.getElem?_cons_succ] at f0 f1 f2 f3 f4 f5 f6
  obtain ⟨k0, e0, y0, w0⟩ := DataW.trod_int Try.underlying40 f0
  obtain ⟨k1, e1, y1, w1⟩ := DataW.trod_int Try.underlying3 f1
  obtain ⟨k2, e2, y2, w2⟩ := DataW.trod_int Try.underlying3 f2
  obtain ⟨k3, e3, y3, w3⟩ := DataW.trod_int Try.underlying3 f3
  obtain ⟨k4, e4, y4, w4⟩ := DataW.trod_int Try.underlying41 f4
  obtain ⟨k5, e5, y5, w5⟩ := DataW.trod_int Try.underlying3 f5
  obtain ⟨k6, e6, y6, w6⟩ := DataW.trod_int Try.underlying2 f6
  simp only [List.cons.injEq, and_true] at e0 e1 e2 e3 e4 e5 e6
  subst e0 e1 e2 e3 e4 e5 e6
  exact ⟨⟨k0, k1, k2, k3, k4, k5, k6⟩, rfl, wf_i64 w2, wf_i64 w3, wf_i64 w5, wf_i64 w6⟩
set_option maxRecDepth 20000 in
theorem open_evs_val {H : Type} {enc : TypeId × Value → H} {W : World} {base : Nat} {v : Value} {d : DataW H} {p : List MemPlace} (hv : Value.okWide Try.prog W .any base 23 v)
    (h : DataW.Trod enc Try.prog W 0 (fun _ => true) true 23 v d p) {ts : List TypeId} {ds : List (DataW H)} (_hsz : (DataW.weightsEach Try.prog ts ds).all (· ≤ reachBytes) = true) {j : Nat} (_ht : ts[j]? = some 23) (_hd : ds[j]? = some d) :
    ∃ (q : Option Addr) (e : Nat) (L : List Fv), v = .slice q L.length e ∧ L.length ≤ e ∧ e ≤ maxLen ∧ KRow fE W q L ∧ ∀ y ∈ L, FvOk y := by
  obtain ⟨fuel, hf⟩ := h
  have hcs : v.cells.toList = [v] := by
    obtain ⟨_, _, _, rfl⟩ := Go.WideShapes.okWide_slice Try.underlying23 hv
    rfl
  rw [hcs] at hf
  exact openedK fE FvOk Try.underlying23 (by kernel_rfl) (fun _ _ _ hh => open_event hh) hf
end Go.Proofs.Ytgblohjdiheemaa

/- Ours: switchyardlaw23's six events, awake. -/
namespace Go.Proofs.Ytgblohjdiheemaa
open Go.RowKit Go.Maps

def sixL : List Fv := [⟨8, 0, 0, 0, 0, 0, 1⟩, ⟨2, 0, 1, 8, 3, 0, 0⟩, ⟨3, 0, 1, 8, 0, 0, 0⟩, ⟨2, 0, 1, 8, 11, 0, 0⟩, ⟨5, 0, 1, 0, 0, 0, 7⟩, ⟨2, 0, 0, 8, 3, 0, 0⟩]
theorem elemE : ElemK fE 23 43 56 := ⟨Try.underlying23, .agg #[.int .u8 0, .int .i64 0, .int .i64 0, .int .i64 0, .int .u8 0, .int .i64 0, .int .i64 0], rfl, by kernel_rfl⟩
/-- a literal list -/
theorem KOwn.lit {α : Type} {F : Fm α} {T : TypeId} (w : World) (L : List α) (A : Array Value) (n : Nat) (hn : L.length = n) (hA : A.toList = F.cs L) (hm : n ≤ 1048576) : KOwn F T (w.alloc (.cells A T)) w.heap.size (.slice (Option.some ⟨w.heap.size, 0, Option.none⟩) n n) L := by
  subst hn
  refine ⟨by rw [F.cs_len], .inr ⟨w.heap.size, L.length, A, rfl, Nat.le_refl _, Blk.new w T A, Nat.le_refl _, Nat.le_trans hm (Nat.le_of_lt small_maxLen |> Nat.le_trans (by decide)), ?_, ?_⟩⟩
  · rw [← Array.length_toList, hA, F.cs_len]
  · rw [List.take_of_length_le (by rw [hA, F.cs_len]; exact Nat.le_refl _), hA]
theorem KRow.lit {α : Type} {F : Fm α} {T : TypeId} (w : World) (L : List α) (A : Array Value) (hA : A.toList = F.cs L) (hm : L.length ≤ 1048576) : KRow F (w.alloc (.cells A T)) (some ⟨w.heap.size, 0, none⟩) L := by
  obtain ⟨p, c, e, -, -, h⟩ := (KOwn.lit (T := T) w L A _ rfl hA hm).row
  injection e with e _ _
  rw [e]
  exact h
set_option maxRecDepth 20000 in
set_option maxHeartbeats 4000000 in
theorem six_any (w : World) : Calls Try.prog 13 #[] w fun e w' => ∃ p, e = .returned (.slice p 6 6) ∧ KOwn fE 43 w' w.heap.size (.slice p 6 6) sixL ∧ KRow fE w' p sixL ∧ Below w.heap.size w w' := by
  go_enter Try.func13, Try.ntmps13
  go_wp2_with fail
  go_ret
  exact ⟨_, rfl, KOwn.lit w sixL _ 6 rfl rfl (by decide), KRow.lit w sixL _ rfl (by decide), new_alloc _ _⟩
theorem six_ok : ∀ x ∈ sixL, FvOk x := by
  intro x hx
  unfold sixL at hx
  simp only [List.mem_cons, List.not_mem_nil, or_false] at hx
  rcases hx with rfl | rfl | rfl | rfl | rfl | rfl <;> exact ⟨by unfold i64P; decide, by unfold i64P; decide, by unfold i64P; decide, by unfold i64P; decide⟩
theorem KRow.drew {α : Type} {F : Fm α} {w : World} {p : Option Addr} {L : List α} (h : KRow F w p L) : KRow F w.drew p L := h
theorem ex_btw : btwL 1 8 (partL sixL 0 100) = (1, 2) := by kernel_rfl
theorem ex_outs : outsL sixL 1 = [7] := by kernel_rfl
theorem ex_views : viewsA (imM [0]) sixL = [⟨0, 0, 1, 0, false⟩, ⟨1, 0, 1, 2, false⟩] := by kernel_rfl
set_option maxRecDepth 20000 in
set_option maxHeartbeats 8000000 in
theorem awake_any (w : World) : Calls Try.prog 5 #[] w fun e w' => e = .returned (.bool true) ∧ Below w.heap.size w w' := by
  have hz : GRow (w.alloc (.cells #[.int .i64 0] 3)) (some ⟨w.heap.size, 0, none⟩) (numZ [0]) := fun _ => ⟨w.heap.size, 0, rfl, fun i hi => by
    have hi : i < 1 := hi
    obtain rfl : i = 0 := by omega
    exact (Blk.new w 3 #[.int .i64 0]).cell 0⟩
  have hI := image_any (some ⟨w.heap.size, 0, none⟩) 1 1 [0] (w.alloc (.cells #[.int .i64 0] 3)) rfl (by decide) (Nat.le_refl _) hz
  have HB0 := Hid.in (new_alloc w (.cells #[.int .i64 0] 3))
  have HSX : Hid (∀ W : World, Calls Try.prog 13 #[] W _) := fun W => six_any W
  clear hz
  go_enter Try.func5, Try.ntmps5
  go_wp2_with (go_at_call 6; refine Hid.out ?_)
  generalize w.alloc (.cells #[.int .i64 0] 3) = w0 at *
  refine Lib.hid ?_
  (with_reducible refine hI.mono ?_)
  rintro e w1 ⟨vB, vK, vS, vU, rfl, ho, hb⟩
  have HB1 := Hid.in (below_step HB0.out hb)
  obtain ⟨qb, qk, qs, qu, db, dk, ds, du, rfl, rfl, rfl, rfl, hin, -⟩ := ho.inOk (imM_ok [0] (by decide)) (imM_byt [0])
  have HI1 := Hid.in hin
  clear hI ho hb hin HB0
  go_upto_region 2 with fail
  have HA2 := Hid.in (Blk.new w1 29 #[.slice qb (imM [0]).bs.length db, .slice qk (imM [0]).ks.length dk, .slice qs (imM [0]).si.length ds, .slice qu (imM [0]).un.length du])
  have HB2 := Hid.in (below_alloc HB1.out (.cells #[.slice qb (imM [0]).bs.length db, .slice qk (imM [0]).ks.length dk, .slice qs (imM [0]).si.length ds, .slice qu (imM [0]).un.length du] 29))
  have HI2 := Hid.in (HI1.out.below (new_alloc w1 (.cells #[.slice qb (imM [0]).bs.length db, .slice qk (imM [0]).ks.length dk, .slice qs (imM [0]).si.length ds, .slice qu (imM [0]).un.length du] 29)))
  generalize w1.alloc (.cells #[.slice qb (imM [0]).bs.length db, .slice qk (imM [0]).ks.length dk, .slice qs (imM [0]).si.length ds, .slice qu (imM [0]).un.length du] 29) = w2 at *
  clear HI1
  have hs := HSX.out w2
  go_wp2_with (go_at_call 13; refine Hid.out ?_)
  refine Lib.hid ?_
  (with_reducible refine hs.mono ?_)
  rintro e w3 ⟨p3, rfl, ho3, hr3, hb⟩
  have HB3 := Hid.in (below_step HB2.out hb)
  have HA3 := Hid.in (HA2.out.grow hb)
  have HI3 := Hid.in (HI2.out.below hb)
  have hbt := between_any p3 6 6 sixL 1 8 0 100 w3 rfl (by decide) hr3
  rw [ex_btw] at hbt
  clear hs hb ho3 hr3 HB2 HA2 HI2
  go_wp2_with (go_at_call 9; refine Hid.out ?_)
  refine Lib.hid ?_
  (with_reducible refine hbt.mono ?_)
  rintro e w4 ⟨rfl, hb⟩
  have HB4 := Hid.in (below_step HB3.out hb)
  have HA4 := Hid.in (HA3.out.grow hb)
  have HI4 := Hid.in (HI3.out.below hb)
  clear hbt hb HB3 HA3 HI3
  go_upto_region 3 with fail
  have a0 : w4.cell? ⟨w1.heap.size, 0, none⟩ = some (.slice qb (imM [0]).bs.length db) := HA4.out.cell 0
  have a1 : w4.cell? ⟨w1.heap.size, 1, none⟩ = some (.slice qk (imM [0]).ks.length dk) := HA4.out.cell 1
  have a2 : w4.cell? ⟨w1.heap.size, 2, none⟩ = some (.slice qs (imM [0]).si.length ds) := HA4.out.cell 2
  have a3 : w4.cell? ⟨w1.heap.size, 3, none⟩ = some (.slice qu (imM [0]).un.length du) := HA4.out.cell 3
  have HVW := Hid.in (fun (W : World) (p : Option Addr) (hi : ImIn W (imM [0]) qb qk qs qu (imM [0]).bs.length db (imM [0]).ks.length dk (imM [0]).si.length ds (imM [0]).un.length du) (hr : KRow fE W p sixL) => views_any (imM [0]) qb qk qs qu (imM [0]).bs.length db (imM [0]).ks.length dk (imM [0]).si.length ds (imM [0]).un.length du p 6 6 sixL W hi rfl (by decide) hr six_ok)
  rw [ex_views] at HVW
  have HOU := Hid.in (fun (W : World) (p : Option Addr) (hr : KRow fE W p sixL) => outs_any p 6 6 sixL 1 W rfl (by decide) hr)
  rw [ex_outs] at HOU
  have HSV := Hid.in (fun (W : World) (p q : Option Addr) c d h1 h2 => sameViews_self p q 2 c d [⟨0, 0, 1, 0, false⟩, ⟨1, 0, 1, 2, false⟩] W rfl (by decide) h1 h2)
  have HSP := Hid.in (fun (W : World) (p q : Option Addr) c d h1 h2 => samePlaces_self p q 1 c d [7] W rfl (by decide) h1 h2)
  have HLV := Hid.in (fun (W : World) (q : Nat) (hq : W.heap.size = q) => hq ▸ KRow.lit (F := fW) (T := 35) W [⟨0, 0, 1, 0, false⟩, ⟨1, 0, 1, 2, false⟩] #[.int .i64 0, .int .i64 0, .int .i64 1, .int .i64 0, .bool false, .int .i64 1, .int .i64 0, .int .i64 1, .int .i64 2, .bool false] rfl (by decide))
  have HLP := Hid.in (fun (W : World) (q : Nat) (hq : W.heap.size = q) => hq ▸ KRow.lit (F := fU) (T := 55) W [7] #[.int .u32 7] rfl (by decide))
  have HI5 : Hid (∀ W : World, Below w4.heap.size w4 W → ImIn W (imM [0]) qb qk qs qu (imM [0]).bs.length db (imM [0]).ks.length dk (imM [0]).si.length ds (imM [0]).un.length du) := fun W hW => HI4.out.below hW
  have HSK : Hid (∀ W W' : World, (W.cell? ⟨w1.heap.size, 0, none⟩ = some (.slice qb (imM [0]).bs.length db) ∧ W.cell? ⟨w1.heap.size, 1, none⟩ = some (.slice qk (imM [0]).ks.length dk) ∧ W.cell? ⟨w1.heap.size, 2, none⟩ = some (.slice qs (imM [0]).si.length ds) ∧ W.cell? ⟨w1.heap.size, 3, none⟩ = some (.slice qu (imM [0]).un.length du) ∧ Below w4.heap.size w4 W) → Below W.heap.size W W' → (W'.cell? ⟨w1.heap.size, 0, none⟩ = some (.slice qb (imM [0]).bs.length db) ∧ W'.cell? ⟨w1.heap.size, 1, none⟩ = some (.slice qk (imM [0]).ks.length dk) ∧ W'.cell? ⟨w1.heap.size, 2, none⟩ = some (.slice qs (imM [0]).si.length ds) ∧ W'.cell? ⟨w1.heap.size, 3, none⟩ = some (.slice qu (imM [0]).un.length du) ∧ Below w4.heap.size w4 W')) := by
    intro W W' ⟨h0, h1, h2, h3, hB⟩ hb
    exact ⟨(hb.cell (cell_lt h0)).trans h0, (hb.cell (cell_lt h1)).trans h1, (hb.cell (cell_lt h2)).trans h2, (hb.cell (cell_lt h3)).trans h3, below_step hB hb⟩
  have hI0 : Below w4.heap.size w4 w4.drew := below_draws (Below.refl _ _) 1
  have t1 : ((1 : Int) == 1) = true := rfl
  go_region_held3 (fun W => (W.cell? ⟨w1.heap.size, 0, none⟩ = some (.slice qb (imM [0]).bs.length db) ∧ W.cell? ⟨w1.heap.size, 1, none⟩ = some (.slice qk (imM [0]).ks.length dk) ∧ W.cell? ⟨w1.heap.size, 2, none⟩ = some (.slice qs (imM [0]).si.length ds) ∧ W.cell? ⟨w1.heap.size, 3, none⟩ = some (.slice qu (imM [0]).un.length du) ∧ Below w4.heap.size w4 W))
    (first | assumption | (exact HSK.out _ _ (by assumption) (new_alloc _ _)) | (exact HSK.out _ _ (by assumption) (below_draws (below_self _) _)) | (refine ⟨?_, ?_, ?_, ?_, ?_⟩ <;> assumption) | go_keep)
    (first
      | (go_at_call 13; refine (HSX.out _).mono ?_; rintro e w7 ⟨p7, rfl, ho7, hr7, hb7⟩; have hk7 := HSK.out _ _ (by assumption) hb7; clear ho7)
      | (go_at_call 8; refine (HVW.out _ _ (HI5.out _ (And.right (And.right (And.right (And.right (by assumption)))))) (by first | exact hr7 | exact hr7.below (new_alloc _ _))).mono ?_; rintro e w9 ⟨v9, rfl, ho9, hb9⟩; have hk9 := HSK.out _ _ (by assumption) hb9; obtain ⟨p9, c9, rfl, -, -, hr9⟩ := ho9.row; clear ho9)
      | (go_at_call 10; refine (HOU.out _ _ (by first | exact hr7 | exact hr7.below (new_alloc _ _))).mono ?_; rintro e wo ⟨vo, rfl, hoo, hbo⟩; have hko := HSK.out _ _ (by assumption) hbo; obtain ⟨po, co, rfl, -, -, hro⟩ := hoo.row; clear hoo)
      | (go_at_call 11; refine (HSP.out _ _ _ _ _ (by first | exact hro | exact hro.below (new_alloc _ _)) (by first | exact HLP.out _ _ (by simp) | exact (HLP.out _ _ (by simp)).below hbo | exact ((HLP.out _ _ (by simp)).below hb7).below hbo | exact ((HLP.out _ _ (by simp)).drew.below hb7).below hbo)).mono ?_; rintro e wl ⟨rfl, ml, rfl⟩; have hkl := HSK.out _ _ (by assumption) (below_draws (below_self _) ml))
      | (go_at_call 14; refine (HSV.out _ _ _ _ _ (by first | exact hr9 | exact hr9.below (new_alloc _ _)) (by first | exact HLV.out _ _ (by simp) | exact (HLV.out _ _ (by simp)).below hb9 | exact ((HLV.out _ _ (by simp)).below hb7).below hb9 | exact ((HLV.out _ _ (by simp)).drew.below hb7).below hb9)).mono ?_; rintro e w8 ⟨rfl, m8, rfl⟩; have hk8 := HSK.out _ _ (by assumption) (below_draws (below_self _) m8)))
  all_goals
    have hBZ := below_step HB4.out (And.right (And.right (And.right (And.right hkl))))
    go_wp2_with fail
    go_ret
    exact ⟨rfl, hBZ⟩
end Go.Proofs.Ytgblohjdiheemaa

/- Ours: the walk of WatchSwitches. -/
namespace Go.Proofs.Ytgblohjdiheemaa
open Go.RowKit Go.Maps

def tot (f : Cn → Nat) (A : List Cn) : Nat := (A.map f).sum
theorem tot_set (f : Cn → Nat) : ∀ (A : List Cn) (i : Nat) (h : i < A.length) (c : Cn), tot f (A.set i c) + f A[i] = tot f A + f c
  | [], i, h, c => absurd h (by simp)
  | a :: A, 0, _, c => by simp [tot]; omega
  | a :: A, i + 1, h, c => by
    have ih := tot_set f A i (by simpa using h) c
    simp [tot] at ih ⊢
    omega
theorem tot_drop (f : Cn → Nat) (A : List Cn) (i : Nat) (h : i < A.length) : tot f (A.drop i) = f A[i] + tot f (A.drop (i + 1)) := by
  rw [List.drop_eq_getElem_cons h]; simp only [tot, List.map_cons, List.sum_cons]
theorem sw_len (A : List Cn) (x : Fv) : (swStep A x).length = A.length + if x.k = 8 then 1 else 0 := by
  unfold swStep
  split
  · simp
  · split <;> simp_all
theorem sw_tot (f : Cn → Nat) (d : Fv → Nat) (A : List Cn) (x : Fv) (h0 : f ⟨0, 0, 0⟩ = 0) (h8 : x.k = 8 → d x = 0) (hc : ∀ c, f (chg c x) = f c + d x) : tot f (swStep A x) = tot f A + if A = [] then 0 else d x := by
  unfold swStep
  split
  · rename_i h
    simp [tot, h0, h8 h]
  · split
    · rename_i h; subst h; rfl
    · rename_i h
      have hl : A.length - 1 < A.length := by have := List.length_pos_iff.2 h; omega
      have := tot_set f A _ hl (chg (A.getD (A.length - 1) ⟨0, 0, 0⟩) x)
      rw [hc, List.getD, List.getElem?_eq_getElem hl] at this
      rw [List.getD, List.getElem?_eq_getElem hl]
      simp only [Option.getD_some] at this ⊢
      omega
theorem sw_w (A : List Cn) (x : Fv) : tot (·.w) (swStep A x) = tot (·.w) A + if A = [] then 0 else if x.k = 10 then 1 else 0 := by
  refine sw_tot _ (fun x => if x.k = 10 then 1 else 0) A x rfl (fun h => by simp [h]) fun c => ?_
  unfold chg
  split
  · rename_i h; simp [h]
  · split
    · split <;> simp
    · simp
theorem sw_r (A : List Cn) (x : Fv) : tot (·.r) (swStep A x) = tot (·.r) A + if A = [] then 0 else if x.k = 11 then 1 else 0 := by
  refine sw_tot _ (fun x => if x.k = 11 then 1 else 0) A x rfl (fun h => by simp [h]) fun c => ?_
  unfold chg
  split
  · simp
  · split
    · split <;> simp
    · simp
theorem sw_s (A : List Cn) (x : Fv) : tot (·.s) (swStep A x) = tot (·.s) A + if A = [] then 0 else if x.k = 10 ∧ x.n = 4 then 1 else 0 := by
  refine sw_tot _ (fun x => if x.k = 10 ∧ x.n = 4 then 1 else 0) A x rfl (fun h => by simp [h]) fun c => ?_
  unfold chg
  split
  · rename_i h; simp [h]
  · split
    · split <;> simp_all
    · simp_all
theorem sw_le (L : List Fv) : ∀ c ∈ switchL L, c.s ≤ c.w := by
  suffices H : ∀ (L : List Fv) (A : List Cn), (∀ c ∈ A, c.s ≤ c.w) → ∀ c ∈ L.foldl swStep A, c.s ≤ c.w from H L [] (fun c hc => by cases hc)
  intro L
  induction L with
  | nil => intro A h; exact h
  | cons x L ih =>
    intro A h
    rw [List.foldl_cons]
    refine ih _ ?_
    unfold swStep
    split
    · intro c hc
      rcases List.mem_append.1 hc with hc | hc
      · exact h c hc
      · simp at hc; subst hc; simp
    · split
      · intro c hc; cases hc
      · rename_i hA
        intro c hc
        rcases List.mem_or_eq_of_mem_set hc with hc | hc
        · exact h c hc
        · subst hc
          have hl : A.length - 1 < A.length := by have := List.length_pos_iff.2 hA; omega
          rw [List.getD, List.getElem?_eq_getElem hl]
          have h2 := h _ (List.getElem_mem hl)
          simp only [Option.getD_some]
          unfold chg
          split
          · exact h2
          · split
            · split <;> simp <;> omega
            · exact h2
set_option maxRecDepth 20000 in
set_option maxHeartbeats 4000000 in
theorem switches_walk (aw : ∀ w : World, Calls Try.prog 5 #[] w fun e w' => e = .returned (.bool true) ∧ Below w.heap.size w w') (p : Option Addr) (n c : Nat) (L : List Fv) (w : World) (hn : L.length = n) (hn6 : n ≤ 9223372036854775807) (hr : KRow fE w p L) :
    Calls Try.prog 4 #[.slice p n c] w fun e w' => e = .returned (.bool true) ∧ Below w.heap.size w w' := by
  have HN := Hid.in hn
  have HR := Hid.in hr
  have HA := Hid.in aw
  clear hn hr aw
  by_cases hbig : (400 : Int) < (n : Int)
  · have g0 : decide ((400 : Int) < (n : Int)) = true := decide_eq_true hbig
    go_enter Try.func4, Try.ntmps4
    go_wp2_with (first | (go_at_call 5; (with_reducible refine (HA.out _).mono ?_); rintro e w2 ⟨rfl, hb⟩; have HB := Hid.in hb; clear hb))
    go_ret
    exact ⟨rfl, HB.out⟩
  have g0 : decide ((400 : Int) < (n : Int)) = false := decide_eq_false hbig
  go_enter Try.func4, Try.ntmps4
  go_wp2_with fail
  go_loopw [3, 4, 5, 6, 7] (fun v3 v4 v5 v6 v7 wr => w = wr ∧ ∃ j a b d t : Nat, v7 = .int .i64 j ∧ j ≤ n ∧ v3 = .int .i64 a ∧ v4 = .int .i64 b ∧ v5 = .int .i64 d ∧ v6 = .int .i64 t ∧ a = (switchL (L.take j)).length ∧ b = tot (·.w) (switchL (L.take j)) ∧ d = tot (·.r) (switchL (L.take j)) ∧ t = tot (·.s) (switchL (L.take j)) ∧ a ≤ j ∧ b ≤ j ∧ d ≤ j ∧ t ≤ j) (fun _ _ _ _ vi _ => n - (intOf vi).toNat)
  case atStart => exact ⟨rfl, 0, 0, 0, 0, 0, rfl, Nat.zero_le _, rfl, rfl, rfl, rfl, rfl, rfl, rfl, rfl, by omega, by omega, by omega, by omega⟩
  case round =>
    obtain ⟨rfl, j, a, b, d, t, rfl, hj, rfl, rfl, rfl, rfl, ha, hb, hd, ht, la, lb, ld, lt⟩ := hrel
    have HH := Hid.in (And.intro ha (And.intro hb (And.intro hd ht)))
    have HL := Hid.in (And.intro la (And.intro lb (And.intro ld lt)))
    clear ha hb hd ht la lb ld lt
    by_cases hlt : j < n
    · have hjL : j < L.length := by rw [HN.out]; exact hlt
      obtain ⟨bk, o, rfl, hc⟩ := ev7 HR.out (by omega)
      obtain ⟨c0, c1, c2, c3, c4, c5, c6⟩ := hc j hjL
      clear hc
      have HT : Hid (switchL (L.take (j + 1)) = swStep (switchL (L.take j)) L[j]) := by show _ = _; rw [take_snoc L j hjL, switchL_snoc]
      generalize L[j] = x at *
      have g1 : decide ((j : Int) < (n : Int)) = true := decide_eq_true (by omega)
      have w3 : IntKind.i64.wrap ((j : Int) + 1) = (j : Int) + 1 := by rw [IntKind.wrap_i64]; omega
      have wa : IntKind.i64.wrap ((a : Int) + 1) = (a : Int) + 1 := by have := HL.out; rw [IntKind.wrap_i64]; omega
      have wb : IntKind.i64.wrap ((b : Int) + 1) = (b : Int) + 1 := by have := HL.out; rw [IntKind.wrap_i64]; omega
      have wd : IntKind.i64.wrap ((d : Int) + 1) = (d : Int) + 1 := by have := HL.out; rw [IntKind.wrap_i64]; omega
      have wt : IntKind.i64.wrap ((t : Int) + 1) = (t : Int) + 1 := by have := HL.out; rw [IntKind.wrap_i64]; omega
      have q1 : decide ((0 : Int) < (a : Int) + 1) = true := decide_eq_true (by omega)
      have HS : Hid (∀ a' b' d' t' : Nat, a' = a + (if x.k = 8 then 1 else 0) → b' = b + (if a = 0 then 0 else if x.k = 10 then 1 else 0) → d' = d + (if a = 0 then 0 else if x.k = 11 then 1 else 0) → t' = t + (if a = 0 then 0 else if x.k = 10 ∧ x.n = 4 then 1 else 0) →
          a' = (switchL (L.take (j + 1))).length ∧ b' = tot (·.w) (switchL (L.take (j + 1))) ∧ d' = tot (·.r) (switchL (L.take (j + 1))) ∧ t' = tot (·.s) (switchL (L.take (j + 1))) ∧ a' ≤ j + 1 ∧ b' ≤ j + 1 ∧ d' ≤ j + 1 ∧ t' ≤ j + 1) := fun a' b' d' t' ea eb ed et => by
        obtain ⟨ha, hb, hd, ht⟩ := HH.out
        obtain ⟨la, lb, ld, lt⟩ := HL.out
        have hA : (a = 0) = (switchL (L.take j) = []) := by rw [ha]; exact propext List.length_eq_zero_iff
        rw [HT.out, sw_len, sw_w, sw_r, sw_s, ← ha, ← hb, ← hd, ← ht]
        simp only [hA] at eb ed et
        refine ⟨ea, eb, ed, et, ?_, ?_, ?_, ?_⟩
        · rw [ea]; split <;> omega
        · rw [eb]; split <;> (try split) <;> omega
        · rw [ed]; split <;> (try split) <;> omega
        · rw [et]; split <;> (try split) <;> omega
      obtain ⟨xk, xst, xh, xp, xo, xky, xn⟩ := x
      dsimp only at *
      clear HT HH
      by_cases h8 : xk = 8
      · subst h8
        go_wp2_with fail
        go_roundw
        case rel => exact ⟨trivial, j + 1, a + 1, b, d, t, by go_num, by omega, by go_num, rfl, rfl, rfl, HS.out _ _ _ _ rfl (by simp) (by simp) (by simp)⟩
        case measure => simp [intOf]; omega
      · have e8 : (xk == 8) = false := by simpa using h8
        by_cases h0 : a = 0
        · subst h0
          go_wp2_with fail
          go_roundw
          case rel => exact ⟨trivial, j + 1, 0, b, d, t, by go_num, by omega, rfl, rfl, rfl, rfl, HS.out _ _ _ _ (by simp [h8]) rfl rfl rfl⟩
          case measure => simp [intOf]; omega
        · have q0 : decide ((0 : Int) < (a : Int)) = true := decide_eq_true (by omega)
          by_cases h10 : xk = 10
          · subst h10
            by_cases h4 : xn = 4
            · subst h4
              go_wp2_with fail
              go_roundw
              case rel => exact ⟨trivial, j + 1, a, b + 1, d, t + 1, by go_num, by omega, rfl, by go_num, rfl, by go_num, HS.out _ _ _ _ (by simp) (by simp [h0]) (by simp [h0]) (by simp [h0])⟩
              case measure => simp [intOf]; omega
            · have e4 : (xn == 4) = false := by simpa using h4
              go_wp2_with fail
              go_roundw
              case rel => exact ⟨trivial, j + 1, a, b + 1, d, t, by go_num, by omega, rfl, by go_num, rfl, rfl, HS.out _ _ _ _ (by simp) (by simp [h0]) (by simp [h0]) (by simp [h0, h4])⟩
              case measure => simp [intOf]; omega
          · have e10 : (xk == 10) = false := by simpa using h10
            by_cases h11 : xk = 11
            · subst h11
              go_wp2_with fail
              go_roundw
              case rel => exact ⟨trivial, j + 1, a, b, d + 1, t, by go_num, by omega, rfl, rfl, by go_num, rfl, HS.out _ _ _ _ (by simp) (by simp [h0]) (by simp [h0]) (by simp [h0])⟩
              case measure => simp [intOf]; omega
            · have e11 : (xk == 11) = false := by simpa using h11
              go_wp2_with fail
              go_roundw
              case rel => exact ⟨trivial, j + 1, a, b, d, t, by go_num, by omega, rfl, rfl, rfl, rfl, HS.out _ _ _ _ (by simp [h8]) (by simp [h0, h10]) (by simp [h0, h11]) (by simp [h0, h10])⟩
              case measure => simp [intOf]; omega
    · obtain rfl : j = n := by omega
      have HH2 : Hid (a = (switchL L).length ∧ b = tot (·.w) (switchL L) ∧ d = tot (·.r) (switchL L) ∧ t = tot (·.s) (switchL L)) := by
        have := HH.out
        rw [List.take_of_length_le (by rw [HN.out]; exact Nat.le_refl _)] at this
        exact this
      clear HH
      have HX := Hid.in (switches_any p j c L w HN.out (by omega) HR.out)
      go_wp2_with (first | (go_at_call 12; (with_reducible refine HX.out.mono ?_); rintro e w2 ⟨v, rfl, ho, hb⟩; have HO := Hid.in ho; have HB := Hid.in hb; clear ho hb))
      obtain ⟨pv, cv, rfl, hcc, hcm, hrow⟩ := HO.out.row
      have HRo := Hid.in hrow
      have HHs : Hid (∀ c ∈ switchL L, c.s ≤ c.w) := sw_le L
      have HHl : Hid ((switchL L).length ≤ 400) := Nat.le_trans (switchL_len L) (by have := HN.out; omega)
      have HAll : Hid (AllC 400 (switchL L)) := fun x hx => by have h1 := switchL_ok L x hx; have := HN.out; omega
      clear HO HX hcc hcm hrow
      obtain ⟨A, hA⟩ : ∃ A, A = switchL L := ⟨_, rfl⟩
      rw [← hA] at HH2 HRo HHs HHl HAll ⊢
      clear hA
      obtain ⟨ea, eb, ed, et⟩ := HH2.out
      have hla : A.length = a := ea.symm
      have Hbnd := Hid.in (And.intro hla (And.intro eb (And.intro ed et)))
      have HLb := HL.out
      rw [hla]
      have ham : a ≤ 400 := by omega
      clear ea eb ed et HH2
      go_wp2_with fail
      go_loopw [9, 4, 5, 6] (fun vi v4 v5 v6 wr => ∃ i b' d' t' : Nat, vi = .int .i64 i ∧ i ≤ a ∧ v4 = .int .i64 b' ∧ v5 = .int .i64 d' ∧ v6 = .int .i64 t' ∧ b' = tot (·.w) (A.drop i) ∧ d' = tot (·.r) (A.drop i) ∧ t' = tot (·.s) (A.drop i) ∧ b' ≤ 400 ∧ d' ≤ 400 ∧ t' ≤ 400 ∧ KRow fC wr pv A ∧ Below w.heap.size w wr) (fun vi _ _ _ _ => a - (intOf vi).toNat)
      case atStart => exact ⟨0, b, d, t, rfl, Nat.zero_le _, rfl, rfl, rfl, Hbnd.out.2.1, Hbnd.out.2.2.1, Hbnd.out.2.2.2, by omega, by omega, by omega, HRo.out, HB.out⟩
      case round =>
        obtain ⟨i, b', d', t', rfl, hi, rfl, rfl, rfl, hb, hd, ht, lb, ld, lt, hro, hbl⟩ := hrel
        have HRq := Hid.in hro
        have HBq := Hid.in hbl
        have HF := Hid.in (And.intro hb (And.intro hd ht))
        have hlA : A.length = a := Hbnd.out.1
        clear hro hbl hb hd ht HB HRo HLb
        by_cases hia : i < a
        · have hiA : i < A.length := by omega
          obtain ⟨bk, o, rfl, hc⟩ := HRq.out (by omega)
          have hk := fun j (hj : j < 5) => hc i hiA j hj
          have HX := Hid.in (HHs.out _ (List.getElem_mem hiA))
          have HY := Hid.in (HAll.out _ (List.getElem_mem hiA))
          have HZ := Hid.in (And.intro (tot_drop (·.w) A i hiA) (And.intro (tot_drop (·.r) A i hiA) (tot_drop (·.s) A i hiA)))
          clear hc
          generalize A[i] = x at *
          obtain ⟨xs, xw, xr⟩ := x
          have e0 : wr.cell? ⟨bk, o + i * 5, none⟩ = some (.int .i64 (xs : Int)) := hk 0 (by omega)
          have e1 : wr.cell? ⟨bk, o + i * 5 + 1, none⟩ = some (.int .i64 (xw : Int)) := hk 1 (by omega)
          have e2 : wr.cell? ⟨bk, o + i * 5 + 2, none⟩ = some (.int .i64 (xr : Int)) := hk 2 (by omega)
          have e3 : wr.cell? ⟨bk, o + i * 5 + 3, none⟩ = some (.int .i64 0) := hk 3 (by omega)
          have e4 : wr.cell? ⟨bk, o + i * 5 + 4, none⟩ = some (.int .i64 0) := hk 4 (by omega)
          clear hk
          have g1 : decide ((i : Int) < (a : Int)) = true := decide_eq_true (by omega)
          have w3 : IntKind.i64.wrap ((i : Int) + 1) = (i : Int) + 1 := by rw [IntKind.wrap_i64]; omega
          have hZ := HZ.out
          have hF := HF.out
          simp only at hZ
          have HN2 : Hid (∃ b2 d2 t2 : Nat, b2 = tot (·.w) (A.drop (i + 1)) ∧ d2 = tot (·.r) (A.drop (i + 1)) ∧ t2 = tot (·.s) (A.drop (i + 1)) ∧ b' = xw + b2 ∧ d' = xr + d2 ∧ t' = xs + t2) := ⟨_, _, _, rfl, rfl, rfl, by omega, by omega, by omega⟩
          obtain ⟨b2, d2, t2, ib, id_, it, rfl, rfl, rfl⟩ := HN2.out
          have HI := Hid.in (And.intro ib (And.intro id_ it))
          have wb : IntKind.i64.wrap ((xw : Int) + (b2 : Int) - (xw : Int)) = (b2 : Int) := by rw [IntKind.wrap_i64]; omega
          have wd : IntKind.i64.wrap ((xr : Int) + (d2 : Int) - (xr : Int)) = (d2 : Int) := by rw [IntKind.wrap_i64]; omega
          have wt : IntKind.i64.wrap ((xs : Int) + (t2 : Int) - (xs : Int)) = (t2 : Int) := by rw [IntKind.wrap_i64]; omega
          have qx : decide ((xw : Int) < (xs : Int)) = false := decide_eq_false (by have := HX.out; simp only at this; omega)
          have qy : decide (xw < xs) = false := decide_eq_false (by have := HX.out; simp only at this; omega)
          have q2 : (0 : Int) ≤ (i : Int) := by omega
          have q3 : (i : Int) < (a : Int) := by omega
          have HBd : Hid (b2 ≤ 400 ∧ d2 ≤ 400 ∧ t2 ≤ 400) := ⟨by omega, by omega, by omega⟩
          clear HX HZ HF hZ hF HN2 ib id_ it lb ld lt
          go_wp2_with fail
          go_quiet (fail)
          go_wp2_with fail
          go_quiet (fail)
          go_wp2_with fail
          go_roundw
          case rel => exact ⟨i + 1, b2, d2, t2, by go_num, by omega, by go_num, by go_num, by go_num, HI.out.1, HI.out.2.1, HI.out.2.2, HBd.out.1, HBd.out.2.1, HBd.out.2.2, HRq.out, below_draws HBq.out _⟩
          case measure => simp [intOf]; omega
        · obtain rfl : i = a := by omega
          have h3 : b' = 0 ∧ d' = 0 ∧ t' = 0 := by
            obtain ⟨h1, h2, h3⟩ := HF.out
            rw [List.drop_of_length_le (by omega)] at h1 h2 h3
            exact ⟨h1, h2, h3⟩
          obtain ⟨rfl, rfl, rfl⟩ := h3
          go_wp2_with (first | (go_at_call 5; (with_reducible refine (HA.out _).mono ?_); rintro e w3 ⟨rfl, hb⟩; have HB3 := Hid.in (hb); clear hb))
          go_ret
          exact ⟨rfl, below_step HBq.out HB3.out⟩
end Go.Proofs.Ytgblohjdiheemaa

namespace Go.Proofs.Ytgblohjdiheemaa
open Go.ChangeShapes Go.WideShapes Go.ChangeAt Go.RowKit
open Go.ChangeMaps (open_string shut_string)

set_option maxRecDepth 100000 in
theorem watchSwitches_lifted (os : Os) (started : os.Started) (H : Type) (enc : TypeId × Value → H) :
    ReturnsInHanded {} Try.checked os 4 .any (Rows.watchSwitchesSpec.pre6 enc Try.prog Try.f4 Rows.watchSwitchesRow.domain false) (Rows.watchSwitchesSpec.post enc Try.prog Try.f4 false true false false) := by
  refine returnsInHanded_of_change_sized (C := Try.checked) Try.own started (by kernel_rfl) Try.func4
    (ChangeSpec.witness6 (enc := enc) (C := Try.checked) false ⟨#[], #[.slice none 0 0], []⟩ 8 (by kernel_rfl) (by kernel_rfl) (by kernel_rfl) (by kernel_rfl)) ?_
  intro W base args ds gs before hval0 hW hcnd hsz0 _
  have hW' := hW
  obtain ⟨p, q, hA0, hV, rfl, hfz, hnd⟩ := hW
  have hA : DataW.TrodAll enc Try.prog W 0 (fun _ => true) true Try.f4.params.toList args.toList ds p := hA0
  have hval : ∀ (j : Nat) t v, Try.f4.params[j]? = some t → args[j]? = some v → Value.okWide Try.prog W .any base t v := hval0
  have hsz : (DataW.weightsEach Try.prog (Try.f4.params.toList ++ Rows.watchSwitchesSpec.plain.varTypes Try.prog) (ds ++ gs)).all (· ≤ reachBytes) = true := hsz0
  rw [Try.params4] at hA hval hsz
  obtain ⟨v0, vs0, d0, ds0, p0, q0_, hargs, rfl, rfl, h0, r0⟩ := trodAll_cons hA
  obtain ⟨rfl, rfl, rfl⟩ := trodAll_nil r0
  obtain rfl : args = #[v0] := by cases args; simp_all
  obtain ⟨rfl, rfl⟩ := trodVars_none hV
  have k0 := h0
  have lt0 : ∀ x ∈ p0, x.block < W.heap.size := by obtain ⟨m, hm⟩ := k0; exact DataW.trod_lt m _ _ _ hm
  obtain ⟨q0, e0, L0, rfl, hl0, hm0, hr0, hf0⟩ := open_evs_val (hval 0 23 v0 rfl rfl) h0 hsz (j := 0) rfl rfl
  refine ((switches_walk awake_any q0 L0.length e0 L0 W rfl (by have := hm0; unfold maxLen at this; omega) hr0)).mono fun e W' ⟨he, bel⟩ => ?_
  subst he
  exact ⟨_, rfl, _, _, _, [], _, [], hW', trodAll_mk1 (shut_bool Try.underlying4 _), (trodAll_cons_mk (Below.trod Try.laidOut (by kernel_rfl) (of_decide_eq_true (by kernel_rfl)) k0 bel lt0) trodAll_mk0), rfl, bel.frame _, fun h => by cases h⟩

theorem watchSwitches_holds : Rows.WatchSwitchesSaid :=
  OpenClaim.holds_of_wide 4 Try.f4 rfl rfl rfl rfl rfl rfl rfl ⟨rfl, rfl, rfl, rfl, rfl⟩ rfl rfl rfl rfl rfl (by kernel_rfl) Try.func4 (by kernel_rfl)
    (of_decide_eq_true (by kernel_rfl)) (by unfold Func.isWrapper; first | (rw [if_pos (by decide +kernel)]; kernel_rfl) | (rw [if_neg (by decide +kernel)]; exact ⟨rfl, rfl⟩))
    (fun os started H enc _ => watchSwitches_lifted os started H enc)
#print axioms watchSwitches_holds

end Go.Proofs.Ytgblohjdiheemaa
