/- Texts put together: RTk, TakR, Table, Shp, Met. -/
import Derived.Test.YtnpaijbkhmnfpaaGreatKbd
import Derived.Test.YtnpaijbkhmnfpaaGreatKad
import Derived.Test.YtnpaijbkhmnfpaaGreatKae
import Derived.Test.YtnpaijbkhmnfpaaGreatKaa
import Derived.Deep.WholeRow
import Derived.Laws.BytesArg
import Derived.Laws.ResultCell
import Derived.Test.YtnpaijbkhmnfpaaGreatKab

/- switchyardref12.Take. -/
namespace Go.Proofs.YtnpaijbkhmnfpaaGreat
open Go.RowKit Go.Maps

/-- what Take answers: the bytes, whether they were held, the error, what is held behind it -/
structure Tk where
  f : F4
  is : Bool
  e : Int
  L : List Ln
def takR (L : List Ln) (xs : List Int) (g : Int) (hold : Bool) : Tk :=
  match findL L g, hold with
  | some f, true => ⟨f, true, 0, L⟩
  | _, _ => if 0 ≤ g ∧ g < 16384 then ⟨granF xs g.toNat, false, 0, takL g (granF xs g.toNat) L⟩ else ⟨zF, false, 2, L⟩

/-- the loop: what is put together so far -/
def outL (g : Int) (f : F4) (L : List Ln) (i : Nat) : Bool → List Ln
  | false => L.take i
  | true => takL g f (L.take i)
def OutP (g : Int) (L : List Ln) (i : Nat) : Bool → Prop
  | false => ∀ x ∈ L.take i, x.g < g
  | true => ∃ x ∈ L.take i, g ≤ x.g

theorem fidx_find (L : List Ln) (g : Int) : (∃ k, ∃ h : k < L.length, fidx L g = k ∧ findL L g = some L[k].f) ∨ (fidx L g = -1 ∧ findL L g = none) := by
  by_cases h : ∃ k, ∃ h : k < L.length, L[k].g = g
  · have hm : ∃ x ∈ L, decide (x.g = g) = true := by
      obtain ⟨k, hk, e⟩ := h
      exact ⟨L[k], List.getElem_mem hk, by simpa using e⟩
    have hlt := List.findIdx_lt_length_of_exists hm
    refine .inl ⟨_, hlt, fidx_some hlt ?_ fun i hi hik => ?_⟩
    · have := List.findIdx_getElem (p := fun x : Ln => decide (x.g = g)) (w := hlt)
      simpa using this
    · have := List.not_of_lt_findIdx hik
      simpa using this
  · exact .inr (fidx_none fun i hi e => h ⟨i, hi, e⟩)

set_option maxRecDepth 8000 in
set_option maxHeartbeats 1000000 in
theorem rtake_held (p q : Option Addr) (n c m d : Nat) (L : List Ln) (g : Int) (f : F4) (w : World) (hn : L.length = n) (hn6 : n ≤ 9223372036854775807) (hr : LRow w p L) (hf : findL L g = some f) :
    Calls Tryz.prog 90 #[.slice p n c, .slice q m d, .int .i64 g, .bool true] w fun e w' => e = .returned (.tuple #[.slice p n c, fV f, .bool true, .int .i64 0]) ∧ Below w.heap.size w w' := by
  rcases fidx_find L g with ⟨k, hk, h1, h2⟩ | ⟨-, h2⟩
  · rw [hf] at h2
    injection h2 with h2
    have HB1 := Hid.in (new_alloc w (.cells #[.int .u8 0, .int .u8 0, .int .u8 0, .int .u8 0] 92))
    have HZ1 := Hid.in (Blk.new w 92 #[.int .u8 0, .int .u8 0, .int .u8 0, .int .u8 0])
    have hr1 := hr.below HB1.out
    have hfi := rfind_any p n c L g _ hn hn6 hr1
    rw [h1] at hfi
    obtain ⟨b, o, rfl, hcc⟩ := hr1.five (by omega)
    obtain ⟨-, c1, c2, c3, c4⟩ := hcc k hk
    rw [← h2] at c1 c2 c3 c4
    obtain ⟨f0, f1, f2, f3⟩ := f
    dsimp only at c1 c2 c3 c4
    have hkn : k < n := by omega
    clear hr hr1 hcc hf h1 h2 hk hn
    go_enter Tryz.func90, Tryz.ntmps90
    go_upto_region 3 with (go_at_call 120; refine hfi.mono ?_; rintro e w1 ⟨rfl, rfl⟩)
    generalize w.alloc (.cells #[.int .u8 0, .int .u8 0, .int .u8 0, .int .u8 0] 92) = w1 at *
    have z0 := HZ1.out.free 0
    have z1 := HZ1.out.free 1
    have z2 := HZ1.out.free 2
    have z3 := HZ1.out.free 3
    have e0 : w1.cell? ⟨w.heap.size, 0, none⟩ = some (.int .u8 0) := HZ1.out.cell 0
    have e1 : w1.cell? ⟨w.heap.size, 1, none⟩ = some (.int .u8 0) := HZ1.out.cell 1
    have e2 : w1.cell? ⟨w.heap.size, 2, none⟩ = some (.int .u8 0) := HZ1.out.cell 2
    have e3 : w1.cell? ⟨w.heap.size, 3, none⟩ = some (.int .u8 0) := HZ1.out.cell 3
    have HBB := Hid.in (below_draws HB1.out 1)
    clear hfi
    go_region_law (fail)
    all_goals
      go_wp2_with fail
      exact bodyPost_ret (v := .tuple #[.slice (some ⟨b, o, none⟩) n c, fV ⟨f0, f1, f2, f3⟩, .bool true, .int .i64 0]) (by simp [results, Tryz.results90, go_sem, fV, e0, e1, e2, e3]) rfl ⟨rfl, (((HBB.out.setCell (Nat.le_refl _) _).setCell (Nat.le_refl _) _).setCell (Nat.le_refl _) _).setCell (Nat.le_refl _) _⟩
  · rw [hf] at h2; cases h2

set_option maxRecDepth 8000 in
set_option maxHeartbeats 1000000 in
theorem rtake_err (p q : Option Addr) (n c m d : Nat) (L : List Ln) (g : Int) (hold : Bool) (w : World) (hn : L.length = n) (hn6 : n ≤ 9223372036854775807) (hr : LRow w p L) (hno : ((findL L g).isSome && hold) = false) (hg : g < 0 ∨ 16384 ≤ g) :
    Calls Tryz.prog 90 #[.slice p n c, .slice q m d, .int .i64 g, .bool hold] w fun e w' => e = .returned (.tuple #[.slice p n c, fV zF, .bool false, .int .i64 2]) ∧ Below w.heap.size w w' := by
  have HB1 := Hid.in (new_alloc w (.cells #[.int .u8 0, .int .u8 0, .int .u8 0, .int .u8 0] 92))
  have HZ1 := Hid.in (Blk.new w 92 #[.int .u8 0, .int .u8 0, .int .u8 0, .int .u8 0])
  have hfi := rfind_any p n c L g _ hn hn6 (hr.below HB1.out)
  have hgr := refGran_bad q d m g (w.alloc (.cells #[.int .u8 0, .int .u8 0, .int .u8 0, .int .u8 0] 92)) hg
  simp only [fourV] at hgr
  have hcs : (decide (0 ≤ fidx L g) && hold) = false := by
    rcases fidx_find L g with ⟨k, hk, h1, h2⟩ | ⟨h1, h2⟩
    · rw [h2] at hno
      rw [h1]
      simpa using hno
    · rw [h1]; rfl
  clear hr hno
  generalize fidx L g = fi at *
  have hcase : decide (0 ≤ fi) = false ∨ (decide (0 ≤ fi) = true ∧ hold = false) := by
    cases hd : decide (0 ≤ fi) with
    | false => exact .inl rfl
    | true => rw [hd] at hcs; exact .inr ⟨rfl, by simpa using hcs⟩
  clear hcs
  rcases hcase with hd | ⟨hd, rfl⟩
  all_goals
    go_enter Tryz.func90, Tryz.ntmps90
    go_upto_region 6 with (first
      | (go_at_call 120; refine hfi.mono ?_; rintro e w1 ⟨rfl, rfl⟩)
      | (go_at_call 121; refine hgr.mono ?_; rintro e w2 ⟨rfl, hb2⟩; have HB2 := Hid.in hb2; clear hb2))
    generalize w.alloc (.cells #[.int .u8 0, .int .u8 0, .int .u8 0, .int .u8 0] 92) = w1 at *
    have HB4 := Hid.in (below_alloc HB2.out (.cells #[.int .u8 0, .int .u8 0, .int .u8 0, .int .u8 0] 92))
    generalize w2.alloc (.cells #[.int .u8 0, .int .u8 0, .int .u8 0, .int .u8 0] 92) = w4 at *
    have HZ4 := Hid.in (HZ1.out.grow HB4.out)
    have z0 := HZ4.out.free 0
    have z1 := HZ4.out.free 1
    have z2 := HZ4.out.free 2
    have z3 := HZ4.out.free 3
    have e0 : w4.cell? ⟨w.heap.size, 0, none⟩ = some (.int .u8 0) := HZ4.out.cell 0
    have e1 : w4.cell? ⟨w.heap.size, 1, none⟩ = some (.int .u8 0) := HZ4.out.cell 1
    have e2 : w4.cell? ⟨w.heap.size, 2, none⟩ = some (.int .u8 0) := HZ4.out.cell 2
    have e3 : w4.cell? ⟨w.heap.size, 3, none⟩ = some (.int .u8 0) := HZ4.out.cell 3
    have HBB := Hid.in (below_step HB1.out HB4.out)
    clear hfi hgr
    go_wp2_with fail
    exact bodyPost_ret (v := .tuple #[.slice p n c, fV zF, .bool false, .int .i64 2]) (by simp [results, Tryz.results90, go_sem, fV, zF, e0, e1, e2, e3]) rfl ⟨rfl, (((HBB.out.setCell (Nat.le_refl _) _).setCell (Nat.le_refl _) _).setCell (Nat.le_refl _) _).setCell (Nat.le_refl _) _⟩

/-- a list of granules stays while a variable ahead of it is written to -/
theorem own_far {w : World} {B A : Nat} {v : Value} {L : List Ln} (h : LOwn 94 w B v L) (hA : A ≤ B) {q : Nat} (hq : q < B) (i0 i1 i2 i3 : Nat) (v0 v1 v2 v3 : Value) : LOwn 94 ((((w.setCell ⟨q, i0, none⟩ v0).setCell ⟨q, i1, none⟩ v1).setCell ⟨q, i2, none⟩ v2).setCell ⟨q, i3, none⟩ v3) A v L := by
  have hk : Keeps (fun j => j = q) w ((((w.setCell ⟨q, i0, none⟩ v0).setCell ⟨q, i1, none⟩ v1).setCell ⟨q, i2, none⟩ v2).setCell ⟨q, i3, none⟩ v3) := ((((Keeps.refl (fun j => j = q) w).setCell _ _ _ (.inl rfl)).setCell _ _ _ (.inl rfl)).setCell _ _ _ (.inl rfl)).setCell _ _ _ (.inl rfl)
  obtain ⟨h0, h1⟩ := h
  refine ⟨h0, h1.imp id ?_⟩
  rintro ⟨g, cap, cur, e1, e2, e3, e4⟩
  exact ⟨g, cap, cur, e1, Nat.le_trans hA e2, (hk.block g (Array.getElem?_eq_some_iff.1 e3).1 (fun e => by have e : g = q := e; omega)).trans e3, e4⟩
theorem out_small {g : Int} {f : F4} {L : List Ln} {i : Nat} (h : L.length ≤ 1000000) (b : Bool) : (outL g f L i b).length ≤ 1048575 := by
  cases b
  · show (L.take i).length ≤ _
    rw [List.length_take]; omega
  · show (takL g f (L.take i)).length ≤ _
    have := takL_len g f (L.take i)
    rw [List.length_take] at this
    omega

set_option maxRecDepth 8000 in
set_option maxHeartbeats 2000000 in
theorem rtake_new (p q : Option Addr) (n c m d : Nat) (L : List Ln) (xs : List Int) (k : Nat) (hold : Bool) (w : World) (hL : Ris L) (hn : L.length = n) (hn6 : n ≤ 1000000) (hr : LRow w p L) (hm : xs.length = m) (hxl : xs.length ≤ 65536) (hq : Row w q xs) (hno : ((findL L k).isSome && hold) = false) (hk : k < 16384) :
    Calls Tryz.prog 90 #[.slice p n c, .slice q m d, .int .i64 k, .bool hold] w fun e w' => ∃ v, e = .returned (.tuple #[v, fV (granF xs k), .bool false, .int .i64 0]) ∧ LOwn 94 w' w.heap.size v (takL k (granF xs k) L) ∧ Below w.heap.size w w' := by
  have HB1 := Hid.in (new_alloc w (.cells #[.int .u8 0, .int .u8 0, .int .u8 0, .int .u8 0] 92))
  have HZ1 := Hid.in (Blk.new w 92 #[.int .u8 0, .int .u8 0, .int .u8 0, .int .u8 0])
  have hfi := rfind_any p n c L k _ hn (by omega) (hr.below HB1.out)
  have hgr := refGran_any q d k xs _ (hq.below HB1.out) hk hxl
  rw [hm] at hgr
  rw [show granV xs k = fV (granF xs k) from rfl] at hgr
  obtain ⟨f0, f1, f2, f3, hF⟩ : ∃ f0 f1 f2 f3, granF xs k = ⟨f0, f1, f2, f3⟩ := ⟨_, _, _, _, rfl⟩
  rw [hF] at hgr ⊢
  simp only [fV] at hgr
  have HR1 := Hid.in (hr.below HB1.out)
  have hcs : (decide (0 ≤ fidx L k) && hold) = false := by
    rcases fidx_find L k with ⟨j, hj, h1, h2⟩ | ⟨h1, h2⟩
    · rw [h2] at hno
      rw [h1]
      simpa using hno
    · rw [h1]; rfl
  have HL := Hid.in hL
  have HN := Hid.in hn
  clear hr hno hL hn hq hm hxl hF
  generalize fidx L k = fi at *
  have hcase : decide (0 ≤ fi) = false ∨ (decide (0 ≤ fi) = true ∧ hold = false) := by
    cases hd : decide (0 ≤ fi) with
    | false => exact .inl rfl
    | true => rw [hd] at hcs; exact .inr ⟨rfl, by simpa using hcs⟩
  clear hcs
  rcases hcase with hd | ⟨hd, rfl⟩
  all_goals
    go_enter Tryz.func90, Tryz.ntmps90
    go_upto_region 7 with (first
      | (go_at_call 120; refine hfi.mono ?_; rintro e w1 ⟨rfl, rfl⟩)
      | (go_at_call 121; refine hgr.mono ?_; rintro e w2 ⟨rfl, hb2⟩; have HB2 := Hid.in hb2; clear hb2))
    generalize w.alloc (.cells #[.int .u8 0, .int .u8 0, .int .u8 0, .int .u8 0] 92) = w1 at *
    have HB3 := Hid.in (below_alloc HB2.out (.cells #[.int .u8 f0, .int .u8 f1, .int .u8 f2, .int .u8 f3] 92))
    have HN3 := Hid.in (Blk.new w2 92 #[.int .u8 f0, .int .u8 f1, .int .u8 f2, .int .u8 f3])
    generalize w2.alloc (.cells #[.int .u8 f0, .int .u8 f1, .int .u8 f2, .int .u8 f3] 92) = w3 at *
    generalize w2.heap.size = g2 at *
    have HZ3 := Hid.in (HZ1.out.grow HB3.out)
    have HR3 := Hid.in (HR1.out.below HB3.out)
    have HW3 := Hid.in (below_step HB1.out HB3.out)
    clear hfi hgr HB2 HB3 HZ1 HR1 HB1 hd
    go_wp2_with fail
    go_loopw [15, 16, 17] (fun vo vp vi wr => ∃ (i : Nat) (pt : Bool), vi = .int .i64 i ∧ i ≤ n ∧ vp = .bool pt ∧ LOwn 94 wr w3.heap.size vo (outL k ⟨f0, f1, f2, f3⟩ L i pt) ∧ OutP k L i pt ∧ Below w3.heap.size w3 wr) (fun _ _ vi _ => n - (intOf vi).toNat)
    case atStart => exact ⟨0, false, rfl, Nat.zero_le _, rfl, LOwn.nil _ _ _, (fun x hx => by simp at hx), below_self _⟩
    case round =>
      obtain ⟨i, pt, rfl, hi, rfl, ho, hP, hb⟩ := hrel
      have HO := Hid.in ho
      have HP := Hid.in hP
      have HB := Hid.in hb
      clear ho hP hb
      have hsz := HB.out.size
      by_cases hlt : i < n
      · have hiL : i < L.length := by rw [HN.out]; exact hlt
        have HSM : Hid (∀ pt, (outL k ⟨f0, f1, f2, f3⟩ L i pt).length ≤ 1048575) := fun pt => out_small (by rw [HN.out]; exact hn6) pt
        obtain ⟨b, o, rfl, hcc⟩ := (HR3.out.below HB.out).five (by omega)
        obtain ⟨c0, c1, c2, c3, c4⟩ := hcc i hiL
        have HT : Hid (L.take (i + 1) = L.take i ++ [L[i]]) := List.take_succ_eq_append_getElem hiL
        have HRI : Hid (Ris (L.take i)) := List.Pairwise.sublist (List.take_sublist i L) HL.out
        have HAF : Hid (∀ y ∈ L.take i, y.g < L[i].g) := fun y hy => by
          obtain ⟨j, hj, rfl⟩ := List.getElem_of_mem hy
          rw [List.length_take] at hj
          rw [List.getElem_take]
          exact List.pairwise_iff_getElem.1 HL.out j i (by omega) hiL (by omega)
        clear hcc
        obtain ⟨x, hxi⟩ : ∃ x, L[i] = x := ⟨_, rfl⟩
        rw [hxi] at c0 c1 c2 c3 c4 HT HAF
        have HXI := Hid.in hxi
        clear hxi
        have HXN := Hid.in (news5 wr x 94)
        obtain ⟨xg, xa, xb, xc, xd⟩ := x
        dsimp only at c0 c1 c2 c3 c4
        have d0 : wr.cell? ⟨g2, 0, none⟩ = some (.int .u8 f0) := (HN3.out.grow HB.out).cell 0
        have d1 : wr.cell? ⟨g2, 1, none⟩ = some (.int .u8 f1) := (HN3.out.grow HB.out).cell 1
        have d2 : wr.cell? ⟨g2, 2, none⟩ = some (.int .u8 f2) := (HN3.out.grow HB.out).cell 2
        have d3 : wr.cell? ⟨g2, 3, none⟩ = some (.int .u8 f3) := (HN3.out.grow HB.out).cell 3
        cases pt with
        | false =>
          by_cases hge : (k : Int) ≤ xg
          · have HFN := Hid.in (news5 wr ⟨k, ⟨f0, f1, f2, f3⟩⟩ 94)
            have g1 : decide ((k : Int) ≤ xg) = true := decide_eq_true hge
            have HP6 : Hid (OutP k L (i + 1) true) := ⟨_, by rw [HT.out]; exact List.mem_append_right _ (List.mem_singleton.2 rfl), hge⟩
            have HEA := Hid.in (takL_at (f := ⟨f0, f1, f2, f3⟩) (y := ⟨xg, ⟨xa, xb, xc, xd⟩⟩) HP.out hge)
            go_wp2_with (at_builtin; refine Hid.out ?_)
            refine Lib.hid ?_
            refine lpush Tryz.elemLine _ rfl _ _ rfl w3.heap.size _ _ rfl (HO.out.alloc _) ⟨wr.heap.size, 0, none⟩ 1 ⟨k, ⟨f0, f1, f2, f3⟩⟩ rfl HFN.out (Nat.le_trans (HSM.out _) (by decide)) (by decide) (by rw [size_one]; omega) ?_
            intro v6 w6 hT6 _ hb6
            have HT6 := Hid.in hT6
            have HB6 := Hid.in (hb6 w3 (below_alloc HB.out _))
            clear hT6 hb6 d0 d1 d2 d3 c0 c1 c2 c3 c4
            obtain ⟨b', o', e', hcc'⟩ := (HR3.out.below HB6.out).five (by omega)
            injection e' with e'
            injection e' with e1' e2' _
            subst e1' e2'
            obtain ⟨c0, c1, c2, c3, c4⟩ := hcc' i hiL
            have HSM6 : Hid ((outL k ⟨f0, f1, f2, f3⟩ L i false ++ [(⟨k, ⟨f0, f1, f2, f3⟩⟩ : Ln)]).length ≤ 1048576) := by
              have h := HSM.out false
              rw [List.length_append]
              have h2 : (outL k ⟨f0, f1, f2, f3⟩ L i false).length + [(⟨k, ⟨f0, f1, f2, f3⟩⟩ : Ln)].length ≤ 1048576 := by simp; omega
              exact h2
            clear hcc'
            have hsz6 := HB6.out.size
            have HLX : Hid (L[i] = ⟨xg, ⟨xa, xb, xc, xd⟩⟩) := HXI.out
            rw [HLX.out] at c0 c1 c2 c3 c4
            dsimp only at c0 c1 c2 c3 c4
            by_cases heq : xg = (k : Int)
            · have HE6 : Hid (outL k ⟨f0, f1, f2, f3⟩ L (i + 1) true = outL k ⟨f0, f1, f2, f3⟩ L i false ++ [⟨k, ⟨f0, f1, f2, f3⟩⟩]) := by
                show takL k _ (L.take (i + 1)) = L.take i ++ _
                rw [HT.out, HEA.out, if_pos heq]
              subst heq
              have g2' : ((k : Int) != (k : Int)) = false := by simp
              go_wp2_with fail
              go_roundw
              case rel => exact ⟨i + 1, true, by go_num, by omega, rfl, by rw [HE6.out]; exact HT6.out, HP6.out, HB6.out⟩
              case measure => simp [intOf]; omega
            · have HE6 : Hid (outL k ⟨f0, f1, f2, f3⟩ L (i + 1) true = (outL k ⟨f0, f1, f2, f3⟩ L i false ++ [⟨k, ⟨f0, f1, f2, f3⟩⟩]) ++ [⟨xg, ⟨xa, xb, xc, xd⟩⟩]) := by
                show takL k _ (L.take (i + 1)) = (L.take i ++ _) ++ _
                rw [HT.out, HEA.out, if_neg heq, List.append_assoc]
                rfl
              have g2' : (xg != (k : Int)) = true := by simpa using heq
              have HXN6 := Hid.in (news5 w6 ⟨xg, ⟨xa, xb, xc, xd⟩⟩ 94)
              go_wp2_with (at_builtin; refine Hid.out ?_)
              refine Lib.hid ?_
              refine lpush Tryz.elemLine _ rfl _ _ rfl w3.heap.size _ _ rfl (HT6.out.alloc _) ⟨w6.heap.size, 0, none⟩ 1 ⟨xg, ⟨xa, xb, xc, xd⟩⟩ rfl HXN6.out HSM6.out (by decide) (by rw [size_one]; omega) ?_
              intro v7 w7 hT7 _ hb7
              have HT7 := Hid.in hT7
              have HB7 := Hid.in (hb7 w3 (below_alloc HB6.out _))
              clear hT7 hb7
              go_wp2_with fail
              go_roundw
              case rel => exact ⟨i + 1, true, by go_num, by omega, rfl, by rw [HE6.out]; exact HT7.out, HP6.out, HB7.out⟩
              case measure => simp [intOf]; omega
          · have hlo : xg < (k : Int) := by omega
            have g1 : decide ((k : Int) ≤ xg) = false := decide_eq_false hge
            have g2' : (xg != (k : Int)) = true := by simp; omega
            go_wp2_with (at_builtin; refine Hid.out ?_)
            refine Lib.hid ?_
            refine lpush Tryz.elemLine _ rfl _ _ rfl w3.heap.size _ _ rfl (HO.out.alloc _) ⟨wr.heap.size, 0, none⟩ 1 ⟨xg, ⟨xa, xb, xc, xd⟩⟩ rfl HXN.out (Nat.le_trans (HSM.out _) (by decide)) (by decide) (by rw [size_one]; omega) ?_
            intro v6 w6 hT6 _ hb6
            have HT6 := Hid.in hT6
            have HB6 := Hid.in (hb6 w3 (below_alloc HB.out _))
            have HP6 : Hid (OutP k L (i + 1) false) := fun y hy => by
              rw [HT.out] at hy
              rcases List.mem_append.1 hy with hy | hy
              · exact HP.out y hy
              · rw [List.mem_singleton.1 hy]; exact hlo
            have HE6 : Hid (outL k ⟨f0, f1, f2, f3⟩ L (i + 1) false = outL k ⟨f0, f1, f2, f3⟩ L i false ++ [⟨xg, ⟨xa, xb, xc, xd⟩⟩]) := HT.out
            clear hT6 hb6 HP
            go_wp2_with fail
            go_roundw
            case rel => exact ⟨i + 1, false, by go_num, by omega, rfl, by rw [HE6.out]; exact HT6.out, HP6.out, HB6.out⟩
            case measure => simp [intOf]; omega
        | true =>
          have hgt : (k : Int) < xg := by
            obtain ⟨y, hy, hy2⟩ := HP.out
            have := HAF.out y hy
            dsimp only at this
            omega
          have g1 : decide ((k : Int) ≤ xg) = true := decide_eq_true (by omega)
          have g2' : (xg != (k : Int)) = true := by simp; omega
          go_wp2_with (at_builtin; refine Hid.out ?_)
          refine Lib.hid ?_
          refine lpush Tryz.elemLine _ rfl _ _ rfl w3.heap.size _ _ rfl (HO.out.alloc _) ⟨wr.heap.size, 0, none⟩ 1 ⟨xg, ⟨xa, xb, xc, xd⟩⟩ rfl HXN.out (Nat.le_trans (HSM.out _) (by decide)) (by decide) (by rw [size_one]; omega) ?_
          intro v6 w6 hT6 _ hb6
          have HT6 := Hid.in hT6
          have HB6 := Hid.in (hb6 w3 (below_alloc HB.out _))
          have HP6 : Hid (OutP k L (i + 1) true) := by
            obtain ⟨y, hy, hy2⟩ := HP.out
            exact ⟨y, by rw [HT.out]; exact List.mem_append_left _ hy, hy2⟩
          have HE6 : Hid (outL k ⟨f0, f1, f2, f3⟩ L (i + 1) true = outL k ⟨f0, f1, f2, f3⟩ L i true ++ [⟨xg, ⟨xa, xb, xc, xd⟩⟩]) := by
            show takL k _ (L.take (i + 1)) = takL k _ (L.take i) ++ _
            rw [HT.out]
            exact takL_snoc hgt HRI.out HP.out
          clear hT6 hb6 HP
          go_wp2_with fail
          go_roundw
          case rel => exact ⟨i + 1, true, by go_num, by omega, rfl, by rw [HE6.out]; exact HT6.out, HP6.out, HB6.out⟩
          case measure => simp [intOf]; omega
      · have HEI : Hid (L.take i = L) := List.take_of_length_le (by rw [HN.out]; omega)
        have HW := Hid.in (below_step HW3.out HB.out)
        have HWS := Hid.in HW3.out.size
        cases pt with
        | true =>
          have HE6 : Hid (outL k ⟨f0, f1, f2, f3⟩ L i true = takL k ⟨f0, f1, f2, f3⟩ L) := by
            show takL k _ (L.take i) = _
            rw [HEI.out]
          rw [HE6.out] at HO
          have HN4 := Hid.in (HN3.out.grow HB.out)
          have HZ4 := Hid.in (HZ3.out.grow HB.out)
          obtain ⟨p9, c9, hv9, -, -, -⟩ := HO.out.shape
          subst hv9
          clear HP HB
          generalize wr = w9 at *
          have d0 : w9.cell? ⟨g2, 0, none⟩ = some (.int .u8 f0) := HN4.out.cell 0
          have d1 : w9.cell? ⟨g2, 1, none⟩ = some (.int .u8 f1) := HN4.out.cell 1
          have d2 : w9.cell? ⟨g2, 2, none⟩ = some (.int .u8 f2) := HN4.out.cell 2
          have d3 : w9.cell? ⟨g2, 3, none⟩ = some (.int .u8 f3) := HN4.out.cell 3
          have z0 := HZ4.out.free 0
          have z1 := HZ4.out.free 1
          have z2 := HZ4.out.free 2
          have z3 := HZ4.out.free 3
          have e0 : w9.cell? ⟨w.heap.size, 0, none⟩ = some (.int .u8 0) := HZ4.out.cell 0
          have e1 : w9.cell? ⟨w.heap.size, 1, none⟩ = some (.int .u8 0) := HZ4.out.cell 1
          have e2 : w9.cell? ⟨w.heap.size, 2, none⟩ = some (.int .u8 0) := HZ4.out.cell 2
          have e3 : w9.cell? ⟨w.heap.size, 3, none⟩ = some (.int .u8 0) := HZ4.out.cell 3
          have HBB := Hid.in (below_draws HW.out 1)
          have HLT : Hid (w.heap.size < w3.heap.size) := HZ3.out.lt
          go_upto_region 19 with fail
          go_region_law (fail)
          all_goals
            go_wp2_with fail
            refine bodyPost_ret (v := .tuple #[.slice p9 (takL k ⟨f0, f1, f2, f3⟩ L).length c9, fV ⟨f0, f1, f2, f3⟩, .bool false, .int .i64 0]) (by simp [results, Tryz.results90, go_sem, fV, e0, e1, e2, e3]) rfl ⟨_, rfl, ?_, (((HBB.out.setCell (Nat.le_refl _) _).setCell (Nat.le_refl _) _).setCell (Nat.le_refl _) _).setCell (Nat.le_refl _) _⟩
            exact own_far (HO.out.drewN 1) HWS.out HLT.out _ _ _ _ _ _ _ _
        | false =>
          have HE6 : Hid (takL k ⟨f0, f1, f2, f3⟩ L = outL k ⟨f0, f1, f2, f3⟩ L i false ++ [⟨k, ⟨f0, f1, f2, f3⟩⟩]) := by
            show _ = L.take i ++ _
            have h := HP.out
            rw [HEI.out]
            refine takL_end fun x hx => h x ?_
            rw [HEI.out]; exact hx
          have HFN := Hid.in (news5 wr ⟨k, ⟨f0, f1, f2, f3⟩⟩ 94)
          have hsm := out_small (g := k) (f := ⟨f0, f1, f2, f3⟩) (i := i) (show L.length ≤ 1000000 by rw [HN.out]; exact hn6) false
          have HSM := Hid.in hsm
          clear hsm
          have d0 : wr.cell? ⟨g2, 0, none⟩ = some (.int .u8 f0) := (HN3.out.grow HB.out).cell 0
          have d1 : wr.cell? ⟨g2, 1, none⟩ = some (.int .u8 f1) := (HN3.out.grow HB.out).cell 1
          have d2 : wr.cell? ⟨g2, 2, none⟩ = some (.int .u8 f2) := (HN3.out.grow HB.out).cell 2
          have d3 : wr.cell? ⟨g2, 3, none⟩ = some (.int .u8 f3) := (HN3.out.grow HB.out).cell 3
          go_wp2_with (at_builtin; refine Hid.out ?_)
          refine Lib.hid ?_
          refine lpush Tryz.elemLine _ rfl _ _ rfl w3.heap.size _ _ rfl (HO.out.alloc _) ⟨wr.heap.size, 0, none⟩ 1 ⟨k, ⟨f0, f1, f2, f3⟩⟩ rfl HFN.out (Nat.le_trans HSM.out (by decide)) (by decide) (by rw [size_one]; omega) ?_
          intro v6 w6 hT6 _ hb6
          rw [← HE6.out] at hT6
          obtain ⟨p9, c9, hv9, -, -, -⟩ := hT6.shape
          subst hv9
          have HB6 := Hid.in (hb6 w3 (below_alloc HB.out _))
          have HO9 := Hid.in hT6
          have HN4 := Hid.in (HN3.out.grow HB6.out)
          have HZ4 := Hid.in (HZ3.out.grow HB6.out)
          have HW9 := Hid.in (below_step HW3.out HB6.out)
          clear hT6 hb6 HP HB HO HW d0 d1 d2 d3 HB6
          have HO := Hid.in HO9.out
          have HW := Hid.in HW9.out
          clear HO9 HW9
          generalize w6 = w9 at *
          have d0 : w9.cell? ⟨g2, 0, none⟩ = some (.int .u8 f0) := HN4.out.cell 0
          have d1 : w9.cell? ⟨g2, 1, none⟩ = some (.int .u8 f1) := HN4.out.cell 1
          have d2 : w9.cell? ⟨g2, 2, none⟩ = some (.int .u8 f2) := HN4.out.cell 2
          have d3 : w9.cell? ⟨g2, 3, none⟩ = some (.int .u8 f3) := HN4.out.cell 3
          have z0 := HZ4.out.free 0
          have z1 := HZ4.out.free 1
          have z2 := HZ4.out.free 2
          have z3 := HZ4.out.free 3
          have e0 : w9.cell? ⟨w.heap.size, 0, none⟩ = some (.int .u8 0) := HZ4.out.cell 0
          have e1 : w9.cell? ⟨w.heap.size, 1, none⟩ = some (.int .u8 0) := HZ4.out.cell 1
          have e2 : w9.cell? ⟨w.heap.size, 2, none⟩ = some (.int .u8 0) := HZ4.out.cell 2
          have e3 : w9.cell? ⟨w.heap.size, 3, none⟩ = some (.int .u8 0) := HZ4.out.cell 3
          have HBB := Hid.in (below_draws HW.out 1)
          have HLT : Hid (w.heap.size < w3.heap.size) := HZ3.out.lt
          go_upto_region 19 with fail
          go_region_law (fail)
          all_goals
            go_wp2_with fail
            refine bodyPost_ret (v := .tuple #[.slice p9 (takL k ⟨f0, f1, f2, f3⟩ L).length c9, fV ⟨f0, f1, f2, f3⟩, .bool false, .int .i64 0]) (by simp [results, Tryz.results90, go_sem, fV, e0, e1, e2, e3]) rfl ⟨_, rfl, ?_, (((HBB.out.setCell (Nat.le_refl _) _).setCell (Nat.le_refl _) _).setCell (Nat.le_refl _) _).setCell (Nat.le_refl _) _⟩
            exact own_far (HO.out.drewN 1) HWS.out HLT.out _ _ _ _ _ _ _ _

end Go.Proofs.YtnpaijbkhmnfpaaGreat

/- What Take answers, as lists. -/
namespace Go.Proofs.YtnpaijbkhmnfpaaGreat
open Go.RowKit Go.Maps

/-- what a list of granules may hold -/
def LnW (L : List Ln) : Prop := ∀ x ∈ L, i64W x.g ∧ F8 x.f
theorem granF8 {xs : List Int} (h : Byt xs) (k : Nat) : F8 (granF xs k) := ⟨h _, h _, h _, h _⟩
theorem findL_mem {L : List Ln} {g : Int} {f : F4} (h : findL L g = some f) : ∃ x ∈ L, x.f = f := by
  unfold findL at h
  rw [Option.map_eq_some_iff] at h
  obtain ⟨x, h1, h2⟩ := h
  exact ⟨x, List.mem_of_find?_eq_some h1, h2⟩
theorem takR_held {L : List Ln} {xs : List Int} {g : Int} {f : F4} (h : findL L g = some f) : takR L xs g true = ⟨f, true, 0, L⟩ := by unfold takR; rw [h]
theorem takR_in {L : List Ln} {xs : List Int} {g : Int} {hold : Bool} (h : ((findL L g).isSome && hold) = false) (hg : 0 ≤ g ∧ g < 16384) : takR L xs g hold = ⟨granF xs g.toNat, false, 0, takL g (granF xs g.toNat) L⟩ := by
  unfold takR
  split
  · rename_i f e; simp [e] at h
  · rw [if_pos hg]
theorem takR_out {L : List Ln} {xs : List Int} {g : Int} {hold : Bool} (h : ((findL L g).isSome && hold) = false) (hg : ¬ (0 ≤ g ∧ g < 16384)) : takR L xs g hold = ⟨zF, false, 2, L⟩ := by
  unfold takR
  split
  · rename_i f e; simp [e] at h
  · rw [if_neg hg]
theorem takR_cases (L : List Ln) (g : Int) (hold : Bool) : (∃ f, findL L g = some f ∧ hold = true) ∨ ((findL L g).isSome && hold) = false := by
  cases h : findL L g with
  | none => exact .inr rfl
  | some f =>
    cases hold with
    | true => exact .inl ⟨f, rfl, rfl⟩
    | false => exact .inr rfl
theorem takR_ok {L : List Ln} {xs : List Int} {g : Int} {hold : Bool} (h : LnW L) (hx : Byt xs) (hg : i64W g) : F8 (takR L xs g hold).f ∧ LnW (takR L xs g hold).L ∧ (takR L xs g hold).L.length ≤ L.length + 1 := by
  rcases takR_cases L g hold with ⟨f, hf, rfl⟩ | hno
  · rw [takR_held hf]
    obtain ⟨x, hx1, rfl⟩ := findL_mem hf
    exact ⟨(h x hx1).2, h, Nat.le_succ _⟩
  · by_cases hi : 0 ≤ g ∧ g < 16384
    · rw [takR_in hno hi]
      refine ⟨granF8 hx _, fun y hy => ?_, takL_len _ _ _⟩
      rcases takL_mem hy with rfl | hy
      · exact ⟨hg, granF8 hx _⟩
      · exact h y hy
    · rw [takR_out hno hi]
      exact ⟨⟨⟨Int.le_refl 0, by show (0 : Int) ≤ 255; decide⟩, ⟨Int.le_refl 0, by show (0 : Int) ≤ 255; decide⟩, ⟨Int.le_refl 0, by show (0 : Int) ≤ 255; decide⟩, ⟨Int.le_refl 0, by show (0 : Int) ≤ 255; decide⟩⟩, h, Nat.le_succ _⟩

end Go.Proofs.YtnpaijbkhmnfpaaGreat

/- The table of shapes (isa.shapes): what it holds at each op, and that the call answers it. -/
namespace Go.Proofs.YtnpaijbkhmnfpaaGreat
open Go.RowKit

/-- an op's name -/
def nm : Nat → ByteArray
  | 1 => ⟨#[104, 97, 108, 116]⟩
  | 2 => ⟨#[110, 111, 112]⟩
  | 3 => ⟨#[110, 111, 112, 53]⟩
  | 4 => ⟨#[98, 114, 107]⟩
  | 5 => ⟨#[109, 111, 118, 105]⟩
  | 6 => ⟨#[109, 111, 118]⟩
  | 7 => ⟨#[97, 100, 100]⟩
  | 8 => ⟨#[115, 117, 98]⟩
  | 9 => ⟨#[98, 122]⟩
  | 10 => ⟨#[98, 110, 122]⟩
  | 11 => ⟨#[106, 109, 112]⟩
  | 12 => ⟨#[99, 97, 108, 108]⟩
  | 13 => ⟨#[114, 101, 116]⟩
  | 14 => ⟨#[108, 111, 97, 100]⟩
  | 15 => ⟨#[115, 116, 111, 114, 101]⟩
  | 16 => ⟨#[111, 117, 116]⟩
  | _ => ⟨#[]⟩
/-- an op's bytes that are always the same -/
def cdL : Nat → List Int
  | 1 => [0]
  | 2 => [144]
  | 3 => [15, 31, 68, 0, 0]
  | 4 => [204]
  | 5 => [184]
  | 6 => [137]
  | 7 => [1]
  | 8 => [41]
  | 9 => [116]
  | 10 => [117]
  | 11 => [233]
  | 12 => [232]
  | 13 => [195]
  | 14 => [139]
  | 15 => [136]
  | 16 => [230]
  | _ => []
def cd : Nat → ByteArray
  | 1 => ⟨#[0]⟩
  | 2 => ⟨#[144]⟩
  | 3 => ⟨#[15, 31, 68, 0, 0]⟩
  | 4 => ⟨#[204]⟩
  | 5 => ⟨#[184]⟩
  | 6 => ⟨#[137]⟩
  | 7 => ⟨#[1]⟩
  | 8 => ⟨#[41]⟩
  | 9 => ⟨#[116]⟩
  | 10 => ⟨#[117]⟩
  | 11 => ⟨#[233]⟩
  | 12 => ⟨#[232]⟩
  | 13 => ⟨#[195]⟩
  | 14 => ⟨#[139]⟩
  | 15 => ⟨#[136]⟩
  | 16 => ⟨#[230]⟩
  | _ => ⟨#[]⟩
/-- how many registers -/
def rg : Nat → Nat
  | 5 => 1
  | 6 => 2
  | 7 => 2
  | 8 => 2
  | 9 => 1
  | 10 => 1
  | 14 => 1
  | 15 => 1
  | 16 => 1
  | _ => 0
/-- 0: no number, 1: any, 2: an address -/
def kd : Nat → Int
  | 5 => 1
  | 9 => 1
  | 10 => 1
  | 11 => 1
  | 12 => 1
  | 14 => 2
  | 15 => 2
  | _ => 0
/-- an op's first byte -/
def fb (o : Nat) : Int := (cdL o).getD 0 0

def shpV (o : Nat) : Array Value := #[.string (nm o), .string (cd o), .int .i64 (rg o), .int .u8 (kd o)]
def tab : Array Value := ((List.range 17).flatMap fun o => (shpV o).toList).toArray

theorem tab_size : tab.size = 68 := by kernel_rfl
theorem tab_one : tab.all (·.oneCell') = true := by kernel_rfl

theorem lt17 {P : Nat → Prop} (h : ∀ k : Fin 17, P k) : ∀ o, o < 17 → P o := fun o ho => h ⟨o, ho⟩

theorem Tryz.zero175 : (Tryz.prog.info? 175).map (fun i => (i.zero, i.size)) = some (some (.agg (((List.range 17).flatMap fun _ => (shpV 0).toList).toArray)), 68) := by kernel_rfl
theorem Tryz.size175 : (Tryz.prog.info? 175).map (·.size) = some 68 := by kernel_rfl
theorem build50 (w : World) : (Instr.build 175 #[(1, .agg (shpV 1)), (2, .agg (shpV 2)), (3, .agg (shpV 3)), (4, .agg (shpV 4)), (5, .agg (shpV 5)), (6, .agg (shpV 6)), (7, .agg (shpV 7)), (8, .agg (shpV 8)), (9, .agg (shpV 9)), (10, .agg (shpV 10)), (11, .agg (shpV 11)), (12, .agg (shpV 12)), (13, .agg (shpV 13)), (14, .agg (shpV 14)), (15, .agg (shpV 15)), (16, .agg (shpV 16))]).run Tryz.prog w = .ok (.agg tab) w := by kernel_rfl

theorem idx_any : ∀ o : Nat, o < 17 → ∀ w, (Instr.index 175 (.agg tab) (.int .u8 o)).run Tryz.prog w = .ok (.agg #[.string (nm o), .string (cd o), .int .i64 (rg o), .int .u8 (kd o)]) w
  | 0, _ => fun _ => by kernel_rfl
  | 1, _ => fun _ => by kernel_rfl
  | 2, _ => fun _ => by kernel_rfl
  | 3, _ => fun _ => by kernel_rfl
  | 4, _ => fun _ => by kernel_rfl
  | 5, _ => fun _ => by kernel_rfl
  | 6, _ => fun _ => by kernel_rfl
  | 7, _ => fun _ => by kernel_rfl
  | 8, _ => fun _ => by kernel_rfl
  | 9, _ => fun _ => by kernel_rfl
  | 10, _ => fun _ => by kernel_rfl
  | 11, _ => fun _ => by kernel_rfl
  | 12, _ => fun _ => by kernel_rfl
  | 13, _ => fun _ => by kernel_rfl
  | 14, _ => fun _ => by kernel_rfl
  | 15, _ => fun _ => by kernel_rfl
  | 16, _ => fun _ => by kernel_rfl
  | n + 17, h => absurd h (by omega)
theorem cd_size : ∀ o : Nat, o < 17 → (cd o).size = (cdL o).length
  | 0, _ => rfl
  | 1, _ => rfl
  | 2, _ => rfl
  | 3, _ => rfl
  | 4, _ => rfl
  | 5, _ => rfl
  | 6, _ => rfl
  | 7, _ => rfl
  | 8, _ => rfl
  | 9, _ => rfl
  | 10, _ => rfl
  | 11, _ => rfl
  | 12, _ => rfl
  | 13, _ => rfl
  | 14, _ => rfl
  | 15, _ => rfl
  | 16, _ => rfl
  | n + 17, h => absurd h (by omega)
theorem rg_le : ∀ o : Nat, o < 17 → rg o ≤ 2
  | 0, _ => by decide
  | 1, _ => by decide
  | 2, _ => by decide
  | 3, _ => by decide
  | 4, _ => by decide
  | 5, _ => by decide
  | 6, _ => by decide
  | 7, _ => by decide
  | 8, _ => by decide
  | 9, _ => by decide
  | 10, _ => by decide
  | 11, _ => by decide
  | 12, _ => by decide
  | 13, _ => by decide
  | 14, _ => by decide
  | 15, _ => by decide
  | 16, _ => by decide
  | n + 17, h => absurd h (by omega)
theorem kd_in : ∀ o : Nat, o < 17 → kd o = 0 ∨ kd o = 1 ∨ kd o = 2
  | 0, _ => by decide
  | 1, _ => by decide
  | 2, _ => by decide
  | 3, _ => by decide
  | 4, _ => by decide
  | 5, _ => by decide
  | 6, _ => by decide
  | 7, _ => by decide
  | 8, _ => by decide
  | 9, _ => by decide
  | 10, _ => by decide
  | 11, _ => by decide
  | 12, _ => by decide
  | 13, _ => by decide
  | 14, _ => by decide
  | 15, _ => by decide
  | 16, _ => by decide
  | n + 17, h => absurd h (by omega)
theorem cdL_len : ∀ o : Nat, o < 17 → (cdL o).length ≤ 5
  | 0, _ => by decide
  | 1, _ => by decide
  | 2, _ => by decide
  | 3, _ => by decide
  | 4, _ => by decide
  | 5, _ => by decide
  | 6, _ => by decide
  | 7, _ => by decide
  | 8, _ => by decide
  | 9, _ => by decide
  | 10, _ => by decide
  | 11, _ => by decide
  | 12, _ => by decide
  | 13, _ => by decide
  | 14, _ => by decide
  | 15, _ => by decide
  | 16, _ => by decide
  | n + 17, h => absurd h (by omega)
theorem cdL_pos : ∀ o : Nat, 1 ≤ o → o < 17 → 0 < (cdL o).length
  | 0, h, _ => absurd h (by decide)
  | 1, _, _ => by decide
  | 2, _, _ => by decide
  | 3, _, _ => by decide
  | 4, _, _ => by decide
  | 5, _, _ => by decide
  | 6, _, _ => by decide
  | 7, _, _ => by decide
  | 8, _, _ => by decide
  | 9, _, _ => by decide
  | 10, _, _ => by decide
  | 11, _, _ => by decide
  | 12, _, _ => by decide
  | 13, _, _ => by decide
  | 14, _, _ => by decide
  | 15, _, _ => by decide
  | 16, _, _ => by decide
  | n + 17, _, h => absurd h (by omega)
theorem tab_name : ∀ o : Nat, o < 17 → tab[4 * o]? = some (.string (nm o))
  | 0, _ => by kernel_rfl
  | 1, _ => by kernel_rfl
  | 2, _ => by kernel_rfl
  | 3, _ => by kernel_rfl
  | 4, _ => by kernel_rfl
  | 5, _ => by kernel_rfl
  | 6, _ => by kernel_rfl
  | 7, _ => by kernel_rfl
  | 8, _ => by kernel_rfl
  | 9, _ => by kernel_rfl
  | 10, _ => by kernel_rfl
  | 11, _ => by kernel_rfl
  | 12, _ => by kernel_rfl
  | 13, _ => by kernel_rfl
  | 14, _ => by kernel_rfl
  | 15, _ => by kernel_rfl
  | 16, _ => by kernel_rfl
  | n + 17, h => absurd h (by omega)
theorem tab_code : ∀ o : Nat, o < 17 → tab[4 * o + 1]? = some (.string (cd o))
  | 0, _ => by kernel_rfl
  | 1, _ => by kernel_rfl
  | 2, _ => by kernel_rfl
  | 3, _ => by kernel_rfl
  | 4, _ => by kernel_rfl
  | 5, _ => by kernel_rfl
  | 6, _ => by kernel_rfl
  | 7, _ => by kernel_rfl
  | 8, _ => by kernel_rfl
  | 9, _ => by kernel_rfl
  | 10, _ => by kernel_rfl
  | 11, _ => by kernel_rfl
  | 12, _ => by kernel_rfl
  | 13, _ => by kernel_rfl
  | 14, _ => by kernel_rfl
  | 15, _ => by kernel_rfl
  | 16, _ => by kernel_rfl
  | n + 17, h => absurd h (by omega)
theorem code_at : ∀ o : Nat, 1 ≤ o → o < 17 → ∀ w, (Instr.index 9 (.string (cd o)) (.int .i64 0)).run Tryz.prog w = .ok (.int .u8 (fb o)) w
  | 0, h, _ => absurd h (by decide)
  | 1, _, _ => fun _ => by kernel_rfl
  | 2, _, _ => fun _ => by kernel_rfl
  | 3, _, _ => fun _ => by kernel_rfl
  | 4, _, _ => fun _ => by kernel_rfl
  | 5, _, _ => fun _ => by kernel_rfl
  | 6, _, _ => fun _ => by kernel_rfl
  | 7, _, _ => fun _ => by kernel_rfl
  | 8, _, _ => fun _ => by kernel_rfl
  | 9, _, _ => fun _ => by kernel_rfl
  | 10, _, _ => fun _ => by kernel_rfl
  | 11, _, _ => fun _ => by kernel_rfl
  | 12, _, _ => fun _ => by kernel_rfl
  | 13, _, _ => fun _ => by kernel_rfl
  | 14, _, _ => fun _ => by kernel_rfl
  | 15, _, _ => fun _ => by kernel_rfl
  | 16, _, _ => fun _ => by kernel_rfl
  | n + 17, _, h => absurd h (by omega)
theorem cd_strs : ∀ o : Nat, o < 17 → cd o = strOfNums (cdL o)
  | 0, _ => by kernel_rfl
  | 1, _ => by kernel_rfl
  | 2, _ => by kernel_rfl
  | 3, _ => by kernel_rfl
  | 4, _ => by kernel_rfl
  | 5, _ => by kernel_rfl
  | 6, _ => by kernel_rfl
  | 7, _ => by kernel_rfl
  | 8, _ => by kernel_rfl
  | 9, _ => by kernel_rfl
  | 10, _ => by kernel_rfl
  | 11, _ => by kernel_rfl
  | 12, _ => by kernel_rfl
  | 13, _ => by kernel_rfl
  | 14, _ => by kernel_rfl
  | 15, _ => by kernel_rfl
  | 16, _ => by kernel_rfl
  | n + 17, h => absurd h (by omega)
theorem nm_pos : ∀ o : Nat, 1 ≤ o → o < 17 → nm o ≠ ⟨#[]⟩
  | 0, h, _ => absurd h (by decide)
  | 1, _, _ => by decide
  | 2, _, _ => by decide
  | 3, _, _ => by decide
  | 4, _, _ => by decide
  | 5, _, _ => by decide
  | 6, _, _ => by decide
  | 7, _, _ => by decide
  | 8, _, _ => by decide
  | 9, _, _ => by decide
  | 10, _, _ => by decide
  | 11, _, _ => by decide
  | 12, _, _ => by decide
  | 13, _, _ => by decide
  | 14, _, _ => by decide
  | 15, _, _ => by decide
  | 16, _, _ => by decide
  | n + 17, _, h => absurd h (by omega)
theorem fb_in : ∀ o : Nat, o < 17 → 0 ≤ fb o ∧ fb o ≤ 255
  | 0, _ => by decide
  | 1, _ => by decide
  | 2, _ => by decide
  | 3, _ => by decide
  | 4, _ => by decide
  | 5, _ => by decide
  | 6, _ => by decide
  | 7, _ => by decide
  | 8, _ => by decide
  | 9, _ => by decide
  | 10, _ => by decide
  | 11, _ => by decide
  | 12, _ => by decide
  | 13, _ => by decide
  | 14, _ => by decide
  | 15, _ => by decide
  | 16, _ => by decide
  | n + 17, h => absurd h (by omega)
theorem cd_byte : ∀ o : Nat, o < 17 → ∀ i (h : i < (cd o).size), (((cd o)[i]).toNat : Int) = (cdL o).getD i 0
  | 0, _ => by decide
  | 1, _ => by decide
  | 2, _ => by decide
  | 3, _ => by decide
  | 4, _ => by decide
  | 5, _ => by decide
  | 6, _ => by decide
  | 7, _ => by decide
  | 8, _ => by decide
  | 9, _ => by decide
  | 10, _ => by decide
  | 11, _ => by decide
  | 12, _ => by decide
  | 13, _ => by decide
  | 14, _ => by decide
  | 15, _ => by decide
  | 16, _ => by decide
  | n + 17, h => absurd h (by omega)

theorem fb_inj : ∀ o, 1 ≤ o → o < 17 → ∀ p, 1 ≤ p → p < 17 → fb o = fb p → o = p := by
  have h : ∀ o : Fin 17, ∀ p : Fin 17, 1 ≤ o.1 → 1 ≤ p.1 → fb o.1 = fb p.1 → o.1 = p.1 := by decide +kernel
  exact fun o h1 h2 p h3 h4 => h ⟨o, h2⟩ ⟨p, h4⟩ h1 h3
theorem nm_inj : ∀ o, 1 ≤ o → o < 17 → ∀ p, 1 ≤ p → p < 17 → nm o = nm p → o = p := by
  have h : ∀ o : Fin 17, ∀ p : Fin 17, 1 ≤ o.1 → 1 ≤ p.1 → nm o.1 = nm p.1 → o.1 = p.1 := by decide +kernel
  exact fun o h1 h2 p h3 h4 => h ⟨o, h2⟩ ⟨p, h4⟩ h1 h3
/-- an op's length -/
def lenN (o : Nat) : Nat := (cdL o).length + rg o + if kd o = 0 then 0 else 4

theorem lenN_in : ∀ o : Nat, 1 ≤ o → o < 17 → 1 ≤ lenN o ∧ lenN o ≤ 6
  | 0, h, _ => absurd h (by decide)
  | 1, _, _ => by decide
  | 2, _, _ => by decide
  | 3, _, _ => by decide
  | 4, _, _ => by decide
  | 5, _, _ => by decide
  | 6, _, _ => by decide
  | 7, _, _ => by decide
  | 8, _, _ => by decide
  | 9, _, _ => by decide
  | 10, _, _ => by decide
  | 11, _, _ => by decide
  | 12, _, _ => by decide
  | 13, _, _ => by decide
  | 14, _, _ => by decide
  | 15, _, _ => by decide
  | 16, _, _ => by decide
  | n + 17, _, h => absurd h (by omega)
theorem cl_one : ∀ o : Nat, 1 ≤ o → o < 17 → (1 ≤ rg o ∨ kd o ≠ 0) → (cdL o).length = 1
  | 0, h, _ => absurd h (by decide)
  | 1, _, _ => by decide
  | 2, _, _ => by decide
  | 3, _, _ => by decide
  | 4, _, _ => by decide
  | 5, _, _ => by decide
  | 6, _, _ => by decide
  | 7, _, _ => by decide
  | 8, _, _ => by decide
  | 9, _, _ => by decide
  | 10, _, _ => by decide
  | 11, _, _ => by decide
  | 12, _, _ => by decide
  | 13, _, _ => by decide
  | 14, _, _ => by decide
  | 15, _, _ => by decide
  | 16, _, _ => by decide
  | n + 17, _, h => absurd h (by omega)
end Go.Proofs.YtnpaijbkhmnfpaaGreat

/- isa.shapes answers the table. -/
namespace Go.Proofs.YtnpaijbkhmnfpaaGreat
open Go.RowKit

theorem step_build {ops : Array Oper} {rest : List Oper} {o : Oper} {a : Act} {w : World} {Q : Exit → Act → World → Prop} (hg : o.guard = none) (t : TypeId) (parts : Array (Nat × Operand)) (ho : o.op = .build t parts) (cells : Array Value)
    (hb : Tryz.prog.built t (parts.map fun (i, x) => (i, a.eval x)).toList = some cells)
    (h : wpList Tryz.prog ops Q rest (a.put o.dst (.agg cells)) w) : wpList Tryz.prog ops Q (o :: rest) a w := by
  refine wpList_plain hg fun _ hK => ?_
  unfold Oper.wp execOp
  simp only [ho, Sem.run_bind, run_build w t _ _ hb, Result.andThen_ok]
  exact hK _ _ h

theorem step_store_new {ops : Array Oper} {rest : List Oper} {o : Oper} {a : Act} {w : World} {Q : Exit → Act → World → Prop} {c : Array Value} (hg : o.guard = none) (t : TypeId) (p x : Operand) (ho : o.op = .store t p x) (hd : o.dst = none)
    (hp : a.eval p = .pointer (some ⟨w.heap.size, 0, none⟩)) (c' : Array Value) (hx : a.eval x = .agg c') (hi : (Tryz.prog.info? t).map (·.size) = some c'.size) (hcs : c.size = c'.size) (h1 : c'.all (·.oneCell') = true)
    (h : wpList Tryz.prog ops Q rest a (w.alloc (.cells c' t))) : wpList Tryz.prog ops Q (o :: rest) a (w.alloc (.cells c t)) := by
  refine wpList_plain hg fun _ hK => ?_
  unfold Oper.wp execOp
  have hs := run_storeAt_new (P := Tryz.prog) w t c c' hi hcs h1
  simp only [ho, hp, hx, Sem.run_bind, hs, Result.andThen_ok]
  exact hK _ _ (by rw [hd]; exact h)

theorem act_turn {P : Program} {ops : Array Oper} {Q : Exit → Act → World → Prop} {l : List Oper} {W : World} {A B : Act} (h : A = B) (k : wpList P ops Q l B W) : wpList P ops Q l A W := h ▸ k
theorem Tryz.sizeTab : (Tryz.prog.info? 175).map (·.size) = some tab.size := by rw [tab_size]; exact Tryz.size175
theorem zero_tab : ∃ z : Array Value, z.size = tab.size ∧ ∀ w, (zeroValue 175).run Tryz.prog w = .ok (.agg z) w :=
  ⟨_, by rw [tab_size]; kernel_rfl, (zero_of_info Tryz.zero175).1⟩

set_option maxHeartbeats 400000 in
theorem shapes_any (w : World) :
    Calls Tryz.prog 96 #[] w fun e w' => e = .returned (.agg tab) ∧ Below w.heap.size w w' := by
  obtain ⟨z, hzs, hz⟩ := zero_tab
  have HZ : Hid (z.size = tab.size) := hzs
  clear hzs
  go_enter Tryz.func96, Tryz.ntmps96
  iterate 11 go_step
  refine step_build rfl 174 _ rfl (shpV 1) ?_ ?_
  · kernel_rfl
  refine step_build rfl 174 _ rfl (shpV 2) ?_ ?_
  · kernel_rfl
  refine step_build rfl 174 _ rfl (shpV 3) ?_ ?_
  · kernel_rfl
  refine step_build rfl 174 _ rfl (shpV 4) ?_ ?_
  · kernel_rfl
  refine step_build rfl 174 _ rfl (shpV 5) ?_ ?_
  · kernel_rfl
  refine step_build rfl 174 _ rfl (shpV 6) ?_ ?_
  · kernel_rfl
  refine step_build rfl 174 _ rfl (shpV 7) ?_ ?_
  · kernel_rfl
  refine step_build rfl 174 _ rfl (shpV 8) ?_ ?_
  · kernel_rfl
  refine step_build rfl 174 _ rfl (shpV 9) ?_ ?_
  · kernel_rfl
  refine step_build rfl 174 _ rfl (shpV 10) ?_ ?_
  · kernel_rfl
  refine step_build rfl 174 _ rfl (shpV 11) ?_ ?_
  · kernel_rfl
  refine step_build rfl 174 _ rfl (shpV 12) ?_ ?_
  · kernel_rfl
  refine step_build rfl 174 _ rfl (shpV 13) ?_ ?_
  · kernel_rfl
  refine step_build rfl 174 _ rfl (shpV 14) ?_ ?_
  · kernel_rfl
  refine step_build rfl 174 _ rfl (shpV 15) ?_ ?_
  · kernel_rfl
  refine step_build rfl 174 _ rfl (shpV 16) ?_ ?_
  · kernel_rfl
  refine step_build rfl 175 _ rfl tab ?_ ?_
  · kernel_rfl
  refine step_store_new rfl 175 _ _ rfl rfl ?_ tab ?_ Tryz.sizeTab HZ.out tab_one ?_
  · kernel_rfl
  · kernel_rfl
  refine act_turn (B := ⟨#[.pointer (some ⟨w.heap.size, 0, none⟩), .agg (shpV 1), .agg (shpV 2), .agg (shpV 3), .agg (shpV 4), .agg (shpV 5), .agg (shpV 6), .agg (shpV 7), .agg (shpV 8), .agg (shpV 9), .agg (shpV 10), .agg (shpV 11), .agg (shpV 12), .agg (shpV 13), .agg (shpV 14), .agg (shpV 15), .agg (shpV 16), .agg tab], []⟩) ?_ ?_
  · kernel_rfl
  go_wp2
  have hld := run_loadVar_new (P := Tryz.prog) w 175 tab 17 174 Tryz.underlying175 Tryz.sizeTab
  refine bodyPost_ret (v := .agg tab) ?_ rfl ⟨rfl, new_alloc _ _⟩
  simp only [results, Tryz.results96]
  simp [asAddr, hld]
end Go.Proofs.YtnpaijbkhmnfpaaGreat

/- What the methods of isa.shape answer: length, holdsRegs, holdsNumber, begins. -/
namespace Go.Proofs.YtnpaijbkhmnfpaaGreat
open Go.RowKit

abbrev shp (s c : ByteArray) (r : Nat) (q : Int) : Value := .agg #[.string s, .string c, .int .i64 r, .int .u8 q]

set_option maxHeartbeats 400000 in
theorem length_zero (s c : ByteArray) (r : Nat) (w : World) (hr : r ≤ 2) (hc : c.size ≤ 5) :
    Calls Tryz.prog 100 #[shp s c r 0] w fun e w' => e = .returned (.int .i64 (c.size + r)) ∧ Below w.heap.size w w' := by
  go_enter Tryz.func100, Tryz.ntmps100
  go_wp2
  go_ret
  exact ⟨rfl, new_alloc _ _⟩

set_option maxHeartbeats 400000 in
theorem length_num (s c : ByteArray) (r : Nat) (q : Int) (w : World) (hr : r ≤ 2) (hc : c.size ≤ 5) (hq : q = 1 ∨ q = 2) :
    Calls Tryz.prog 100 #[shp s c r q] w fun e w' => e = .returned (.int .i64 (c.size + r + 4)) ∧ Below w.heap.size w w' := by
  rcases hq with rfl | rfl
  all_goals
    go_enter Tryz.func100, Tryz.ntmps100
    go_wp2
    go_ret
    exact ⟨rfl, new_alloc _ _⟩

theorem ret_i64 {a b : Int} (h : a = b) : Ending.returned (.int .i64 a) = .returned (.int .i64 b) := by rw [h]

theorem length_op (o : Nat) (h : o < 17) (w : World) :
    Calls Tryz.prog 100 #[shp (nm o) (cd o) (rg o) (kd o)] w fun e w' => e = .returned (.int .i64 (lenN o)) ∧ Below w.heap.size w w' := by
  have hc := cd_size o h
  have hl := cdL_len o h
  by_cases h0 : kd o = 0
  · rw [h0]
    exact (length_zero (nm o) (cd o) (rg o) w (rg_le o h) (by omega)).mono fun e w' ⟨he, hb⟩ => ⟨by rw [he]; exact ret_i64 (by simp [lenN, h0]; omega), hb⟩
  · exact (length_num (nm o) (cd o) (rg o) (kd o) w (rg_le o h) (by omega) (by have := kd_in o h; omega)).mono fun e w' ⟨he, hb⟩ => ⟨by rw [he]; exact ret_i64 (by simp [lenN, h0]; omega), hb⟩

/-- whether a number is one that the op allows -/
def numB (q n : Int) : Bool := if q = 1 then true else if q = 2 then decide (0 ≤ n ∧ n < 65536) else decide (n = 0)

set_option maxHeartbeats 400000 in
theorem holdsNum_any (s c : ByteArray) (r : Nat) (q n : Int) (w : World) (hq : q = 0 ∨ q = 1 ∨ q = 2) :
    Calls Tryz.prog 126 #[shp s c r q, .int .i32 n] w fun e w' => e = .returned (.bool (numB q n)) ∧ Below w.heap.size w w' := by
  rcases hq with rfl | rfl | rfl
  · by_cases h : n = 0
    · subst h
      go_enter Tryz.func126, Tryz.ntmps126
      go_wp2
      go_ret
      exact ⟨rfl, new_alloc _ _⟩
    · have hd : (n == 0) = false := by simpa using h
      go_enter Tryz.func126, Tryz.ntmps126
      go_wp2
      go_ret
      exact ⟨ret_bool (by simp [numB, h]), new_alloc _ _⟩
  · go_enter Tryz.func126, Tryz.ntmps126
    go_wp2
    go_ret
    exact ⟨rfl, new_alloc _ _⟩
  · by_cases h0 : 0 ≤ n
    · by_cases h1 : n < 65536
      · go_enter Tryz.func126, Tryz.ntmps126
        go_wp2
        go_ret
        exact ⟨ret_bool (by simp [numB, h0, h1]), new_alloc _ _⟩
      · go_enter Tryz.func126, Tryz.ntmps126
        go_wp2
        go_ret
        exact ⟨ret_bool (by simp [numB, h1]), new_alloc _ _⟩
    · have hd : decide (0 ≤ n) = false := by simpa using h0
      go_enter Tryz.func126, Tryz.ntmps126
      go_wp2
      go_ret
      exact ⟨ret_bool (by simp [numB]; omega), new_alloc _ _⟩

/-- whether a byte is one that a register's place allows -/
def regB (has : Bool) (a : Int) : Bool := if has then decide (a < 8) else decide (a = 0)
theorem two_new (w : World) (o p : Obj) : Below w.heap.size w ((w.alloc o).alloc p) := below_alloc (new_alloc w o) p

set_option maxHeartbeats 1000000 in
theorem holdsRegs_any (s c : ByteArray) (r : Nat) (q a b : Int) (w : World) (hr : r ≤ 2) (ha : 0 ≤ a ∧ a ≤ 255) (hb : 0 ≤ b ∧ b ≤ 255) :
    Calls Tryz.prog 125 #[shp s c r q, .agg #[.int .u8 a, .int .u8 b]] w fun e w' => e = .returned (.bool (regB (decide (1 ≤ r)) a && regB (decide (2 ≤ r)) b)) ∧ Below w.heap.size w w' := by
  obtain rfl | rfl | rfl : r = 0 ∨ r = 1 ∨ r = 2 := by omega
  · by_cases h1 : a = 0
    · subst h1
      by_cases h2 : b = 0
      · subst h2
        go_enter Tryz.func125, Tryz.ntmps125
        go_wp2
        refine wp_loop_rounds 3 ?_
        rw [rounds_succ]; go_wp2
        rw [rounds_succ]; go_wp2
        rw [rounds_succ]; go_wp2
        go_ret
        exact ⟨rfl, two_new _ _ _⟩
      · have hd : (b != 0) = true := by simpa using h2
        go_enter Tryz.func125, Tryz.ntmps125
        go_wp2
        refine wp_loop_rounds 3 ?_
        rw [rounds_succ]; go_wp2
        rw [rounds_succ]; go_wp2
        go_ret
        exact ⟨ret_bool (by simp [regB, h2]), two_new _ _ _⟩
    · have hd : (a != 0) = true := by simpa using h1
      go_enter Tryz.func125, Tryz.ntmps125
      go_wp2
      refine wp_loop_rounds 3 ?_
      rw [rounds_succ]; go_wp2
      go_ret
      exact ⟨ret_bool (by simp [regB, h1]), two_new _ _ _⟩
  · by_cases h1 : a < 8
    · by_cases h2 : b = 0
      · subst h2
        go_enter Tryz.func125, Tryz.ntmps125
        go_wp2
        refine wp_loop_rounds 3 ?_
        rw [rounds_succ]; go_wp2
        rw [rounds_succ]; go_wp2
        rw [rounds_succ]; go_wp2
        go_ret
        exact ⟨ret_bool (by simp [regB, h1]), two_new _ _ _⟩
      · have hd : (b != 0) = true := by simpa using h2
        go_enter Tryz.func125, Tryz.ntmps125
        go_wp2
        refine wp_loop_rounds 3 ?_
        rw [rounds_succ]; go_wp2
        rw [rounds_succ]; go_wp2
        go_ret
        exact ⟨ret_bool (by simp [regB, h2]), two_new _ _ _⟩
    · go_enter Tryz.func125, Tryz.ntmps125
      go_wp2
      refine wp_loop_rounds 3 ?_
      rw [rounds_succ]; go_wp2
      go_ret
      exact ⟨ret_bool (by simp [regB]; omega), two_new _ _ _⟩
  · by_cases h1 : a < 8
    · by_cases h2 : b < 8
      · go_enter Tryz.func125, Tryz.ntmps125
        go_wp2
        refine wp_loop_rounds 3 ?_
        rw [rounds_succ]; go_wp2
        rw [rounds_succ]; go_wp2
        rw [rounds_succ]; go_wp2
        go_ret
        exact ⟨ret_bool (by simp [regB, h1, h2]), two_new _ _ _⟩
      · go_enter Tryz.func125, Tryz.ntmps125
        go_wp2
        refine wp_loop_rounds 3 ?_
        rw [rounds_succ]; go_wp2
        rw [rounds_succ]; go_wp2
        go_ret
        exact ⟨ret_bool (by simp [regB]; omega), two_new _ _ _⟩
    · go_enter Tryz.func125, Tryz.ntmps125
      go_wp2
      refine wp_loop_rounds 3 ?_
      rw [rounds_succ]; go_wp2
      go_ret
      exact ⟨ret_bool (by simp [regB]; omega), two_new _ _ _⟩

/-- whether the bytes begin as the op's do -/
def preB (c : ByteArray) (xs : List Int) : Bool := decide (∀ i (h : i < c.size), xs.getD i 0 = ((c[i]).toNat : Int))

set_option maxHeartbeats 1000000 in
theorem begins_at (s c : ByteArray) (r : Nat) (q : Int) (b o n cp : Nat) (xs : List Int) (w : World) (hn : n ≤ 9223372036854775807) (hl : c.size ≤ n) (hcell : ∀ i, i < n → w.cell? ⟨b, o + i, none⟩ = some (.int .u8 (xs.getD i 0))) :
    Calls Tryz.prog 97 #[shp s c r q, .slice (some ⟨b, o, none⟩) n cp] w fun e w' => e = .returned (.bool (preB c xs)) ∧ Below w.heap.size w w' := by
  have HC : Hid (∀ i, i < n → w.cell? ⟨b, o + i, none⟩ = some (.int .u8 (xs.getD i 0))) := hcell
  clear hcell
  go_enter Tryz.func97, Tryz.ntmps97
  go_wp2
  go_loopw [9] (fun i wr => ∃ k m : Nat, k ≤ c.size ∧ i = .int .i64 k ∧ wr = (w.alloc (.cells #[.string s, .string c, .int .i64 r, .int .u8 q] 174)).drewN m ∧ ∀ j (h : j < c.size), j < k → xs.getD j 0 = ((c[j]).toNat : Int)) (fun i _ => c.size - (intOf i).toNat)
  case atStart => exact ⟨0, 0, Nat.zero_le _, rfl, rfl, fun j _ hj => absurd hj (Nat.not_lt_zero _)⟩
  case round =>
    obtain ⟨k, m, hk, rfl, rfl, hs⟩ := hrel
    have HS : Hid (∀ j (h : j < c.size), j < k → xs.getD j 0 = ((c[j]).toNat : Int)) := hs
    clear hs
    by_cases hlt : k < c.size
    · have hcd := HC.out k (by omega)
      have hlb := cell_lt hcd
      have c1 : (w.alloc (.cells #[.string s, .string c, .int .i64 r, .int .u8 q] 174)).cell? ⟨b, o + k, none⟩ = some (.int .u8 (xs.getD k 0)) := by
        rw [(new_alloc w _).cell (p := ⟨b, o + k, none⟩) hlb]; exact hcd
      clear hcd
      obtain ⟨x, hx⟩ : ∃ x, x = xs.getD k 0 := ⟨_, rfl⟩
      rw [← hx] at c1
      have E1 : Hid (x = xs.getD k 0) := hx
      clear hx
      cases hb : (x != ((c[k]).toNat : Int))
      · go_wp2
        go_quiet (fail)
        go_wp2
        go_roundw
        case rel =>
          refine ⟨k + 1, _, by omega, by go_num, rfl, fun j hj hjk => ?_⟩
          by_cases e : j = k
          · subst e; rw [← E1.out]; simpa using hb
          · exact HS.out j hj (by omega)
        case measure => simp [intOf]; omega
      · go_wp2
        go_quiet (fail)
        go_wp2
        go_ret
        refine ⟨ret_bool ?_, below_draws (below_draws (new_alloc _ _) _) _⟩
        refine (decide_eq_false fun h => ?_).symm
        have := h k hlt
        rw [← E1.out] at this
        simp [this] at hb
    · go_wp2
      go_ret
      refine ⟨ret_bool ?_, below_draws (new_alloc _ _) _⟩
      exact (decide_eq_true fun i h => HS.out i h (by omega)).symm
end Go.Proofs.YtnpaijbkhmnfpaaGreat
