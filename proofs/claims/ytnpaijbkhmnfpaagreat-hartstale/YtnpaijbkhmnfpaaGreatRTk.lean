/- switchyardref12.Take. -/
import Derived.Test.YtnpaijbkhmnfpaaGreatLinE
import Derived.Test.YtnpaijbkhmnfpaaGreatRefN
import Derived.Test.YtnpaijbkhmnfpaaGreatLinT
import Derived.Test.YtnpaijbkhmnfpaaGreatAwk
namespace Go.Proofs.YtnpaijbkhmnfpaaGreat
open Go.RowKit Go.Maps

/-- what Take answers: the bytes, whether they were held, the error, what is held behind it -/
structure Tk where
  f : F4
  is : Bool
  e : Int
  L : List Ln
def takR (L : List Ln) (xs : List Int) (g : Int) (hold : Bool) : Tk :=
  match findL L g, hold with
  | some f, true => ⟨f, true, 0, L⟩
  | _, _ => if 0 ≤ g ∧ g < 16384 then ⟨granF xs g.toNat, false, 0, takL g (granF xs g.toNat) L⟩ else ⟨zF, false, 2, L⟩

/-- the loop: what is put together so far -/
def outL (g : Int) (f : F4) (L : List Ln) (i : Nat) : Bool → List Ln
  | false => L.take i
  | true => takL g f (L.take i)
def OutP (g : Int) (L : List Ln) (i : Nat) : Bool → Prop
  | false => ∀ x ∈ L.take i, x.g < g
  | true => ∃ x ∈ L.take i, g ≤ x.g

theorem fidx_find (L : List Ln) (g : Int) : (∃ k, ∃ h : k < L.length, fidx L g = k ∧ findL L g = some L[k].f) ∨ (fidx L g = -1 ∧ findL L g = none) := by
  by_cases h : ∃ k, ∃ h : k < L.length, L[k].g = g
  · have hm : ∃ x ∈ L, decide (x.g = g) = true := by
      obtain ⟨k, hk, e⟩ := h
      exact ⟨L[k], List.getElem_mem hk, by simpa using e⟩
    have hlt := List.findIdx_lt_length_of_exists hm
    refine .inl ⟨_, hlt, fidx_some hlt ?_ fun i hi hik => ?_⟩
    · have := List.findIdx_getElem (p := fun x : Ln => decide (x.g = g)) (w := hlt)
      simpa using this
    · have := List.not_of_lt_findIdx hik
      simpa using this
  · exact .inr (fidx_none fun i hi e => h ⟨i, hi, e⟩)

set_option maxRecDepth 8000 in
set_option maxHeartbeats 1000000 in
theorem rtake_held (p q : Option Addr) (n c m d : Nat) (L : List Ln) (g : Int) (f : F4) (w : World) (hn : L.length = n) (hn6 : n ≤ 9223372036854775807) (hr : LRow w p L) (hf : findL L g = some f) :
    Calls Tryz.prog 90 #[.slice p n c, .slice q m d, .int .i64 g, .bool true] w fun e w' => e = .returned (.tuple #[.slice p n c, fV f, .bool true, .int .i64 0]) ∧ Below w.heap.size w w' := by
  rcases fidx_find L g with ⟨k, hk, h1, h2⟩ | ⟨-, h2⟩
  · rw [hf] at h2
    injection h2 with h2
    have HB1 := Hid.in (new_alloc w (.cells #[.int .u8 0, .int .u8 0, .int .u8 0, .int .u8 0] 92))
    have HZ1 := Hid.in (Blk.new w 92 #[.int .u8 0, .int .u8 0, .int .u8 0, .int .u8 0])
    have hr1 := hr.below HB1.out
    have hfi := rfind_any p n c L g _ hn hn6 hr1
    rw [h1] at hfi
    obtain ⟨b, o, rfl, hcc⟩ := hr1.five (by omega)
    obtain ⟨-, c1, c2, c3, c4⟩ := hcc k hk
    rw [← h2] at c1 c2 c3 c4
    obtain ⟨f0, f1, f2, f3⟩ := f
    dsimp only at c1 c2 c3 c4
    have hkn : k < n := by omega
    clear hr hr1 hcc hf h1 h2 hk hn
    go_enter Tryz.func90, Tryz.ntmps90
    go_upto_region 3 with (go_at_call 120; refine hfi.mono ?_; rintro e w1 ⟨rfl, rfl⟩)
    generalize w.alloc (.cells #[.int .u8 0, .int .u8 0, .int .u8 0, .int .u8 0] 92) = w1 at *
    have z0 := HZ1.out.free 0
    have z1 := HZ1.out.free 1
    have z2 := HZ1.out.free 2
    have z3 := HZ1.out.free 3
    have e0 : w1.cell? ⟨w.heap.size, 0, none⟩ = some (.int .u8 0) := HZ1.out.cell 0
    have e1 : w1.cell? ⟨w.heap.size, 1, none⟩ = some (.int .u8 0) := HZ1.out.cell 1
    have e2 : w1.cell? ⟨w.heap.size, 2, none⟩ = some (.int .u8 0) := HZ1.out.cell 2
    have e3 : w1.cell? ⟨w.heap.size, 3, none⟩ = some (.int .u8 0) := HZ1.out.cell 3
    have HBB := Hid.in (below_draws HB1.out 1)
    clear hfi
    go_region_law (fail)
    all_goals
      go_wp2_with fail
      exact bodyPost_ret (v := .tuple #[.slice (some ⟨b, o, none⟩) n c, fV ⟨f0, f1, f2, f3⟩, .bool true, .int .i64 0]) (by simp [results, Tryz.results90, go_sem, fV, e0, e1, e2, e3]) rfl ⟨rfl, (((HBB.out.setCell (Nat.le_refl _) _).setCell (Nat.le_refl _) _).setCell (Nat.le_refl _) _).setCell (Nat.le_refl _) _⟩
  · rw [hf] at h2; cases h2

set_option maxRecDepth 8000 in
set_option maxHeartbeats 1000000 in
theorem rtake_err (p q : Option Addr) (n c m d : Nat) (L : List Ln) (g : Int) (hold : Bool) (w : World) (hn : L.length = n) (hn6 : n ≤ 9223372036854775807) (hr : LRow w p L) (hno : ((findL L g).isSome && hold) = false) (hg : g < 0 ∨ 16384 ≤ g) :
    Calls Tryz.prog 90 #[.slice p n c, .slice q m d, .int .i64 g, .bool hold] w fun e w' => e = .returned (.tuple #[.slice p n c, fV zF, .bool false, .int .i64 2]) ∧ Below w.heap.size w w' := by
  have HB1 := Hid.in (new_alloc w (.cells #[.int .u8 0, .int .u8 0, .int .u8 0, .int .u8 0] 92))
  have HZ1 := Hid.in (Blk.new w 92 #[.int .u8 0, .int .u8 0, .int .u8 0, .int .u8 0])
  have hfi := rfind_any p n c L g _ hn hn6 (hr.below HB1.out)
  have hgr := refGran_bad q d m g (w.alloc (.cells #[.int .u8 0, .int .u8 0, .int .u8 0, .int .u8 0] 92)) hg
  simp only [fourV] at hgr
  have hcs : (decide (0 ≤ fidx L g) && hold) = false := by
    rcases fidx_find L g with ⟨k, hk, h1, h2⟩ | ⟨h1, h2⟩
    · rw [h2] at hno
      rw [h1]
      simpa using hno
    · rw [h1]; rfl
  clear hr hno
  generalize fidx L g = fi at *
  have hcase : decide (0 ≤ fi) = false ∨ (decide (0 ≤ fi) = true ∧ hold = false) := by
    cases hd : decide (0 ≤ fi) with
    | false => exact .inl rfl
    | true => rw [hd] at hcs; exact .inr ⟨rfl, by simpa using hcs⟩
  clear hcs
  rcases hcase with hd | ⟨hd, rfl⟩
  all_goals
    go_enter Tryz.func90, Tryz.ntmps90
    go_upto_region 6 with (first
      | (go_at_call 120; refine hfi.mono ?_; rintro e w1 ⟨rfl, rfl⟩)
      | (go_at_call 121; refine hgr.mono ?_; rintro e w2 ⟨rfl, hb2⟩; have HB2 := Hid.in hb2; clear hb2))
    generalize w.alloc (.cells #[.int .u8 0, .int .u8 0, .int .u8 0, .int .u8 0] 92) = w1 at *
    have HB4 := Hid.in (below_alloc HB2.out (.cells #[.int .u8 0, .int .u8 0, .int .u8 0, .int .u8 0] 92))
    generalize w2.alloc (.cells #[.int .u8 0, .int .u8 0, .int .u8 0, .int .u8 0] 92) = w4 at *
    have HZ4 := Hid.in (HZ1.out.grow HB4.out)
    have z0 := HZ4.out.free 0
    have z1 := HZ4.out.free 1
    have z2 := HZ4.out.free 2
    have z3 := HZ4.out.free 3
    have e0 : w4.cell? ⟨w.heap.size, 0, none⟩ = some (.int .u8 0) := HZ4.out.cell 0
    have e1 : w4.cell? ⟨w.heap.size, 1, none⟩ = some (.int .u8 0) := HZ4.out.cell 1
    have e2 : w4.cell? ⟨w.heap.size, 2, none⟩ = some (.int .u8 0) := HZ4.out.cell 2
    have e3 : w4.cell? ⟨w.heap.size, 3, none⟩ = some (.int .u8 0) := HZ4.out.cell 3
    have HBB := Hid.in (below_step HB1.out HB4.out)
    clear hfi hgr
    go_wp2_with fail
    exact bodyPost_ret (v := .tuple #[.slice p n c, fV zF, .bool false, .int .i64 2]) (by simp [results, Tryz.results90, go_sem, fV, zF, e0, e1, e2, e3]) rfl ⟨rfl, (((HBB.out.setCell (Nat.le_refl _) _).setCell (Nat.le_refl _) _).setCell (Nat.le_refl _) _).setCell (Nat.le_refl _) _⟩

/-- a list of granules stays while a variable ahead of it is written to -/
theorem own_far {w : World} {B A : Nat} {v : Value} {L : List Ln} (h : LOwn 94 w B v L) (hA : A ≤ B) {q : Nat} (hq : q < B) (i0 i1 i2 i3 : Nat) (v0 v1 v2 v3 : Value) : LOwn 94 ((((w.setCell ⟨q, i0, none⟩ v0).setCell ⟨q, i1, none⟩ v1).setCell ⟨q, i2, none⟩ v2).setCell ⟨q, i3, none⟩ v3) A v L := by
  have hk : Keeps (fun j => j = q) w ((((w.setCell ⟨q, i0, none⟩ v0).setCell ⟨q, i1, none⟩ v1).setCell ⟨q, i2, none⟩ v2).setCell ⟨q, i3, none⟩ v3) := ((((Keeps.refl (fun j => j = q) w).setCell _ _ _ (.inl rfl)).setCell _ _ _ (.inl rfl)).setCell _ _ _ (.inl rfl)).setCell _ _ _ (.inl rfl)
  obtain ⟨h0, h1⟩ := h
  refine ⟨h0, h1.imp id ?_⟩
  rintro ⟨g, cap, cur, e1, e2, e3, e4⟩
  exact ⟨g, cap, cur, e1, Nat.le_trans hA e2, (hk.block g (Array.getElem?_eq_some_iff.1 e3).1 (fun e => by have e : g = q := e; omega)).trans e3, e4⟩
theorem out_small {g : Int} {f : F4} {L : List Ln} {i : Nat} (h : L.length ≤ 1000000) (b : Bool) : (outL g f L i b).length ≤ 1048575 := by
  cases b
  · show (L.take i).length ≤ _
    rw [List.length_take]; omega
  · show (takL g f (L.take i)).length ≤ _
    have := takL_len g f (L.take i)
    rw [List.length_take] at this
    omega

set_option maxRecDepth 8000 in
set_option maxHeartbeats 2000000 in
theorem rtake_new (p q : Option Addr) (n c m d : Nat) (L : List Ln) (xs : List Int) (k : Nat) (hold : Bool) (w : World) (hL : Ris L) (hn : L.length = n) (hn6 : n ≤ 1000000) (hr : LRow w p L) (hm : xs.length = m) (hxl : xs.length ≤ 65536) (hq : Row w q xs) (hno : ((findL L k).isSome && hold) = false) (hk : k < 16384) :
    Calls Tryz.prog 90 #[.slice p n c, .slice q m d, .int .i64 k, .bool hold] w fun e w' => ∃ v, e = .returned (.tuple #[v, fV (granF xs k), .bool false, .int .i64 0]) ∧ LOwn 94 w' w.heap.size v (takL k (granF xs k) L) ∧ Below w.heap.size w w' := by
  have HB1 := Hid.in (new_alloc w (.cells #[.int .u8 0, .int .u8 0, .int .u8 0, .int .u8 0] 92))
  have HZ1 := Hid.in (Blk.new w 92 #[.int .u8 0, .int .u8 0, .int .u8 0, .int .u8 0])
  have hfi := rfind_any p n c L k _ hn (by omega) (hr.below HB1.out)
  have hgr := refGran_any q d k xs _ (hq.below HB1.out) hk hxl
  rw [hm] at hgr
  rw [show granV xs k = fV (granF xs k) from rfl] at hgr
  obtain ⟨f0, f1, f2, f3, hF⟩ : ∃ f0 f1 f2 f3, granF xs k = ⟨f0, f1, f2, f3⟩ := ⟨_, _, _, _, rfl⟩
  rw [hF] at hgr ⊢
  simp only [fV] at hgr
  have HR1 := Hid.in (hr.below HB1.out)
  have hcs : (decide (0 ≤ fidx L k) && hold) = false := by
    rcases fidx_find L k with ⟨j, hj, h1, h2⟩ | ⟨h1, h2⟩
    · rw [h2] at hno
      rw [h1]
      simpa using hno
    · rw [h1]; rfl
  have HL := Hid.in hL
  have HN := Hid.in hn
  clear hr hno hL hn hq hm hxl hF
  generalize fidx L k = fi at *
  have hcase : decide (0 ≤ fi) = false ∨ (decide (0 ≤ fi) = true ∧ hold = false) := by
    cases hd : decide (0 ≤ fi) with
    | false => exact .inl rfl
    | true => rw [hd] at hcs; exact .inr ⟨rfl, by simpa using hcs⟩
  clear hcs
  rcases hcase with hd | ⟨hd, rfl⟩
  all_goals
    go_enter Tryz.func90, Tryz.ntmps90
    go_upto_region 7 with (first
      | (go_at_call 120; refine hfi.mono ?_; rintro e w1 ⟨rfl, rfl⟩)
      | (go_at_call 121; refine hgr.mono ?_; rintro e w2 ⟨rfl, hb2⟩; have HB2 := Hid.in hb2; clear hb2))
    generalize w.alloc (.cells #[.int .u8 0, .int .u8 0, .int .u8 0, .int .u8 0] 92) = w1 at *
    have HB3 := Hid.in (below_alloc HB2.out (.cells #[.int .u8 f0, .int .u8 f1, .int .u8 f2, .int .u8 f3] 92))
    have HN3 := Hid.in (Blk.new w2 92 #[.int .u8 f0, .int .u8 f1, .int .u8 f2, .int .u8 f3])
    generalize w2.alloc (.cells #[.int .u8 f0, .int .u8 f1, .int .u8 f2, .int .u8 f3] 92) = w3 at *
    generalize w2.heap.size = g2 at *
    have HZ3 := Hid.in (HZ1.out.grow HB3.out)
    have HR3 := Hid.in (HR1.out.below HB3.out)
    have HW3 := Hid.in (below_step HB1.out HB3.out)
    clear hfi hgr HB2 HB3 HZ1 HR1 HB1 hd
    go_wp2_with fail
    go_loopw [15, 16, 17] (fun vo vp vi wr => ∃ (i : Nat) (pt : Bool), vi = .int .i64 i ∧ i ≤ n ∧ vp = .bool pt ∧ LOwn 94 wr w3.heap.size vo (outL k ⟨f0, f1, f2, f3⟩ L i pt) ∧ OutP k L i pt ∧ Below w3.heap.size w3 wr) (fun _ _ vi _ => n - (intOf vi).toNat)
    case atStart => exact ⟨0, false, rfl, Nat.zero_le _, rfl, LOwn.nil _ _ _, (fun x hx => by simp at hx), below_self _⟩
    case round =>
      obtain ⟨i, pt, rfl, hi, rfl, ho, hP, hb⟩ := hrel
      have HO := Hid.in ho
      have HP := Hid.in hP
      have HB := Hid.in hb
      clear ho hP hb
      have hsz := HB.out.size
      by_cases hlt : i < n
      · have hiL : i < L.length := by rw [HN.out]; exact hlt
        have HSM : Hid (∀ pt, (outL k ⟨f0, f1, f2, f3⟩ L i pt).length ≤ 1048575) := fun pt => out_small (by rw [HN.out]; exact hn6) pt
        obtain ⟨b, o, rfl, hcc⟩ := (HR3.out.below HB.out).five (by omega)
        obtain ⟨c0, c1, c2, c3, c4⟩ := hcc i hiL
        have HT : Hid (L.take (i + 1) = L.take i ++ [L[i]]) := List.take_succ_eq_append_getElem hiL
        have HRI : Hid (Ris (L.take i)) := List.Pairwise.sublist (List.take_sublist i L) HL.out
        have HAF : Hid (∀ y ∈ L.take i, y.g < L[i].g) := fun y hy => by
          obtain ⟨j, hj, rfl⟩ := List.getElem_of_mem hy
          rw [List.length_take] at hj
          rw [List.getElem_take]
          exact List.pairwise_iff_getElem.1 HL.out j i (by omega) hiL (by omega)
        clear hcc
        obtain ⟨x, hxi⟩ : ∃ x, L[i] = x := ⟨_, rfl⟩
        rw [hxi] at c0 c1 c2 c3 c4 HT HAF
        have HXI := Hid.in hxi
        clear hxi
        have HXN := Hid.in (news5 wr x 94)
        obtain ⟨xg, xa, xb, xc, xd⟩ := x
        dsimp only at c0 c1 c2 c3 c4
        have d0 : wr.cell? ⟨g2, 0, none⟩ = some (.int .u8 f0) := (HN3.out.grow HB.out).cell 0
        have d1 : wr.cell? ⟨g2, 1, none⟩ = some (.int .u8 f1) := (HN3.out.grow HB.out).cell 1
        have d2 : wr.cell? ⟨g2, 2, none⟩ = some (.int .u8 f2) := (HN3.out.grow HB.out).cell 2
        have d3 : wr.cell? ⟨g2, 3, none⟩ = some (.int .u8 f3) := (HN3.out.grow HB.out).cell 3
        cases pt with
        | false =>
          by_cases hge : (k : Int) ≤ xg
          · have HFN := Hid.in (news5 wr ⟨k, ⟨f0, f1, f2, f3⟩⟩ 94)
            have g1 : decide ((k : Int) ≤ xg) = true := decide_eq_true hge
            have HP6 : Hid (OutP k L (i + 1) true) := ⟨_, by rw [HT.out]; exact List.mem_append_right _ (List.mem_singleton.2 rfl), hge⟩
            have HEA := Hid.in (takL_at (f := ⟨f0, f1, f2, f3⟩) (y := ⟨xg, ⟨xa, xb, xc, xd⟩⟩) HP.out hge)
            go_wp2_with (at_builtin; refine Hid.out ?_)
            refine Lib.hid ?_
            refine lpush Tryz.elemLine _ rfl _ _ rfl w3.heap.size _ _ rfl (HO.out.alloc _) ⟨wr.heap.size, 0, none⟩ 1 ⟨k, ⟨f0, f1, f2, f3⟩⟩ rfl HFN.out (Nat.le_trans (HSM.out _) (by decide)) (by decide) (by rw [size_one]; omega) ?_
            intro v6 w6 hT6 _ hb6
            have HT6 := Hid.in hT6
            have HB6 := Hid.in (hb6 w3 (below_alloc HB.out _))
            clear hT6 hb6 d0 d1 d2 d3 c0 c1 c2 c3 c4
            obtain ⟨b', o', e', hcc'⟩ := (HR3.out.below HB6.out).five (by omega)
            injection e' with e'
            injection e' with e1' e2' _
            subst e1' e2'
            obtain ⟨c0, c1, c2, c3, c4⟩ := hcc' i hiL
            have HSM6 : Hid ((outL k ⟨f0, f1, f2, f3⟩ L i false ++ [(⟨k, ⟨f0, f1, f2, f3⟩⟩ : Ln)]).length ≤ 1048576) := by
              have h := HSM.out false
              rw [List.length_append]
              have h2 : (outL k ⟨f0, f1, f2, f3⟩ L i false).length + [(⟨k, ⟨f0, f1, f2, f3⟩⟩ : Ln)].length ≤ 1048576 := by simp; omega
              exact h2
            clear hcc'
            have hsz6 := HB6.out.size
            have HLX : Hid (L[i] = ⟨xg, ⟨xa, xb, xc, xd⟩⟩) := HXI.out
            rw [HLX.out] at c0 c1 c2 c3 c4
            dsimp only at c0 c1 c2 c3 c4
            by_cases heq : xg = (k : Int)
            · have HE6 : Hid (outL k ⟨f0, f1, f2, f3⟩ L (i + 1) true = outL k ⟨f0, f1, f2, f3⟩ L i false ++ [⟨k, ⟨f0, f1, f2, f3⟩⟩]) := by
                show takL k _ (L.take (i + 1)) = L.take i ++ _
                rw [HT.out, HEA.out, if_pos heq]
              subst heq
              have g2' : ((k : Int) != (k : Int)) = false := by simp
              go_wp2_with fail
              go_roundw
              case rel => exact ⟨i + 1, true, by go_num, by omega, rfl, by rw [HE6.out]; exact HT6.out, HP6.out, HB6.out⟩
              case measure => simp [intOf]; omega
            · have HE6 : Hid (outL k ⟨f0, f1, f2, f3⟩ L (i + 1) true = (outL k ⟨f0, f1, f2, f3⟩ L i false ++ [⟨k, ⟨f0, f1, f2, f3⟩⟩]) ++ [⟨xg, ⟨xa, xb, xc, xd⟩⟩]) := by
                show takL k _ (L.take (i + 1)) = (L.take i ++ _) ++ _
                rw [HT.out, HEA.out, if_neg heq, List.append_assoc]
                rfl
              have g2' : (xg != (k : Int)) = true := by simpa using heq
              have HXN6 := Hid.in (news5 w6 ⟨xg, ⟨xa, xb, xc, xd⟩⟩ 94)
              go_wp2_with (at_builtin; refine Hid.out ?_)
              refine Lib.hid ?_
              refine lpush Tryz.elemLine _ rfl _ _ rfl w3.heap.size _ _ rfl (HT6.out.alloc _) ⟨w6.heap.size, 0, none⟩ 1 ⟨xg, ⟨xa, xb, xc, xd⟩⟩ rfl HXN6.out HSM6.out (by decide) (by rw [size_one]; omega) ?_
              intro v7 w7 hT7 _ hb7
              have HT7 := Hid.in hT7
              have HB7 := Hid.in (hb7 w3 (below_alloc HB6.out _))
              clear hT7 hb7
              go_wp2_with fail
              go_roundw
              case rel => exact ⟨i + 1, true, by go_num, by omega, rfl, by rw [HE6.out]; exact HT7.out, HP6.out, HB7.out⟩
              case measure => simp [intOf]; omega
          · have hlo : xg < (k : Int) := by omega
            have g1 : decide ((k : Int) ≤ xg) = false := decide_eq_false hge
            have g2' : (xg != (k : Int)) = true := by simp; omega
            go_wp2_with (at_builtin; refine Hid.out ?_)
            refine Lib.hid ?_
            refine lpush Tryz.elemLine _ rfl _ _ rfl w3.heap.size _ _ rfl (HO.out.alloc _) ⟨wr.heap.size, 0, none⟩ 1 ⟨xg, ⟨xa, xb, xc, xd⟩⟩ rfl HXN.out (Nat.le_trans (HSM.out _) (by decide)) (by decide) (by rw [size_one]; omega) ?_
            intro v6 w6 hT6 _ hb6
            have HT6 := Hid.in hT6
            have HB6 := Hid.in (hb6 w3 (below_alloc HB.out _))
            have HP6 : Hid (OutP k L (i + 1) false) := fun y hy => by
              rw [HT.out] at hy
              rcases List.mem_append.1 hy with hy | hy
              · exact HP.out y hy
              · rw [List.mem_singleton.1 hy]; exact hlo
            have HE6 : Hid (outL k ⟨f0, f1, f2, f3⟩ L (i + 1) false = outL k ⟨f0, f1, f2, f3⟩ L i false ++ [⟨xg, ⟨xa, xb, xc, xd⟩⟩]) := HT.out
            clear hT6 hb6 HP
            go_wp2_with fail
            go_roundw
            case rel => exact ⟨i + 1, false, by go_num, by omega, rfl, by rw [HE6.out]; exact HT6.out, HP6.out, HB6.out⟩
            case measure => simp [intOf]; omega
        | true =>
          have hgt : (k : Int) < xg := by
            obtain ⟨y, hy, hy2⟩ := HP.out
            have := HAF.out y hy
            dsimp only at this
            omega
          have g1 : decide ((k : Int) ≤ xg) = true := decide_eq_true (by omega)
          have g2' : (xg != (k : Int)) = true := by simp; omega
          go_wp2_with (at_builtin; refine Hid.out ?_)
          refine Lib.hid ?_
          refine lpush Tryz.elemLine _ rfl _ _ rfl w3.heap.size _ _ rfl (HO.out.alloc _) ⟨wr.heap.size, 0, none⟩ 1 ⟨xg, ⟨xa, xb, xc, xd⟩⟩ rfl HXN.out (Nat.le_trans (HSM.out _) (by decide)) (by decide) (by rw [size_one]; omega) ?_
          intro v6 w6 hT6 _ hb6
          have HT6 := Hid.in hT6
          have HB6 := Hid.in (hb6 w3 (below_alloc HB.out _))
          have HP6 : Hid (OutP k L (i + 1) true) := by
            obtain ⟨y, hy, hy2⟩ := HP.out
            exact ⟨y, by rw [HT.out]; exact List.mem_append_left _ hy, hy2⟩
          have HE6 : Hid (outL k ⟨f0, f1, f2, f3⟩ L (i + 1) true = outL k ⟨f0, f1, f2, f3⟩ L i true ++ [⟨xg, ⟨xa, xb, xc, xd⟩⟩]) := by
            show takL k _ (L.take (i + 1)) = takL k _ (L.take i) ++ _
            rw [HT.out]
            exact takL_snoc hgt HRI.out HP.out
          clear hT6 hb6 HP
          go_wp2_with fail
          go_roundw
          case rel => exact ⟨i + 1, true, by go_num, by omega, rfl, by rw [HE6.out]; exact HT6.out, HP6.out, HB6.out⟩
          case measure => simp [intOf]; omega
      · have HEI : Hid (L.take i = L) := List.take_of_length_le (by rw [HN.out]; omega)
        have HW := Hid.in (below_step HW3.out HB.out)
        have HWS := Hid.in HW3.out.size
        cases pt with
        | true =>
          have HE6 : Hid (outL k ⟨f0, f1, f2, f3⟩ L i true = takL k ⟨f0, f1, f2, f3⟩ L) := by
            show takL k _ (L.take i) = _
            rw [HEI.out]
          rw [HE6.out] at HO
          have HN4 := Hid.in (HN3.out.grow HB.out)
          have HZ4 := Hid.in (HZ3.out.grow HB.out)
          obtain ⟨p9, c9, hv9, -, -, -⟩ := HO.out.shape
          subst hv9
          clear HP HB
          generalize wr = w9 at *
          have d0 : w9.cell? ⟨g2, 0, none⟩ = some (.int .u8 f0) := HN4.out.cell 0
          have d1 : w9.cell? ⟨g2, 1, none⟩ = some (.int .u8 f1) := HN4.out.cell 1
          have d2 : w9.cell? ⟨g2, 2, none⟩ = some (.int .u8 f2) := HN4.out.cell 2
          have d3 : w9.cell? ⟨g2, 3, none⟩ = some (.int .u8 f3) := HN4.out.cell 3
          have z0 := HZ4.out.free 0
          have z1 := HZ4.out.free 1
          have z2 := HZ4.out.free 2
          have z3 := HZ4.out.free 3
          have e0 : w9.cell? ⟨w.heap.size, 0, none⟩ = some (.int .u8 0) := HZ4.out.cell 0
          have e1 : w9.cell? ⟨w.heap.size, 1, none⟩ = some (.int .u8 0) := HZ4.out.cell 1
          have e2 : w9.cell? ⟨w.heap.size, 2, none⟩ = some (.int .u8 0) := HZ4.out.cell 2
          have e3 : w9.cell? ⟨w.heap.size, 3, none⟩ = some (.int .u8 0) := HZ4.out.cell 3
          have HBB := Hid.in (below_draws HW.out 1)
          have HLT : Hid (w.heap.size < w3.heap.size) := HZ3.out.lt
          go_upto_region 19 with fail
          go_region_law (fail)
          all_goals
            go_wp2_with fail
            refine bodyPost_ret (v := .tuple #[.slice p9 (takL k ⟨f0, f1, f2, f3⟩ L).length c9, fV ⟨f0, f1, f2, f3⟩, .bool false, .int .i64 0]) (by simp [results, Tryz.results90, go_sem, fV, e0, e1, e2, e3]) rfl ⟨_, rfl, ?_, (((HBB.out.setCell (Nat.le_refl _) _).setCell (Nat.le_refl _) _).setCell (Nat.le_refl _) _).setCell (Nat.le_refl _) _⟩
            exact own_far (HO.out.drewN 1) HWS.out HLT.out _ _ _ _ _ _ _ _
        | false =>
          have HE6 : Hid (takL k ⟨f0, f1, f2, f3⟩ L = outL k ⟨f0, f1, f2, f3⟩ L i false ++ [⟨k, ⟨f0, f1, f2, f3⟩⟩]) := by
            show _ = L.take i ++ _
            have h := HP.out
            rw [HEI.out]
            refine takL_end fun x hx => h x ?_
            rw [HEI.out]; exact hx
          have HFN := Hid.in (news5 wr ⟨k, ⟨f0, f1, f2, f3⟩⟩ 94)
          have hsm := out_small (g := k) (f := ⟨f0, f1, f2, f3⟩) (i := i) (show L.length ≤ 1000000 by rw [HN.out]; exact hn6) false
          have HSM := Hid.in hsm
          clear hsm
          have d0 : wr.cell? ⟨g2, 0, none⟩ = some (.int .u8 f0) := (HN3.out.grow HB.out).cell 0
          have d1 : wr.cell? ⟨g2, 1, none⟩ = some (.int .u8 f1) := (HN3.out.grow HB.out).cell 1
          have d2 : wr.cell? ⟨g2, 2, none⟩ = some (.int .u8 f2) := (HN3.out.grow HB.out).cell 2
          have d3 : wr.cell? ⟨g2, 3, none⟩ = some (.int .u8 f3) := (HN3.out.grow HB.out).cell 3
          go_wp2_with (at_builtin; refine Hid.out ?_)
          refine Lib.hid ?_
          refine lpush Tryz.elemLine _ rfl _ _ rfl w3.heap.size _ _ rfl (HO.out.alloc _) ⟨wr.heap.size, 0, none⟩ 1 ⟨k, ⟨f0, f1, f2, f3⟩⟩ rfl HFN.out (Nat.le_trans HSM.out (by decide)) (by decide) (by rw [size_one]; omega) ?_
          intro v6 w6 hT6 _ hb6
          rw [← HE6.out] at hT6
          obtain ⟨p9, c9, hv9, -, -, -⟩ := hT6.shape
          subst hv9
          have HB6 := Hid.in (hb6 w3 (below_alloc HB.out _))
          have HO9 := Hid.in hT6
          have HN4 := Hid.in (HN3.out.grow HB6.out)
          have HZ4 := Hid.in (HZ3.out.grow HB6.out)
          have HW9 := Hid.in (below_step HW3.out HB6.out)
          clear hT6 hb6 HP HB HO HW d0 d1 d2 d3 HB6
          have HO := Hid.in HO9.out
          have HW := Hid.in HW9.out
          clear HO9 HW9
          generalize w6 = w9 at *
          have d0 : w9.cell? ⟨g2, 0, none⟩ = some (.int .u8 f0) := HN4.out.cell 0
          have d1 : w9.cell? ⟨g2, 1, none⟩ = some (.int .u8 f1) := HN4.out.cell 1
          have d2 : w9.cell? ⟨g2, 2, none⟩ = some (.int .u8 f2) := HN4.out.cell 2
          have d3 : w9.cell? ⟨g2, 3, none⟩ = some (.int .u8 f3) := HN4.out.cell 3
          have z0 := HZ4.out.free 0
          have z1 := HZ4.out.free 1
          have z2 := HZ4.out.free 2
          have z3 := HZ4.out.free 3
          have e0 : w9.cell? ⟨w.heap.size, 0, none⟩ = some (.int .u8 0) := HZ4.out.cell 0
          have e1 : w9.cell? ⟨w.heap.size, 1, none⟩ = some (.int .u8 0) := HZ4.out.cell 1
          have e2 : w9.cell? ⟨w.heap.size, 2, none⟩ = some (.int .u8 0) := HZ4.out.cell 2
          have e3 : w9.cell? ⟨w.heap.size, 3, none⟩ = some (.int .u8 0) := HZ4.out.cell 3
          have HBB := Hid.in (below_draws HW.out 1)
          have HLT : Hid (w.heap.size < w3.heap.size) := HZ3.out.lt
          go_upto_region 19 with fail
          go_region_law (fail)
          all_goals
            go_wp2_with fail
            refine bodyPost_ret (v := .tuple #[.slice p9 (takL k ⟨f0, f1, f2, f3⟩ L).length c9, fV ⟨f0, f1, f2, f3⟩, .bool false, .int .i64 0]) (by simp [results, Tryz.results90, go_sem, fV, e0, e1, e2, e3]) rfl ⟨_, rfl, ?_, (((HBB.out.setCell (Nat.le_refl _) _).setCell (Nat.le_refl _) _).setCell (Nat.le_refl _) _).setCell (Nat.le_refl _) _⟩
            exact own_far (HO.out.drewN 1) HWS.out HLT.out _ _ _ _ _ _ _ _

end Go.Proofs.YtnpaijbkhmnfpaaGreat
