/- Texts put together: PutW, UnrW, UnrU, UnrK, KitS, UnrS, UnrM, GetW. -/
import Derived.Test.YtfhjaabbfaamjaaGc
import Derived.Test.YtfhjaabbfaamjaaRead
import Derived.Test.YtfhjaabbfaamjaaSame
import Derived.Test.YtfhjaabbfaamjaaGb
import Derived.Test.YtfhjaabbfaamjaaCpyU
import Derived.BigQuiet
import Derived.Deep.QuietTactic
import Derived.Lib.SliceRun

/- store.Put answers P10.1. -/
namespace Go.Proofs.Ytfhjaabbfaamjaa
open Go.RowKit

/-- where Put stands: what is written, the image's box, all that was there -/
structure PSt (w : World) (A : Array Value) (g : Nat) (W : World) (v : Value) (xs : List Int) : Prop where
  wr : Wr W g v xs
  box : Blk W w.heap.size 27 A
  bel : Below w.heap.size w W
  lt : w.heap.size < g
theorem PSt.step {w W W' : World} {A : Array Value} {g : Nat} {v v' : Value} {xs ys : List Int} (h : PSt w A g W v xs) (h1 : Wr W' g v' ys) (h2 : KpW g W W') (h3 : Below g W W') : PSt w A g W' v' ys :=
  ⟨h1, h2 _ _ _ (by decide) (by have := h.lt; omega) h.box, h.bel.trans (h3.mono (Nat.le_of_lt h.lt)), h.lt⟩
theorem PSt.below {w W W' : World} {A : Array Value} {g : Nat} {v : Value} {xs : List Int} (h : PSt w A g W v xs) (hb : Below W.heap.size W W') : PSt w A g W' v xs :=
  ⟨h.wr.below hb, h.box.grow hb, below_step h.bel hb, h.lt⟩
theorem OwnV.lower {w : World} {B B' : Nat} {v : Value} {xs : List Int} (h : OwnV w B v xs) (hB : B' ≤ B) : OwnV w B' v xs := by
  rcases h.shape with ⟨rfl, rfl⟩ | ⟨g, cap, rfl, ho⟩
  · exact OwnV.nil _ _
  · exact (ho.lower hB).val
theorem flat_len {α : Type} {f : α → List Int} {c : Nat} : ∀ (L : List α), (∀ x ∈ L, (f x).length ≤ c) → (L.flatMap f).length ≤ c * L.length
  | [], _ => by simp
  | x :: r, h => by
    rw [List.flatMap_cons, List.length_append, List.length_cons, Nat.mul_succ]
    have h1 := h x (by simp)
    have h2 := flat_len r fun y hy => h y (by simp [hy])
    omega
theorem flat_take {α : Type} (f : α → List Int) (L : List α) (j : Nat) (h : j < L.length) : (L.take (j + 1)).flatMap f = (L.take j).flatMap f ++ f L[j] := by
  rw [List.take_succ_eq_append_getElem h, List.flatMap_append, List.flatMap_cons, List.flatMap_nil, List.append_nil]
def keyU (s : ByteArray) : List Int := lb4 s.size ++ strL s
def unitL (u : Int) : List Int := lb4 u.toNat
/-- what stands ahead of the keys, of the sites, of the units -/
def pre1 (m : IM) : List Int := ((swy ++ lb4 m.bs.length) ++ m.bs) ++ lb4 m.ks.length
def pre2 (m : IM) : List Int := (pre1 m ++ m.ks.flatMap keyU) ++ lb4 m.si.length
def pre3 (m : IM) : List Int := (pre2 m ++ m.si.flatMap siteL) ++ lb4 m.un.length
theorem pre_all (m : IM) : pre3 m ++ m.un.flatMap unitL = putI m.im := by
  have e : m.ks.flatMap keyU = (m.ks.map strL).flatMap keyB := by
    rw [List.flatMap_map]
    congr 1
    funext s
    rw [keyB, strL_len]; rfl
  unfold pre3 pre2 pre1 putI IM.im
  rw [e, List.length_map]
  simp only [List.append_assoc]
  rfl
theorem pre1_len {m : IM} (h : m.bs.length ≤ 65536) : (pre1 m).length ≤ 65548 := by simp [pre1, lb4_len, swy]; omega
theorem keyU_len {m : IM} (h : okI m = true) : ∀ k ∈ m.ks, (keyU k).length ≤ 20 := fun k hk => by
  have := (okI_im h).key (strL k) (List.mem_map_of_mem hk)
  rw [keyU, List.length_append, lb4_len]; omega
theorem pre2_len {m : IM} (h : okI m = true) : (pre2 m).length ≤ 70000 := by
  have h1 := pre1_len (okI_parts h).1
  have h2 := flat_len m.ks (keyU_len h)
  have h3 := (okI_im h).ks
  rw [IM.im, List.length_map] at h3
  rw [pre2, List.length_append, List.length_append, lb4_len]; omega
theorem siteL_len (s : Si) : (siteL s).length = 12 := rfl
theorem pre3_len {m : IM} (h : okI m = true) : (pre3 m).length ≤ 80000 := by
  have h1 := pre2_len h
  have h2 := flat_len (f := siteL) (c := 12) m.si fun s _ => Nat.le_of_eq (siteL_len s)
  have h3 := (okI_im h).si
  have : m.si.length ≤ 256 := h3
  rw [pre3, List.length_append, List.length_append, lb4_len]; omega

theorem Blk.cells4 {W : World} {b : Nat} {T : TypeId} {x0 x1 x2 x3 : Value} (h : Blk W b T #[x0, x1, x2, x3]) : W.cell? ⟨b, 0, none⟩ = some x0 ∧ W.cell? ⟨b, 1, none⟩ = some x1 ∧ W.cell? ⟨b, 2, none⟩ = some x2 ∧ W.cell? ⟨b, 3, none⟩ = some x3 :=
  ⟨h.cell 0, h.cell 1, h.cell 2, h.cell 3⟩

set_option maxRecDepth 20000 in
set_option maxHeartbeats 1000000 in
theorem put_no (m : IM) (pb pk ps pu : Option Addr) (nb cb nk ck ns cs nu cu : Nat) (w : World) (h : ImIn w m pb pk ps pu nb cb nk ck ns cs nu cu) (hok : okI m = false) :
    Calls Try.prog 8 #[.agg (imA pb pk ps pu nb cb nk ck ns cs nu cu)] w fun E w' => E = .returned (.tuple #[.slice none 0 0, .int .i64 2]) ∧ Below w.heap.size w w' := by
  have HK0 : Hid (Blk (w.alloc (.cells (imA pb pk ps pu nb cb nk ck ns cs nu cu) 27)) w.heap.size 27 (imA pb pk ps pu nb cb nk ck ns cs nu cu)) := Blk.new _ _ _
  have HB0 : Hid (Below w.heap.size w (w.alloc (.cells (imA pb pk ps pu nb cb nk ck ns cs nu cu) 27))) := new_alloc _ _
  have hR := iright_any m pb pk ps pu nb cb nk ck ns cs nu cu _ (h.below HB0.out)
  rw [hok] at hR
  clear h hok
  obtain ⟨k0, k1, k2, k3⟩ := HK0.out.cells4
  go_enter Try.func8, Try.ntmps8
  go_wp2_with (go_at_call 17; refine hR.mono ?_; rintro e w1 ⟨rfl, hb1⟩)
  go_ret2
  exact ⟨rfl, below_step HB0.out hb1⟩

set_option maxRecDepth 20000 in
set_option maxHeartbeats 4000000 in
theorem put_yes (m : IM) (pb pk ps pu : Option Addr) (nb cb nk ck ns cs nu cu : Nat) (w : World) (h : ImIn w m pb pk ps pu nb cb nk ck ns cs nu cu) (hok : okI m = true) (hpb : pb = none → nb = 0 ∧ cb = 0) :
    Calls Try.prog 8 #[.agg (imA pb pk ps pu nb cb nk ck ns cs nu cu)] w fun E w' => ∃ v, E = .returned (.tuple #[v, .int .i64 0]) ∧ OwnV w' w.heap.size v (putI m.im) ∧ Below w.heap.size w w' := by
  have HK0 : Hid (Blk (w.alloc (.cells (imA pb pk ps pu nb cb nk ck ns cs nu cu) 27)) w.heap.size 27 (imA pb pk ps pu nb cb nk ck ns cs nu cu)) := Blk.new _ _ _
  have HB0 : Hid (Below w.heap.size w (w.alloc (.cells (imA pb pk ps pu nb cb nk ck ns cs nu cu) 27))) := new_alloc _ _
  have hR := iright_any m pb pk ps pu nb cb nk ck ns cs nu cu _ (h.below HB0.out)
  rw [hok] at hR
  have H := Hid.in h
  have HIM := Hid.in (okI_im hok)
  have HPB := Hid.in hpb
  have hnb : nb ≤ 65536 := by rw [← h.lb]; exact (okI_parts hok).1
  have hnk : nk ≤ 64 := by have := (okI_im hok).ks; rw [IM.im, List.length_map, h.lk] at this; exact this
  have hns : ns ≤ 256 := by have := (okI_im hok).si; rw [IM.im, h.ls] at this; exact this
  have hnu : nu ≤ 16 := by have := (okI_im hok).un; rw [IM.im, h.lu] at this; exact this
  have HKL := Hid.in (keyU_len hok)
  have hl1 := pre1_len (okI_parts hok).1
  have hl2 := pre2_len hok
  have hl3 := pre3_len hok
  have HALL := Hid.in (pre_all m)
  have HP1 : Hid (((swy ++ lb4 nb) ++ m.bs) ++ lb4 nk = pre1 m) := by
    have : ((swy ++ lb4 nb) ++ m.bs) ++ lb4 nk = pre1 m := by rw [pre1, h.lb, h.lk]
    exact this
  have HP2 : Hid ((pre1 m ++ m.ks.flatMap keyU) ++ lb4 ns = pre2 m) := by
    have : (pre1 m ++ m.ks.flatMap keyU) ++ lb4 ns = pre2 m := by rw [pre2, h.ls]
    exact this
  have HP3 : Hid ((pre2 m ++ m.si.flatMap siteL) ++ lb4 nu = pre3 m) := by
    have : (pre2 m ++ m.si.flatMap siteL) ++ lb4 nu = pre3 m := by rw [pre3, h.lu]
    exact this
  have HSW : Hid (strL ⟨#[83, 87, 89, 49]⟩ = swy) := by
    have : strL ⟨#[83, 87, 89, 49]⟩ = swy := rfl
    exact this
  have hs4 : swy.length = 4 := rfl
  have hL3 : Hid ((swy ++ lb4 nb).length + nb ≤ 140737488355328) := by
    have : (swy ++ lb4 nb).length + nb ≤ 140737488355328 := by rw [List.length_append, lb4_len]; omega
    exact this
  have hL4 : Hid (((swy ++ lb4 nb) ++ m.bs).length + 4 ≤ 140737488355328) := by
    have : ((swy ++ lb4 nb) ++ m.bs).length + 4 ≤ 140737488355328 := by rw [List.length_append, List.length_append, lb4_len, h.lb]; omega
    exact this
  clear h hok hpb
  obtain ⟨k0, k1, k2, k3⟩ := HK0.out.cells4
  go_enter Try.func8, Try.ntmps8
  go_wp2_with (go_at_call 17; refine hR.mono ?_; rintro e w1 ⟨rfl, hb1⟩; have HB1 := Hid.in (below_step HB0.out hb1); have HK1 := Hid.in (HK0.out.grow hb1); have hlt1 : w.heap.size < w1.heap.size := HK1.out.lt; have HS1 : Hid (PSt w (imA pb pk ps pu nb cb nk ck ns cs nu cu) w1.heap.size (w1.alloc (.cells #[.slice none 0 0] 47)) (.slice none 0 0) []) := ⟨⟨Blk.new _ _ _, OwnV.nil _ _⟩, HK1.out.grow (new_alloc _ _), below_alloc HB1.out _, hlt1⟩; clear hb1)
  have hz0 : ([] : List Int).length + (⟨#[83, 87, 89, 49]⟩ : ByteArray).size ≤ 140737488355328 := by decide
  go_wp2_with (go_at_call 23; (with_reducible refine (wtext_any w1.heap.size _ [] ⟨#[83, 87, 89, 49]⟩ _ HS1.out.wr hz0).mono ?_); rintro e w2 ⟨rfl, v2, a2, b2, c2⟩; rw [HSW.out, List.nil_append] at a2; have HS2 := Hid.in (HS1.out.step a2 b2 c2); obtain ⟨j0, j1, j2, j3⟩ := HS2.out.box.cells4; clear a2 b2 c2)
  go_wp2_with (go_at_call 24; (with_reducible refine (wnumber_any w1.heap.size v2 swy nb w2 HS2.out.wr (by omega) (by omega)).mono ?_); rintro e w3 ⟨rfl, v3, a2, b2, c2⟩; have HS3 := Hid.in (HS2.out.step a2 b2 c2); obtain ⟨j0, j1, j2, j3⟩ := HS3.out.box.cells4; clear a2 b2 c2)
  go_wp2_with (go_at_call 25; (with_reducible refine (wbytes_any w1.heap.size v3 (swy ++ lb4 nb) pb nb cb m.bs w3 HS3.out.wr H.out.lb (H.out.rb.below HS3.out.bel) HPB.out hL3.out).mono ?_); rintro e w4 ⟨rfl, v4, a2, b2, c2⟩; have HS4 := Hid.in (HS3.out.step a2 b2 c2); obtain ⟨j0, j1, j2, j3⟩ := HS4.out.box.cells4; clear a2 b2 c2)
  go_wp2_with (go_at_call 24; (with_reducible refine (wnumber_any w1.heap.size v4 ((swy ++ lb4 nb) ++ m.bs) nk w4 HS4.out.wr (by omega) hL4.out).mono ?_); rintro e w5 ⟨rfl, v5, a2, b2, c2⟩; rw [HP1.out] at a2; have HS5 := Hid.in (HS4.out.step a2 b2 c2); obtain ⟨j0, j1, j2, j3⟩ := HS5.out.box.cells4; clear a2 b2 c2)
  go_loopw [6, 29] (fun _ vi wr => ∃ (j : Nat) (v : Value), vi = .int .i64 j ∧ j ≤ nk ∧ PSt w (imA pb pk ps pu nb cb nk ck ns cs nu cu) w1.heap.size wr v (pre1 m ++ (m.ks.take j).flatMap keyU)) (fun _ vi _ => nk - (intOf vi).toNat)
  case atStart => exact ⟨0, v5, rfl, Nat.zero_le _, by rw [List.take_zero, List.flatMap_nil, List.append_nil]; exact HS5.out⟩
  case round =>
    obtain ⟨j, v, rfl, hj, hst⟩ := hrel
    have HS := Hid.in hst
    clear hst
    by_cases hlt : j < nk
    · have hjT : j < m.ks.length := by rw [H.out.lk]; exact hlt
      obtain ⟨b, o, rfl, hc⟩ := strV_cell (H.out.below HS.out.bel).rk (by omega)
      have c0 := hc j hjT
      have HTK := Hid.in (flat_take keyU m.ks j hjT)
      have hl5 : ((m.ks.take j).flatMap keyU).length ≤ 1280 := by
        have h1 := flat_len (m.ks.take j) fun x hx => HKL.out x (List.mem_of_mem_take hx)
        rw [List.length_take] at h1
        omega
      have hsz : m.ks[j].size ≤ 16 := by have := HIM.out.key (strL m.ks[j]) (List.mem_map_of_mem (List.getElem_mem hjT)); rwa [strL_len] at this
      have HU : Hid (∀ L : List Int, (L ++ lb4 m.ks[j].size) ++ strL m.ks[j] = L ++ keyU m.ks[j]) := fun L => by rw [keyU, List.append_assoc]
      clear hc
      generalize m.ks[j] = x at *
      generalize (m.ks.take j).flatMap keyU = LQ at *
      have hL6 : Hid ((pre1 m ++ LQ).length + 4 ≤ 140737488355328) := by
        have : (pre1 m ++ LQ).length + 4 ≤ 140737488355328 := by rw [List.length_append]; omega
        exact this
      have hL7 : Hid (((pre1 m ++ LQ) ++ lb4 x.size).length + x.size ≤ 140737488355328) := by
        have : ((pre1 m ++ LQ) ++ lb4 x.size).length + x.size ≤ 140737488355328 := by rw [List.length_append, List.length_append, lb4_len]; omega
        exact this
      go_wp2_with (go_at_call 24; (with_reducible refine (wnumber_any w1.heap.size v (pre1 m ++ LQ) x.size wr HS.out.wr (by omega) hL6.out).mono ?_); rintro e w6 ⟨rfl, v6, a2, b2, c2⟩; have HS6 := Hid.in (HS.out.step a2 b2 c2); clear a2 b2 c2)
      go_wp2_with (go_at_call 23; (with_reducible refine (wtext_any w1.heap.size v6 _ x w6 HS6.out.wr hL7.out).mono ?_); rintro e w7 ⟨rfl, v7, a2, b2, c2⟩; rw [HU.out, List.append_assoc, ← HTK.out] at a2; have HS7 := Hid.in (HS6.out.step a2 b2 c2); clear a2 b2 c2)
      go_roundw
      case rel => exact ⟨j + 1, v7, by go_num, by omega, HS7.out⟩
      case measure => simp [intOf]; omega
    · rw [List.take_of_length_le (by rw [H.out.lk]; omega)] at HS
      have hLa : Hid ((pre1 m ++ m.ks.flatMap keyU).length + 4 ≤ 140737488355328) := by
        have : (pre1 m ++ m.ks.flatMap keyU).length + 4 ≤ 140737488355328 := by
          rw [List.length_append]
          have h1 := flat_len m.ks HKL.out
          rw [H.out.lk] at h1
          omega
        exact this
      obtain ⟨j0, j1, j2, j3⟩ := HS.out.box.cells4
      go_wp2_with (go_at_call 24; (with_reducible refine (wnumber_any w1.heap.size v (pre1 m ++ m.ks.flatMap keyU) ns wr HS.out.wr (by omega) hLa.out).mono ?_); rintro e w8 ⟨rfl, v8, a2, b2, c2⟩; rw [HP2.out] at a2; have HS8 := Hid.in (HS.out.step a2 b2 c2); obtain ⟨j0, j1, j2, j3⟩ := HS8.out.box.cells4; clear a2 b2 c2)
      clear HS2 HS3 HS4 HS5 HS HS1 HP1 HP2 hL3 hL4 hLa
      go_loopw [8, 46] (fun _ vi wr => ∃ (i : Nat) (v : Value), vi = .int .i64 i ∧ i ≤ ns ∧ PSt w (imA pb pk ps pu nb cb nk ck ns cs nu cu) w1.heap.size wr v (pre2 m ++ (m.si.take i).flatMap siteL)) (fun _ vi _ => ns - (intOf vi).toNat)
      case atStart => exact ⟨0, v8, rfl, Nat.zero_le _, by rw [List.take_zero, List.flatMap_nil, List.append_nil]; exact HS8.out⟩
      case round =>
        obtain ⟨i, v, rfl, hi, hst⟩ := hrel
        have HS := Hid.in hst
        clear hst HS8
        by_cases hli : i < ns
        · have hiT : i < m.si.length := by rw [H.out.ls]; exact hli
          obtain ⟨b, o, rfl, hc⟩ := ((H.out.below HS.out.bel).rs).at3 (by omega)
          have c0 := (hc i hiT).1
          have c1 := (hc i hiT).2.1
          have c2 := (hc i hiT).2.2
          have HTK := Hid.in (flat_take siteL m.si i hiT)
          have hl5 : ((m.si.take i).flatMap siteL).length ≤ 3072 := by
            have h1 := flat_len (f := siteL) (c := 12) (m.si.take i) fun x _ => Nat.le_of_eq (siteL_len x)
            rw [List.length_take] at h1
            omega
          obtain ⟨hn0, hn1, hn2⟩ := HIM.out.site m.si[i] (List.getElem_mem hiT)
          obtain ⟨x0, e0⟩ : ∃ x : Nat, m.si[i].key = x := ⟨m.si[i].key.toNat, by unfold sNum at hn0; omega⟩
          obtain ⟨x1, e1⟩ : ∃ x : Nat, m.si[i].at_ = x := ⟨m.si[i].at_.toNat, by unfold sNum at hn1; omega⟩
          obtain ⟨x2, e2⟩ : ∃ x : Nat, m.si[i].to_ = x := ⟨m.si[i].to_.toNat, by unfold sNum at hn2; omega⟩
          have HU : Hid (∀ L : List Int, ((L ++ lb4 x0) ++ lb4 x1) ++ lb4 x2 = L ++ siteL m.si[i]) := fun L => by rw [siteL, e0, e1, e2, List.append_assoc, List.append_assoc]; rfl
          unfold sNum at hn0 hn1 hn2
          rw [e0] at c0 hn0
          rw [e1] at c1 hn1
          rw [e2] at c2 hn2
          clear hc e0 e1 e2
          generalize m.si[i] = x at *
          generalize (m.si.take i).flatMap siteL = LQ at *
          have hL6 : Hid ((pre2 m ++ LQ).length + 4 ≤ 140737488355328) := by
            have : (pre2 m ++ LQ).length + 4 ≤ 140737488355328 := by rw [List.length_append]; omega
            exact this
          have hL7 : Hid (((pre2 m ++ LQ) ++ lb4 x0).length + 4 ≤ 140737488355328) := by
            have : ((pre2 m ++ LQ) ++ lb4 x0).length + 4 ≤ 140737488355328 := by rw [List.length_append, List.length_append, lb4_len]; omega
            exact this
          have hL8 : Hid ((((pre2 m ++ LQ) ++ lb4 x0) ++ lb4 x1).length + 4 ≤ 140737488355328) := by
            have : (((pre2 m ++ LQ) ++ lb4 x0) ++ lb4 x1).length + 4 ≤ 140737488355328 := by rw [List.length_append, List.length_append, List.length_append, lb4_len, lb4_len]; omega
            exact this
          have HSx := Hid.in (HS.out.below (new_alloc wr (.cells #[.int .i64 x0, .int .i64 x1, .int .i64 x2] 52)))
          have HBx : Hid (Blk (wr.alloc (.cells #[.int .i64 x0, .int .i64 x1, .int .i64 x2] 52)) wr.heap.size 52 #[.int .i64 x0, .int .i64 x1, .int .i64 x2]) := Blk.new _ _ _
          have hnx : wr.heap.size ≠ w1.heap.size := by have := HS.out.wr.blk.lt; omega
          go_wp2_with (go_at_call 24; (with_reducible refine (wnumber_any w1.heap.size v (pre2 m ++ LQ) x0 _ HSx.out.wr (by omega) hL6.out).mono ?_); rintro e w6 ⟨rfl, v6, a2, b2, c2⟩; have HS6 := Hid.in (HSx.out.step a2 b2 c2); have HB6 := Hid.in (b2 _ _ _ (by decide) hnx HBx.out); have d1 : w6.cell? ⟨wr.heap.size, 1, none⟩ = some (.int .i64 x1) := HB6.out.cell 1; clear a2 b2 c2)
          go_wp2_with (go_at_call 24; (with_reducible refine (wnumber_any w1.heap.size v6 _ x1 w6 HS6.out.wr (by omega) hL7.out).mono ?_); rintro e w7 ⟨rfl, v7, a2, b2, c2⟩; have HS7 := Hid.in (HS6.out.step a2 b2 c2); have HB7 := Hid.in (b2 _ _ _ (by decide) hnx HB6.out); have d2 : w7.cell? ⟨wr.heap.size, 2, none⟩ = some (.int .i64 x2) := HB7.out.cell 2; clear a2 b2 c2)
          go_wp2_with (go_at_call 24; (with_reducible refine (wnumber_any w1.heap.size v7 _ x2 w7 HS7.out.wr (by omega) hL8.out).mono ?_); rintro e w8 ⟨rfl, v8, a2, b2, c2⟩; rw [HU.out, List.append_assoc, ← HTK.out] at a2; have HS8 := Hid.in (HS7.out.step a2 b2 c2); clear a2 b2 c2)
          go_roundw
          case rel => exact ⟨i + 1, v8, by go_num, by omega, HS8.out⟩
          case measure => simp [intOf]; omega
        · rw [List.take_of_length_le (by rw [H.out.ls]; omega)] at HS
          have hLa : Hid ((pre2 m ++ m.si.flatMap siteL).length + 4 ≤ 140737488355328) := by
            have : (pre2 m ++ m.si.flatMap siteL).length + 4 ≤ 140737488355328 := by
              rw [List.length_append]
              have h1 := flat_len (f := siteL) (c := 12) m.si fun x _ => Nat.le_of_eq (siteL_len x)
              rw [H.out.ls] at h1
              omega
            exact this
          obtain ⟨j0, j1, j2, j3⟩ := HS.out.box.cells4
          go_wp2_with (go_at_call 24; (with_reducible refine (wnumber_any w1.heap.size v (pre2 m ++ m.si.flatMap siteL) nu wr HS.out.wr (by omega) hLa.out).mono ?_); rintro e w9 ⟨rfl, v9, a2, b2, c2⟩; rw [HP3.out] at a2; have HS9 := Hid.in (HS.out.step a2 b2 c2); obtain ⟨j0, j1, j2, j3⟩ := HS9.out.box.cells4; clear a2 b2 c2)
          clear HS HP3 hLa
          go_loopw [10, 67] (fun _ vi wr => ∃ (i : Nat) (v : Value), vi = .int .i64 i ∧ i ≤ nu ∧ PSt w (imA pb pk ps pu nb cb nk ck ns cs nu cu) w1.heap.size wr v (pre3 m ++ (m.un.take i).flatMap unitL)) (fun _ vi _ => nu - (intOf vi).toNat)
          case atStart => exact ⟨0, v9, rfl, Nat.zero_le _, by rw [List.take_zero, List.flatMap_nil, List.append_nil]; exact HS9.out⟩
          case round =>
            obtain ⟨q, v, rfl, hq, hst⟩ := hrel
            have HS := Hid.in hst
            clear hst HS9
            by_cases hlq : q < nu
            · have hqT : q < m.un.length := by rw [H.out.lu]; exact hlq
              obtain ⟨b, o, rfl, hc⟩ := intV_cell (H.out.below HS.out.bel).ru (by omega)
              have c0 := hc q hqT
              have HTK := Hid.in (flat_take unitL m.un q hqT)
              have hl5 : ((m.un.take q).flatMap unitL).length ≤ 64 := by
                have h1 := flat_len (f := unitL) (c := 4) (m.un.take q) fun x _ => Nat.le_of_eq (lb4_len _)
                rw [List.length_take] at h1
                omega
              have hn0 := HIM.out.unit m.un[q] (List.getElem_mem hqT)
              obtain ⟨x0, e0⟩ : ∃ x : Nat, m.un[q] = x := ⟨m.un[q].toNat, by unfold sNum at hn0; omega⟩
              have HU : Hid (lb4 x0 = unitL m.un[q]) := by
                have : lb4 x0 = unitL m.un[q] := by rw [unitL, e0]; rfl
                exact this
              unfold sNum at hn0
              rw [e0] at c0 hn0
              clear hc e0
              generalize m.un[q] = x at *
              generalize (m.un.take q).flatMap unitL = LQ at *
              have hL6 : Hid ((pre3 m ++ LQ).length + 4 ≤ 140737488355328) := by
                have : (pre3 m ++ LQ).length + 4 ≤ 140737488355328 := by rw [List.length_append]; omega
                exact this
              go_wp2_with (go_at_call 24; (with_reducible refine (wnumber_any w1.heap.size v (pre3 m ++ LQ) x0 wr HS.out.wr (by omega) hL6.out).mono ?_); rintro e w6 ⟨rfl, v6, a2, b2, c2⟩; rw [HU.out, List.append_assoc, ← HTK.out] at a2; have HS6 := Hid.in (HS.out.step a2 b2 c2); clear a2 b2 c2)
              go_roundw
              case rel => exact ⟨q + 1, v6, by go_num, by omega, HS6.out⟩
              case measure => simp [intOf]; omega
            · rw [List.take_of_length_le (by rw [H.out.lu]; omega), HALL.out] at HS
              have cF : wr.cell? ⟨w1.heap.size, 0, none⟩ = some v := HS.out.wr.blk.cell 0
              obtain ⟨pv, nv, kv, rfl⟩ : ∃ p n k, v = .slice p n k := by obtain ⟨p, k, e, _⟩ := HS.out.wr.own.slice; exact ⟨p, _, k, e⟩
              go_wp2_with fail
              go_ret2
              exact ⟨_, rfl, OwnV.lower HS.out.wr.own (by have := HS.out.lt; omega), HS.out.bel⟩
end Go.Proofs.Ytfhjaabbfaamjaa

/- What is left of an image's bytes: part, number, start. -/
namespace Go.Proofs.Ytfhjaabbfaamjaa
open Go.RowKit

/-- what is left lies ahead of the variable's own block -/
structure Un (W : World) (g : Nat) (r : Rd) (p : Option Addr) (c : Nat) : Prop where
  blk : Blk W g 59 #[.slice p r.l.length c, .int .i64 r.e]
  row : Row W p r.l
  far : ∀ a, p = some a → a.block < g
  cap : r.l.length ≤ c
  mcap : c ≤ 9223372036854775807
  byt : Byt r.l
theorem slice_hi (q : Option Addr) (n5 d5 m : Nat) (W : World) (h : m ≤ d5) : (Instr.sliceAt 22 (.slice q n5 d5) none (some (.int .i64 m)) none).run Try.prog W = .ok (.slice q m d5) W := by
  have h0 : (0 : Int) ≤ (m : Int) := by omega
  have h1 : (m : Int) ≤ (d5 : Int) := by omega
  simp [Instr.sliceAt, Instr.slice, Instr.sliceBounds, go_sem, h0, h1]
theorem slice_hi' (q : Option Addr) (n5 d5 m : Nat) (W : World) (h : m ≤ d5) : (Instr.slice 22 (.slice q n5 d5) none (some (.int .i64 m)) none).run Try.prog W = .ok (.slice q m d5) W := by
  rw [← slice_hi q n5 d5 m W h]
  simp [Instr.sliceAt, go_sem]
theorem Un.kept {W W' : World} {g : Nat} {p : Option Addr} {xs : List Int} (h : Row W p xs) (hf : ∀ a, p = some a → a.block < g) (hg : W.grownBy W' (some g)) : Row W' p xs := fun h0 => by
  obtain ⟨b, o, rfl, hc⟩ := h h0
  refine ⟨b, o, rfl, fun i hi => ?_⟩
  have : b < g := hf _ rfl
  exact hg.cell (hc i hi) (by simp; omega)
/-- bytes that were read: they lie ahead of the variable too -/
structure Pt (W : World) (g : Nat) (xs : List Int) (q : Option Addr) (d : Nat) : Prop where
  row : Row W q xs
  far : ∀ a, q = some a → a.block < g
  cap : xs.length ≤ d
  mcap : d ≤ 9223372036854775807
  byt : Byt xs

theorem add_block (a : Addr) (k : Nat) : (a.add k).block = a.block := by
  unfold Addr.add
  split <;> rfl
theorem hf3 {g n c L : Nat} {p p' : Option Addr} (hf : ∀ a, p = some a → a.block < g) (hn : n ≤ L) (w : World)
    (e : ∀ W, (Instr.sliceAt 22 (.slice p L c) (some (.int .i64 n)) none none).run Try.prog W = .ok (.slice p' (L - n) (c - n)) W) : ∀ a, p' = some a → a.block < g := fun b hp => by
  have h1 := e w
  rw [slice_lo p L c n w hn] at h1
  injection h1 with h2
  injection h2 with h3
  by_cases hc : c = n
  · rw [if_pos hc] at h3; exact hf b (h3.trans hp)
  · rw [if_neg hc] at h3
    cases p with
    | none => rw [← h3] at hp; simp at hp
    | some a =>
      rw [← h3, Option.map_some] at hp
      injection hp with hp
      rw [← hp, add_block]
      exact hf a rfl
set_option maxRecDepth 20000 in
set_option maxHeartbeats 1000000 in
theorem part_any (g n c : Nat) (r : Rd) (p : Option Addr) (w : World) (h : Un w g r p c) (hn : n ≤ 9223372036854775807) :
    Calls Try.prog 48 #[.pointer (some ⟨g, 0, none⟩), .int .i64 n] w fun E w' => ∃ q d p' c', E = .returned (.slice q (partR n r).1.length d) ∧ Pt w' g (partR n r).1 q d ∧ Un w' g (partR n r).2 p' c' ∧ w.grownBy w' (some g) := by
  have H := Hid.in h
  have c0 : w.cell? ⟨g, 0, none⟩ = some (.slice p r.l.length c) := h.blk.cell 0
  have c1 : w.cell? ⟨g, 1, none⟩ = some (.int .i64 r.e) := h.blk.cell 1
  have f0 := h.blk.free 0
  have f1 := h.blk.free 1
  have hcap := h.cap
  have hmc := h.mcap
  clear h
  obtain ⟨l, e⟩ := r
  dsimp only at *
  by_cases h0 : e = 0
  · subst h0
    by_cases hl : l.length < n
    · have HP : Hid (partR n ⟨l, 0⟩ = ([], ⟨l, 4⟩)) := by
        have : partR n ⟨l, 0⟩ = ([], ⟨l, 4⟩) := by unfold partR; rw [if_neg (by simp), if_pos hl]
        exact this
      rw [HP.out]
      have HN : Hid (Un (w.setCell ⟨g, 1, none⟩ (.int .i64 4)) g ⟨l, 4⟩ p c) := by
        refine ⟨?_, ?_, H.out.far, H.out.cap, H.out.mcap, H.out.byt⟩
        · have := H.out.blk.set 1 (.int .i64 4); simpa using this
        · exact Un.kept H.out.row H.out.far (grown_setCell _ _ _ _)
      have q1 : decide ((l.length : Int) < (n : Int)) = true := decide_eq_true (by omega)
      have HL := Hid.in hl
      clear hl
      generalize l.length = L at *
      go_enter Try.func48, Try.ntmps48
      go_wp2_with fail
      go_ret
      exact ⟨none, 0, p, c, rfl, ⟨fun h => absurd h (Nat.lt_irrefl 0), by simp, Nat.le_refl _, by omega, fun i => by simp⟩, HN.out, grown_setCell _ _ _ _⟩
    · have HP : Hid (partR n ⟨l, 0⟩ = (l.take n, ⟨l.drop n, 0⟩)) := by
        have : partR n ⟨l, 0⟩ = (l.take n, ⟨l.drop n, 0⟩) := by unfold partR; rw [if_neg (by simp), if_neg hl]
        exact this
      rw [HP.out]
      obtain ⟨p', e1, e2, hrow, hn1, hn2⟩ := slice_from H.out.row rfl hcap (show n ≤ l.length by omega)
      have hi1 := fun W => slice_hi p l.length c n W (by omega)
      have hi2 := fun W => slice_hi' p l.length c n W (by omega)
      have hfar : ∀ a, p' = some a → a.block < g := hf3 H.out.far (show n ≤ l.length by omega) w e1
      have HN : Hid (Un (w.setCell ⟨g, 0, none⟩ (.slice p' (l.length - n) (c - n))) g ⟨l.drop n, 0⟩ p' (c - n)) := by
        refine ⟨?_, ?_, hfar, by show (l.drop n).length ≤ c - n; rw [List.length_drop]; omega, by omega, byt_dropS H.out.byt n⟩
        · have := H.out.blk.set 0 (.slice p' (l.length - n) (c - n)); simpa using this
        · exact Un.kept hrow hfar (grown_setCell _ _ _ _)
      have HT : Hid (Pt (w.setCell ⟨g, 0, none⟩ (.slice p' (l.length - n) (c - n))) g (l.take n) p c) :=
        ⟨Un.kept (H.out.row.take n) H.out.far (grown_setCell _ _ _ _), H.out.far, by rw [List.length_take]; omega, H.out.mcap, byt_takeS H.out.byt n⟩
      have HLT : Hid ((l.take n).length = n) := by
        have : (l.take n).length = n := by rw [List.length_take]; omega
        exact this
      have q1 : decide ((l.length : Int) < (n : Int)) = false := decide_eq_false (by omega)
      have HL := Hid.in hl
      clear hl hrow hn1 hn2
      generalize l.length = L at *
      go_enter Try.func48, Try.ntmps48
      go_wp2_with fail
      go_ret
      exact ⟨p, c, p', c - n, by rw [HLT.out]; rfl, HT.out, HN.out, grown_setCell _ _ _ _⟩
  · have HP : Hid (partR n ⟨l, e⟩ = ([], ⟨l, e⟩)) := by
      have : partR n ⟨l, e⟩ = ([], ⟨l, e⟩) := by unfold partR; rw [if_pos h0]
      exact this
    rw [HP.out]
    have q1 : decide (e = 0) = false := decide_eq_false h0
    generalize l.length = L at *
    go_enter Try.func48, Try.ntmps48
    go_wp2_with fail
    go_ret
    exact ⟨none, 0, p, c, rfl, ⟨fun h => absurd h (Nat.lt_irrefl 0), by simp, Nat.le_refl _, by omega, fun i => by simp⟩, H.out, grown_same _ _⟩

theorem part_bad {n : Nat} {r : Rd} (h : (partR n r).2.e ≠ 0) : (partR n r).1 = [] := by
  unfold partR at *
  split
  · rfl
  · rename_i h1
    rw [if_neg h1] at h
    split
    · rfl
    · rename_i h2
      rw [if_neg h2] at h
      exact absurd rfl h
theorem part_byt {n : Nat} {r : Rd} (h : Byt r.l) : Byt (partR n r).1 := by
  unfold partR
  split
  · exact fun i => by simp
  · split
    · exact fun i => by simp
    · exact byt_takeS h n
theorem part_good {n : Nat} {r : Rd} (h : (partR n r).2.e = 0) : (partR n r).1.length = n := by
  unfold partR at *
  split
  · rename_i h1
    rw [if_pos h1] at h
    exact absurd h h1
  · rename_i h1
    rw [if_neg h1] at h
    split
    · rename_i h2
      rw [if_pos h2] at h
      exact absurd (show (4 : Int) = 0 from h) (by decide)
    · rename_i h2
      show (r.l.take n).length = n
      rw [List.length_take]; omega

set_option maxRecDepth 20000 in
set_option maxHeartbeats 1000000 in
theorem number_any (g most c : Nat) (r : Rd) (p : Option Addr) (w : World) (h : Un w g r p c) :
    Calls Try.prog 50 #[.pointer (some ⟨g, 0, none⟩), .int .u32 most] w fun E w' => ∃ p' c', E = .returned (.int .i64 (numR most r).1) ∧ Un w' g (numR most r).2 p' c' ∧ w.grownBy w' (some g) := by
  have hp := part_any g 4 c r p w h (by omega)
  have HE : Hid (numR most r = if (partR 4 r).2.e ≠ 0 then (0, (partR 4 r).2) else if most < (n4 (partR 4 r).1 0).toNat then (0, ⟨(partR 4 r).2.l, 200⟩) else ((n4 (partR 4 r).1 0).toNat, (partR 4 r).2)) := by
    have : numR most r = if (partR 4 r).2.e ≠ 0 then (0, (partR 4 r).2) else if most < (n4 (partR 4 r).1 0).toNat then (0, ⟨(partR 4 r).2.l, 200⟩) else ((n4 (partR 4 r).1 0).toNat, (partR 4 r).2) := rfl
    exact this
  have HB := Hid.in (part_bad (n := 4) (r := r))
  have HG := Hid.in (part_good (n := 4) (r := r))
  have HBY := Hid.in (part_byt (n := 4) h.byt)
  clear h
  generalize partR 4 r = pr at *
  obtain ⟨xs, r2⟩ := pr
  dsimp only at hp HE HB HG HBY
  by_cases he : r2.e = 0
  · rw [if_neg (by simp [he])] at HE
    have hl : xs.length = 4 := HG.out he
    have HLX := Hid.in hl
    rw [hl] at hp
    have hbd : 0 ≤ n4 xs 0 ∧ n4 xs 0 ≤ 4294967295 := n4_bd HBY.out 0
    obtain ⟨v, hv⟩ : ∃ v : Nat, n4 xs 0 = v := ⟨(n4 xs 0).toNat, by omega⟩
    have HV : Hid (n4 xs (0 : Int).toNat = v) := hv
    rw [hv] at hbd
    rw [hv, Int.toNat_natCast] at HE
    clear hl hv
    by_cases hmost : most < v
    · rw [if_pos hmost] at HE
      rw [HE.out]
      have q1 : decide ((most : Int) < (v : Int)) = true := decide_eq_true (by omega)
      go_enter Try.func50, Try.ntmps50
      go_wp2_with (first
        | (go_at_call 48; refine hp.mono ?_; rintro e w1 ⟨q, d, p1, c1, rfl, hq, hu, hg⟩; have HU := Hid.in hu; have HQ := Hid.in hq; have HGR := Hid.in hg; have f1 := hu.blk.free 1; have k1 : w1.cell? ⟨g, 1, none⟩ = some (.int .i64 r2.e) := hu.blk.cell 1; clear hq hu hg hp)
        | (go_at_call 61; refine (u32_yes q 4 d 0 xs w1 HLX.out (by omega) HQ.out.row HQ.out.byt (by omega) (by omega)).mono ?_; rintro e w2 ⟨rfl, rfl⟩; rw [HV.out]))
      go_ret
      refine ⟨p1, c1, rfl, ⟨?_, Un.kept HU.out.row HU.out.far (grown_setCell _ _ _ _), HU.out.far, HU.out.cap, HU.out.mcap, HU.out.byt⟩, ?_⟩
      · have := HU.out.blk.set 1 (.int .i64 200); simpa using this
      · exact HGR.out.trans (grown_setCell _ _ _ _)
    · rw [if_neg hmost] at HE
      rw [HE.out]
      have q1 : decide ((most : Int) < (v : Int)) = false := decide_eq_false (by omega)
      go_enter Try.func50, Try.ntmps50
      go_wp2_with (first
        | (go_at_call 48; refine hp.mono ?_; rintro e w1 ⟨q, d, p1, c1, rfl, hq, hu, hg⟩; have HU := Hid.in hu; have HQ := Hid.in hq; have HGR := Hid.in hg; clear hq hu hg hp)
        | (go_at_call 61; refine (u32_yes q 4 d 0 xs w1 HLX.out (by omega) HQ.out.row HQ.out.byt (by omega) (by omega)).mono ?_; rintro e w2 ⟨rfl, rfl⟩; rw [HV.out]))
      go_ret
      exact ⟨p1, c1, by go_num, HU.out, HGR.out⟩
  · rw [if_pos he] at HE
    have hx : xs = [] := HB.out he
    subst hx
    rw [HE.out]
    go_enter Try.func50, Try.ntmps50
    go_wp2_with (first
      | (go_at_call 48; refine hp.mono ?_; rintro e w1 ⟨q, d, p1, c1, rfl, hq, hu, hg⟩; have HU := Hid.in hu; have HQ := Hid.in hq; have HGR := Hid.in hg; clear hq hu hg hp)
      | (go_at_call 61; refine (u32_no q _ d 0 w1 (by simp) (by simp)).mono ?_; rintro e w2 ⟨rfl, rfl⟩))
    go_ret
    exact ⟨p1, c1, rfl, HU.out, HGR.out⟩
end Go.Proofs.Ytfhjaabbfaamjaa

/- What is left of an image's bytes: units. -/
namespace Go.Proofs.Ytfhjaabbfaamjaa
open Go.RowKit

theorem many_snoc {α : Type} (f : Rd → α × Rd) : ∀ (k : Nat) (r : Rd), manyR f (k + 1) r = ((manyR f k r).1 ++ [(f (manyR f k r).2).1], (f (manyR f k r).2).2)
  | 0, r => rfl
  | k + 1, r => by
    have h := many_snoc f k (f r).2
    show ((f r).1 :: (manyR f (k + 1) (f r).2).1, (manyR f (k + 1) (f r).2).2) = _
    rw [h]
    rfl
theorem many_len {α : Type} (f : Rd → α × Rd) : ∀ (k : Nat) (r : Rd), (manyR f k r).1.length = k
  | 0, r => rfl
  | k + 1, r => by
    show ((f r).1 :: (manyR f k (f r).2).1).length = k + 1
    rw [List.length_cons, many_len f k]
theorem num_le (most : Nat) (r : Rd) : (numR most r).1 ≤ most := by
  unfold numR
  split
  · exact Nat.zero_le _
  · split
    · exact Nat.zero_le _
    · rename_i h; exact Nat.le_of_not_lt h
theorem grown_more {g : Nat} {W0 W W' : World} {row : Option Nat} (h : W0.grownBy W (some g)) (hg : W.grownBy W' row) (hr : ∀ k, row = some k → W0.heap.size ≤ k) : W0.grownBy W' (some g) :=
  ⟨hg.os.trans h.os, hg.tape.trans h.tape, hg.output.trans h.output, Nat.le_trans h.size hg.size, fun k hk hne => (hg.block k (Nat.lt_of_lt_of_le hk h.size) (fun e => by have := hr k e.symm; omega)).trans (h.block k hk hne)⟩
theorem grown_below {g : Nat} {W0 W W' : World} (h : W0.grownBy W (some g)) (hb : Below W.heap.size W W') : W0.grownBy W' (some g) :=
  ⟨hb.os.trans h.os, hb.tape.trans h.tape, hb.output.trans h.output, Nat.le_trans h.size hb.size, fun k hk hne => (hb.block k (Nat.lt_of_lt_of_le hk h.size)).trans (h.block k hk hne)⟩
theorem own_ge {w : World} {B e s n : Nat} {v : Value} {xs : List Value} (h : w.ownsRow B e s v n xs) : ∀ k, v.ownBlock = some k → B ≤ k := fun k hk => by
  rcases h.2 with ⟨rfl, _⟩ | ⟨g, cap, cur, rfl, hB, _⟩
  · simp [Value.ownBlock] at hk
  · simp [Value.ownBlock] at hk; omega
theorem GOwnV.ge {T : TypeId} {w : World} {B : Nat} {v : Value} {vs : List Value} (h : GOwnV T w B v vs) : ∀ k, v.ownBlock = some k → B ≤ k := own_ge h
theorem own_kept {w w' : World} {B e s n g : Nat} {v : Value} {xs : List Value} (h : w.ownsRow B e s v n xs) (hg : w.grownBy w' (some g)) (hB : g < B) : w'.ownsRow B e s v n xs :=
  h.kept hg (Or.inr fun e => by have := own_ge h g e; omega)
theorem Un.more {W W' : World} {g c : Nat} {r : Rd} {p : Option Addr} {row : Option Nat} (h : Un W g r p c) (hg : W.grownBy W' row) (hr : ∀ k, row = some k → g < k) : Un W' g r p c :=
  ⟨h.blk.kept hg (fun e => by have := hr g e.symm; omega), fun h0 => by
    obtain ⟨b, o, rfl, hc⟩ := h.row h0
    have : b < g := h.far _ rfl
    exact ⟨b, o, rfl, fun i hi => hg.cell (hc i hi) (fun e => by have := hr b e.symm; omega)⟩, h.far, h.cap, h.mcap, h.byt⟩
theorem Un.below {W W' : World} {g c : Nat} {r : Rd} {p : Option Addr} (h : Un W g r p c) (hb : Below W.heap.size W W') : Un W' g r p c :=
  ⟨h.blk.grow hb, h.row.below hb, h.far, h.cap, h.mcap, h.byt⟩

set_option maxRecDepth 20000 in
set_option maxHeartbeats 1000000 in
theorem units_any (g c : Nat) (r : Rd) (p : Option Addr) (w : World) (h : Un w g r p c) :
    Calls Try.prog 36 #[.pointer (some ⟨g, 0, none⟩)] w fun E w' => ∃ v p' c', E = .returned v ∧ GOwnV 3 w' w.heap.size v (intV (listR unitR 16 r).1) ∧ Un w' g (listR unitR 16 r).2 p' c' ∧ w.grownBy w' (some g) := by
  have hp := number_any g 16 c r p w h
  have hlt := h.blk.lt
  have hle := num_le 16 r
  have HE : Hid (listR unitR 16 r = manyR unitR (numR 16 r).1 (numR 16 r).2) := by
    have : listR unitR 16 r = manyR unitR (numR 16 r).1 (numR 16 r).2 := rfl
    exact this
  rw [HE.out]
  clear h HE
  generalize numR 16 r = nr at *
  obtain ⟨n, r0⟩ := nr
  dsimp only at *
  go_enter Try.func36, Try.ntmps36
  go_wp2_with (go_at_call 50; refine hp.mono ?_; rintro e w1 ⟨p1, c1, rfl, hu, hg⟩; have HU := Hid.in hu; have HGR := Hid.in hg; clear hu hg)
  go_loopw [3, 6] (fun v vi wr => ∃ (j : Nat) (p' : Option Addr) (c' : Nat), vi = .int .i64 j ∧ j ≤ n ∧ GOwnV 3 wr w.heap.size v (intV (manyR unitR j r0).1) ∧ Un wr g (manyR unitR j r0).2 p' c' ∧ w.grownBy wr (some g)) (fun _ vi _ => n - (intOf vi).toNat)
  case atStart => exact ⟨0, p1, c1, rfl, Nat.zero_le _, GOwnV.nil _ _ _, HU.out, HGR.out⟩
  case round =>
    obtain ⟨j, p2, c2, rfl, hj, hT, hu, hg⟩ := hrel
    have HT := Hid.in hT
    have HU := Hid.in hu
    have HG := Hid.in hg
    have hlen : (intV (manyR unitR j r0).1).length = j := by rw [List.length_map, many_len]
    have HLEN := Hid.in hlen
    obtain ⟨pv, cv, hv, -⟩ := hT.slice
    rw [hlen] at hv
    subst hv
    clear hT hu hg hlen
    by_cases hlt2 : j < n
    · have HSN := Hid.in (many_snoc unitR j r0)
      have hnx := number_any g 2147483647 c2 (manyR unitR j r0).2 p2 wr HU.out
      generalize manyR unitR j r0 = mr at *
      obtain ⟨L, r2⟩ := mr
      dsimp only at *
      have HX : Hid (unitR r2 = (((numR 2147483647 r2).1 : Int), (numR 2147483647 r2).2)) := by
        have : unitR r2 = (((numR 2147483647 r2).1 : Int), (numR 2147483647 r2).2) := rfl
        exact this
      rw [HX.out] at HSN
      clear HX
      generalize numR 2147483647 r2 = nx at *
      obtain ⟨x, r3⟩ := nx
      dsimp only at *
      go_wp2_with (first
        | (go_at_call 50; refine hnx.mono ?_; rintro e w2 ⟨p3, c3, rfl, hu3, hg3⟩; have HU3 := Hid.in hu3; have HT3 : Hid (GOwnV 3 w2 w.heap.size (.slice pv j cv) (intV L)) := own_kept HT.out hg3 hlt; have HG3 := Hid.in (HG.out.trans hg3); have hsz2 := HG3.out.size; clear hu3 hg3)
        | (at_builtin; refine gpush Try.elemI _ rfl _ _ rfl w.heap.size _ (intV L) rfl (HT3.out.alloc _) ⟨w2.heap.size, 0, none⟩ 1 1 [Value.int .i64 x] rfl rfl (cell_one_new _ _ _) (by simp [Value.oneCell']) (by rw [HLEN.out]; omega) (by rw [HLEN.out]; omega) (by simp; omega) ?_; intro v' w4 hown' hgrow _ _; have HT4 := Hid.in hown'; have HU4 := Hid.in ((HU3.out.below (new_alloc w2 (.cells #[.int .i64 x] 3))).more hgrow (fun k e => by have := HT3.out.ge k e; omega)); have HG4 := Hid.in (grown_more (grown_below HG3.out (new_alloc w2 (.cells #[.int .i64 x] 3))) hgrow HT3.out.ge); clear hown' hgrow))
      go_roundw
      case rel => exact ⟨j + 1, p3, c3, by go_num, by omega, by rw [HSN.out]; simpa using HT4.out, by rw [HSN.out]; exact HU4.out, HG4.out⟩
      case measure => simp [intOf]; omega
    · obtain rfl : j = n := by omega
      go_wp2_with fail
      go_ret
      exact ⟨_, p2, c2, rfl, HT.out, HU.out, HG.out⟩
end Go.Proofs.Ytfhjaabbfaamjaa

/- What is left of an image's bytes: keys. -/
namespace Go.Proofs.Ytfhjaabbfaamjaa
open Go.RowKit

set_option maxRecDepth 20000 in
set_option maxHeartbeats 1000000 in
theorem keys_any (g c : Nat) (r : Rd) (p : Option Addr) (w : World) (h : Un w g r p c) :
    Calls Try.prog 34 #[.pointer (some ⟨g, 0, none⟩)] w fun E w' => ∃ v p' c', E = .returned v ∧ GOwnV 9 w' w.heap.size v (strV ((listR keyR 64 r).1.map strOfNums)) ∧ Un w' g (listR keyR 64 r).2 p' c' ∧ w.grownBy w' (some g) := by
  have hp := number_any g 64 c r p w h
  have hlt := h.blk.lt
  have hle := num_le 64 r
  have HE : Hid (listR keyR 64 r = manyR keyR (numR 64 r).1 (numR 64 r).2) := by
    have : listR keyR 64 r = manyR keyR (numR 64 r).1 (numR 64 r).2 := rfl
    exact this
  rw [HE.out]
  clear h HE
  generalize numR 64 r = nr at *
  obtain ⟨n, r0⟩ := nr
  dsimp only at *
  go_enter Try.func34, Try.ntmps34
  go_wp2_with (go_at_call 50; refine hp.mono ?_; rintro e w1 ⟨p1, c1, rfl, hu, hg⟩; have HU := Hid.in hu; have HGR := Hid.in hg; clear hu hg)
  go_loopw [3, 6] (fun v vi wr => ∃ (j : Nat) (p' : Option Addr) (c' : Nat), vi = .int .i64 j ∧ j ≤ n ∧ GOwnV 9 wr w.heap.size v (strV ((manyR keyR j r0).1.map strOfNums)) ∧ Un wr g (manyR keyR j r0).2 p' c' ∧ w.grownBy wr (some g)) (fun _ vi _ => n - (intOf vi).toNat)
  case atStart => exact ⟨0, p1, c1, rfl, Nat.zero_le _, GOwnV.nil _ _ _, HU.out, HGR.out⟩
  case round =>
    obtain ⟨j, p2, c2, rfl, hj, hT, hu, hg⟩ := hrel
    have HT := Hid.in hT
    have HU := Hid.in hu
    have HG := Hid.in hg
    have hlen : (strV ((manyR keyR j r0).1.map strOfNums)).length = j := by rw [List.length_map, List.length_map, many_len]
    have HLEN := Hid.in hlen
    obtain ⟨pv, cv, hv, -⟩ := hT.slice
    rw [hlen] at hv
    subst hv
    clear hT hu hg hlen
    by_cases hlt2 : j < n
    · have HSN := Hid.in (many_snoc keyR j r0)
      have hnx := number_any g 16 c2 (manyR keyR j r0).2 p2 wr HU.out
      generalize manyR keyR j r0 = mr at *
      obtain ⟨L, r2⟩ := mr
      dsimp only at *
      have HX : Hid (keyR r2 = partR (numR 16 r2).1 (numR 16 r2).2) := by
        have : keyR r2 = partR (numR 16 r2).1 (numR 16 r2).2 := rfl
        exact this
      rw [HX.out] at HSN
      clear HX
      have hxle := num_le 16 r2
      generalize numR 16 r2 = nx at *
      obtain ⟨x, r3⟩ := nx
      dsimp only at *
      have hpx := fun W P C (h : Un W g r3 P C) => part_any g x C r3 P W h (by omega)
      generalize partR x r3 = px at *
      obtain ⟨xs, r4⟩ := px
      dsimp only at *
      go_wp2_with (first
        | (go_at_call 50; refine hnx.mono ?_; rintro e w2 ⟨p3, c3, rfl, hu3, hg3⟩; have HU3 := Hid.in hu3; have HT3 : Hid (GOwnV 9 w2 w.heap.size (.slice pv j cv) (strV (L.map strOfNums))) := own_kept HT.out hg3 hlt; have HG3 := Hid.in (HG.out.trans hg3); clear hu3 hg3)
        | (go_at_call 48; refine (hpx w2 p3 c3 HU3.out).mono ?_; rintro e w5 ⟨q5, d5, p5, c5, rfl, hq5, hu5, hg5⟩; have HU5 := Hid.in hu5; have hcv := hq5.row.convert rfl d5; have HT5 : Hid (GOwnV 9 w5 w.heap.size (.slice pv j cv) (strV (L.map strOfNums))) := own_kept HT3.out hg5 hlt; have HG5 := Hid.in (HG3.out.trans hg5); have hsz5 := HG5.out.size; clear hu5 hg5 hq5)
        | (at_builtin; refine gpush Try.elemS _ rfl _ _ rfl w.heap.size _ (strV (L.map strOfNums)) rfl (HT5.out.alloc _) ⟨w5.heap.size, 0, none⟩ 1 1 [Value.string (strOfNums xs)] rfl rfl (cell_one_new _ _ _) (by simp [Value.oneCell']) (by rw [HLEN.out]; omega) (by rw [HLEN.out]; omega) (by simp; omega) ?_; intro v' w4 hown' hgrow _ _; have HT4 := Hid.in hown'; have HU4 := Hid.in ((HU5.out.below (new_alloc w5 (.cells #[.string (strOfNums xs)] 9))).more hgrow (fun k e => by have := HT5.out.ge k e; omega)); have HG4 := Hid.in (grown_more (grown_below HG5.out (new_alloc w5 (.cells #[.string (strOfNums xs)] 9))) hgrow HT5.out.ge); clear hown' hgrow))
      go_roundw
      case rel => exact ⟨j + 1, p5, c5, by go_num, by omega, by rw [HSN.out]; simpa using HT4.out, by rw [HSN.out]; exact HU4.out, HG4.out⟩
      case measure => simp [intOf]; omega
    · obtain rfl : j = n := by omega
      go_wp2_with fail
      go_ret
      exact ⟨_, p2, c2, rfl, HT.out, HU.out, HG.out⟩
end Go.Proofs.Ytfhjaabbfaamjaa

/- switchyardkit.SameSites and CopySites. -/
namespace Go.Proofs.Ytfhjaabbfaamjaa
open Go.RowKit

theorem Try.elemSite : Elem3 24 52 24 := ⟨Try.underlying24, .agg #[.int .i64 0, .int .i64 0, .int .i64 0], rfl, by kernel_rfl⟩

set_option maxRecDepth 20000 in
set_option maxHeartbeats 1000000 in
theorem sameSites_any (p q : Option Addr) (n c m d : Nat) (L M : List Si) (w : World) (hn : L.length = n) (hm : M.length = m) (hn6 : n ≤ 9223372036854775807) (_hm6 : m ≤ 9223372036854775807) (h1 : Row3 w p (L.map siV)) (h2 : Row3 w q (M.map siV)) :
    Calls Try.prog 29 #[.slice p n c, .slice q m d] w fun E w' => (∃ b, E = .returned (.bool b) ∧ (b = true ↔ L = M)) ∧ ∃ z, w' = w.drewN z := by
  by_cases hl : n = m
  · subst hl
    have HL := Hid.in hn
    have HM := Hid.in hm
    have H1 := Hid.in h1
    have H2 := Hid.in h2
    clear hn hm h1 h2
    go_enter Try.func29, Try.ntmps29
    go_wp2_with fail
    go_loopw [5] (fun vi wr => ∃ k z : Nat, vi = .int .i64 k ∧ k ≤ n ∧ L.take k = M.take k ∧ wr = w.drewN z) (fun vi _ => n - (intOf vi).toNat)
    case atStart => exact ⟨0, 0, rfl, Nat.zero_le _, rfl, rfl⟩
    case round =>
      obtain ⟨k, z, rfl, hk, ht, rfl⟩ := hrel
      have HT := Hid.in ht
      clear ht
      by_cases hlt : k < n
      · have hk1 : k < L.length := by rw [HL.out]; exact hlt
        have hk2 : k < M.length := by rw [HM.out]; exact hlt
        obtain ⟨b, o, rfl, hc⟩ := H1.out (by rw [List.length_map]; omega)
        obtain ⟨c0, c1, c2⟩ := cells3 hc k (by rw [List.length_map]; exact hk1)
        obtain ⟨b', o', rfl, hc'⟩ := H2.out (by rw [List.length_map]; omega)
        obtain ⟨e0, e1, e2⟩ := cells3 hc' k (by rw [List.length_map]; exact hk2)
        simp only [List.getElem_map, siV] at c0 c1 c2 e0 e1 e2
        have HE : Hid (L[k] = M[k] → L.take (k + 1) = M.take (k + 1)) := fun e => take_step HT.out hk1 hk2 e
        have HNE : Hid (L[k] ≠ M[k] → L ≠ M) := fun e e' => e (by subst e'; rfl)
        clear hc hc' H1 H2
        generalize L[k] = x at *
        generalize M[k] = y at *
        obtain ⟨x0, x1, x2⟩ := x
        obtain ⟨y0, y1, y2⟩ := y
        simp only at c0 c1 c2 e0 e1 e2
        by_cases h0 : x0 = y0
        · subst h0
          by_cases h1 : x1 = y1
          · subst h1
            by_cases h2 : x2 = y2
            · subst h2
              go_upto_region 6 with fail
              go_quiet (fail)
              go_wp2_with fail
              go_roundw
              case rel => exact ⟨k + 1, z + nq, by go_num, by omega, HE.out rfl, by simp⟩
              case measure => simp [intOf]; omega
            · skip
              go_upto_region 6 with fail
              go_quiet (fail)
              go_wp2_with fail
              go_ret
              exact ⟨⟨false, rfl, by simp [HNE.out (fun e => h2 (by injection e))]⟩, z + nq, drewN_two _ _ _⟩
          · skip
            go_upto_region 6 with fail
            go_quiet (fail)
            go_wp2_with fail
            go_ret
            exact ⟨⟨false, rfl, by simp [HNE.out (fun e => h1 (by injection e))]⟩, z + nq, drewN_two _ _ _⟩
        · skip
          go_upto_region 6 with fail
          go_quiet (fail)
          go_wp2_with fail
          go_ret
          exact ⟨⟨false, rfl, by simp [HNE.out (fun e => h0 (by injection e))]⟩, z + nq, drewN_two _ _ _⟩
      · have hkn : k = n := by omega
        subst hkn
        have HR : Hid (L = M) := take_all HT.out (by rw [HL.out]; exact Nat.le_refl _) (by rw [HM.out]; exact Nat.le_refl _)
        go_wp2_with fail
        go_ret
        exact ⟨⟨true, rfl, by simp [HR.out]⟩, z, rfl⟩
  · have HR : Hid (L ≠ M) := fun e => hl (by rw [← hn, ← hm, e])
    clear hn hm h1 h2
    go_enter Try.func29, Try.ntmps29
    go_wp2_with fail
    go_ret
    exact ⟨⟨false, rfl, by simp [HR.out]⟩, 0, rfl⟩

theorem tpushW {ops : Array Oper} {rest : List Oper} {o : Oper} {a : Act} {Q : Exit → Act → World → Prop} {t T : TypeId} {by_ : Nat} (he : Elem3 t T by_) (w : World) (hgd : o.guard = none) (s x : Operand)
    (ho : o.op = .call { callee := .builtin .append, args := #[s, x], argTypes := #[t, t] }) (B : Nat) (v : Value) (L : List V3) (hs : a.eval s = v) (hown : TOwn T w B v L)
    (ad : Addr) (c : Nat) (q : V3) (hq : one3 q) (hx : a.eval x = .slice (some ad) 1 c) (hnews : ∀ j u, (l3 q)[j]? = some u → w.cell? (ad.add j) = some u)
    (hlen : L.length ≤ 5864062014640) (hby : (L.length + 1) * by_ ≤ 140737488355328) (hB : B ≤ w.heap.size)
    (h : ∀ v' w', TOwn T w' B v' (L ++ [q]) → w.grownBy w' v.ownBlock → (∀ w0, Below B w0 w → Below B w0 w') → wpList Try.prog ops Q rest (a.put o.dst v') w') :
    wpList Try.prog ops Q (o :: rest) a w := by
  obtain ⟨hu, z, hzc, hinfo⟩ := he
  obtain ⟨i0, hi, hz0, hz1, hz2⟩ := info_parts hinfo
  refine wpList_append_own w hgd s x t ho B T i0 z 3 by_ hu hi hz0 hz1 hz2 hzc (by decide) v L.length (c3 L) hs hown ad 1 c (l3 q) hx rfl hnews (one3_mem hq) (by unfold maxLen; omega) hby hB ?_
  intro v' w' h2 h3 _
  refine h v' w' ?_ h3 (fun w0 hb => hb.grown h3 hB fun k hk => (World.ownsRow.lt hown k hk).1)
  unfold TOwn
  rw [List.length_append, c3_two]
  have e : c3 [q] = l3 q := by simp [c3]
  rw [e]
  exact h2

set_option maxRecDepth 20000 in
set_option maxHeartbeats 1000000 in
theorem copySites_any (p : Option Addr) (n c : Nat) (L : List Si) (w : World) (hn : L.length = n) (hn6 : n ≤ 5864062014634) (h1 : Row3 w p (L.map siV)) :
    Calls Try.prog 21 #[.slice p n c] w fun E w' => ∃ v, E = .returned v ∧ TOwn 52 w' w.heap.size v (L.map siV) ∧ Below w.heap.size w w' := by
  have HL := Hid.in hn
  have H1 := Hid.in h1
  clear hn h1
  go_enter Try.func21, Try.ntmps21
  go_wp2_with fail
  go_loopw [3, 4] (fun v vi wr => ∃ k : Nat, vi = .int .i64 k ∧ k ≤ n ∧ TOwn 52 wr w.heap.size v ((L.take k).map siV) ∧ Below w.heap.size w wr) (fun _ vi _ => n - (intOf vi).toNat)
  case atStart => exact ⟨0, rfl, Nat.zero_le _, TOwn.nil _ _ _, below_self _⟩
  case round =>
    obtain ⟨k, rfl, hk, hT, hb⟩ := hrel
    have HT := Hid.in hT
    have HB := Hid.in hb
    have hlen : ((L.take k).map siV).length = k := by rw [List.length_map, List.length_take, HL.out]; omega
    obtain ⟨pv, cv, hv, -, -, -⟩ := hT.shape
    rw [hlen] at hv
    subst hv
    have HLEN := Hid.in hlen
    clear hT hb hlen
    by_cases hlt : k < n
    · have hk1 : k < L.length := by rw [HL.out]; exact hlt
      obtain ⟨b, o, rfl, hc⟩ := (H1.out.below HB.out) (by rw [List.length_map]; omega)
      obtain ⟨c0, c1, c2⟩ := cells3 hc k (by rw [List.length_map]; exact hk1)
      simp only [List.getElem_map, siV] at c0 c1 c2
      have HTK : Hid ((L.take (k + 1)).map siV = (L.take k).map siV ++ [siV L[k]]) := by
        rw [List.take_succ_eq_append_getElem hk1, List.map_append]; exact rfl
      clear hc
      generalize (L.take k).map siV = LQ at *
      generalize L[k] = x at *
      have hl1 : LQ.length ≤ 5864062014640 := by have := HLEN.out; omega
      have hl2 : (LQ.length + 1) * 24 ≤ 140737488355328 := by have := HLEN.out; omega
      go_wp2_with (refine tpushW Try.elemSite _ rfl _ _ rfl w.heap.size _ LQ rfl (HT.out.alloc _) ⟨wr.heap.size, 0, none⟩ 1 (.int .i64 x.key, .int .i64 x.at_, .int .i64 x.to_) ⟨rfl, rfl, rfl⟩ rfl (news3 _ _ _) hl1 hl2 (by have := HB.out.size; simp; omega) ?_; intro v5 w5 hT5 hg5 hb5; have HT5 := Hid.in hT5; have HB5 := Hid.in (hb5 w (below_alloc HB.out _)); clear hT5 hg5 hb5)
      go_roundw
      case rel => exact ⟨k + 1, by go_num, by omega, by rw [HTK.out]; exact HT5.out, HB5.out⟩
      case measure => simp [intOf]; omega
    · have hkn : k = n := by omega
      subst hkn
      have HR : Hid ((L.take k).map siV = L.map siV) := by
        rw [List.take_of_length_le (by rw [HL.out]; exact Nat.le_refl _)]; exact rfl
      rw [HR.out] at HT
      go_wp2_with fail
      go_ret
      exact ⟨_, rfl, HT.out, HB.out⟩


end Go.Proofs.Ytfhjaabbfaamjaa

/- What is left of an image's bytes: sites. -/
namespace Go.Proofs.Ytfhjaabbfaamjaa
open Go.RowKit

theorem own_lt {w : World} {B e s n : Nat} {v : Value} {xs : List Value} (h : w.ownsRow B e s v n xs) : ∀ k, v.ownBlock = some k → k < w.heap.size := fun k hk => by
  rcases h.2 with ⟨rfl, _⟩ | ⟨g, cap, cur, rfl, hB, hc, _⟩
  · simp [Value.ownBlock] at hk
  · simp [Value.ownBlock] at hk
    subst hk
    exact (Array.getElem?_eq_some_iff.1 hc).1
theorem size_set (w : World) (a : Addr) (v : Value) : (w.setCell a v).heap.size = w.heap.size := by simp
theorem news_set (w : World) (a : Addr) (v : Value) (q : V3) (T : TypeId) : ∀ j u, (l3 q)[j]? = some u → ((w.setCell a v).alloc (.cells #[q.1, q.2.1, q.2.2] T)).cell? ((⟨w.heap.size, 0, none⟩ : Addr).add j) = some u := by
  have h := news3 (w.setCell a v) q T
  rwa [size_set] at h
theorem TOwn.ge {T : TypeId} {w : World} {B : Nat} {v : Value} {vs : List V3} (h : TOwn T w B v vs) : ∀ k, v.ownBlock = some k → B ≤ k := own_ge h
/-- a site that is being read -/
structure SSt (w : World) (g s : Nat) (v : Value) (L : List V3) (W : World) (r : Rd) (p : Option Addr) (c : Nat) (x0 x1 x2 : Int) : Prop where
  un : Un W g r p c
  own : TOwn 52 W w.heap.size v L
  ne : v.ownBlock ≠ some s
  loc : Blk W s 52 #[.int .i64 x0, .int .i64 x1, .int .i64 x2]
  gr : w.grownBy W (some g)
  lt : g < w.heap.size
  le : w.heap.size ≤ s
theorem SSt.num {w : World} {g s : Nat} {v : Value} {L : List V3} {W W' : World} {r r' : Rd} {p p' : Option Addr} {c c' : Nat} {x0 x1 x2 : Int} (h : SSt w g s v L W r p c x0 x1 x2) (hu : Un W' g r' p' c') (hg : W.grownBy W' (some g)) : SSt w g s v L W' r' p' c' x0 x1 x2 :=
  ⟨hu, own_kept h.own hg h.lt, h.ne, h.loc.kept hg (by have := h.lt; have := h.le; simp; omega), h.gr.trans hg, h.lt, h.le⟩
theorem SSt.start {w W : World} {g c : Nat} {v : Value} {L : List V3} {r : Rd} {p : Option Addr} (hu : Un W g r p c) (ho : TOwn 52 W w.heap.size v L) (hg : w.grownBy W (some g)) (hlt : g < w.heap.size) : SSt w g W.heap.size v L (W.alloc (.cells #[.int .i64 0, .int .i64 0, .int .i64 0] 52)) r p c 0 0 0 :=
  ⟨hu.below (new_alloc _ _), ho.below (new_alloc _ _), fun e => by have := own_lt ho _ e; omega, Blk.new _ _ _, grown_below hg (new_alloc _ _), hlt, hg.size⟩
theorem SSt.setAny {w : World} {g s : Nat} {v : Value} {L : List V3} {W : World} {r : Rd} {p : Option Addr} {c : Nat} {x0 x1 x2 y0 y1 y2 : Int} (h : SSt w g s v L W r p c x0 x1 x2) (i : Nat) (u : Value) (e : (#[.int .i64 x0, .int .i64 x1, .int .i64 x2] : Array Value).setIfInBounds i u = #[.int .i64 y0, .int .i64 y1, .int .i64 y2]) : SSt w g s v L (W.setCell ⟨s, i, none⟩ u) r p c y0 y1 y2 :=
  ⟨h.un.more (grown_setCell _ _ _ _) (fun k e => by have := h.lt; have := h.le; injection e; omega), World.ownsRow.kept h.own (grown_setCell _ _ _ _) (Or.inr h.ne), h.ne, by have := h.loc.set i u; rw [e] at this; exact this, grown_more h.gr (grown_setCell _ _ _ _) (fun k e => by have := h.le; injection e; omega), h.lt, h.le⟩
theorem SSt.cells {w : World} {g s : Nat} {v : Value} {L : List V3} {W : World} {r : Rd} {p : Option Addr} {c : Nat} {x0 x1 x2 : Int} (h : SSt w g s v L W r p c x0 x1 x2) :
    W.cell? ⟨s, 0, none⟩ = some (.int .i64 x0) ∧ W.cell? ⟨s, 1, none⟩ = some (.int .i64 x1) ∧ W.cell? ⟨s, 2, none⟩ = some (.int .i64 x2) ∧ W.frozen? ⟨s, 0, none⟩ = false ∧ W.frozen? ⟨s, 1, none⟩ = false ∧ W.frozen? ⟨s, 2, none⟩ = false :=
  ⟨h.loc.cell 0, h.loc.cell 1, h.loc.cell 2, h.loc.free 0, h.loc.free 1, h.loc.free 2⟩

set_option maxRecDepth 20000 in
set_option maxHeartbeats 2000000 in
theorem sites_any (g c : Nat) (r : Rd) (p : Option Addr) (w : World) (h : Un w g r p c) :
    Calls Try.prog 35 #[.pointer (some ⟨g, 0, none⟩)] w fun E w' => ∃ v p' c', E = .returned v ∧ TOwn 52 w' w.heap.size v ((listR siteR 256 r).1.map siV) ∧ Un w' g (listR siteR 256 r).2 p' c' ∧ w.grownBy w' (some g) := by
  have hp := number_any g 256 c r p w h
  have hlt := h.blk.lt
  have hle := num_le 256 r
  have HE : Hid (listR siteR 256 r = manyR siteR (numR 256 r).1 (numR 256 r).2) := by
    have : listR siteR 256 r = manyR siteR (numR 256 r).1 (numR 256 r).2 := rfl
    exact this
  rw [HE.out]
  clear h HE
  generalize numR 256 r = nr at *
  obtain ⟨n, r0⟩ := nr
  dsimp only at *
  go_enter Try.func35, Try.ntmps35
  go_wp2_with (go_at_call 50; refine hp.mono ?_; rintro e w1 ⟨p1, c1, rfl, hu, hg⟩; have HU := Hid.in hu; have HGR := Hid.in hg; clear hu hg)
  go_loopw [3, 4, 7] (fun v _ vi wr => ∃ (j : Nat) (p' : Option Addr) (c' : Nat), vi = .int .i64 j ∧ j ≤ n ∧ TOwn 52 wr w.heap.size v ((manyR siteR j r0).1.map siV) ∧ Un wr g (manyR siteR j r0).2 p' c' ∧ w.grownBy wr (some g)) (fun _ _ vi _ => n - (intOf vi).toNat)
  case atStart => exact ⟨0, p1, c1, rfl, Nat.zero_le _, TOwn.nil _ _ _, HU.out, HGR.out⟩
  case round =>
    obtain ⟨j, p2, c2, rfl, hj, hT, hu, hg⟩ := hrel
    have HT := Hid.in hT
    have HU := Hid.in hu
    have HG := Hid.in hg
    have hlen : ((manyR siteR j r0).1.map siV).length = j := by rw [List.length_map, many_len]
    have HLEN := Hid.in hlen
    obtain ⟨pv, cv, hv, -, -, -⟩ := hT.shape
    rw [hlen] at hv
    subst hv
    clear hT hu hg hlen
    by_cases hlt2 : j < n
    · have HSN := Hid.in (many_snoc siteR j r0)
      generalize manyR siteR j r0 = mr at *
      obtain ⟨L, r2⟩ := mr
      dsimp only at *
      have HX : Hid (siteR r2 = (⟨((numR 2147483647 r2).1 : Int), ((numR 2147483647 (numR 2147483647 r2).2).1 : Int), ((numR 2147483647 (numR 2147483647 (numR 2147483647 r2).2).2).1 : Int)⟩, (numR 2147483647 (numR 2147483647 (numR 2147483647 r2).2).2).2)) := by
        have : siteR r2 = (⟨((numR 2147483647 r2).1 : Int), ((numR 2147483647 (numR 2147483647 r2).2).1 : Int), ((numR 2147483647 (numR 2147483647 (numR 2147483647 r2).2).2).1 : Int)⟩, (numR 2147483647 (numR 2147483647 (numR 2147483647 r2).2).2).2) := rfl
        exact this
      rw [HX.out] at HSN
      clear HX
      have h1 := fun W P C (h : Un W g r2 P C) => number_any g 2147483647 C r2 P W h
      generalize numR 2147483647 r2 = na at *
      obtain ⟨x0, r3⟩ := na
      dsimp only at *
      have h2 := fun W P C (h : Un W g r3 P C) => number_any g 2147483647 C r3 P W h
      generalize numR 2147483647 r3 = nb at *
      obtain ⟨x1, r4⟩ := nb
      dsimp only at *
      have h3 := fun W P C (h : Un W g r4 P C) => number_any g 2147483647 C r4 P W h
      generalize numR 2147483647 r4 = nc at *
      obtain ⟨x2, r5⟩ := nc
      dsimp only at *
      have HS0 := Hid.in (SSt.start HU.out HT.out HG.out hlt)
      go_wp2_with (go_at_call 50; refine (h1 _ _ _ HS0.out.un).mono ?_; rintro e w2 ⟨p3, c3, rfl, hu3, hg3⟩; have HS1 := Hid.in (HS0.out.num hu3 hg3); obtain ⟨k0, k1, k2, f0, f1, f2⟩ := HS1.out.cells; have HS2 := Hid.in (HS1.out.setAny (y0 := x0) (y1 := 0) (y2 := 0) 0 (.int .i64 x0) rfl); clear hu3 hg3 h1)
      go_wp2_with (go_at_call 50; refine (h2 _ _ _ HS2.out.un).mono ?_; rintro e w4 ⟨p5, c5, rfl, hu3, hg3⟩; have HS3 := Hid.in (HS2.out.num hu3 hg3); obtain ⟨m0, m1, m2, g0, g1, g2⟩ := HS3.out.cells; have HS4 := Hid.in (HS3.out.setAny (y0 := x0) (y1 := x1) (y2 := 0) 1 (.int .i64 x1) rfl); clear hu3 hg3 h2)
      go_wp2_with (first
        | (go_at_call 50; refine (h3 _ _ _ HS4.out.un).mono ?_; rintro e w6 ⟨p7, c7, rfl, hu3, hg3⟩; have HS5 := Hid.in (HS4.out.num hu3 hg3); obtain ⟨n0, n1, n2, e0, e1, e2⟩ := HS5.out.cells; have HS6 := Hid.in (HS5.out.setAny (y0 := x0) (y1 := x1) (y2 := x2) 2 (.int .i64 x2) rfl); obtain ⟨o0, o1, o2, -, -, -⟩ := HS6.out.cells; have hsz6 := HS6.out.gr.size; rw [size_set] at hsz6; clear hu3 hg3 h3)
        | (refine tpushV Try.elemSite _ rfl _ _ rfl w.heap.size _ (L.map siV) rfl (HS6.out.own.alloc _) ⟨w6.heap.size, 0, none⟩ 1 (.int .i64 x0, .int .i64 x1, .int .i64 x2) ⟨rfl, rfl, rfl⟩ rfl (news_set _ _ _ _ _) (by rw [HLEN.out]; omega) (by rw [HLEN.out]; omega) (by simp; omega) ?_; intro v5 w8 hT5 hg5 _; have HT5 := Hid.in hT5; have HU8 := Hid.in ((HS6.out.un.below (new_alloc _ (.cells #[.int .i64 x0, .int .i64 x1, .int .i64 x2] 52))).more hg5 (fun k e => by have := HS6.out.own.ge k e; omega)); have HG8 := Hid.in (grown_more (grown_below HS6.out.gr (new_alloc _ (.cells #[.int .i64 x0, .int .i64 x1, .int .i64 x2] 52))) hg5 HS6.out.own.ge); clear hT5 hg5))
      go_roundw
      case rel => exact ⟨j + 1, p7, c7, by go_num, by omega, by rw [HSN.out]; simpa [siV] using HT5.out, by rw [HSN.out]; exact HU8.out, HG8.out⟩
      case measure => simp [intOf]; omega
    · obtain rfl : j = n := by omega
      go_wp2_with fail
      go_ret
      exact ⟨_, p2, c2, rfl, HT.out, HU.out, HG.out⟩
end Go.Proofs.Ytfhjaabbfaamjaa

/- What is left of an image's bytes: start, memory, end. -/
namespace Go.Proofs.Ytfhjaabbfaamjaa
open Go.RowKit

theorem Own.empty (w : World) (B : Nat) (h : B ≤ w.heap.size) : Own (w.alloc (.cells #[] 5)) B w.heap.size 0 [] :=
  Own.mk (cur := #[]) h (World.alloc_heap_new w _) (Nat.le_refl _) (Nat.zero_le _) rfl rfl

set_option maxRecDepth 20000 in
set_option maxHeartbeats 1000000 in
theorem bclone_any (q : Option Addr) (m d : Nat) (ys : List Int) (w : World) (hl : ys.length = m) (hm : m ≤ 140737488355328) (hrow : Row w q ys) :
    Calls Try.prog 49 #[.slice q m d] w fun E w' => ∃ v, E = .returned v ∧ OwnV w' w.heap.size v ys ∧ Below w.heap.size w w' := by
  cases q with
  | none =>
    have hy : ys = [] := by
      cases ys with
      | nil => rfl
      | cons x r => obtain ⟨b, o, e, _⟩ := hrow (by simp); cases e
    subst hy
    have hq : ∀ w, (binOp .eql 22 (.slice none m d) (.slice none 0 0)).run Try.prog w = .ok (.bool true) w := fun w => Lib.run_eql_slice_nil w 22 5 none m d 0 0 Try.underlying22
    go_enter Try.func49, Try.ntmps49
    go_wp2_with fail
    go_ret
    exact ⟨_, rfl, OwnV.nil _ _, below_self _⟩
  | some a =>
    have HL := Hid.in hl
    have HR := Hid.in hrow
    have HO := Hid.in (Own.empty w w.heap.size (Nat.le_refl _)).val
    clear hl hrow
    have hq : ∀ w, (binOp .eql 22 (.slice (some a) m d) (.slice none 0 0)).run Try.prog w = .ok (.bool false) w := fun w => Lib.run_eql_slice_nil w 22 5 (some a) m d 0 0 Try.underlying22
    go_enter Try.func49, Try.ntmps49
    go_wp2_with (at_builtin; refine wp_push_own _ rfl _ _ rfl w.heap.size _ [] rfl HO.out (some a) m d ys rfl HL.out (HR.out.below (new_alloc _ _)) (by simp) (by simp; omega) (by simp) ?_; intro v' w1 ho _ hB; have HO1 := Hid.in ho; have HB1 := Hid.in (hB w (new_alloc _ _)); clear ho hB)
    go_ret
    exact ⟨_, rfl, HO1.out, HB1.out⟩

theorem swy_text : strOfNums swy = ⟨#[83, 87, 89, 49]⟩ := rfl
theorem byt_swy : Byt swy := byt_cons (by omega) (byt_cons (by omega) (byt_cons (by omega) (byt_cons (by omega) fun i => by simp)))
theorem not_swy {xs : List Int} (hb : Byt xs) (h : xs ≠ swy) : ((strOfNums xs).toList == [83, 87, 89, 49]) = false := by
  rw [show ([83, 87, 89, 49] : List UInt8) = (⟨#[83, 87, 89, 49]⟩ : ByteArray).toList from by rw [Lib.toList_data]]
  rw [← swy_text, str_same hb byt_swy]
  exact sameB_no h

set_option maxRecDepth 20000 in
set_option maxHeartbeats 1000000 in
theorem start_any (g c : Nat) (r : Rd) (p : Option Addr) (w : World) (h : Un w g r p c) :
    Calls Try.prog 32 #[.pointer (some ⟨g, 0, none⟩)] w fun E w' => ∃ p' c', E = .returned (.tuple #[]) ∧ Un w' g (startR r) p' c' ∧ w.grownBy w' (some g) := by
  have hp := part_any g 4 c r p w h (by omega)
  have HE : Hid (startR r = if (partR 4 r).2.e = 0 ∧ (partR 4 r).1 ≠ swy then ⟨(partR 4 r).2.l, 200⟩ else (partR 4 r).2) := by
    have : startR r = if (partR 4 r).2.e = 0 ∧ (partR 4 r).1 ≠ swy then ⟨(partR 4 r).2.l, 200⟩ else (partR 4 r).2 := rfl
    exact this
  clear h
  generalize partR 4 r = pr at *
  obtain ⟨xs, r2⟩ := pr
  dsimp only at hp HE
  by_cases he : r2.e = 0
  · by_cases hx : xs = swy
    · rw [if_neg (fun h => h.2 hx)] at HE
      rw [HE.out]
      subst hx
      go_enter Try.func32, Try.ntmps32
      go_wp2_with (go_at_call 48; refine hp.mono ?_; rintro e w1 ⟨q, d, p1, c1, rfl, hq, hu, hg⟩; have HU := Hid.in hu; have hcv := hq.row.convert rfl d; rw [swy_text] at hcv; have HGR := Hid.in hg; have k1 : w1.cell? ⟨g, 1, none⟩ = some (.int .i64 0) := (by have := hu.blk.cell 1; rw [he] at this; exact this); clear hq hu hg hp)
      exact bodyPost_end (v := .tuple #[]) (by simp [results, go_sem]) rfl ⟨p1, c1, rfl, HU.out, HGR.out⟩
    · rw [if_pos ⟨he, hx⟩] at HE
      rw [HE.out]
      go_enter Try.func32, Try.ntmps32
      go_wp2_with (go_at_call 48; refine hp.mono ?_; rintro e w1 ⟨q, d, p1, c1, rfl, hq, hu, hg⟩; have HU := Hid.in hu; have hcv := hq.row.convert rfl d; have hns := not_swy hq.byt hx; have f1 := hu.blk.free 1; have HGR := Hid.in hg; have k1 : w1.cell? ⟨g, 1, none⟩ = some (.int .i64 0) := (by have := hu.blk.cell 1; rw [he] at this; exact this); clear hq hu hg hp; generalize strOfNums xs = t at *)
      refine bodyPost_end (v := .tuple #[]) (by simp [results, go_sem]) rfl ⟨p1, c1, rfl, ⟨?_, Un.kept HU.out.row HU.out.far (grown_setCell _ _ _ _), HU.out.far, HU.out.cap, HU.out.mcap, HU.out.byt⟩, HGR.out.trans (grown_setCell _ _ _ _)⟩
      have := HU.out.blk.set 1 (.int .i64 200); simpa using this
  · rw [if_neg (fun h => he h.1)] at HE
    rw [HE.out]
    have q1 : decide (r2.e = 0) = false := decide_eq_false he
    go_enter Try.func32, Try.ntmps32
    go_wp2_with (go_at_call 48; refine hp.mono ?_; rintro e w1 ⟨q, d, p1, c1, rfl, hq, hu, hg⟩; have HU := Hid.in hu; have HGR := Hid.in hg; have k1 : w1.cell? ⟨g, 1, none⟩ = some (.int .i64 r2.e) := hu.blk.cell 1; clear hq hu hg hp)
    exact bodyPost_end (v := .tuple #[]) (by simp [results, go_sem]) rfl ⟨p1, c1, rfl, HU.out, HGR.out⟩

set_option maxRecDepth 20000 in
set_option maxHeartbeats 1000000 in
theorem memory_any (g c : Nat) (r : Rd) (p : Option Addr) (w : World) (h : Un w g r p c) :
    Calls Try.prog 33 #[.pointer (some ⟨g, 0, none⟩)] w fun E w' => ∃ v p' c', E = .returned v ∧ OwnV w' w.heap.size v (memR r).1 ∧ Byt (memR r).1 ∧ Un w' g (memR r).2 p' c' ∧ w.grownBy w' (some g) := by
  have hnx := number_any g 65536 c r p w h
  have hle := num_le 65536 r
  have HE : Hid (memR r = partR (numR 65536 r).1 (numR 65536 r).2) := by
    have : memR r = partR (numR 65536 r).1 (numR 65536 r).2 := rfl
    exact this
  rw [HE.out]
  clear h HE
  generalize numR 65536 r = nr at *
  obtain ⟨x, r3⟩ := nr
  dsimp only at *
  have hpx := fun W P C (h : Un W g r3 P C) => part_any g x C r3 P W h (by omega)
  have HLX : Hid ((partR x r3).1.length ≤ 65536) := by
    have : (partR x r3).1.length ≤ 65536 := by
      by_cases e : (partR x r3).2.e = 0
      · rw [part_good e]; exact hle
      · rw [part_bad e]; exact Nat.zero_le _
    exact this
  generalize partR x r3 = px at *
  obtain ⟨xs, r4⟩ := px
  dsimp only at *
  go_enter Try.func33, Try.ntmps33
  go_wp2_with (first
    | (go_at_call 50; refine hnx.mono ?_; rintro e w2 ⟨p3, c3, rfl, hu3, hg3⟩; have HU3 := Hid.in hu3; have HG3 := Hid.in hg3; clear hu3 hg3)
    | (go_at_call 48; refine (hpx w2 p3 c3 HU3.out).mono ?_; rintro e w5 ⟨q5, d5, p5, c5, rfl, hq5, hu5, hg5⟩; have HU5 := Hid.in hu5; have HQ5 := Hid.in hq5; have HG5 := Hid.in (HG3.out.trans hg5); clear hu5 hg5 hq5)
    | (go_at_call 49; refine (bclone_any q5 _ d5 xs w5 rfl (Nat.le_trans HLX.out (by omega)) HQ5.out.row).mono ?_; rintro e w6 ⟨v6, rfl, ho6, hb6⟩; have HO6 := Hid.in ho6; have HB6 := Hid.in hb6; clear ho6 hb6))
  go_ret
  exact ⟨_, p5, c5, rfl, OwnV.lower HO6.out HG5.out.size, HQ5.out.byt, HU5.out.below HB6.out, grown_below HG5.out HB6.out⟩

set_option maxRecDepth 20000 in
set_option maxHeartbeats 1000000 in
theorem end_any (g c : Nat) (r : Rd) (p : Option Addr) (w : World) (h : Un w g r p c) :
    Calls Try.prog 37 #[.pointer (some ⟨g, 0, none⟩)] w fun E w' => E = .returned (.tuple #[]) ∧ Blk w' g 59 #[.slice p r.l.length c, .int .i64 (endR r)] ∧ w.grownBy w' (some g) := by
  have H := Hid.in h
  have c0 : w.cell? ⟨g, 0, none⟩ = some (.slice p r.l.length c) := h.blk.cell 0
  have c1 : w.cell? ⟨g, 1, none⟩ = some (.int .i64 r.e) := h.blk.cell 1
  have f1 := h.blk.free 1
  have hcap := h.cap
  have hmc := h.mcap
  have HE : Hid (endR r = if r.e = 0 ∧ 0 < r.l.length then 200 else r.e) := by
    have : endR r = if r.e = 0 ∧ 0 < r.l.length then 200 else r.e := rfl
    exact this
  rw [HE.out]
  clear h HE
  have hb := H.out.blk
  have HBK := Hid.in hb
  clear hb
  generalize r.l.length = L at *
  generalize r.e = e at *
  by_cases h0 : e = 0
  · subst h0
    by_cases hl : 0 < L
    · rw [if_pos ⟨rfl, hl⟩]
      have q1 : decide ((0 : Int) < (L : Int)) = true := decide_eq_true (by omega)
      go_enter Try.func37, Try.ntmps37
      go_wp2_with fail
      refine bodyPost_end (v := .tuple #[]) (by simp [results, go_sem]) rfl ⟨rfl, ?_, grown_setCell _ _ _ _⟩
      have := HBK.out.set 1 (.int .i64 200); simpa using this
    · rw [if_neg (fun h => hl h.2)]
      have q1 : decide ((0 : Int) < (L : Int)) = false := decide_eq_false (by omega)
      go_enter Try.func37, Try.ntmps37
      go_wp2_with fail
      exact bodyPost_end (v := .tuple #[]) (by simp [results, go_sem]) rfl ⟨rfl, HBK.out, grown_same _ _⟩
  · rw [if_neg (fun h => h0 h.1)]
    have q1 : decide (e = 0) = false := decide_eq_false h0
    go_enter Try.func37, Try.ntmps37
    go_wp2_with fail
    exact bodyPost_end (v := .tuple #[]) (by simp [results, go_sem]) rfl ⟨rfl, HBK.out, grown_same _ _⟩
end Go.Proofs.Ytfhjaabbfaamjaa

/- store.Get answers P10.2. -/
namespace Go.Proofs.Ytfhjaabbfaamjaa
open Go.RowKit

def imOf (m : Im) : IM := ⟨m.bs, m.ks.map strOfNums, m.si, m.un⟩
def getL (bs : List Int) : IM × Int :=
  if endR (readI ⟨bs, 0⟩).2 ≠ 0 then (noIM, endR (readI ⟨bs, 0⟩).2) else if okI (imOf (readI ⟨bs, 0⟩).1) = true then (imOf (readI ⟨bs, 0⟩).1, 0) else (noIM, 200)
/-- an image in memory of its own -/
structure ImOwn (w : World) (B : Nat) (m : IM) (vb vk vs vu : Value) : Prop where
  b : OwnV w B vb m.bs
  k : GOwnV 9 w B vk (strV m.ks)
  s : TOwn 52 w B vs (m.si.map siV)
  u : GOwnV 3 w B vu (intV m.un)
abbrev nil4 : Array Value := #[.slice none 0 0, .slice none 0 0, .slice none 0 0, .slice none 0 0]
/-- where Get stands -/
structure GS (w : World) (g M : Nat) (W : World) (r : Rd) (p : Option Addr) (c : Nat) (A : Array Value) : Prop where
  un : Un W g r p c
  res : Blk W w.heap.size 27 nil4
  loc : Blk W M 27 A
  bel : Below w.heap.size w W
  eg : g = w.heap.size + 1
  lm : g < M
theorem GS.call {w : World} {g M : Nat} {W W' : World} {r r' : Rd} {p p' : Option Addr} {c c' : Nat} {A : Array Value} (h : GS w g M W r p c A) (hu : Un W' g r' p' c') (hg : W.grownBy W' (some g)) : GS w g M W' r' p' c' A := by
  have e := h.eg
  have l := h.lm
  have hl := h.loc.lt
  exact ⟨hu, h.res.kept hg (by simp; omega), h.loc.kept hg (by simp; omega), h.bel.grown hg (by omega) (fun k hk => by injection hk; omega), e, l⟩
theorem GS.set {w : World} {g M : Nat} {W : World} {r : Rd} {p : Option Addr} {c : Nat} {A : Array Value} (h : GS w g M W r p c A) (i : Nat) (v : Value) : GS w g M (W.setCell ⟨M, i, none⟩ v) r p c (A.setIfInBounds i v) := by
  have e := h.eg
  have l := h.lm
  have hl := h.loc.lt
  exact ⟨h.un.more (grown_setCell _ _ _ _) (fun k hk => by injection hk; omega), h.res.other (by omega) _ _, h.loc.set i v, h.bel.setCell (show w.heap.size ≤ M by omega) _, e, l⟩
theorem own_set {w : World} {B e s n M i : Nat} {v u : Value} {xs : List Value} (h : w.ownsRow B e s v n xs) (hB : M < B) : (w.setCell ⟨M, i, none⟩ u).ownsRow B e s v n xs := own_kept h (grown_setCell _ _ _ _) hB
theorem own_lower {w : World} {B B' e s n : Nat} {v : Value} {xs : List Value} (h : w.ownsRow B e s v n xs) (hB : B' ≤ B) : w.ownsRow B' e s v n xs := by
  refine ⟨h.1, ?_⟩
  rcases h.2 with a | ⟨g, cap, cur, e1, h1, r⟩
  · exact Or.inl a
  · exact Or.inr ⟨g, cap, cur, e1, Nat.le_trans hB h1, r⟩
theorem OwnV.sliceC {w : World} {B : Nat} {v : Value} {xs : List Int} (h : OwnV w B v xs) : ∃ p cap, v = .slice p xs.length cap ∧ Row w p xs ∧ xs.length ≤ cap ∧ cap ≤ 9223372036854775807 := by
  rcases h.shape with ⟨rfl, rfl⟩ | ⟨g, cap, rfl, ho⟩
  · exact ⟨none, 0, rfl, fun h => absurd h (Nat.lt_irrefl 0), Nat.le_refl _, by omega⟩
  · obtain ⟨cur, _, _, h3, h4, _⟩ := ho.parts
    exact ⟨_, cap, rfl, ho.row, h3, by unfold maxLen at h4; omega⟩
theorem GOwnV.sl {T : TypeId} {w : World} {B : Nat} {v : Value} {vs : List Value} (h : GOwnV T w B v vs) : ∃ p n cap, v = .slice p n cap ∧ n = vs.length := by
  obtain ⟨p, cap, e, _⟩ := h.slice; exact ⟨p, _, cap, e, rfl⟩
theorem TOwn.sl {T : TypeId} {w : World} {B : Nat} {v : Value} {vs : List V3} (h : TOwn T w B v vs) : ∃ p n cap, v = .slice p n cap ∧ n = vs.length := by
  obtain ⟨p, cap, e, _⟩ := h.shape; exact ⟨p, _, cap, e, rfl⟩
theorem OwnV.sl {w : World} {B : Nat} {v : Value} {vs : List Int} (h : OwnV w B v vs) : ∃ p n cap, v = .slice p n cap ∧ n = vs.length ∧ n ≤ cap ∧ cap ≤ 9223372036854775807 := by
  obtain ⟨p, cap, e, _, h1, h2⟩ := h.sliceC; exact ⟨p, _, cap, e, rfl, h1, h2⟩
theorem GS.start {w W : World} {g c : Nat} {r : Rd} {p : Option Addr} (hu : Un W g r p c) (hr : Blk W w.heap.size 27 nil4) (hb : Below w.heap.size w W) (e : g = w.heap.size + 1) : GS w g W.heap.size (W.alloc (.cells nil4 27)) r p c nil4 :=
  ⟨hu.below (new_alloc _ _), hr.grow (new_alloc _ _), Blk.new _ _ _, below_alloc hb _, e, hu.blk.lt⟩

theorem many_all {α : Type} {f : Rd → α × Rd} {P : α → Prop} (hf : ∀ r, P (f r).1) : ∀ (n : Nat) (r : Rd), ∀ x ∈ (manyR f n r).1, P x
  | 0, _, x, h => by cases h
  | n + 1, r, x, h => by
    rcases List.mem_cons.1 (show x ∈ (f r).1 :: (manyR f n (f r).2).1 from h) with rfl | h
    · exact hf r
    · exact many_all hf n _ x h
theorem list_len {α : Type} (f : Rd → α × Rd) (most : Nat) (r : Rd) : (listR f most r).1.length ≤ most := by
  unfold listR
  rw [many_len]; exact num_le most r
theorem part_le (n : Nat) (r : Rd) : (partR n r).1.length ≤ n := by
  by_cases e : (partR n r).2.e = 0
  · rw [part_good e]; exact Nat.le_refl _
  · rw [part_bad e]; exact Nat.zero_le _
theorem keys_le (r : Rd) : ∀ k ∈ (listR keyR 64 r).1, k.length ≤ 16 := many_all (P := fun k : List Int => k.length ≤ 16) (fun r => Nat.le_trans (part_le (numR 16 r).1 (numR 16 r).2) (num_le 16 r)) _ _
theorem units_le (r : Rd) : ∀ u ∈ (listR unitR 16 r).1, i64P u := many_all (P := i64P) (fun r => by
  have := num_le 2147483647 r
  show i64P ((numR 2147483647 r).1 : Int)
  unfold i64P; omega) _ _
theorem strOf_size (xs : List Int) : (strOfNums xs).size = xs.length := by
  show (xs.map fun n => UInt8.ofNat n.toNat).toArray.size = xs.length
  simp
theorem ImOwn.imIn {w : World} {B : Nat} {ab : List Int} {bk : List (List Int)} {xs : List Si} {du : List Int} {pb pk ps pu : Option Addr} {nb cb nk ck ns cs nu cu : Nat} (h : ImOwn w B ⟨ab, bk.map strOfNums, xs, du⟩ (.slice pb nb cb) (.slice pk nk ck) (.slice ps ns cs) (.slice pu nu cu))
    (hb : Byt ab) (h1 : nb = ab.length ∧ nb ≤ cb ∧ cb ≤ 9223372036854775807) (h2 : nk = (strV (bk.map strOfNums)).length) (h3 : ns = (xs.map siV).length) (h4 : nu = (intV du).length) (l2 : bk.length ≤ 64) (l3 : xs.length ≤ 256) (l4 : du.length ≤ 16) (hk : ∀ k ∈ bk, k.length ≤ 16) (hu : ∀ u ∈ du, i64P u) :
    ImIn w ⟨ab, bk.map strOfNums, xs, du⟩ pb pk ps pu nb cb nk ck ns cs nu cu := by
  rw [List.length_map, List.length_map] at h2
  rw [List.length_map] at h3 h4
  obtain ⟨_, _, e1, r1, _⟩ := h.b.sliceC
  obtain ⟨_, _, e2, r2, _⟩ := h.k.slice
  obtain ⟨_, _, e3, _, _, r3⟩ := h.s.row3
  obtain ⟨_, _, e4, r4, _⟩ := h.u.slice
  injection e1 with a1; subst a1
  injection e2 with a2; subst a2
  injection e3 with a3; subst a3
  injection e4 with a4; subst a4
  refine ⟨h1.1.symm, by show (bk.map strOfNums).length = nk; rw [List.length_map]; exact h2.symm, h3.symm, h4.symm, h1.2.1, h1.2.2, by omega, by omega, by omega, r1, r2, r3, r4, hb, fun k hk2 => ?_, hu⟩
  obtain ⟨y, hy, rfl⟩ := List.mem_map.1 hk2
  rw [strOf_size]
  have := hk y hy
  unfold maxLen; omega
theorem ImOwn.lower {w : World} {B B' : Nat} {m : IM} {vb vk vs vu : Value} (h : ImOwn w B m vb vk vs vu) (hB : B' ≤ B) : ImOwn w B' m vb vk vs vu :=
  ⟨own_lower h.b hB, own_lower h.k hB, own_lower h.s hB, own_lower h.u hB⟩
theorem ImOwn.below {w w' : World} {B : Nat} {m : IM} {vb vk vs vu : Value} (h : ImOwn w B m vb vk vs vu) (hb : Below w.heap.size w w') : ImOwn w' B m vb vk vs vu :=
  ⟨h.b.below hb, h.k.below hb, h.s.below hb, h.u.below hb⟩
theorem ImOwn.set {w : World} {B R i : Nat} {m : IM} {vb vk vs vu : Value} (h : ImOwn w B m vb vk vs vu) (hR : R < B) (u : Value) : ImOwn (w.setCell ⟨R, i, none⟩ u) B m vb vk vs vu :=
  ⟨own_set h.b hR, own_set h.k hR, own_set h.s hR, own_set h.u hR⟩
theorem ImOwn.set4 {w : World} {B R : Nat} {m : IM} {vb vk vs vu : Value} (h : ImOwn w B m vb vk vs vu) (hR : R < B) (v0 v1 v2 v3 : Value) : ImOwn ((((w.setCell ⟨R, 0, none⟩ v0).setCell ⟨R, 1, none⟩ v1).setCell ⟨R, 2, none⟩ v2).setCell ⟨R, 3, none⟩ v3) B m vb vk vs vu :=
  (((h.set hR v0).set hR v1).set hR v2).set hR v3
theorem ImOwn.nil (w : World) (B : Nat) : ImOwn w B noIM (.slice none 0 0) (.slice none 0 0) (.slice none 0 0) (.slice none 0 0) :=
  ⟨OwnV.nil _ _, GOwnV.nil _ _ _, TOwn.nil _ _ _, GOwnV.nil _ _ _⟩

theorem Try.results14 : Try.f14.results = #[.cell 2 27, .tmp 3] := rfl
theorem Try.sz27 : (Try.prog.info? 27).map (·.size) = some 4 := by kernel_rfl
theorem load_im {W : World} {R : Nat} {v0 v1 v2 v3 : Value} (h : Blk W R 27 #[v0, v1, v2, v3]) : (loadVar 27 ⟨R, 0, none⟩).run Try.prog W = .ok (.agg #[v0, v1, v2, v3]) W :=
  run_loadVar_mid W R 0 27 [v0, v1, v2, v3] _ h.range Try.underlying27 rfl Try.sz27
theorem res14 {tmps : Array Value} {W : World} {R : Nat} {v0 v1 v2 v3 : Value} {e : Int} (h : Blk W R 27 #[v0, v1, v2, v3]) (h2 : tmps.getD 2 undef = .pointer (some ⟨R, 0, none⟩)) (h3 : tmps.getD 3 undef = .int .i64 e) :
    (results Try.f14 tmps).run Try.prog W = .ok (.tuple #[.agg #[v0, v1, v2, v3], .int .i64 e]) W := by
  have hld := load_im h
  simp only [Array.getD_eq_getD_getElem?] at h2 h3
  simp [results, asAddr, hld, h2, h3]
theorem Blk.set4 {W : World} {R : Nat} {A : Array Value} {u0 u1 u2 u3 : Value} (h : Blk W R 27 A) (hA : A.size = 4) (v0 v1 v2 v3 : Value) (_ : A = #[u0, u1, u2, u3]) :
    Blk ((((W.setCell ⟨R, 0, none⟩ v0).setCell ⟨R, 1, none⟩ v1).setCell ⟨R, 2, none⟩ v2).setCell ⟨R, 3, none⟩ v3) R 27 #[v0, v1, v2, v3] := by
  subst A
  have := (((h.set 0 v0).set 1 v1).set 2 v2).set 3 v3
  simpa using this
theorem below4 {w W : World} {R : Nat} (h : Below R w W) (v0 v1 v2 v3 : Value) : Below R w ((((W.setCell ⟨R, 0, none⟩ v0).setCell ⟨R, 1, none⟩ v1).setCell ⟨R, 2, none⟩ v2).setCell ⟨R, 3, none⟩ v3) :=
  (((h.setCell (Nat.le_refl _) _).setCell (Nat.le_refl _) _).setCell (Nat.le_refl _) _).setCell (Nat.le_refl _) _

set_option maxRecDepth 20000 in
set_option maxHeartbeats 2000000 in
theorem get_any (p : Option Addr) (n c : Nat) (bs : List Int) (w : World) (hn : bs.length = n) (hnc : n ≤ c) (hc : c ≤ 9223372036854775807) (hrow : Row w p bs) (hfar : ∀ a, p = some a → a.block < w.heap.size) (hbyt : Byt bs) :
    Calls Try.prog 14 #[.slice p n c] w fun E w' => ∃ vb vk vs vu, E = .returned (.tuple #[.agg #[vb, vk, vs, vu], .int .i64 (getL bs).2]) ∧ ImOwn w' w.heap.size (getL bs).1 vb vk vs vu ∧ Below w.heap.size w w' := by
  have HU0 : Hid (Un ((w.alloc (.cells nil4 27)).alloc (.cells #[.slice p n c, .int .i64 0] 59)) (w.heap.size + 1) ⟨bs, 0⟩ p c) := by
    refine ⟨?_, ?_, fun a e => Nat.lt_succ_of_lt (hfar a e), by rw [hn]; exact hnc, hc, hbyt⟩
    · have := Blk.new (w.alloc (.cells nil4 27)) 59 #[.slice p n c, .int .i64 0]
      rw [size_one] at this
      show Blk _ _ 59 #[.slice p bs.length c, .int .i64 0]
      rw [hn]; exact this
    · exact (hrow.below (new_alloc _ _)).below (new_alloc _ _)
  have HR0 : Hid (Blk ((w.alloc (.cells nil4 27)).alloc (.cells #[.slice p n c, .int .i64 0] 59)) w.heap.size 27 nil4) := (Blk.new w 27 nil4).grow (new_alloc _ _)
  have HB0 : Hid (Below w.heap.size w ((w.alloc (.cells nil4 27)).alloc (.cells #[.slice p n c, .int .i64 0] 59))) := below_alloc (new_alloc _ _) _
  have HE : Hid (getL bs = if endR (readI ⟨bs, 0⟩).2 ≠ 0 then (noIM, endR (readI ⟨bs, 0⟩).2) else if okI (imOf (readI ⟨bs, 0⟩).1) = true then (imOf (readI ⟨bs, 0⟩).1, 0) else (noIM, 200)) := by
    have : getL bs = if endR (readI ⟨bs, 0⟩).2 ≠ 0 then (noIM, endR (readI ⟨bs, 0⟩).2) else if okI (imOf (readI ⟨bs, 0⟩).1) = true then (imOf (readI ⟨bs, 0⟩).1, 0) else (noIM, 200) := rfl
    exact this
  clear hn hrow hfar hbyt
  go_enter Try.func14, Try.ntmps14
  have hle0 := HB0.out.size
  go_wp2_with (go_at_call 32; refine (start_any _ _ _ _ _ HU0.out).mono ?_; rintro e w1 ⟨p1, c1, rfl, hu, hg⟩; have HS1 := Hid.in (GS.start (w := w) hu (HR0.out.kept hg (fun e => by injection e with e; omega)) (HB0.out.grown hg hle0 (fun k hk => by injection hk; omega)) rfl); have HM : Hid (w.heap.size + 1 < w1.heap.size) := HS1.out.lm; clear hu hg)
  have HRD : Hid (∀ a, memR (startR ⟨bs, 0⟩) = a → ∀ b, listR keyR 64 a.2 = b → ∀ x, listR siteR 256 b.2 = x → ∀ d, listR unitR 16 x.2 = d → readI ⟨bs, 0⟩ = (⟨a.1, b.1, x.1, d.1⟩, d.2)) := by
    rintro _ rfl _ rfl _ rfl _ rfl; rfl
  have h33 := fun W P C (h : Un W (w.heap.size + 1) (startR ⟨bs, 0⟩) P C) => memory_any (w.heap.size + 1) C (startR ⟨bs, 0⟩) P W h
  generalize ha : memR (startR ⟨bs, 0⟩) = a at *
  replace HRD := Hid.in (HRD.out a rfl)
  obtain ⟨ab, ar⟩ := a
  dsimp only at *
  have h34 := fun W P C (h : Un W (w.heap.size + 1) ar P C) => keys_any (w.heap.size + 1) C ar P W h
  have HKL := Hid.in (keys_le ar)
  have HKN := Hid.in (list_len keyR 64 ar)
  generalize hb : listR keyR 64 ar = b at *
  replace HRD := Hid.in (HRD.out b rfl)
  obtain ⟨bk, br⟩ := b
  dsimp only at *
  have h35 := fun W P C (h : Un W (w.heap.size + 1) br P C) => sites_any (w.heap.size + 1) C br P W h
  have HSN := Hid.in (list_len siteR 256 br)
  generalize hx : listR siteR 256 br = x at *
  replace HRD := Hid.in (HRD.out x rfl)
  obtain ⟨xs, xr⟩ := x
  dsimp only at *
  have h36 := fun W P C (h : Un W (w.heap.size + 1) xr P C) => units_any (w.heap.size + 1) C xr P W h
  have HUL := Hid.in (units_le xr)
  have HUN := Hid.in (list_len unitR 16 xr)
  generalize hd : listR unitR 16 xr = d at *
  replace HRD := Hid.in (HRD.out d rfl)
  obtain ⟨du, dr⟩ := d
  dsimp only at *
  clear ha hb hx hd
  rw [HRD.out] at HE
  clear HRD
  dsimp only at HE
  have hgM : w.heap.size + 1 < w1.heap.size + 1 := by have := HM.out; omega
  have hMM : w1.heap.size < w1.heap.size + 1 := Nat.lt_succ_self _
  go_wp2_with (go_at_call 33; refine (h33 _ _ _ HS1.out.un).mono ?_; rintro e w2 ⟨vb, p2, c2, rfl, ho, hby, hu, hg⟩; rw [size_one] at ho; have HS2 := Hid.in (HS1.out.call hu hg); have HBY := Hid.in hby; obtain ⟨pb, nb, cb, rfl, hnb⟩ := ho.sl; have HNB := Hid.in hnb; have HO2 := Hid.in ho; have k0 : w2.cell? ⟨w1.heap.size, 0, none⟩ = some (.slice none 0 0) := HS2.out.loc.cell 0; have f0 := HS2.out.loc.free 0; have HS3 := Hid.in (HS2.out.set 0 (.slice pb nb cb)); have HO3 : Hid (OwnV (w2.setCell ⟨w1.heap.size, 0, none⟩ (.slice pb nb cb)) (w1.heap.size + 1) (.slice pb nb cb) ab) := own_set HO2.out hMM; clear hu hg ho hby h33 hnb)
  go_wp2_with (go_at_call 34; refine (h34 _ _ _ HS3.out.un).mono ?_; rintro e w4 ⟨vk, p2, c2, rfl, ho, hu, hg⟩; have HS4 := Hid.in (HS3.out.call hu hg); obtain ⟨pk, nk, ck, rfl, hnk⟩ := ho.sl; have HNK := Hid.in hnk; have HK4 : Hid (GOwnV 9 w4 (w1.heap.size + 1) (.slice pk nk ck) (strV (bk.map strOfNums))) := own_lower ho HS3.out.loc.lt; have HO4 : Hid (OwnV w4 (w1.heap.size + 1) (.slice pb nb cb) ab) := own_kept HO3.out hg hgM; have k1 : w4.cell? ⟨w1.heap.size, 1, none⟩ = some (.slice none 0 0) := HS4.out.loc.cell 1; have f1 := HS4.out.loc.free 1; have HS5 := Hid.in (HS4.out.set 1 (.slice pk nk ck)); have HO5 : Hid (OwnV (w4.setCell ⟨w1.heap.size, 1, none⟩ (.slice pk nk ck)) (w1.heap.size + 1) (.slice pb nb cb) ab) := own_set HO4.out hMM; have HK5 : Hid (GOwnV 9 (w4.setCell ⟨w1.heap.size, 1, none⟩ (.slice pk nk ck)) (w1.heap.size + 1) (.slice pk nk ck) (strV (bk.map strOfNums))) := own_set HK4.out hMM; clear hu hg ho h34 hnk)
  go_wp2_with (go_at_call 35; refine (h35 _ _ _ HS5.out.un).mono ?_; rintro e w6 ⟨vs, p2, c2, rfl, ho, hu, hg⟩; have HS6 := Hid.in (HS5.out.call hu hg); obtain ⟨ps, ns, cs, rfl, hns⟩ := ho.sl; have HNS := Hid.in hns; have HV6 : Hid (TOwn 52 w6 (w1.heap.size + 1) (.slice ps ns cs) (xs.map siV)) := own_lower ho HS5.out.loc.lt; have HO6 : Hid (OwnV w6 (w1.heap.size + 1) (.slice pb nb cb) ab) := own_kept HO5.out hg hgM; have HK6 : Hid (GOwnV 9 w6 (w1.heap.size + 1) (.slice pk nk ck) (strV (bk.map strOfNums))) := own_kept HK5.out hg hgM; have k2 : w6.cell? ⟨w1.heap.size, 2, none⟩ = some (.slice none 0 0) := HS6.out.loc.cell 2; have f2 := HS6.out.loc.free 2; have HS7 := Hid.in (HS6.out.set 2 (.slice ps ns cs)); have HO7 : Hid (OwnV (w6.setCell ⟨w1.heap.size, 2, none⟩ (.slice ps ns cs)) (w1.heap.size + 1) (.slice pb nb cb) ab) := own_set HO6.out hMM; have HK7 : Hid (GOwnV 9 (w6.setCell ⟨w1.heap.size, 2, none⟩ (.slice ps ns cs)) (w1.heap.size + 1) (.slice pk nk ck) (strV (bk.map strOfNums))) := own_set HK6.out hMM; have HV7 : Hid (TOwn 52 (w6.setCell ⟨w1.heap.size, 2, none⟩ (.slice ps ns cs)) (w1.heap.size + 1) (.slice ps ns cs) (xs.map siV)) := own_set HV6.out hMM; clear hu hg ho h35 hns)
  go_wp2_with (go_at_call 36; refine (h36 _ _ _ HS7.out.un).mono ?_; rintro e w8 ⟨vu, p9, c9, rfl, ho, hu, hg⟩; have HS8 := Hid.in (HS7.out.call hu hg); obtain ⟨pu, nu, cu, rfl, hnu⟩ := ho.sl; have HNU := Hid.in hnu; have HW8 : Hid (GOwnV 3 w8 (w1.heap.size + 1) (.slice pu nu cu) (intV du)) := own_lower ho HS7.out.loc.lt; have HO8 : Hid (OwnV w8 (w1.heap.size + 1) (.slice pb nb cb) ab) := own_kept HO7.out hg hgM; have HK8 : Hid (GOwnV 9 w8 (w1.heap.size + 1) (.slice pk nk ck) (strV (bk.map strOfNums))) := own_kept HK7.out hg hgM; have HV8 : Hid (TOwn 52 w8 (w1.heap.size + 1) (.slice ps ns cs) (xs.map siV)) := own_kept HV7.out hg hgM; have k3 : w8.cell? ⟨w1.heap.size, 3, none⟩ = some (.slice none 0 0) := HS8.out.loc.cell 3; have f3 := HS8.out.loc.free 3; have HS9 := Hid.in (HS8.out.set 3 (.slice pu nu cu)); have HI9 : Hid (ImOwn (w8.setCell ⟨w1.heap.size, 3, none⟩ (.slice pu nu cu)) (w1.heap.size + 1) ⟨ab, bk.map strOfNums, xs, du⟩ (.slice pb nb cb) (.slice pk nk ck) (.slice ps ns cs) (.slice pu nu cu)) := ⟨own_set HO8.out hMM, own_set HK8.out hMM, own_set HV8.out hMM, own_set HW8.out hMM⟩; clear hu hg ho h36 hnu)
  by_cases hE : endR dr = 0
  · rw [if_neg (by simp [hE])] at HE
    by_cases hok : okI (imOf ⟨ab, bk, xs, du⟩) = true
    · rw [if_pos hok] at HE
      have HOK : Hid (okI ⟨ab, bk.map strOfNums, xs, du⟩ = true) := hok
      clear hok
      go_wp2_with (first
        | (go_at_call 37; (refine (end_any _ _ _ _ _ HS9.out.un).mono ?_; rintro e w10 ⟨rfl, hbk, hg⟩; have HFIN := Hid.in (And.intro (HS9.out.res.kept hg (fun e => by injection e with e; omega)) (And.intro (HS9.out.loc.kept hg (fun e => by injection e with e; have := HM.out; omega)) (HS9.out.bel.grown hg (Nat.le_of_lt HS9.out.res.lt) (fun k hk => by injection hk; omega)))); have HI10 : Hid (ImOwn w10 (w1.heap.size + 1) ⟨ab, bk.map strOfNums, xs, du⟩ (.slice pb nb cb) (.slice pk nk ck) (.slice ps ns cs) (.slice pu nu cu)) := ⟨own_kept HI9.out.b hg hgM, own_kept HI9.out.k hg hgM, own_kept HI9.out.s hg hgM, own_kept HI9.out.u hg hgM⟩; rw [hE] at hbk; have e1 : w10.cell? ⟨w.heap.size + 1, 1, none⟩ = some (.int .i64 0) := hbk.cell 1; have HBZ := Hid.in hbk; have HLOC : Hid (Blk w10 w1.heap.size 27 (imA pb pk ps pu nb cb nk ck ns cs nu cu)) := HFIN.out.2.1; obtain ⟨l0, l1, l2, l3⟩ := HLOC.out.cells4; have HIN := Hid.in (HI10.out.imIn HBY.out HNB.out HNK.out HNS.out HNU.out HKN.out HSN.out HUN.out HKL.out HUL.out); obtain ⟨d0, d1, d2, d3⟩ := HFIN.out.1.cells4; have g0 := HFIN.out.1.free 0; have g1 := HFIN.out.1.free 1; have g2 := HFIN.out.1.free 2; have g3 := HFIN.out.1.free 3; clear hbk hg))
        | (go_at_call 17; refine (iright_any ⟨ab, bk.map strOfNums, xs, du⟩ pb pk ps pu nb cb nk ck ns cs nu cu w10 HIN.out).mono ?_; rintro e w11 ⟨rfl, hb11⟩; rw [HOK.out]; have HB11 := Hid.in hb11; have HR11 := Hid.in (HFIN.out.1.grow hb11); obtain ⟨d0, d1, d2, d3⟩ := HR11.out.cells4; have g0 := HR11.out.free 0; have g1 := HR11.out.free 1; have g2 := HR11.out.free 2; have g3 := HR11.out.free 3; have HL11 := Hid.in (HLOC.out.grow hb11); obtain ⟨l0, l1, l2, l3⟩ := HL11.out.cells4; have HZ11 := Hid.in (HBZ.out.grow hb11); have z1 : w11.cell? ⟨w.heap.size + 1, 1, none⟩ = some (.int .i64 0) := HZ11.out.cell 1; have zf := HZ11.out.free 1; have HBL := Hid.in (below_step HFIN.out.2.2 hb11); have HI11 := Hid.in (HI10.out.below hb11); clear hb11))
      have HBE := Hid.in (HR11.out.set4 rfl (.slice pb nb cb) (.slice pk nk ck) (.slice ps ns cs) (.slice pu nu cu) rfl)
      have HLE := Hid.in (below4 HBL.out (.slice pb nb cb) (.slice pk nk ck) (.slice ps ns cs) (.slice pu nu cu))
      have HIE := Hid.in (HI11.out.set4 (R := w.heap.size) (by have := HM.out; omega) (.slice pb nb cb) (.slice pk nk ck) (.slice ps ns cs) (.slice pu nu cu))
      generalize ((((w11.setCell ⟨w.heap.size, 0, none⟩ (.slice pb nb cb)).setCell ⟨w.heap.size, 1, none⟩ (.slice pk nk ck)).setCell ⟨w.heap.size, 2, none⟩ (.slice ps ns cs)).setCell ⟨w.heap.size, 3, none⟩ (.slice pu nu cu)) = WE at *
      exact bodyPost_ret (v := .tuple #[.agg (imA pb pk ps pu nb cb nk ck ns cs nu cu), .int .i64 0]) (res14 (W := WE) HBE.out rfl rfl) rfl ⟨_, _, _, _, by rw [HE.out], by rw [HE.out]; exact HIE.out.lower (by have := HM.out; omega), HLE.out⟩
    · rw [if_neg hok] at HE
      have HOK : Hid (okI ⟨ab, bk.map strOfNums, xs, du⟩ = false) := by
        have : okI ⟨ab, bk.map strOfNums, xs, du⟩ = false := (Bool.not_eq_true _).mp hok
        exact this
      clear hok
      go_wp2_with (first
        | (go_at_call 37; refine (end_any _ _ _ _ _ HS9.out.un).mono ?_; rintro e w10 ⟨rfl, hbk, hg⟩; have HFIN := Hid.in (And.intro (HS9.out.res.kept hg (fun e => by injection e with e; omega)) (And.intro (HS9.out.loc.kept hg (fun e => by injection e with e; have := HM.out; omega)) (HS9.out.bel.grown hg (Nat.le_of_lt HS9.out.res.lt) (fun k hk => by injection hk; omega)))); have HI10 : Hid (ImOwn w10 (w1.heap.size + 1) ⟨ab, bk.map strOfNums, xs, du⟩ (.slice pb nb cb) (.slice pk nk ck) (.slice ps ns cs) (.slice pu nu cu)) := ⟨own_kept HI9.out.b hg hgM, own_kept HI9.out.k hg hgM, own_kept HI9.out.s hg hgM, own_kept HI9.out.u hg hgM⟩; rw [hE] at hbk; have e1 : w10.cell? ⟨w.heap.size + 1, 1, none⟩ = some (.int .i64 0) := hbk.cell 1; have HBZ := Hid.in hbk; have HLOC : Hid (Blk w10 w1.heap.size 27 (imA pb pk ps pu nb cb nk ck ns cs nu cu)) := HFIN.out.2.1; obtain ⟨l0, l1, l2, l3⟩ := HLOC.out.cells4; have HIN := Hid.in (HI10.out.imIn HBY.out HNB.out HNK.out HNS.out HNU.out HKN.out HSN.out HUN.out HKL.out HUL.out); obtain ⟨d0, d1, d2, d3⟩ := HFIN.out.1.cells4; have g0 := HFIN.out.1.free 0; have g1 := HFIN.out.1.free 1; have g2 := HFIN.out.1.free 2; have g3 := HFIN.out.1.free 3; clear hbk hg)
        | (go_at_call 17; refine (iright_any ⟨ab, bk.map strOfNums, xs, du⟩ pb pk ps pu nb cb nk ck ns cs nu cu w10 HIN.out).mono ?_; rintro e w11 ⟨rfl, hb11⟩; rw [HOK.out]; have HB11 := Hid.in hb11; have HR11 := Hid.in (HFIN.out.1.grow hb11); obtain ⟨d0, d1, d2, d3⟩ := HR11.out.cells4; have g0 := HR11.out.free 0; have g1 := HR11.out.free 1; have g2 := HR11.out.free 2; have g3 := HR11.out.free 3; have HL11 := Hid.in (HLOC.out.grow hb11); obtain ⟨l0, l1, l2, l3⟩ := HL11.out.cells4; have HZ11 := Hid.in (HBZ.out.grow hb11); have z1 : w11.cell? ⟨w.heap.size + 1, 1, none⟩ = some (.int .i64 0) := HZ11.out.cell 1; have zf := HZ11.out.free 1; have HBL := Hid.in (below_step HFIN.out.2.2 hb11); have HZ12 : Hid (Blk (w11.setCell ⟨w.heap.size + 1, 1, none⟩ (.int .i64 200)) w.heap.size 27 nil4) := HR11.out.other (show w.heap.size ≠ w.heap.size + 1 by omega) 1 (.int .i64 200); have HBL2 : Hid (Below w.heap.size w (w11.setCell ⟨w.heap.size + 1, 1, none⟩ (.int .i64 200))) := HBL.out.setCell (Nat.le_succ _) _; obtain ⟨m0, m1, m2, m3⟩ := HZ12.out.cells4; have h0 := HZ12.out.free 0; have h1 := HZ12.out.free 1; have h2 := HZ12.out.free 2; have h3 := HZ12.out.free 3; clear hb11))
      go_region_with (fail)
      all_goals go_wp2_with fail
      all_goals
        have HBE := Hid.in (HZ12.out.set4 rfl (.slice none 0 0) (.slice none 0 0) (.slice none 0 0) (.slice none 0 0) rfl)
        have HLE := Hid.in (below4 HBL2.out (.slice none 0 0) (.slice none 0 0) (.slice none 0 0) (.slice none 0 0))
        generalize (((((w11.setCell ⟨w.heap.size + 1, 1, none⟩ (.int .i64 200)).setCell ⟨w.heap.size, 0, none⟩ (.slice none 0 0)).setCell ⟨w.heap.size, 1, none⟩ (.slice none 0 0)).setCell ⟨w.heap.size, 2, none⟩ (.slice none 0 0)).setCell ⟨w.heap.size, 3, none⟩ (.slice none 0 0)) = WE at *
        exact bodyPost_ret (v := .tuple #[.agg nil4, .int .i64 200]) (res14 (W := WE.drew) HBE.out rfl rfl) rfl ⟨_, _, _, _, by rw [HE.out], by rw [HE.out]; exact ImOwn.nil _ _, below_draws HLE.out 1⟩
  · rw [if_pos hE] at HE
    have q1 : decide (endR dr = 0) = false := decide_eq_false hE
    go_wp2_with (go_at_call 37; refine (end_any _ _ _ _ _ HS9.out.un).mono ?_; rintro e w10 ⟨rfl, hbk, hg⟩; have HFIN := Hid.in (And.intro (HS9.out.res.kept hg (fun e => by injection e with e; omega)) (And.intro (HS9.out.loc.kept hg (fun e => by injection e with e; have := HM.out; omega)) (HS9.out.bel.grown hg (Nat.le_of_lt HS9.out.res.lt) (fun k hk => by injection hk; omega)))); have HI10 : Hid (ImOwn w10 (w1.heap.size + 1) ⟨ab, bk.map strOfNums, xs, du⟩ (.slice pb nb cb) (.slice pk nk ck) (.slice ps ns cs) (.slice pu nu cu)) := ⟨own_kept HI9.out.b hg hgM, own_kept HI9.out.k hg hgM, own_kept HI9.out.s hg hgM, own_kept HI9.out.u hg hgM⟩; have HBK := Hid.in hbk; have e1 : w10.cell? ⟨w.heap.size + 1, 1, none⟩ = some (.int .i64 (endR dr)) := hbk.cell 1; obtain ⟨d0, d1, d2, d3⟩ := HFIN.out.1.cells4; have g0 := HFIN.out.1.free 0; have g1 := HFIN.out.1.free 1; have g2 := HFIN.out.1.free 2; have g3 := HFIN.out.1.free 3; clear hbk hg)
    go_region_with (fail)
    all_goals go_wp2_with fail
    all_goals
      have HBE := Hid.in (HFIN.out.1.set4 rfl (.slice none 0 0) (.slice none 0 0) (.slice none 0 0) (.slice none 0 0) rfl)
      have HLE := Hid.in (below4 HFIN.out.2.2 (.slice none 0 0) (.slice none 0 0) (.slice none 0 0) (.slice none 0 0))
      generalize ((((w10.setCell ⟨w.heap.size, 0, none⟩ (.slice none 0 0)).setCell ⟨w.heap.size, 1, none⟩ (.slice none 0 0)).setCell ⟨w.heap.size, 2, none⟩ (.slice none 0 0)).setCell ⟨w.heap.size, 3, none⟩ (.slice none 0 0)) = WE at *
      exact bodyPost_ret (v := .tuple #[.agg nil4, .int .i64 (endR dr)]) (res14 (W := WE.drew) HBE.out rfl rfl) rfl ⟨_, _, _, _, by rw [HE.out], by rw [HE.out]; exact ImOwn.nil _ _, below_draws HLE.out 1⟩
end Go.Proofs.Ytfhjaabbfaamjaa
