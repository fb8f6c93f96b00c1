/- Texts put together: RPut, RPuW. -/
import Derived.Test.YtfhjaabbfaamjaaGd
import Derived.Deep.RegionHeld3

/- switchyardref10.put: a number behind bytes; append in a region that draws. -/
namespace Go.Proofs.Ytfhjaabbfaamjaa
open Go.RowKit

/-- 'append(out, b...)' in a region that draws -/
theorem step_push_row {ops : Array Oper} {o : Oper} {a : Act} {K : Act → World → Prop} {Q : Exit → Act → World → Prop} {E : Prop} (w : World) (hgd : o.guard = none) (s x : Operand)
    (ho : o.op = .call { callee := .builtin .append, args := #[s, x], argTypes := #[22, 22] }) (B : Nat) (v : Value) (xs : List Int) (hs : a.eval s = v) (hown : OwnV w B v xs)
    (q : Option Addr) (m d : Nat) (ys : List Int) (hx : a.eval x = .slice q m d) (hl : ys.length = m) (hrow : Row w q ys) (hq : q = none → m = 0 ∧ d = 0)
    (hlen : xs.length + m ≤ 140737488355328) (hB : B ≤ w.heap.size)
    (h : ∀ v' w', OwnV w' B v' (xs ++ ys) → (∀ w0, Below B w0 w → Below B w0 w') → K (a.put o.dst v') w') :
    if Region.wanted o (yielded ops a.tmps) = true then Oper.wp Try.prog o a w K Q else E := by
  have hw : Region.wanted o (yielded ops a.tmps) = true := by simp [Region.wanted, hgd]
  rw [if_pos hw]
  obtain ⟨i0, hi, hz0, hz1, hz2⟩ := info_parts Try.info5
  cases q with
  | none =>
    obtain ⟨rfl, rfl⟩ := hq rfl
    obtain rfl : ys = [] := List.eq_nil_of_length_eq_zero hl
    have hrun := run_append_owned_none (P := Try.prog) (w := w) B 22 o.type 5 i0 1 Try.underlying22 hi v xs.length (byts xs) hown
    unfold Oper.wp
    simp [execOp, ho, resolve, invoke, builtin, hs, hx, hrun, Result.andThen]
    exact h v w (by rw [List.append_nil]; exact hown) fun _ hb => hb
  | some ad =>
    refine wp_append_own w s x 22 ho B 5 i0 (.int .u8 0) 1 1 Try.underlying22 hi hz0 hz1 hz2 rfl (by decide) v xs.length (byts xs) hs hown ad m d (byts ys) hx (by simp [hl]) (fun j u hj => ?_) (fun u hu => ?_) (by unfold maxLen; omega) (by omega) hB ?_
    · have hjl : j < ys.length := by
        rcases Nat.lt_or_ge j ys.length with h | h
        · exact h
        · rw [List.getElem?_eq_none (by simpa using h)] at hj; cases hj
      obtain ⟨b, off, e, hc⟩ := hrow (by omega)
      cases e
      rw [getD_byts ys j hjl] at hj
      rw [← hj, ← hc j hjl, Go.WideShapes.add_plain]
    · simp only [byts, List.mem_map] at hu
      obtain ⟨z, _, rfl⟩ := hu
      rfl
    · intro v' w' h1 h2 _
      refine h v' w' ?_ (below_row hown h2 hB)
      unfold OwnV
      rw [List.length_append, hl]
      simpa [byts] using h1
/-- 'append(out, s...)', s a text, in a region that draws -/
theorem step_push_text {ops : Array Oper} {o : Oper} {a : Act} {K : Act → World → Prop} {Q : Exit → Act → World → Prop} {E : Prop} (w : World) (hgd : o.guard = none) (s x : Operand)
    (ho : o.op = .call { callee := .builtin .append, args := #[s, x], argTypes := #[22, 9] }) (B : Nat) (v : Value) (xs : List Int) (hs : a.eval s = v) (hown : OwnV w B v xs)
    (t : ByteArray) (hx : a.eval x = .string t) (hlen : xs.length + t.size ≤ 140737488355328) (hB : B ≤ w.heap.size)
    (h : ∀ v' w', OwnV w' B v' (xs ++ strL t) → (∀ w0, Below B w0 w → Below B w0 w') → K (a.put o.dst v') w') :
    if Region.wanted o (yielded ops a.tmps) = true then Oper.wp Try.prog o a w K Q else E := by
  have hw : Region.wanted o (yielded ops a.tmps) = true := by simp [Region.wanted, hgd]
  rw [if_pos hw]
  obtain ⟨i0, hi, hz0, hz1, hz2⟩ := info_parts Try.info5
  obtain ⟨v', w', hr, h1, h2, _⟩ := Lib.run_append_own_string (P := Try.prog) w B 22 9 o.type 5 i0 Try.underlying22 Try.underlying9 hi hz0 hz1 hz2 v xs.length (byts xs) hown t (by unfold maxLen; omega) hlen hB
  unfold Oper.wp execOp
  simp only [ho, resolve, invoke, builtin, Sem.run_bind, Sem.run_pure, Result.andThen_ok, List.map_toArray, List.map_cons, List.map_nil, hs, hx, hr]
  refine h v' w' ?_ (below_row hown h2 hB)
  unfold OwnV
  rw [List.length_append, strL_len]
  simpa [byts, strL_cells] using h1

theorem Own.lit4 (w : World) (n : Nat) : Own (w.alloc (.cells #[.int .u8 ((n : Int) % 256), .int .u8 ((n : Int) / 256 % 256), .int .u8 ((n : Int) / 65536 % 256), .int .u8 ((n : Int) / 16777216 % 256)] 5)) w.heap.size w.heap.size 4 (lb4 n) :=
  Own.lit w (lb4 n) (by rw [lb4_len]; unfold maxLen; omega)

theorem rput_any (B : Nat) (p : Option Addr) (k c : Nat) (xs : List Int) (n : Nat) (w : World) (ho : OwnV w B (.slice p k c) xs) (hn : n ≤ 2147483647) (hlen : xs.length + 4 ≤ 140737488355328) (hB : B ≤ w.heap.size) :
    Calls Try.prog 27 #[.slice p k c, .int .i64 n] w fun E w' => ∃ v', E = .returned v' ∧ OwnV w' B v' (xs ++ lb4 n) ∧ (∀ w0, Below B w0 w → Below B w0 w') := by
  have HO4 := Hid.in (Own.lit4 w n)
  have HB4 := Hid.in (new_alloc w (.cells #[.int .u8 ((n : Int) % 256), .int .u8 ((n : Int) / 256 % 256), .int .u8 ((n : Int) / 65536 % 256), .int .u8 ((n : Int) / 16777216 % 256)] 5))
  have HX := Hid.in (ho.below HB4.out)
  have HR := Hid.in HO4.out.row
  have d3 : (n : Int).tdiv 16777216 = (n : Int) / 16777216 % 256 := by rw [Int.tdiv_eq_ediv_of_nonneg (by omega)]; omega
  have hB1 := HB4.out.size
  clear ho
  go_enter Try.func27, Try.ntmps27
  go_wp2_with (at_builtin; refine wp_push_row _ rfl _ _ rfl B (.slice p k c) xs rfl HX.out (some ⟨w.heap.size, 0, none⟩) 4 4 (lb4 n) rfl rfl HR.out (fun h => by cases h) hlen (by omega) ?_; intro v' w' h1 h2; have H1 := Hid.in h1; have H2 := Hid.in h2; clear h1 h2)
  go_ret
  exact ⟨v', rfl, H1.out, fun w0 h0 => H2.out w0 (h0.trans (HB4.out.mono hB))⟩
end Go.Proofs.Ytfhjaabbfaamjaa

/- switchyardref10.Put answers P10.1. -/
namespace Go.Proofs.Ytfhjaabbfaamjaa
open Go.RowKit

/-- where the reference's Put stands: its bytes are its own, all that was there stays -/
structure RSt (w1 W : World) (v : Value) (xs : List Int) : Prop where
  own : OwnV W w1.heap.size v xs
  bel : Below w1.heap.size w1 W
theorem RSt.below {w1 W W' : World} {v : Value} {xs : List Int} (h : RSt w1 W v xs) (hb : Below W.heap.size W W') : RSt w1 W' v xs := ⟨h.own.below hb, below_step h.bel hb⟩
theorem RSt.form {w1 W : World} {v : Value} {xs : List Int} (h : RSt w1 W v xs) : ∃ p k, v = .slice p xs.length k := by
  obtain ⟨p, k, e, _⟩ := h.own.slice
  exact ⟨p, k, e⟩
theorem RSt.put {w1 W : World} {v : Value} {xs : List Int} (h : RSt w1 W v xs) (n : Nat) (hn : n ≤ 2147483647) (hl : xs.length + 4 ≤ 140737488355328) :
    Calls Try.prog 27 #[v, .int .i64 n] W fun E w' => ∃ v', E = .returned v' ∧ RSt w1 w' v' (xs ++ lb4 n) := by
  obtain ⟨p, k, rfl⟩ := h.form
  refine (rput_any w1.heap.size p xs.length k xs n W h.own hn hl h.bel.size).mono ?_
  rintro E w' ⟨v', rfl, h1, h2⟩
  exact ⟨v', rfl, h1, h2 _ h.bel⟩

set_option maxRecDepth 20000 in
set_option maxHeartbeats 1000000 in
theorem rput_no (m : IM) (pb pk ps pu : Option Addr) (nb cb nk ck ns cs nu cu : Nat) (w : World)
    (hR : ∀ W, Below w.heap.size w W → Calls Try.prog 26 #[.agg (imA pb pk ps pu nb cb nk ck ns cs nu cu)] W fun E w' => E = .returned (.bool (okI m)) ∧ Below W.heap.size W w') (hok : okI m = false) :
    Calls Try.prog 9 #[.agg (imA pb pk ps pu nb cb nk ck ns cs nu cu)] w fun E w' => E = .returned (.tuple #[.slice none 0 0, .int .i64 2]) ∧ Below w.heap.size w w' := by
  have HK0 : Hid (Blk (w.alloc (.cells (imA pb pk ps pu nb cb nk ck ns cs nu cu) 27)) w.heap.size 27 (imA pb pk ps pu nb cb nk ck ns cs nu cu)) := Blk.new _ _ _
  have HB0 : Hid (Below w.heap.size w (w.alloc (.cells (imA pb pk ps pu nb cb nk ck ns cs nu cu) 27))) := new_alloc _ _
  have hR0 := hR _ HB0.out
  rw [hok] at hR0
  clear hok hR
  obtain ⟨k0, k1, k2, k3⟩ := HK0.out.cells4
  go_enter Try.func9, Try.ntmps9
  go_wp2_with (go_at_call 26; refine hR0.mono ?_; rintro e w1 ⟨rfl, hb1⟩)
  go_ret2
  exact ⟨rfl, below_step HB0.out hb1⟩

set_option maxRecDepth 20000 in
set_option maxHeartbeats 8000000 in
theorem rput_yes (m : IM) (pb pk ps pu : Option Addr) (nb cb nk ck ns cs nu cu : Nat) (w : World) (h : ImIn w m pb pk ps pu nb cb nk ck ns cs nu cu)
    (hR : ∀ W, Below w.heap.size w W → Calls Try.prog 26 #[.agg (imA pb pk ps pu nb cb nk ck ns cs nu cu)] W fun E w' => E = .returned (.bool (okI m)) ∧ Below W.heap.size W w') (hok : okI m = true) (hpb : pb = none → nb = 0 ∧ cb = 0) :
    Calls Try.prog 9 #[.agg (imA pb pk ps pu nb cb nk ck ns cs nu cu)] w fun E w' => ∃ v, E = .returned (.tuple #[v, .int .i64 0]) ∧ OwnV w' w.heap.size v (putI m.im) ∧ Below w.heap.size w w' := by
  have HK0 : Hid (Blk (w.alloc (.cells (imA pb pk ps pu nb cb nk ck ns cs nu cu) 27)) w.heap.size 27 (imA pb pk ps pu nb cb nk ck ns cs nu cu)) := Blk.new _ _ _
  have HB0 : Hid (Below w.heap.size w (w.alloc (.cells (imA pb pk ps pu nb cb nk ck ns cs nu cu) 27))) := new_alloc _ _
  have hR0 := hR _ HB0.out
  rw [hok] at hR0
  have H := Hid.in h
  have HIM := Hid.in (okI_im hok)
  have HPB := Hid.in hpb
  have hnb : nb ≤ 65536 := by rw [← h.lb]; exact (okI_parts hok).1
  have hnk : nk ≤ 64 := by have := (okI_im hok).ks; rw [IM.im, List.length_map, h.lk] at this; exact this
  have hns : ns ≤ 256 := by have := (okI_im hok).si; rw [IM.im, h.ls] at this; exact this
  have hnu : nu ≤ 16 := by have := (okI_im hok).un; rw [IM.im, h.lu] at this; exact this
  have HKL := Hid.in (keyU_len hok)
  have hl1 := pre1_len (okI_parts hok).1
  have hl2 := pre2_len hok
  have hl3 := pre3_len hok
  have HALL := Hid.in (pre_all m)
  have HP1 : Hid (((swy ++ lb4 nb) ++ m.bs) ++ lb4 nk = pre1 m) := by
    have : ((swy ++ lb4 nb) ++ m.bs) ++ lb4 nk = pre1 m := by rw [pre1, h.lb, h.lk]
    exact this
  have HP2 : Hid ((pre1 m ++ m.ks.flatMap keyU) ++ lb4 ns = pre2 m) := by
    have : (pre1 m ++ m.ks.flatMap keyU) ++ lb4 ns = pre2 m := by rw [pre2, h.ls]
    exact this
  have HP3 : Hid ((pre2 m ++ m.si.flatMap siteL) ++ lb4 nu = pre3 m) := by
    have : (pre2 m ++ m.si.flatMap siteL) ++ lb4 nu = pre3 m := by rw [pre3, h.lu]
    exact this
  have hL2 : Hid (swy.length + 4 ≤ 140737488355328) := by
    have : swy.length + 4 ≤ 140737488355328 := by decide
    exact this
  have hL3 : Hid ((swy ++ lb4 nb).length + nb ≤ 140737488355328) := by
    have : (swy ++ lb4 nb).length + nb ≤ 140737488355328 := by rw [List.length_append, lb4_len]; have : swy.length = 4 := rfl; omega
    exact this
  have hL4 : Hid (((swy ++ lb4 nb) ++ m.bs).length + 4 ≤ 140737488355328) := by
    have : ((swy ++ lb4 nb) ++ m.bs).length + 4 ≤ 140737488355328 := by rw [List.length_append, List.length_append, lb4_len, h.lb]; have : swy.length = 4 := rfl; omega
    exact this
  clear h hok hpb hR
  obtain ⟨k0, k1, k2, k3⟩ := HK0.out.cells4
  go_enter Try.func9, Try.ntmps9
  go_wp2_with (go_at_call 26; refine hR0.mono ?_; rintro e w1 ⟨rfl, hb1⟩; have HB1 := Hid.in (below_step HB0.out hb1); have HK1 := Hid.in (HK0.out.grow hb1); clear hb1)
  have HKC : Hid (∀ W, Below w1.heap.size w1 W → W.cell? ⟨w.heap.size, 0, none⟩ = some (.slice pb nb cb) ∧ W.cell? ⟨w.heap.size, 1, none⟩ = some (.slice pk nk ck) ∧ W.cell? ⟨w.heap.size, 2, none⟩ = some (.slice ps ns cs) ∧ W.cell? ⟨w.heap.size, 3, none⟩ = some (.slice pu nu cu)) := fun W hW => (HK1.out.grow hW).cells4
  have HIC : Hid (∀ W, Below w1.heap.size w1 W → ImIn W m pb pk ps pu nb cb nk ck ns cs nu cu) := fun W hW => H.out.below (below_step HB1.out hW)
  have HS2 : Hid (RSt w1 (w1.alloc (.cells #[.int .u8 83, .int .u8 87, .int .u8 89, .int .u8 49] 5)) (.slice (some ⟨w1.heap.size, 0, none⟩) 4 4) swy) := by
    have ho : Own (w1.alloc (.cells #[.int .u8 83, .int .u8 87, .int .u8 89, .int .u8 49] 5)) w1.heap.size w1.heap.size 4 swy := Own.lit w1 swy (by unfold maxLen; decide)
    have : RSt w1 (w1.alloc (.cells #[.int .u8 83, .int .u8 87, .int .u8 89, .int .u8 49] 5)) (.slice (some ⟨w1.heap.size, 0, none⟩) 4 4) swy := ⟨ho.val, new_alloc _ _⟩
    exact this
  clear k0 k1 k2 k3 HK0 HB0 HK1 H hR0
  generalize w1.alloc (.cells #[.int .u8 83, .int .u8 87, .int .u8 89, .int .u8 49] 5) = w2 at *
  have HS2d : Hid (RSt w1 (w2.drewN 1) (.slice (some ⟨w1.heap.size, 0, none⟩) 4 4) swy) := HS2.out.below (below_draws (below_self w2) 1)
  have k0 := (HKC.out w2 HS2.out.bel).1
  go_region_held3 (fun W => W.cell? ⟨w.heap.size, 0, none⟩ = some (.slice pb nb cb)) (first | (with_reducible exact hk3) | (with_reducible exact hk4) | go_keep)
    (first
      | (go_at_call 27; refine (HS2d.out.put nb (by omega) hL2.out).mono ?_; rintro E w3 ⟨v3, rfl, h3⟩; have HS3 := Hid.in h3; have hk3 := (HKC.out w3 h3.bel).1; clear h3)
      | (refine step_push_row _ rfl _ _ rfl w1.heap.size v3 (swy ++ lb4 nb) rfl HS3.out.own pb nb cb m.bs rfl (HIC.out w3 HS3.out.bel).lb (HIC.out w3 HS3.out.bel).rb HPB.out hL3.out HS3.out.bel.size ?_; intro v4 w4 h4 b4; have HS4 : Hid (RSt w1 w4 v4 ((swy ++ lb4 nb) ++ m.bs)) := ⟨h4, b4 _ HS3.out.bel⟩; have hk4 := (HKC.out w4 HS4.out.bel).1; clear h4 b4))
  obtain ⟨-, k1, -, -⟩ := HKC.out w4 HS4.out.bel
  go_wp2_with (go_at_call 27; refine (HS4.out.put nk (by omega) hL4.out).mono ?_; rintro E w5 ⟨v5, rfl, h5⟩; rw [HP1.out] at h5; have HS5 := Hid.in h5; clear h5)
  clear HS2 HS2d HS3 HS4 HP1 hL2 hL3 hL4 k0 k1 hk3 hk4
  go_loopw [4, 5] (fun vb vi wr => ∃ j : Nat, vi = .int .i64 j ∧ j ≤ nk ∧ RSt w1 wr vb (pre1 m ++ (m.ks.take j).flatMap keyU)) (fun _ vi _ => nk - (intOf vi).toNat)
  case atStart => exact ⟨0, rfl, Nat.zero_le _, by rw [List.take_zero, List.flatMap_nil, List.append_nil]; exact HS5.out⟩
  case round =>
    obtain ⟨j, rfl, hj, hst⟩ := hrel
    have HS := Hid.in hst
    clear hst
    obtain ⟨-, k1, -, -⟩ := HKC.out wr HS.out.bel
    by_cases hlt : j < nk
    · have hjT : j < m.ks.length := by rw [(HIC.out wr HS.out.bel).lk]; exact hlt
      obtain ⟨b, o, rfl, -⟩ := strV_cell (HIC.out wr HS.out.bel).rk (by omega)
      have HCC : Hid (∀ W, Below w1.heap.size w1 W → W.cell? ⟨b, o + j, none⟩ = some (.string m.ks[j])) := fun W hW => by
        obtain ⟨b', o', e', hc⟩ := strV_cell (HIC.out W hW).rk (by omega)
        obtain ⟨rfl, rfl⟩ : b = b' ∧ o = o' := by cases e'; exact ⟨rfl, rfl⟩
        exact hc j hjT
      have c0 := HCC.out wr HS.out.bel
      have HTK := Hid.in (flat_take keyU m.ks j hjT)
      have hl5 : ((m.ks.take j).flatMap keyU).length ≤ 1280 := by
        have h1 := flat_len (m.ks.take j) fun x hx => HKL.out x (List.mem_of_mem_take hx)
        rw [List.length_take] at h1
        omega
      have hsz : m.ks[j].size ≤ 16 := by have := HIM.out.key (strL m.ks[j]) (List.mem_map_of_mem (List.getElem_mem hjT)); rwa [strL_len] at this
      have HU : Hid (∀ L : List Int, (L ++ lb4 m.ks[j].size) ++ strL m.ks[j] = L ++ keyU m.ks[j]) := fun L => by rw [keyU, List.append_assoc]
      generalize m.ks[j] = x at *
      generalize (m.ks.take j).flatMap keyU = LQ at *
      have hL6 : Hid ((pre1 m ++ LQ).length + 4 ≤ 140737488355328) := by
        have : (pre1 m ++ LQ).length + 4 ≤ 140737488355328 := by rw [List.length_append]; omega
        exact this
      have hL7 : Hid (((pre1 m ++ LQ) ++ lb4 x.size).length + x.size ≤ 140737488355328) := by
        have : ((pre1 m ++ LQ) ++ lb4 x.size).length + x.size ≤ 140737488355328 := by rw [List.length_append, List.length_append, lb4_len]; omega
        exact this
      have HSd : Hid (RSt w1 (wr.drewN 1) u4 (pre1 m ++ LQ)) := HS.out.below (below_draws (below_self wr) 1)
      go_wp2_with fail
      go_region_held3 (fun W => W.cell? ⟨w.heap.size, 1, none⟩ = some (.slice (some ⟨b, o, none⟩) nk ck) ∧ W.cell? ⟨b, o + j, none⟩ = some (.string x)) (first | (with_reducible exact hk3) | (with_reducible exact hk4) | go_keep)
        (first
          | (go_at_call 27; refine (HSd.out.put x.size (by omega) hL6.out).mono ?_; rintro E w3 ⟨v3, rfl, h3⟩; have HS3 := Hid.in h3; have hk3 := And.intro (HKC.out w3 h3.bel).2.1 (HCC.out w3 h3.bel); clear h3)
          | (refine step_push_text _ rfl _ _ rfl w1.heap.size v3 ((pre1 m ++ LQ) ++ lb4 x.size) rfl HS3.out.own x rfl hL7.out HS3.out.bel.size ?_; intro v4 w4 h4 b4; have HS4 : Hid (RSt w1 w4 v4 (((pre1 m ++ LQ) ++ lb4 x.size) ++ strL x)) := ⟨h4, b4 _ HS3.out.bel⟩; have hk4 := And.intro (HKC.out w4 HS4.out.bel).2.1 (HCC.out w4 HS4.out.bel); clear h4 b4))
      go_wp2_with fail
      go_roundw
      case rel => exact ⟨j + 1, by go_num, by omega, by rw [HTK.out, ← List.append_assoc, ← HU.out]; exact HS4.out⟩
      case measure => simp [intOf]; omega
    · rw [List.take_of_length_le (by rw [(HIC.out wr HS.out.bel).lk]; omega)] at HS
      have hLa : Hid ((pre1 m ++ m.ks.flatMap keyU).length + 4 ≤ 140737488355328) := by
        have : (pre1 m ++ m.ks.flatMap keyU).length + 4 ≤ 140737488355328 := by
          rw [List.length_append]
          have h1 := flat_len m.ks HKL.out
          rw [(HIC.out wr HS.out.bel).lk] at h1
          omega
        exact this
      obtain ⟨-, -, k2, -⟩ := HKC.out wr HS.out.bel
      go_wp2_with (go_at_call 27; refine (HS.out.put ns (by omega) hLa.out).mono ?_; rintro E w8 ⟨v8, rfl, h8⟩; rw [HP2.out] at h8; have HS8 := Hid.in h8; clear h8)
      clear HS5 HS HP2 hLa k1 k2
      go_loopw [4, 6] (fun vb vi wr => ∃ i : Nat, vi = .int .i64 i ∧ i ≤ ns ∧ RSt w1 wr vb (pre2 m ++ (m.si.take i).flatMap siteL)) (fun _ vi _ => ns - (intOf vi).toNat)
      case atStart => exact ⟨0, rfl, Nat.zero_le _, by rw [List.take_zero, List.flatMap_nil, List.append_nil]; exact HS8.out⟩
      case round =>
        obtain ⟨i, rfl, hi, hst⟩ := hrel
        have HS := Hid.in hst
        clear hst HS8
        obtain ⟨-, -, k2, -⟩ := HKC.out wr HS.out.bel
        by_cases hli : i < ns
        · have hiT : i < m.si.length := by rw [(HIC.out wr HS.out.bel).ls]; exact hli
          obtain ⟨b, o, rfl, -⟩ := ((HIC.out wr HS.out.bel).rs).at3 (by omega)
          have HTK := Hid.in (flat_take siteL m.si i hiT)
          have hl5 : ((m.si.take i).flatMap siteL).length ≤ 3072 := by
            have h1 := flat_len (f := siteL) (c := 12) (m.si.take i) fun x _ => Nat.le_of_eq (siteL_len x)
            rw [List.length_take] at h1
            omega
          obtain ⟨hn0, hn1, hn2⟩ := HIM.out.site m.si[i] (List.getElem_mem hiT)
          obtain ⟨x0, e0⟩ : ∃ x : Nat, m.si[i].key = x := ⟨m.si[i].key.toNat, by unfold sNum at hn0; omega⟩
          obtain ⟨x1, e1⟩ : ∃ x : Nat, m.si[i].at_ = x := ⟨m.si[i].at_.toNat, by unfold sNum at hn1; omega⟩
          obtain ⟨x2, e2⟩ : ∃ x : Nat, m.si[i].to_ = x := ⟨m.si[i].to_.toNat, by unfold sNum at hn2; omega⟩
          have HU : Hid (∀ L : List Int, ((L ++ lb4 x0) ++ lb4 x1) ++ lb4 x2 = L ++ siteL m.si[i]) := fun L => by rw [siteL, e0, e1, e2, List.append_assoc, List.append_assoc]; rfl
          unfold sNum at hn0 hn1 hn2
          rw [e0] at hn0
          rw [e1] at hn1
          rw [e2] at hn2
          have HCC : Hid (∀ W, Below w1.heap.size w1 W → W.cell? ⟨b, o + i * 3, none⟩ = some (.int .i64 x0) ∧ W.cell? ⟨b, o + i * 3 + 1, none⟩ = some (.int .i64 x1) ∧ W.cell? ⟨b, o + i * 3 + 2, none⟩ = some (.int .i64 x2)) := fun W hW => by
            obtain ⟨b', o', e', hc⟩ := ((HIC.out W hW).rs).at3 (by omega)
            obtain ⟨rfl, rfl⟩ : b = b' ∧ o = o' := by cases e'; exact ⟨rfl, rfl⟩
            have := hc i hiT
            rw [e0, e1, e2] at this
            exact this
          obtain ⟨c0, c1, c2⟩ := HCC.out wr HS.out.bel
          clear e0 e1 e2
          generalize m.si[i] = x at *
          generalize (m.si.take i).flatMap siteL = LQ at *
          have hL6 : Hid ((pre2 m ++ LQ).length + 4 ≤ 140737488355328) := by
            have : (pre2 m ++ LQ).length + 4 ≤ 140737488355328 := by rw [List.length_append]; omega
            exact this
          have hL7 : Hid (((pre2 m ++ LQ) ++ lb4 x0).length + 4 ≤ 140737488355328) := by
            have : ((pre2 m ++ LQ) ++ lb4 x0).length + 4 ≤ 140737488355328 := by rw [List.length_append, List.length_append, lb4_len]; omega
            exact this
          have hL8 : Hid ((((pre2 m ++ LQ) ++ lb4 x0) ++ lb4 x1).length + 4 ≤ 140737488355328) := by
            have : (((pre2 m ++ LQ) ++ lb4 x0) ++ lb4 x1).length + 4 ≤ 140737488355328 := by rw [List.length_append, List.length_append, List.length_append, lb4_len, lb4_len]; omega
            exact this
          have HSd : Hid (RSt w1 (wr.drewN 1) u4 (pre2 m ++ LQ)) := HS.out.below (below_draws (below_self wr) 1)
          go_wp2_with fail
          go_region_held3 (fun W => W.cell? ⟨w.heap.size, 2, none⟩ = some (.slice (some ⟨b, o, none⟩) ns cs) ∧ W.cell? ⟨b, o + i * 3, none⟩ = some (.int .i64 x0) ∧ W.cell? ⟨b, o + i * 3 + 1, none⟩ = some (.int .i64 x1) ∧ W.cell? ⟨b, o + i * 3 + 2, none⟩ = some (.int .i64 x2)) (first | (with_reducible exact hk3) | (with_reducible exact hk4) | (with_reducible exact hk5) | go_keep)
            (first
              | (go_at_call 27; (with_reducible refine (HS3.out.put x1 (by omega) hL7.out).mono ?_); rintro E w4 ⟨v4, rfl, h4⟩; have HS4 := Hid.in h4; have hk4 := And.intro (HKC.out w4 h4.bel).2.2.1 (HCC.out w4 h4.bel); clear h4)
              | (go_at_call 27; (with_reducible refine (HS4.out.put x2 (by omega) hL8.out).mono ?_); rintro E w5 ⟨v5, rfl, h5⟩; have HS5 := Hid.in h5; have hk5 := And.intro (HKC.out w5 h5.bel).2.2.1 (HCC.out w5 h5.bel); clear h5)
              | (go_at_call 27; refine (HSd.out.put x0 (by omega) hL6.out).mono ?_; rintro E w3 ⟨v3, rfl, h3⟩; have HS3 := Hid.in h3; have hk3 := And.intro (HKC.out w3 h3.bel).2.2.1 (HCC.out w3 h3.bel); clear h3))
          go_wp2_with fail
          go_roundw
          case rel => exact ⟨i + 1, by go_num, by omega, by rw [HTK.out, ← List.append_assoc, ← HU.out]; exact HS5.out⟩
          case measure => simp [intOf]; omega
        · rw [List.take_of_length_le (by rw [(HIC.out wr HS.out.bel).ls]; omega)] at HS
          have hLa : Hid ((pre2 m ++ m.si.flatMap siteL).length + 4 ≤ 140737488355328) := by
            have : (pre2 m ++ m.si.flatMap siteL).length + 4 ≤ 140737488355328 := by
              rw [List.length_append]
              have h1 := flat_len (f := siteL) (c := 12) m.si fun x _ => Nat.le_of_eq (siteL_len x)
              rw [(HIC.out wr HS.out.bel).ls] at h1
              omega
            exact this
          obtain ⟨-, -, -, k3⟩ := HKC.out wr HS.out.bel
          go_wp2_with (go_at_call 27; refine (HS.out.put nu (by omega) hLa.out).mono ?_; rintro E w9 ⟨v9, rfl, h9⟩; rw [HP3.out] at h9; have HS9 := Hid.in h9; clear h9)
          clear HS HP3 hLa k2 k3
          go_loopw [4, 7] (fun vb vi wr => ∃ q : Nat, vi = .int .i64 q ∧ q ≤ nu ∧ RSt w1 wr vb (pre3 m ++ (m.un.take q).flatMap unitL)) (fun _ vi _ => nu - (intOf vi).toNat)
          case atStart => exact ⟨0, rfl, Nat.zero_le _, by rw [List.take_zero, List.flatMap_nil, List.append_nil]; exact HS9.out⟩
          case round =>
            obtain ⟨q, rfl, hq, hst⟩ := hrel
            have HS := Hid.in hst
            clear hst HS9
            obtain ⟨-, -, -, k3⟩ := HKC.out wr HS.out.bel
            by_cases hlq : q < nu
            · have hqT : q < m.un.length := by rw [(HIC.out wr HS.out.bel).lu]; exact hlq
              obtain ⟨b, o, rfl, hc⟩ := intV_cell (HIC.out wr HS.out.bel).ru (by omega)
              have c0 := hc q hqT
              have HTK := Hid.in (flat_take unitL m.un q hqT)
              have hl5 : ((m.un.take q).flatMap unitL).length ≤ 64 := by
                have h1 := flat_len (f := unitL) (c := 4) (m.un.take q) fun x _ => Nat.le_of_eq (lb4_len _)
                rw [List.length_take] at h1
                omega
              have hn0 := HIM.out.unit m.un[q] (List.getElem_mem hqT)
              obtain ⟨x0, e0⟩ : ∃ x : Nat, m.un[q] = x := ⟨m.un[q].toNat, by unfold sNum at hn0; omega⟩
              have HU : Hid (lb4 x0 = unitL m.un[q]) := by
                have : lb4 x0 = unitL m.un[q] := by rw [unitL, e0]; rfl
                exact this
              unfold sNum at hn0
              rw [e0] at c0 hn0
              clear hc e0
              generalize m.un[q] = x at *
              generalize (m.un.take q).flatMap unitL = LQ at *
              have hL6 : Hid ((pre3 m ++ LQ).length + 4 ≤ 140737488355328) := by
                have : (pre3 m ++ LQ).length + 4 ≤ 140737488355328 := by rw [List.length_append]; omega
                exact this
              go_wp2_with (go_at_call 27; refine (HS.out.put x0 (by omega) hL6.out).mono ?_; rintro E w6 ⟨v6, rfl, h6⟩; rw [HU.out, List.append_assoc, ← HTK.out] at h6; have HS6 := Hid.in h6; clear h6)
              go_roundw
              case rel => exact ⟨q + 1, by go_num, by omega, HS6.out⟩
              case measure => simp [intOf]; omega
            · rw [List.take_of_length_le (by rw [(HIC.out wr HS.out.bel).lu]; omega), HALL.out] at HS
              go_wp2_with fail
              go_ret2
              exact ⟨_, rfl, OwnV.lower HS.out.own HB1.out.size, below_step HB1.out HS.out.bel⟩
end Go.Proofs.Ytfhjaabbfaamjaa
