/- Texts put together: RefS. -/
import Derived.Test.YtgfmmbbebodapaaGreatDoorKzb
import Derived.Test.YtgfmmbbebodapaaGreatDoorKr

/- switchyardref04.Print answers what source.Print does. -/
namespace Go.Proofs.YtgfmmbbebodapaaGreatDoor
open Go.RowKit

theorem row_cat {w : World} {B : Nat} {v : Value} {l m : List UInt8} (h : w.ownsRow B 5 1 v ((Lib.byteCells l).length + (bytesOf m).size) (Lib.byteCells l ++ Lib.strCells (bytesOf m))) : GOwnV 5 w B v (Lib.byteCells (l ++ m)) := by
  rw [cells_str, Lib.byteCells_length, bytesOf_size] at h
  have e : Lib.byteCells l ++ Lib.byteCells m = Lib.byteCells (l ++ m) := by simp [Lib.byteCells]
  rw [e, ← List.length_append] at h
  unfold GOwnV
  rw [Lib.byteCells_length]
  exact h
theorem cells_snoc2 (l m : List UInt8) : Lib.byteCells (l ++ m) ++ [.int .u8 10] = Lib.byteCells (l ++ (m ++ [10])) := by simp [Lib.byteCells]
theorem byte_cells (l : List UInt8) : Lib.byteCells l = byts (l.map fun c => (c.toNat : Int)) := by simp [Lib.byteCells, byts]
/-- bytes turned into a text -/
theorem text_conv {w : World} {B : Nat} {q : Option Addr} {c : Nat} {l : List UInt8} (h : GOwnV 5 w B (.slice q l.length c) (Lib.byteCells l)) :
    (convert 26 9 (.slice q l.length c)).run Tryz.prog w = .ok (.string (bytesOf l)) w := by
  have h2 : GOwnV 5 w B (.slice q l.length c) (byts (l.map fun c => (c.toNat : Int))) := byte_cells l ▸ h
  obtain ⟨q', cap, e, hr⟩ := h2.rowB
  have e1 : q = q' := (Value.slice.inj e).1
  rw [← e1] at hr
  have := hr.convert (n := l.length) (by simp) c
  rw [told_str _ l (by simp [chI, Function.comp_def])] at this
  exact this

set_option maxRecDepth 100000 in
set_option maxHeartbeats 2000000 in
theorem refPrint_any (p : Option Addr) (n c : Nat) (xs : List Src) (w : World) (hn : xs.length = n) (hn63 : n ≤ 9223372036854775807) (hx : Items w p xs) :
    Calls Tryz.prog 19 #[.slice p n c] w fun E w' => E = .returned (.tuple #[.string (bytesOf (printL xs).1), .int .i64 (printL xs).2]) ∧ Below w.heap.size w w' := by
  have hC := refCheck_any p n c xs w hn hn63 hx
  obtain ⟨ce, hce⟩ : ∃ ce, ce = checkL xs := ⟨_, rfl⟩
  rw [← hce] at hC
  by_cases h0 : (checkL xs).1 = 0
  · have h4 : n ≤ 4096 := by
      by_cases h : n ≤ 4096
      · exact h
      · unfold checkL at h0; rw [if_pos (by omega)] at h0; simp at h0
    have hmay : ∀ x ∈ xs, mayB x = true := by
      unfold checkL at h0
      rw [if_neg (by omega)] at h0
      exact chk_may xs 0 h0
    have hfit := hx.fit
    have hlen := textT_len xs hfit hmay
    have hbr : ∀ k, k ≤ n → (textT (xs.take k)).length ≤ 4096 * 1490 := fun k hk => by
      have := textT_len (xs.take k) (fun x hx => hfit x (List.mem_of_mem_take hx)) (fun x hx => hmay x (List.mem_of_mem_take hx))
      rw [List.length_take] at this
      have : min k xs.length * 1490 ≤ 4096 * 1490 := Nat.mul_le_mul_right _ (by omega)
      omega
    have HBR := Hid.in hbr
    have HX := Hid.in hx
    have HN := Hid.in hn
    have HMAY := Hid.in hmay
    have HPR : Hid (printL xs = if 65536 < (textT xs).length then ([], 3) else (textT xs, 0)) := by
      have : printL xs = if 65536 < (textT xs).length then ([], 3) else (textT xs, 0) := by unfold printL; rw [if_pos h0]
      exact this
    generalize printL xs = r at *
    rw [show ce.1 = 0 by rw [hce]; exact h0] at hC
    generalize ce.2 = c2 at hC
    clear hce h0 hx hn hmay hfit hlen hbr
    go_enter Tryz.func19, Tryz.ntmps19
    go_wp2_with (go_at_call 17; refine hC.mono ?_; rintro E w1 ⟨rfl, hb1⟩; have HB1 := Hid.in hb1; clear hb1)
    obtain ⟨i0, hi, hz0, hz1, hz2⟩ := info_parts Tryz.info5
    go_wp2_with fail
    go_loopw [6, 7] (fun v i wr => ∃ k : Nat, k ≤ n ∧ i = .int .i64 k ∧ GOwnV 5 wr w1.heap.size v (Lib.byteCells (textT (xs.take k))) ∧ Below w1.heap.size w1 wr) (fun _ i _ => n - (intOf i).toNat)
    case atStart => exact ⟨0, Nat.zero_le _, rfl, GOwnV.nil _ _ _, below_self _⟩
    case round =>
      obtain ⟨k, hk, rfl, hI, hb⟩ := hrel
      have HB := Hid.in hb
      have HWR := Hid.in (below_step HB1.out hb)
      have hsz := hb.size
      have HI := Hid.in hI
      obtain ⟨pv, cv, hv, -, -, -⟩ := hI.slice
      rw [Lib.byteCells_length] at hv
      subst hv
      clear hI hb
      by_cases hlt : k < n
      · have hlt' : k < xs.length := by rw [HN.out]; exact hlt
        obtain ⟨b, o, hp, hc⟩ := HX.out.below HWR.out (by omega)
        subst hp
        obtain ⟨q, e, hR, hrow, hfit⟩ := hc k hlt'
        have hL := refT_any (xs[k]'hlt') hfit q (xs[k]'hlt').d.length e wr rfl (may_64 ((mayB_iff _).1 (HMAY.out _ (List.getElem_mem hlt')))) hrow
        have HR := Hid.in hR
        have hb1 := HBR.out k hk
        have hb2 := line_brief (xs[k]'hlt') hfit (HMAY.out _ (List.getElem_mem hlt'))
        have HTS := Hid.in (textT_succ xs k hlt')
        clear hc hR hrow hfit
        generalize xs[k] = x at *
        generalize lineT x = lx at *
        generalize textT (xs.take k) = tk at *
        obtain ⟨lt, hlt2⟩ : ∃ lt, lt = tk.length := ⟨_, rfl⟩
        rw [← hlt2] at hb1
        have HLT := Hid.in hlt2
        clear hlt2
        go_wp2_with (first
          | (refine step_load_at HR.out rfl 28 (.tmp 25) rfl rfl _ Tryz.underlying28 rfl Tryz.sz28 ?_)
          | (go_at_call 46; refine hL.mono ?_; rintro E w5 ⟨rfl, hb5⟩; have HI5 := Hid.in (HI.out.below hb5); have HB5 := Hid.in (below_step HB.out hb5); clear hb5)
          | (at_builtin; refine Lib.wpList_append_own_string _ rfl (.tmp 22) (.tmp 27) 26 9 rfl w1.heap.size 5 i0 Tryz.underlying26 Tryz.underlying9 hi hz0 hz1 hz2 _ (Lib.byteCells tk).length (Lib.byteCells tk) rfl HI5.out (bytesOf lx) rfl (by rw [Lib.byteCells_length, bytesOf_size, ← HLT.out]; unfold maxLen; omega) (by rw [Lib.byteCells_length, bytesOf_size, ← HLT.out]; omega) HB5.out.size ?_; intro v6 w6 hown6 hg6 _h6; have ho6 := row_cat hown6; have HO6 := Hid.in ho6; have HB6 := Hid.in (HB5.out.grown hg6 HB5.out.size (fun g hg => (World.ownsRow.lt HI5.out g hg).1)); obtain ⟨p6, c6, hv6, -, -, -⟩ := ho6.slice; rw [Lib.byteCells_length, List.length_append] at hv6; subst hv6; clear hown6 hg6 ho6)
          | (at_builtin; refine gpush Tryz.elem26 _ rfl (.tmp 29) (.tmp 30) rfl w1.heap.size _ (Lib.byteCells (tk ++ lx)) rfl (HO6.out.alloc _) ⟨w6.heap.size, 0, none⟩ 1 1 [.int .u8 10] rfl rfl (cell_one_new _ _ _) (by simp [Value.oneCell']) (by rw [Lib.byteCells_length, List.length_append, ← HLT.out]; omega) (by rw [Lib.byteCells_length, List.length_append, ← HLT.out]; omega) (by have := HB6.out.size; simp; omega) ?_; intro v7 w7 hown7 hg7 hbel7 _h7; have HO7 := Hid.in hown7; have HB7 := Hid.in (hbel7 w1 (below_alloc HB6.out _)); clear hown7 hg7 hbel7))
        go_roundw
        case rel => exact ⟨k + 1, by omega, by go_num, by rw [HTS.out, ← cells_snoc2]; exact HO7.out, HB7.out⟩
        case measure => simp [intOf]; omega
      · have hkn : k = n := by omega
        have HI2 : Hid (GOwnV 5 wr w1.heap.size (.slice pv (textT (xs.take k)).length cv) (Lib.byteCells (textT xs))) := by
          have := HI.out
          rw [hkn, ← HN.out, List.take_length] at this ⊢
          exact this
        have htl : (textT (xs.take k)).length = (textT xs).length := by rw [hkn, ← HN.out, List.take_length]
        rw [htl] at HI2 ⊢
        have hcv := text_conv HI2.out
        clear htl
        have HR2 := HPR
        by_cases hbig : 65536 < (textT xs).length
        · have HRR : Hid (r = ([], 3)) := by
            have : r = _ := HPR.out
            rw [this, if_pos hbig]; exact rfl
          generalize (textT xs).length = L at *
          go_wp2_with fail
          obtain rfl := HRR.out
          go_ret2
          exact ⟨rfl, HWR.out⟩
        · have HRR : Hid (r = (textT xs, 0)) := by
            have : r = _ := HPR.out
            rw [this, if_neg hbig]; exact rfl
          generalize (textT xs).length = L at *
          generalize hbt : bytesOf (textT xs) = bt at *
          have HBT := Hid.in hbt
          clear hbt
          go_wp2_with fail
          obtain rfl := HRR.out
          go_ret2
          exact ⟨by rw [HBT.out]; rfl, HWR.out⟩
  · have hPR : printL xs = ([], (checkL xs).1) := by unfold printL; rw [if_neg h0]
    rw [hPR]
    rw [← hce] at h0 ⊢
    obtain ⟨c1, c2⟩ := ce
    simp only at h0 hC
    clear hce hPR hx
    go_enter Tryz.func19, Tryz.ntmps19
    go_wp2_with (go_at_call 17; refine hC.mono ?_; rintro E w1 ⟨rfl, hb1⟩)
    go_ret2
    exact ⟨rfl, hb1⟩

end Go.Proofs.YtgfmmbbebodapaaGreatDoor
