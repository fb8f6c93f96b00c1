/- symbols.addGlobals. -/
import Derived.Test.YtckpgpgmaccepaaGreatKeyL
namespace Go.Proofs.YtckpgpgmaccepaaGreat
open Go.RowKit Go.Maps Go.WideMaps

set_option maxRecDepth 20000 in
set_option maxHeartbeats 4000000 in
theorem addGlobals_any (b : Nat) (gs : List ByteArray) (q : Option Addr) (n c : Nat) (L : List Sy) (u : Nat) (w : World) (hk : KeyAt w b gs) (hn : L.length = n) (hn4 : n ≤ 4096) (hg6 : gs.length ≤ 1000000) (hr : Row3 w q (L.map syV)) (hnd : (names L).Nodup) (hf : ∀ s ∈ L, SyF s) (hu : u ≤ 1048576) (hq : 0 < n → ∀ bb oo, q = some ⟨bb, oo, none⟩ → bb ≠ b) :
    Calls Tryz.prog 52 #[.map (some b), .slice q n c, .int .i64 u] w fun E w' => E = .returned (.bool (!dupS gs L)) ∧ (dupS gs L = false → KeyAt w' b (gs ++ gloS L)) ∧ w.grownBy w' (some b) := by
  have HK := Hid.in hk
  have HN := Hid.in hn
  have HR := Hid.in hr
  have HND := Hid.in hnd
  have HF := Hid.in hf
  have HQ := Hid.in hq
  clear hk hn hr hnd hf hq
  obtain ⟨r, hr⟩ : ∃ r, dupS gs L = r := ⟨_, rfl⟩
  rw [hr]
  have HDR := Hid.in hr
  clear hr
  go_enter Tryz.func52, Tryz.ntmps52
  go_wp2_with fail
  go_loopw [13] (fun vi wr => ∃ k : Nat, vi = .int .i64 k ∧ k ≤ n ∧ dupS gs (L.take k) = false ∧ KeyAt wr b (gs ++ gloS (L.take k)) ∧ w.grownBy wr (some b)) (fun vi _ => n - (intOf vi).toNat)
  case atStart => exact ⟨0, rfl, Nat.zero_le _, rfl, by simpa [gloS] using HK.out, World.grownBy.refl _ _⟩
  case round =>
    obtain ⟨k, rfl, hk, hd, hK, hG⟩ := hrel
    have HD := Hid.in hd
    have HKr := Hid.in hK
    have HG := Hid.in hG
    clear hd hK hG
    by_cases hlt : k < n
    · have hkl : k < L.length := by rw [HN.out]; exact hlt
      obtain ⟨bq, oq, hqq, hc⟩ := HR.out (by rw [List.length_map]; omega)
      have hbne := HQ.out (by omega) bq oq hqq
      subst hqq
      obtain ⟨c0', c1', c2'⟩ := cells3 hc k (by rw [List.length_map]; exact hkl)
      simp only [List.getElem_map, syV] at c0' c1' c2'
      have hne : some bq ≠ some b := fun e => hbne (by injection e)
      have c0 := HG.out.cell c0' hne
      have c1 := HG.out.cell c1' hne
      have c2 := HG.out.cell c2' hne
      have hsf := (HF.out L[k] (List.getElem_mem hkl)).1
      have HGT := Hid.in (gloS_take L k hkl)
      have HDT := Hid.in (dup_take gs L k hkl)
      have HIN : Hid (inB L[k].name (gs ++ gloS (L.take k)) = inB L[k].name gs) := by
        rw [inB_app, glo_own HND.out k hkl, Bool.or_false]; exact rfl
      have HDP := Hid.in (dup_part gs L (k + 1))
      have hln : (gs ++ gloS (L.take k)).length ≤ 1048576 := by
        have h1 : (gloS (L.take k)).length ≤ (L.take k).length := by unfold gloS; rw [List.length_map]; exact List.length_filter_le _ _
        rw [List.length_take] at h1
        rw [List.length_append]; omega
      clear c0' c1' c2' hc
      generalize L[k] = x at *
      obtain ⟨sn, sa, sg⟩ := x
      simp only at c0 c1 c2 hsf
      go_upto_region 4 with fail
      have HK1 : Hid (KeyAt (wr.alloc (.cells #[.string sn, .int .i64 sa, .bool sg] 67)) b (gs ++ gloS (L.take k))) := HKr.out.below (new_alloc wr _)
      have HG1 : Hid (w.grownBy (wr.alloc (.cells #[.string sn, .int .i64 sa, .bool sg] 67)) (some b)) := HG.out.trans (World.grownBy_alloc _ _ _)
      have HS1 : Hid (Blk (wr.alloc (.cells #[.string sn, .int .i64 sa, .bool sg] 67)) wr.heap.size 67 #[.string sn, .int .i64 sa, .bool sg]) := Blk.new wr 67 _
      have hbl : b < wr.heap.size := HKr.out.lt
      generalize wr.alloc (.cells #[.string sn, .int .i64 sa, .bool sg] 67) = w1 at *
      generalize wr.heap.size = gs1 at *
      clear c0 c1 c2 HKr HG
      have s0 : w1.cell? ⟨gs1, 0, none⟩ = some (.string sn) := HS1.out.cell 0
      have s2 : w1.cell? ⟨gs1, 2, none⟩ = some (.bool sg) := HS1.out.cell 2
      cases sg with
      | false =>
        have HV : Hid (gs ++ gloS (L.take (k + 1)) = gs ++ gloS (L.take k)) := by
          have := HGT.out
          show gs ++ gloS (L.take (k + 1)) = gs ++ gloS (L.take k)
          rw [this]; simp
        have HV2 : Hid (dupS gs (L.take (k + 1)) = false) := by
          have := HDT.out
          show dupS gs (L.take (k + 1)) = false
          rw [this, HD.out]; rfl
        go_wp2_with fail
        go_roundw
        case rel => exact ⟨k + 1, by go_num, by omega, HV2.out, by rw [HV.out]; exact HK1.out, HG1.out⟩
        case measure => simp [intOf]; omega
      | true =>
        cases hi : inB sn gs with
        | true =>
          have HV : Hid (r = true) := by
            have h1 := HDP.out (by rw [HDT.out, HD.out]; show (false || (true && inB sn gs)) = true; rw [hi]; rfl)
            show r = true
            rw [← HDR.out]; exact h1
          have HI2 : Hid (inB sn (gs ++ gloS (L.take k)) = true) := by
            have := HIN.out
            show inB sn (gs ++ gloS (L.take k)) = true
            rw [this]; exact hi
          go_wp2_with (refine key_look _ rfl _ _ rfl b _ rfl HK1.out sn rfl hsf ?_; intro cc; rw [HI2.out])
          go_ret
          exact ⟨by rw [HV.out]; rfl, (fun e => by rw [HV.out] at e; cases e), HG1.out⟩
        | false =>
          have HI2 : Hid (inB sn (gs ++ gloS (L.take k)) = false) := by
            have := HIN.out
            show inB sn (gs ++ gloS (L.take k)) = false
            rw [this]; exact hi
          have HV : Hid (gs ++ gloS (L.take (k + 1)) = gs ++ gloS (L.take k) ++ [sn]) := by
            have := HGT.out
            show gs ++ gloS (L.take (k + 1)) = gs ++ gloS (L.take k) ++ [sn]
            rw [this]; simp
          have HV2 : Hid (dupS gs (L.take (k + 1)) = false) := by
            have := HDT.out
            show dupS gs (L.take (k + 1)) = false
            rw [this, HD.out]; show (false || (true && inB sn gs)) = false; rw [hi]; rfl
          go_wp2_with (first
            | (refine key_look _ rfl _ _ rfl b _ rfl HK1.out sn rfl hsf ?_; intro cc; rw [HI2.out])
            | (refine key_put _ rfl _ _ _ rfl b _ rfl HK1.out sn u rfl rfl hsf hln hu ?_; intro w2 hK2 hg2; have HK2 := Hid.in hK2; have HG2 := Hid.in (HG1.out.trans hg2); clear hK2 hg2))
          go_roundw
          case rel => exact ⟨k + 1, by go_num, by omega, HV2.out, by rw [HV.out]; exact HK2.out, HG2.out⟩
          case measure => simp [intOf]; omega
    · have hkn : L.take k = L := List.take_of_length_le (by rw [HN.out]; omega)
      have HE : Hid (r = false) := by
        have := HD.out
        rw [hkn, HDR.out] at this
        exact this
      rw [hkn] at HKr
      clear hkn
      go_wp2_with fail
      go_ret
      exact ⟨by rw [HE.out]; rfl, fun _ => HKr.out, HG.out⟩

end Go.Proofs.YtckpgpgmaccepaaGreat
