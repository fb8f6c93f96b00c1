/- What switchyardkit.ApartTexts answers, for lists that lie apart (or are nil): true; nothing but these lists is turned. -/
import Derived.Test.YtaabdffplfifkaaDoorMark
import Derived.Lib.QuietBelow
import Derived.Deep.RegionLaw
namespace Go.Proofs.YtaabdffplfifkaaDoor
open Go.RowKit

theorem Tryd.info24 : (Tryd.prog.info? 24).map (fun i => (i.zero, i.size, i.bytes)) = some (some (.slice none 0 0), 1, 24) := by kernel_rfl

theorem below_of_drew {w w2 : World} (h : Below w.drew.heap.size w.drew w2) : Below w.heap.size w w2 := ⟨h.os, h.tape, h.output, h.size, h.block⟩

set_option maxRecDepth 100000 in
set_option maxHeartbeats 4000000 in
theorem apartTexts_any (K B L : Nat) (p : Nat → Option Nat) (n c : Nat → Nat) (xs : Nat → List Value) (w : World) (hK : K ≤ 1000) (hap : Apart K p) (hx : ∀ k, k < K → (xs k).length = n k) (hn : ∀ k, k < K → n k ≤ 1099511627776) (hB : B ≤ w.heap.size)
    (hown : AllOwn 9 w B K p n c xs) (htab : TabOf 24 w L K (fun k => sl (p k) (n k) (c k))) :
    Calls Tryd.prog 26 #[.slice (some ⟨L, 0, none⟩) K K] w fun e w' => e = .returned (.bool true) ∧ Keeps (GSet K p) w w' := by
  obtain ⟨i0, hi, hz0, hz1, hz2⟩ := info_parts Tryd.info24
  have HX : Hid (∀ k, k < K → (xs k).length = n k) := hx
  have HN : Hid (∀ k, k < K → n k ≤ 1099511627776) := hn
  clear hx hn
  go_enter Tryd.func26, Tryd.ntmps26
  go_wp2_with (at_make; refine wpList_make_full _ rfl _ _ 40 rfl _ 24 i0 (.slice none 0 0) 1 Tryd.underlying40 hi hz0 hz1 _ _ _ _ K rfl rfl rfl rfl (by rw [hz2]; omega) (by unfold maxLen; omega) (Nat.le_refl _) ?_; intro w1 hmk hgrow; have hst : St1 9 24 w K B L w.heap.size p n c (fun j => ctAt mtV xs n 0 0 j) w1 := ⟨fun j hj => by rw [ctAt_zero, if_neg (Nat.not_lt_zero j)]; exact (hown j hj).kept hgrow (by rw [sl_block]; cases p j <;> simp), htab.kept hgrow (by simp), TabOf.made hmk, (Keeps.refl _ _).grown hgrow (by simp)⟩; clear hmk hgrow)
  have hGs : w.heap.size = w.heap.size := rfl
  generalize hG : w.heap.size = G at hst ⊢
  clear hGs
  have hGle : w.heap.size ≤ G := by omega
  have hLlt : L < w.heap.size := htab.lt
  clear hG hown htab
  go_loopw [4] (fun kv wr => ∃ k : Nat, k ≤ K ∧ kv = .int .i64 k ∧ St1 9 24 w K B L G p n c (fun j => ctAt mtV xs n k 0 j) wr) (fun kv _ => K - (intOf kv).toNat)
  case atStart => exact ⟨0, Nat.zero_le _, rfl, hst⟩
  case round =>
    obtain ⟨k, hk, rfl, hs⟩ := hrel
    clear hst
    by_cases hlt : k < K
    · go_wp2
      go_loopw [5] (fun iv wr => ∃ i : Nat, i ≤ n k ∧ iv = .int .i64 i ∧ St1 9 24 w K B L G p n c (fun j => ctAt mtV xs n k i j) wr) (fun iv _ => n k - (intOf iv).toNat)
      case atStart => exact ⟨0, Nat.zero_le _, rfl, hs⟩
      case round =>
        obtain ⟨i, hik, rfl, hs2⟩ := hrel
        clear hs
        have cl := hs2.tab.cell k hlt
        rw [sl_ptr] at cl
        have hnk := HN.out k hlt
        by_cases hi2 : i < n k
        · obtain ⟨g, hp⟩ : ∃ g, p k = some g := by
            have ho := hs2.own k hlt
            have hct : ctAt mtV xs n k i k = part mtV (xs k) k i := by simp [ctAt]
            rw [hct] at ho
            have hpl := part_length mtV (xs k) k i (n k) (HX.out k hlt) hik
            obtain ⟨g, hp, -, -⟩ := ho.filled (by omega)
            exact ⟨g, hp⟩
          clear cl
          obtain ⟨cl, ⟨old, cg⟩, fg, hne⟩ := hs2.look (by decide) hlt hp (HX.out k hlt) hi2
          have HM : Hid (∀ wx, Below wr.heap.size wr wx → St1 9 24 w K B L G p n c (fun j => ctAt mtV xs n k (i + 1) j) (wx.setCell ⟨g, i, none⟩ (.string (mt k i)))) := fun wx hb => (hs2.grown (grown_of_below hb)).mark (by decide) hap hlt hp (HX.out k hlt) hi2
          have HR : Hid (∀ wx, Below wr.heap.size wr wx → wx.cell? ⟨L, k, none⟩ = some (.slice (some ⟨g, 0, none⟩) (n k) (c k)) ∧ (∃ old, wx.cell? ⟨g, i, none⟩ = some old) ∧ wx.frozen? ⟨g, i, none⟩ = false ∧ L ≠ g) := fun wx hb => (hs2.grown (grown_of_below hb)).look (by decide) hlt hp (HX.out k hlt) hi2
          have HC : Hid (∀ wx, Calls Tryd.prog 46 #[.int .i64 k, .int .i64 i] wx fun e w' => e = .returned (.string (mt k i)) ∧ Below wx.heap.size wx w') := fun wx => markText_any k i wx (by omega) (by omega)
          have q0 : (0 : Int) ≤ (k : Int) := by omega
          have q1 : (k : Int) < (K : Int) := by omega
          have q2 : (0 : Int) ≤ (i : Int) := by omega
          have q3 : (i : Int) < (n k : Int) := by omega
          have HP : Hid (p k = some g) := hp
          clear hs2 hp
          go_wp2_with fail
          go_region_law (go_simp; go_at_call 46; refine (HC.out _).mono ?_; rintro e w2 ⟨rfl, hb2⟩; have hb3 := below_of_drew hb2; obtain ⟨k1, ⟨old2, k2⟩, k3, -⟩ := HR.out w2 hb3; have hs3 := HM.out w2 hb3)
          all_goals
            go_wp2_with fail
            go_roundw
            case rel => exact ⟨i + 1, by omega, by go_num, hs3⟩
            case measure => simp [intOf]; omega
        · have hs4 : St1 9 24 w K B L G p n c (fun j => ctAt mtV xs n (k + 1) 0 j) wr := by
            obtain rfl : i = n k := by omega
            have e : (fun j => ctAt mtV xs n k (n k) j) = fun j => ctAt mtV xs n (k + 1) 0 j := funext fun j => ctAt_next mtV xs n k j (HX.out k hlt)
            rw [← e]
            exact hs2
          clear hs2
          go_wp2
          go_roundw
          case rel => exact ⟨k + 1, by omega, by go_num, hs4⟩
          case measure => simp [intOf]; omega
    · have hs0 : St2 9 24 mtV w K B L G p n c 0 (fun _ => 0) (fun _ => 0) wr := by
        have hkK : k = K := by omega
        rw [hkK] at hs
        exact hs.next
      clear hs
      go_wp2
      go_loopw [6] (fun kv wr => ∃ (k : Nat) (ub uc : Nat → Nat), k ≤ K ∧ kv = .int .i64 k ∧ St2 9 24 mtV w K B L G p n c k ub uc wr) (fun kv _ => K - (intOf kv).toNat)
      case atStart => exact ⟨0, _, _, Nat.zero_le _, rfl, hs0⟩
      case round =>
        obtain ⟨k2, ub, uc, hk2, rfl, hs⟩ := hrel
        clear hs0
        by_cases hlt2 : k2 < K
        · have cl := hs.tab.cell k2 hlt2
          rw [sl_ptr] at cl
          have hs1 := hs.start hap hlt2
          have hnk := HN.out k2 hlt2
          clear hs
          go_wp2
          go_loopw [7, 8] (fun gv jv wr => ∃ (j gc : Nat) (q : Option Nat), j ≤ 64 ∧ jv = .int .i64 j ∧ gv = .slice (ptr q) (n k2 + j) gc ∧ St2i 9 24 mtV w K B L G p n c k2 ub uc q gc j wr) (fun _ jv _ => 64 - (intOf jv).toNat)
          case atStart => exact ⟨0, _, _, Nat.zero_le _, rfl, rfl, hs1⟩
          case round =>
            obtain ⟨j, gc, q, hj, rfl, rfl, hs2⟩ := hrel
            clear hs1 cl
            have cl := hs2.st.tab.cell k2 hlt2
            rw [sl_ptr] at cl
            by_cases hj2 : j < 64
            · have hml := mkL_length mtV k2 (n k2 + j)
              have HC : Hid (∀ wx, Calls Tryd.prog 46 #[.int .i64 k2, .int .i64 ((n k2 : Int) + (j : Int))] wx fun e w' => e = .returned (.string (mt k2 (n k2 + j))) ∧ Below wx.heap.size wx w') := fun wx => by
                have := markText_any k2 (n k2 + j) wx (by omega) (by omega)
                simpa using this
              by_cases hroom : n k2 + j + 1 ≤ gc
              · obtain ⟨gb, rfl⟩ : ∃ gb, q = some gb := by
                  cases q with
                  | some gb => exact ⟨gb, rfl⟩
                  | none =>
                    rcases hs2.cur.shape with ⟨e2, -⟩ | ⟨_, _, e2, _⟩
                    · simp [sl] at e2; omega
                    · simp [sl] at e2
                rw [ptr_some]
                go_wp2_with fail
                refine (HC.out _).mono ?_
                rintro e w2 ⟨rfl, hb2⟩
                have hsa := fun o => (hs2.grown (grown_of_below hb2)).grown (World.grownBy_alloc w2 o none)
                clear hs2 hb2 cl
                go_wp2_with (at_builtin; refine gfits Tryd.elemS _ rfl _ _ rfl B gb (n k2 + j) gc (mkL mtV k2 (n k2 + j)) rfl hml (hsa _).cur.full.2 ⟨_, 0, none⟩ 1 (.string (mt k2 (n k2 + j))) rfl rfl (news_one _ _ _) hroom ?_; intro w3 ho3 hg3; have hs3 := (hsa _).fits (by decide) hlt2 hg3 ho3)
                go_roundw
                case rel => exact ⟨j + 1, gc, some gb, by omega, by go_num, by rw [show n k2 + (j + 1) = n k2 + j + 1 by omega]; rfl, hs3⟩
                case measure => simp [intOf]; omega
              · go_wp2_with fail
                refine (HC.out _).mono ?_
                rintro e w2 ⟨rfl, hb2⟩
                have hsa := fun o => (hs2.grown (grown_of_below hb2)).grown (World.grownBy_alloc w2 o none)
                have hBw : ∀ o, B ≤ (w2.alloc o).heap.size := fun o => Nat.le_trans hB (hsa o).st.keeps.size
                clear hs2 hb2 cl
                go_wp2_with (at_builtin; refine ggrows Tryd.elemS _ rfl _ _ rfl B (n k2 + j) gc q (mkL mtV k2 (n k2 + j)) rfl hml (hsa _).cur ⟨_, 0, none⟩ 1 (.string (mt k2 (n k2 + j))) rfl rfl (news_one _ _ _) (by omega) (by omega) (by omega) ?_; intro gb2 gc2 w3 ho3 hg3; have hs3 := (hsa _).grows (hBw _) hg3 (Nat.le_refl _) ho3)
                go_roundw
                case rel => exact ⟨j + 1, gc2, some gb2, by omega, by go_num, by rw [show n k2 + (j + 1) = n k2 + j + 1 by omega]; rfl, hs3⟩
                case measure => simp [intOf]; omega
            · obtain rfl : j = 64 := by omega
              obtain ⟨gb, rfl⟩ : ∃ gb, q = some gb := by
                obtain ⟨gb, e, -, -⟩ := hs2.cur.filled (by rw [mkL_length]; omega)
                exact ⟨gb, e⟩
              rw [ptr_some]
              have cg := hs2.st.gs.cell k2 hlt2
              have fg := hs2.st.gs.free k2
              rw [if_neg (Nat.lt_irrefl k2)] at cg
              have hs3 := hs2.done (by decide) hGle hLlt
              clear hs2
              go_wp2
              go_roundw
              case rel => exact ⟨k2 + 1, _, _, by omega, by go_num, hs3⟩
              case measure => simp [intOf]; omega
        · have hkK : k2 = K := by omega
          rw [hkK] at hs
          clear hkK
          go_wp2
          go_loopw [10] (fun kv wx => ∃ k : Nat, k ≤ K ∧ kv = .int .i64 k ∧ St2 9 24 mtV w K B L G p n c K ub uc wx) (fun kv _ => K - (intOf kv).toNat)
          case atStart => exact ⟨0, Nat.zero_le _, rfl, hs⟩
          case round =>
            clear hs
            obtain ⟨k3, hk3, rfl, hs⟩ := hrel
            by_cases hlt3 : k3 < K
            · obtain ⟨cl, cg, -, -⟩ := hs.look k3 hlt3
              have hnk := HN.out k3 hlt3
              go_wp2
              go_loopw [11] (fun iv wx => ∃ i : Nat, i ≤ n k3 + 64 ∧ iv = .int .i64 i ∧ St2 9 24 mtV w K B L G p n c K ub uc wx) (fun iv _ => n k3 + 64 - (intOf iv).toNat)
              case atStart => exact ⟨0, Nat.zero_le _, rfl, hs⟩
              case round =>
                clear hs cl cg
                obtain ⟨i, hi3, rfl, hs⟩ := hrel
                obtain ⟨cl, cg, hU, hV⟩ := hs.look k3 hlt3
                by_cases hi4 : i < n k3 + 64
                · have cu := hU i hi4
                  unfold mtV at cu
                  have HC : Hid (∀ wx, Calls Tryd.prog 46 #[.int .i64 k3, .int .i64 i] wx fun e w' => e = .returned (.string (mt k3 i)) ∧ Below wx.heap.size wx w') := fun wx => markText_any k3 i wx (by omega) (by omega)
                  have HS : Hid (St2 9 24 mtV w K B L G p n c K ub uc wr) := hs
                  by_cases hi5 : i < n k3
                  · obtain ⟨g, hp, hv⟩ := hV (by omega)
                    have cv := hv i hi5
                    unfold mtV at cv
                    have hi6 : (i : Int) < (n k3 : Int) := by omega
                    rw [hp, ptr_some] at cl
                    have cl' := fun d os => cell_regrown cl d os
                    have cg' := fun d os => cell_regrown cg d os
                    have cu' := fun d os => cell_regrown cu d os
                    have cv' := fun d os => cell_regrown cv d os
                    clear hp hv hU hV hs
                    generalize mt k3 i = z at *
                    have hzz : (z.toList != z.toList) = false := by simp
                    go_wp2_with fail
                    refine wp_region_quiet_below (by kernel_rfl) (by kernel_rfl) ?_
                    iterate 33 (go_big_quiet_step ((exact Calls.regrown_of (HC.out _))))
                    refine wpQuiet_nil ?_
                    intro _ hw'
                    obtain ⟨⟨dq, osq⟩, hw''⟩ := hw'
                    subst hw''
                    have hs5 := HS.out.grown (grown_of_below (below_regrown wr dq osq))
                    clear HS cl' cg' cu' cv' cl cg cu cv
                    generalize Go.Sort.grow (redrawn wr dq) osq = W2 at hs5 ⊢
                    go_wp2_with fail
                    go_roundw
                    case rel => exact ⟨i + 1, by omega, by go_num, hs5⟩
                    case measure => simp [intOf]; omega
                  · have hd : decide ((i : Int) < (n k3 : Int)) = false := by simp; omega
                    have cl' := fun d os => cell_regrown cl d os
                    have cg' := fun d os => cell_regrown cg d os
                    have cu' := fun d os => cell_regrown cu d os
                    clear hU hV hs
                    generalize mt k3 i = z at *
                    have hzz : (z.toList != z.toList) = false := by simp
                    go_wp2_with fail
                    refine wp_region_quiet_below (by kernel_rfl) (by kernel_rfl) ?_
                    iterate 33 (go_big_quiet_step ((exact Calls.regrown_of (HC.out _))))
                    refine wpQuiet_nil ?_
                    intro _ hw'
                    obtain ⟨⟨dq, osq⟩, hw''⟩ := hw'
                    subst hw''
                    have hs5 := HS.out.grown (grown_of_below (below_regrown wr dq osq))
                    clear HS cl' cg' cu' cl cg cu
                    generalize Go.Sort.grow (redrawn wr dq) osq = W2 at hs5 ⊢
                    go_wp2_with fail
                    go_roundw
                    case rel => exact ⟨i + 1, by omega, by go_num, hs5⟩
                    case measure => simp [intOf]; omega
                · go_wp2
                  go_roundw
                  case rel => exact ⟨k3 + 1, by omega, by go_num, hs⟩
                  case measure => simp [intOf]; omega
            · go_wp2
              go_ret
              exact ⟨rfl, hs.keeps⟩

end Go.Proofs.YtaabdffplfifkaaDoor
