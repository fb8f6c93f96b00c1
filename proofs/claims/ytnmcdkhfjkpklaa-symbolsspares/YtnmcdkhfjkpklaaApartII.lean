/- What switchyardkit.ApartInts answers, for lists that lie apart (or are nil): true; nothing but these lists is turned. -/
import Derived.Test.YtnmcdkhfjkpklaaApartI
namespace Go.Proofs.Ytnmcdkhfjkpklaa
open Go.RowKit

/-- a slice's pointer -/
def ptr (p : Option Nat) : Option Addr := p.map fun b => ⟨b, 0, none⟩
theorem sl_ptr (p : Option Nat) (n c : Nat) : sl p n c = .slice (ptr p) n c := rfl
theorem ptr_some (g : Nat) : ptr (some g) = some ⟨g, 0, none⟩ := rfl

theorem GOwn.some {T : TypeId} {w : World} {B g cap : Nat} {vs : List Value} (h : GOwn T w B g cap vs) (i : Nat) (hi : i < vs.length) : ∃ v, w.cell? ⟨g, i, none⟩ = some v := ⟨vs[i], by rw [h.cell i hi, List.getElem?_eq_getElem hi]⟩

set_option maxRecDepth 100000 in
set_option maxHeartbeats 2000000 in
theorem apartInts_any (K B L : Nat) (p : Nat → Option Nat) (n c : Nat → Nat) (xs : Nat → List Value) (w : World) (hK : K ≤ 1000) (hap : Apart K p) (hx : ∀ k, k < K → (xs k).length = n k) (hn : ∀ k, k < K → n k ≤ 1099511627776) (hB : B ≤ w.heap.size)
    (hown : AllOwn 3 w B K p n c xs) (htab : TabOf 22 w L K (fun k => sl (p k) (n k) (c k))) :
    Calls Try.prog 27 #[.slice (some ⟨L, 0, none⟩) K K] w fun e w' => e = .returned (.bool true) ∧ Keeps (GSet K p) w w' := by
  obtain ⟨i0, hi, hz0, hz1, hz2⟩ := info_parts Try.info22
  have HX : Hid (∀ k, k < K → (xs k).length = n k) := hx
  have HN : Hid (∀ k, k < K → n k ≤ 1099511627776) := hn
  clear hx hn
  go_enter Try.func27, Try.ntmps27
  go_wp2_with (at_make; refine wpList_make_full _ rfl _ _ 54 rfl _ 22 i0 (.slice none 0 0) 1 Try.underlying54 hi hz0 hz1 _ _ _ _ K rfl rfl rfl rfl (by rw [hz2]; omega) (by unfold maxLen; omega) (Nat.le_refl _) ?_; intro w1 hmk hgrow; have hst : St1 3 22 w K B L w.heap.size p n c (fun j => ctAt miV xs n 0 0 j) w1 := ⟨fun j hj => by rw [ctAt_zero, if_neg (Nat.not_lt_zero j)]; exact (hown j hj).kept hgrow (by rw [sl_block]; cases p j <;> simp), htab.kept hgrow (by simp), TabOf.made hmk, (Keeps.refl _ _).grown hgrow (by simp)⟩; clear hmk hgrow)
  have hGs : w.heap.size = w.heap.size := rfl
  generalize hG : w.heap.size = G at hst ⊢
  clear hGs
  have hGle : w.heap.size ≤ G := by omega
  have hLlt : L < w.heap.size := htab.lt
  clear hG hown htab
  go_loopw [4] (fun kv wr => ∃ k : Nat, k ≤ K ∧ kv = .int .i64 k ∧ St1 3 22 w K B L G p n c (fun j => ctAt miV xs n k 0 j) wr) (fun kv _ => K - (intOf kv).toNat)
  case atStart => exact ⟨0, Nat.zero_le _, rfl, hst⟩
  case round =>
    obtain ⟨k, hk, rfl, hs⟩ := hrel
    clear hst
    by_cases hlt : k < K
    · go_wp2
      go_loopw [5] (fun iv wr => ∃ i : Nat, i ≤ n k ∧ iv = .int .i64 i ∧ St1 3 22 w K B L G p n c (fun j => ctAt miV xs n k i j) wr) (fun iv _ => n k - (intOf iv).toNat)
      case atStart => exact ⟨0, Nat.zero_le _, rfl, hs⟩
      case round =>
        obtain ⟨i, hik, rfl, hs2⟩ := hrel
        clear hs
        have cl := hs2.tab.cell k hlt
        rw [sl_ptr] at cl
        have hnk := HN.out k hlt
        by_cases hi2 : i < n k
        · have ho := hs2.own k hlt
          have hct : ctAt miV xs n k i k = part miV (xs k) k i := by simp [ctAt]
          rw [hct] at ho
          have hpl := part_length miV (xs k) k i (n k) (HX.out k hlt) hik
          obtain ⟨g, hp, -, ho2⟩ := ho.filled (by omega)
          obtain ⟨old, cg⟩ := ho2.some i (by omega)
          have fg := ho2.free i
          have hne : L ≠ g := fun e => hs2.tab.ne (by decide) ho (by rw [hp, e])
          have q0 : (0 : Int) ≤ (k : Int) := by omega
          have q1 : (k : Int) < (K : Int) := by omega
          have q2 : (0 : Int) ≤ (i : Int) := by omega
          have q3 : (i : Int) < (n k : Int) := by omega
          rw [hp, ptr_some] at cl
          have hs3 : St1 3 22 w K B L G p n c (fun j => ctAt miV xs n k (i + 1) j) (wr.setCell ⟨g, i, none⟩ (.int .i64 (mi k i))) := hs2.mark (by decide) hap hlt hp (HX.out k hlt) hi2
          have hk2 : (wr.setCell ⟨g, i, none⟩ (.int .i64 (mi k i))).cell? ⟨L, k, none⟩ = some (.slice (some ⟨g, 0, none⟩) (n k) (c k)) := by
            have := hs3.tab.cell k hlt
            rw [sl_ptr, hp] at this
            exact this
          have hs3 := hs3.drew
          have HP : Hid (p k = some g) := hp
          clear ho hct hpl ho2 hp
          go_wp2_with fail
          go_region_held3 (fun w' => w'.cell? ⟨L, k, none⟩ = some (.slice (some ⟨g, 0, none⟩) (n k) (c k))) (first | go_keep | exact hk2) ((go_at_call 41; refine (mark_any k i _ (by omega) (by omega)).mono ?_; rintro e w' ⟨rfl, rfl⟩))
          all_goals
            clear hs2 hk2 cl cg fg
            go_wp2
            go_roundw
            case rel => exact ⟨i + 1, by omega, by go_num, hs3⟩
            case measure => simp [intOf]; omega
        · have hs4 : St1 3 22 w K B L G p n c (fun j => ctAt miV xs n (k + 1) 0 j) wr := by
            obtain rfl : i = n k := by omega
            have e : (fun j => ctAt miV xs n k (n k) j) = fun j => ctAt miV xs n (k + 1) 0 j := funext fun j => ctAt_next miV xs n k j (HX.out k hlt)
            rw [← e]
            exact hs2
          clear hs2
          go_wp2
          go_roundw
          case rel => exact ⟨k + 1, by omega, by go_num, hs4⟩
          case measure => simp [intOf]; omega
    · have hs0 : St2 3 22 miV w K B L G p n c 0 (fun _ => 0) (fun _ => 0) wr := by
        have hkK : k = K := by omega
        rw [hkK] at hs
        exact hs.next
      clear hs
      go_wp2
      go_loopw [6] (fun kv wr => ∃ (k : Nat) (ub uc : Nat → Nat), k ≤ K ∧ kv = .int .i64 k ∧ St2 3 22 miV w K B L G p n c k ub uc wr) (fun kv _ => K - (intOf kv).toNat)
      case atStart => exact ⟨0, _, _, Nat.zero_le _, rfl, hs0⟩
      case round =>
        obtain ⟨k2, ub, uc, hk2, rfl, hs⟩ := hrel
        clear hs0
        by_cases hlt2 : k2 < K
        · have cl := hs.tab.cell k2 hlt2
          rw [sl_ptr] at cl
          have hs1 := hs.start hap hlt2
          have hnk := HN.out k2 hlt2
          clear hs
          go_wp2
          go_loopw [7, 8] (fun gv jv wr => ∃ (j gc : Nat) (q : Option Nat), j ≤ 64 ∧ jv = .int .i64 j ∧ gv = .slice (ptr q) (n k2 + j) gc ∧ St2i 3 22 miV w K B L G p n c k2 ub uc q gc j wr) (fun _ jv _ => 64 - (intOf jv).toNat)
          case atStart => exact ⟨0, _, _, Nat.zero_le _, rfl, rfl, hs1⟩
          case round =>
            obtain ⟨j, gc, q, hj, rfl, rfl, hs2⟩ := hrel
            clear hs1 cl
            have cl := hs2.st.tab.cell k2 hlt2
            rw [sl_ptr] at cl
            by_cases hj2 : j < 64
            · have hsa := fun o => hs2.grown (World.grownBy_alloc wr o none)
              have hml := mkL_length miV k2 (n k2 + j)
              have hBw : ∀ o, B ≤ (wr.alloc o).heap.size := fun o => Nat.le_trans hB (hsa o).st.keeps.size
              have HC : Hid (∀ wx, Calls Try.prog 41 #[.int .i64 k2, .int .i64 ((n k2 : Int) + (j : Int))] wx fun e w' => e = .returned (.int .i64 (mi k2 (n k2 + j))) ∧ w' = wx) := fun wx => by
                have := mark_any k2 (n k2 + j) wx (by omega) (by omega)
                simpa using this
              by_cases hroom : n k2 + j + 1 ≤ gc
              · obtain ⟨gb, rfl⟩ : ∃ gb, q = some gb := by
                  cases q with
                  | some gb => exact ⟨gb, rfl⟩
                  | none =>
                    rcases hs2.cur.shape with ⟨e2, -⟩ | ⟨_, _, e2, _⟩
                    · simp [sl] at e2; omega
                    · simp [sl] at e2
                rw [ptr_some]
                go_wp2_with (first | (go_at_call 41; refine (HC.out _).mono ?_; rintro e w' ⟨rfl, rfl⟩) | (at_builtin; refine gfits Try.elemI _ rfl _ _ rfl B gb (n k2 + j) gc (mkL miV k2 (n k2 + j)) rfl hml (hsa _).cur.full.2 ⟨_, 0, none⟩ 1 (.int .i64 (mi k2 (n k2 + j))) rfl rfl (news_one _ _ _) hroom ?_; intro w2 ho2 hg2; have hs3 := (hsa _).fits (by decide) hlt2 hg2 ho2))
                go_roundw
                case rel => exact ⟨j + 1, gc, some gb, by omega, by go_num, by rw [show n k2 + (j + 1) = n k2 + j + 1 by omega]; rfl, hs3⟩
                case measure => simp [intOf]; omega
              · go_wp2_with (first | (go_at_call 41; refine (HC.out _).mono ?_; rintro e w' ⟨rfl, rfl⟩) | (at_builtin; refine ggrows Try.elemI _ rfl _ _ rfl B (n k2 + j) gc q (mkL miV k2 (n k2 + j)) rfl hml (hsa _).cur ⟨_, 0, none⟩ 1 (.int .i64 (mi k2 (n k2 + j))) rfl rfl (news_one _ _ _) (by omega) (by omega) (by omega) ?_; intro gb2 gc2 w2 ho2 hg2; have hs3 := (hsa _).grows (hBw _) hg2 (Nat.le_refl _) ho2))
                go_roundw
                case rel => exact ⟨j + 1, gc2, some gb2, by omega, by go_num, by rw [show n k2 + (j + 1) = n k2 + j + 1 by omega]; rfl, hs3⟩
                case measure => simp [intOf]; omega
            · obtain rfl : j = 64 := by omega
              obtain ⟨gb, rfl⟩ : ∃ gb, q = some gb := by
                obtain ⟨gb, e, -, -⟩ := hs2.cur.filled (by rw [mkL_length]; omega)
                exact ⟨gb, e⟩
              rw [ptr_some]
              have cg := hs2.st.gs.cell k2 hlt2
              have fg := hs2.st.gs.free k2
              rw [if_neg (Nat.lt_irrefl k2)] at cg
              have hs3 := hs2.done (by decide) hGle hLlt
              clear hs2
              go_wp2
              go_roundw
              case rel => exact ⟨k2 + 1, _, _, by omega, by go_num, hs3⟩
              case measure => simp [intOf]; omega
        · have hkK : k2 = K := by omega
          rw [hkK] at hs
          clear hkK
          go_wp2
          obtain ⟨w0, rfl⟩ : ∃ w0 : World, w0 = wr := ⟨_, rfl⟩
          go_loopw [10] (fun kv wx => ∃ k m : Nat, k ≤ K ∧ kv = .int .i64 k ∧ Hid (wx = w0.drewN m)) (fun kv _ => K - (intOf kv).toNat)
          case atStart => exact ⟨0, 0, Nat.zero_le _, rfl, rfl⟩
          case round =>
            obtain ⟨k3, m, hk3, rfl, HW⟩ := hrel
            by_cases hlt3 : k3 < K
            · have cl : wr.cell? ⟨L, k3, none⟩ = some (.slice (ptr (p k3)) (n k3) (c k3)) := by rw [HW.out]; exact hs.tab.cell k3 hlt3
              have cg0 := hs.gs.cell k3 hlt3
              rw [if_pos hlt3] at cg0
              have cg : wr.cell? ⟨G, k3, none⟩ = some (.slice (some ⟨ub k3, 0, none⟩) (n k3 + 64) (uc k3)) := by rw [HW.out]; exact cg0
              have hnk := HN.out k3 hlt3
              have hou := hs.us k3 hlt3
              have hov := hs.own k3 hlt3
              go_wp2
              go_loopw [11] (fun iv wx => ∃ i m : Nat, i ≤ n k3 + 64 ∧ iv = .int .i64 i ∧ Hid (wx = w0.drewN m)) (fun iv _ => n k3 + 64 - (intOf iv).toNat)
              case atStart => exact ⟨0, m, Nat.zero_le _, rfl, HW⟩
              case round =>
                obtain ⟨i, m2, hi3, rfl, HV⟩ := hrel
                clear cl cg HW
                have cl : wr.cell? ⟨L, k3, none⟩ = some (.slice (ptr (p k3)) (n k3) (c k3)) := by rw [HV.out]; exact hs.tab.cell k3 hlt3
                have cg : wr.cell? ⟨G, k3, none⟩ = some (.slice (some ⟨ub k3, 0, none⟩) (n k3 + 64) (uc k3)) := by rw [HV.out]; exact cg0
                by_cases hi4 : i < n k3 + 64
                · have cu0 := hou.cell i (by rw [mkL_length]; exact hi4)
                  rw [mkL_at miV k3 _ i hi4] at cu0
                  have cu : wr.cell? ⟨ub k3, i, none⟩ = some (.int .i64 (mi k3 i)) := by rw [HV.out]; exact cu0
                  have HC : Hid (∀ wx, Calls Try.prog 41 #[.int .i64 k3, .int .i64 i] wx fun e w' => e = .returned (.int .i64 (mi k3 i)) ∧ w' = wx) := fun wx => mark_any k3 i wx (by omega) (by omega)
                  have hmm : (mi k3 i != mi k3 i) = false := by simp
                  by_cases hi5 : i < n k3
                  · obtain ⟨g, hp, -, ho2⟩ := hov.filled (by rw [mkL_length]; omega)
                    have cv0 := ho2.cell i (by rw [mkL_length]; exact hi5)
                    rw [mkL_at miV k3 _ i hi5] at cv0
                    have cv : wr.cell? ⟨g, i, none⟩ = some (.int .i64 (mi k3 i)) := by rw [HV.out]; exact cv0
                    have hi6 : (i : Int) < (n k3 : Int) := by omega
                    rw [hp, ptr_some] at cl
                    clear cu0 cv0 cg0 hp ho2
                    generalize mi k3 i = z at *
                    go_wp2
                    go_quiet ((go_at_call 41; exact Calls.quiet_of_same (HC.out _)))
                    go_wp2
                    go_roundw
                    case rel => exact ⟨i + 1, m2 + nq, by omega, by go_num, by rw [HV.out]; exact World.drewN_drewN ..⟩
                    case measure => simp [intOf]; omega
                  · have hd : decide ((i : Int) < (n k3 : Int)) = false := by simp; omega
                    clear cu0 cg0
                    generalize mi k3 i = z at *
                    go_wp2
                    go_quiet ((go_at_call 41; exact Calls.quiet_of_same (HC.out _)))
                    go_wp2
                    go_roundw
                    case rel => exact ⟨i + 1, m2 + nq, by omega, by go_num, by rw [HV.out]; exact World.drewN_drewN ..⟩
                    case measure => simp [intOf]; omega
                · go_wp2
                  go_roundw
                  case rel => exact ⟨k3 + 1, m2, by omega, by go_num, HV⟩
                  case measure => simp [intOf]; omega
            · go_wp2
              go_ret
              exact ⟨rfl, by rw [HW.out]; exact hs.keeps.drewN _⟩

end Go.Proofs.Ytnmcdkhfjkpklaa
