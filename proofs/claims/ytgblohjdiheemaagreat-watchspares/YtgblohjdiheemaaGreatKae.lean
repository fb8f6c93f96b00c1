/- Texts put together: WName, RSym, Holds, Read, Put, RFix. -/
import Derived.Test.YtgblohjdiheemaaGreatKac
import Derived.Laws.RangeString
import Derived.Laws.RangeAny
import Derived.Test.YtgblohjdiheemaaGreatKad
import Derived.Test.YtgblohjdiheemaaGreatKaa
import Derived.Deep.RegionLaw
import Derived.Test.YtgblohjdiheemaaGreatProg
import Derived.BigQuiet
import Derived.Deep.QuietTactic

/- What words.divides, opens, digit and Name answer, for every rune, every text. -/
namespace Go.Proofs.YtgblohjdiheemaaGreat
open Go.RowKit

def opensB (r : Int) : Bool := decide ((97 ≤ r ∧ r ≤ 122) ∨ (65 ≤ r ∧ r ≤ 90) ∨ r = 95)
def digitB (r : Int) : Bool := decide (48 ≤ r ∧ r ≤ 57)

set_option maxHeartbeats 400000 in
theorem digit_any (r : Int) (w : World) :
    Calls Tryz.prog 117 #[.int .i32 r] w fun e w' => e = .returned (.bool (digitB r)) ∧ w' = w := by
  go_enter Tryz.func117, Tryz.ntmps117
  go_wp2
  all_goals
    go_ret
    refine ⟨rname_ret ?_, rfl⟩
    go_light
    rw [Bool.eq_iff_iff]
    simp [digitB] at *
    try omega

set_option maxHeartbeats 1000000 in
theorem opens_any (r : Int) (w : World) :
    Calls Tryz.prog 116 #[.int .i32 r] w fun e w' => e = .returned (.bool (opensB r)) ∧ w' = w := by
  go_enter Tryz.func116, Tryz.ntmps116
  go_wp2
  all_goals
    go_ret
    refine ⟨rname_ret ?_, rfl⟩
    go_light
    rw [Bool.eq_iff_iff]
    simp [opensB] at *
    try omega

theorem iter_below (w : World) (s : ByteArray) (pos : Nat) : Below w.heap.size w (w.iter s pos) := new_alloc w _

theorem opens_high (r : Int) (h : 128 ≤ r) : opensB r = false := by simp [opensB]; omega
theorem digit_high (r : Int) (h : 128 ≤ r) : digitB r = false := by simp [digitB]; omega
theorem ok_opens (k : Nat) (r : Int) (h : okAt k r) (hd : digitB r = false ∨ k = 0) : opensB r = true := by
  simp [opensB, digitB, okAt] at *; omega
theorem nok_opens (k : Nat) (r : Int) (h : ¬ okAt k r) : opensB r = false ∧ (k = 0 ∨ digitB r = false) := by
  simp [opensB, digitB, okAt] at *; omega

theorem toList_eq (s : ByteArray) : s.toList = s.data.toList := ByteArray.toList_eq s
theorem text_empty (s : ByteArray) (h : s.size = 0) : s.toList = [] := by
  rw [toList_eq]; apply List.eq_nil_of_length_eq_zero; rw [Array.length_toList]; exact h
theorem text_full (s : ByteArray) (h : 0 < s.size) : ¬ s.toList = [] ∧ s.toList.isEmpty = false := by
  have : ¬ s.toList = [] := fun e => by
    rw [toList_eq] at e
    have := congrArg List.length e
    rw [Array.length_toList] at this
    simp at this
    rw [this] at h; simp at h
  exact ⟨this, by simpa using this⟩

set_option maxHeartbeats 2000000 in
theorem name_yes (s : ByteArray) (w : World) (h : NameP s) :
    Calls Tryz.prog 90 #[.string s] w fun e w' => e = .returned (.bool true) ∧ Below w.heap.size w w' := by
  have HP : Hid (∀ k, k < s.size → okAt k (byteAt s k)) := h.1
  have h1 := h.2.1
  have h2 := h.2.2
  obtain ⟨ht1, ht2⟩ := text_full s h1
  clear h
  go_enter Tryz.func90, Tryz.ntmps90
  go_wp2_with fail
  go_loopw [3] (fun _ w' => ∃ pos : Nat, pos ≤ s.size ∧ w' = w.iter s pos) (fun _ w' => s.size - w'.iterPos w.heap.size)
  case atStart => exact ⟨0, Nat.zero_le _, rfl⟩
  case round =>
    obtain ⟨k, hk, rfl⟩ := hrel
    by_cases hlt : k < s.size
    · have hb := byteAt_eq s k hlt
      have hi := byteAt_in s k
      have hok := HP.out k hlt
      have hasc : (s[k]'hlt).toNat < 128 := by
        unfold okAt at hok; omega
      have hnx : ∀ ty, (Instr.next (.pointer (some ⟨w.heap.size, 0, none⟩)) true ty).run Tryz.prog (w.iter s k) = _ := fun ty => run_next_ascii w s k ty hlt hasc
      generalize hz : byteAt s k = z at *
      rw [hb] at hnx
      go_wp2_with fail
      refine (opens_any _ _).mono ?_
      rintro e w1 ⟨rfl, rfl⟩
      by_cases hd : digitB z = false ∨ k = 0
      · rw [ok_opens k z hok hd]
        go_wp2_with fail
        go_roundw
        case rel => exact ⟨k + 1, by omega, rfl⟩
        case measure => simp; omega
      · have hdg : digitB z = true := by
          cases e : digitB z
          · exact absurd (.inl e) hd
          · rfl
        have hk0 : ((k : Int) == 0) = false := by
          simp; intro e; exact hd (.inr e)
        generalize ho : opensB z = ob
        cases ob
        · go_wp2_with fail
          refine (digit_any _ _).mono ?_
          rintro e w1 ⟨rfl, rfl⟩
          rw [hdg]
          go_wp2_with fail
          go_roundw
          case rel => exact ⟨k + 1, by omega, rfl⟩
          case measure => simp; omega
        · go_wp2_with fail
          go_roundw
          case rel => exact ⟨k + 1, by omega, rfl⟩
          case measure => simp; omega
    · have hnx : ∀ ty, (Instr.next (.pointer (some ⟨w.heap.size, 0, none⟩)) true ty).run Tryz.prog (w.iter s k) = _ := fun ty => run_next_end w s k ty hlt
      go_wp2_with fail
      go_ret
      exact ⟨rfl, iter_below _ _ _⟩

theorem bad_some (s : ByteArray) (h : ¬ NameP s) (h0 : 0 < s.size) (h1 : s.size ≤ 16) : ¬ ∀ k, k < s.size → okAt k (byteAt s k) := fun e => h ⟨e, h0, h1⟩

set_option maxHeartbeats 2000000 in
theorem name_no (s : ByteArray) (w : World) (h : ¬ NameP s) :
    Calls Tryz.prog 90 #[.string s] w fun e w' => e = .returned (.bool false) ∧ Below w.heap.size w w' := by
  by_cases h1 : 0 < s.size
  · obtain ⟨ht1, ht2⟩ := text_full s h1
    by_cases h2 : s.size ≤ 16
    · have HP : Hid (¬ ∀ k, k < s.size → okAt k (byteAt s k)) := bad_some s h h1 h2
      clear h
      go_enter Tryz.func90, Tryz.ntmps90
      go_wp2_with fail
      go_loopw [3] (fun _ w' => ∃ pos : Nat, pos ≤ s.size ∧ w' = w.iter s pos ∧ ∀ j, j < pos → okAt j (byteAt s j)) (fun _ w' => s.size - w'.iterPos w.heap.size)
      case atStart => exact ⟨0, Nat.zero_le _, rfl, fun j hj => absurd hj (Nat.not_lt_zero _)⟩
      case round =>
        obtain ⟨k, hk, rfl, hall⟩ := hrel
        have HA : Hid (∀ j, j < k → okAt j (byteAt s j)) := hall
        clear hall
        by_cases hlt : k < s.size
        · have hb := byteAt_eq s k hlt
          have hi := byteAt_in s k
          by_cases hok : okAt k (byteAt s k)
          · have HB : Hid (∀ j, j < k + 1 → okAt j (byteAt s j)) := fun j hj => by
              by_cases e : j = k
              · subst e; exact hok
              · exact HA.out j (by omega)
            have hasc : (s[k]'hlt).toNat < 128 := by
              unfold okAt at hok; omega
            have hnx : ∀ ty, (Instr.next (.pointer (some ⟨w.heap.size, 0, none⟩)) true ty).run Tryz.prog (w.iter s k) = _ := fun ty => run_next_ascii w s k ty hlt hasc
            generalize hz : byteAt s k = z at *
            rw [hb] at hnx
            go_wp2_with fail
            refine (opens_any _ _).mono ?_
            rintro e w1 ⟨rfl, rfl⟩
            by_cases hd : digitB z = false ∨ k = 0
            · rw [ok_opens k z hok hd]
              go_wp2_with fail
              go_roundw
              case rel => exact ⟨k + 1, by omega, rfl, HB.out⟩
              case measure => simp; omega
            · have hdg : digitB z = true := by
                cases e : digitB z
                · exact absurd (.inl e) hd
                · rfl
              have hk0 : ((k : Int) == 0) = false := by
                simp; intro e; exact hd (.inr e)
              generalize ho : opensB z = ob
              cases ob
              · go_wp2_with fail
                refine (digit_any _ _).mono ?_
                rintro e w1 ⟨rfl, rfl⟩
                rw [hdg]
                go_wp2_with fail
                go_roundw
                case rel => exact ⟨k + 1, by omega, rfl, HB.out⟩
                case measure => simp; omega
              · go_wp2_with fail
                go_roundw
                case rel => exact ⟨k + 1, by omega, rfl, HB.out⟩
                case measure => simp; omega
          · have hrn : ∃ z : Nat, (Utf8.decode s k).1 = z ∧ opensB (z : Int) = false ∧ (k = 0 ∨ digitB (z : Int) = false) := by
              by_cases hasc : (s[k]'hlt).toNat < 128
              · rw [decode_ascii s k hlt hasc]
                exact ⟨_, rfl, by rw [hb]; exact nok_opens k _ hok⟩
              · have := (decode_high s k hlt (by omega)).1
                exact ⟨_, rfl, opens_high _ (by omega), .inr (digit_high _ (by omega))⟩
            obtain ⟨z, hz1, hz2, hz3⟩ := hrn
            have hnx : ∀ ty, (Instr.next (.pointer (some ⟨w.heap.size, 0, none⟩)) true ty).run Tryz.prog (w.iter s k) = _ := fun ty => run_next_any w s k ty hlt
            rw [hz1] at hnx
            clear hz1 hok hb hi
            generalize (Utf8.decode s k).2 = d at *
            go_wp2_with fail
            refine (opens_any _ _).mono ?_
            rintro e w1 ⟨rfl, rfl⟩
            rw [hz2]
            by_cases hk0 : k = 0
            · subst hk0
              go_wp2_with fail
              go_ret
              exact ⟨rfl, iter_below _ _ _⟩
            · have hk1 : ((k : Int) == 0) = false := by simp; exact hk0
              have hz4 : digitB (z : Int) = false := by
                rcases hz3 with e | e
                · exact absurd e hk0
                · exact e
              clear hz3
              go_wp2_with fail
              refine (digit_any _ _).mono ?_
              rintro e w1 ⟨rfl, rfl⟩
              rw [hz4]
              go_wp2_with fail
              go_ret
              exact ⟨rfl, iter_below _ _ _⟩
        · exact absurd (fun j hj => HA.out j (by omega)) HP.out
    · have h3 : 16 < (s.size : Int) := by omega
      clear h
      go_enter Tryz.func90, Tryz.ntmps90
      go_wp2_with fail
      go_ret
      exact ⟨rfl, Below.refl _ _⟩
  · have ht := text_empty s (by omega)
    clear h
    go_enter Tryz.func90, Tryz.ntmps90
    go_wp2_with fail
    go_ret
    exact ⟨rfl, Below.refl _ _⟩

theorem name_any (s : ByteArray) (w : World) (b : Bool) (h : b = true ↔ NameP s) :
    Calls Tryz.prog 90 #[.string s] w fun e w' => e = .returned (.bool b) ∧ Below w.heap.size w w' := by
  cases b
  · exact name_no s w (fun e => by simpa using h.2 e)
  · exact name_yes s w (h.1 rfl)

end Go.Proofs.YtgblohjdiheemaaGreat

/- object.rightSymbols. -/
namespace Go.Proofs.YtgblohjdiheemaaGreat
open Go.RowKit Go.Maps

theorem Tryz.sz116 : (Tryz.prog.info? 116).map (·.size) = some 3 := by kernel_rfl
theorem Tryz.sz142 : (Tryz.prog.info? 142).map (·.size) = some 3 := by kernel_rfl
theorem Tryz.sz145 : (Tryz.prog.info? 145).map (·.size) = some 3 := by kernel_rfl
abbrev obA (pb ps pf pm : Option Addr) (nb cb ns cs nf cf nm cm : Nat) : Array Value := #[.slice pb nb cb, .slice ps ns cs, .slice pf nf cf, .slice pm nm cm]

set_option maxRecDepth 20000 in
set_option maxHeartbeats 2000000 in
theorem rightSymbols_any (pb ps pf pm : Option Addr) (nb cb ns cs nf cf nm cm : Nat) (L : List Sy) (w : World) (hn : L.length = ns) (hn4 : ns ≤ 4096) (_hnb : nb ≤ 65536) (hL : ∀ s ∈ L, SyF s) (hx : Row3 w ps (L.map syV)) :
    Calls Tryz.prog 81 #[.agg (obA pb ps pf pm nb cb ns cs nf cf nm cm)] w fun E w' => E = .returned (.bool (rsL nb 0 [] L)) ∧ Below w.heap.size w w' := by
  have hN := fun s W => name_any s W (nmB s) (nmB_iff s)
  have HX := Hid.in hx
  have HN := Hid.in hn
  have HL := Hid.in hL
  have hmm := @run_makeMap Tryz.prog
  clear hx hn hL
  obtain ⟨r, hr⟩ : ∃ r, rsL nb 0 [] L = r := ⟨_, rfl⟩
  rw [hr]
  have HR := Hid.in hr
  clear hr
  go_enter Tryz.func81, Tryz.ntmps81
  go_upto_region 3 with fail
  have HK0 : Hid (Blk ((w.alloc (.cells (obA pb ps pf pm nb cb ns cs nf cf nm cm) 121)).alloc (.map #[] 0)) w.heap.size 121 (obA pb ps pf pm nb cb ns cs nf cf nm cm)) := (Blk.new w 121 _).grow (new_alloc _ _)
  have HB0 : Hid (Below w.heap.size w ((w.alloc (.cells (obA pb ps pf pm nb cb ns cs nf cf nm cm) 121)).alloc (.map #[] 0))) := below_alloc (new_alloc w _) _
  have HN0 : Hid (NamAt ((w.alloc (.cells (obA pb ps pf pm nb cb ns cs nf cf nm cm) 121)).alloc (.map #[] 0)) (w.heap.size + 1) []) := by
    have := NamAt.made (w.alloc (.cells (obA pb ps pf pm nb cb ns cs nf cf nm cm) 121))
    rw [size_one] at this
    exact this
  generalize (w.alloc (.cells (obA pb ps pf pm nb cb ns cs nf cf nm cm) 121)).alloc (.map #[] 0) = w0 at *
  have c1 : w0.cell? ⟨w.heap.size, 1, none⟩ = some (.slice ps ns cs) := HK0.out.cell 1
  generalize hbm : w.heap.size + 1 = bm at *
  have HBM := Hid.in hbm
  clear hbm hmm
  go_wp2_with fail
  clear c1
  go_loopw [4, 13] (fun vl vi wr => ∃ (z : Int) (k : Nat), vl = .int .i64 z ∧ vi = .int .i64 k ∧ k ≤ ns ∧ rsL nb 0 [] L = rsL nb z (names (L.take k)) (L.drop k) ∧ i64P z ∧ NamAt wr bm (names (L.take k)) ∧ Blk wr w.heap.size 121 (obA pb ps pf pm nb cb ns cs nf cf nm cm) ∧ Below w.heap.size w wr) (fun _ vi _ => ns - (intOf vi).toNat)
  case atStart => exact ⟨0, 0, rfl, rfl, Nat.zero_le _, rfl, by unfold i64P; omega, HN0.out, HK0.out, HB0.out⟩
  case round =>
    obtain ⟨z, k, rfl, rfl, hk, hrs, hz, hna, hK, hB⟩ := hrel
    have HRS := Hid.in hrs
    have HNA := Hid.in hna
    have HK := Hid.in hK
    have HB := Hid.in hB
    clear hrs hna hK hB HK0 HB0 HN0
    obtain ⟨hz0, hz1⟩ := hz
    by_cases hlt : k < ns
    · have hkl : k < L.length := by rw [HN.out]; exact hlt
      obtain ⟨b, o, rfl, hc⟩ := (HX.out.below HB.out) (by rw [List.length_map]; omega)
      obtain ⟨c0, c1, c2⟩ := cells3 hc k (by rw [List.length_map]; exact hkl)
      simp only [List.getElem_map, syV] at c0 c1 c2
      clear hc
      obtain ⟨hsn, hsa0, hsa1⟩ := HL.out L[k] (List.getElem_mem hkl)
      have HST := Hid.in (rs_step nb L k hkl z (names (L.take k)))
      have HNT := Hid.in (names_take L k hkl)
      have HNL : Hid ((names (L.take k)).length = k) := names_len L k (by omega)
      generalize names (L.take k) = seen at *
      generalize L[k] = s at *
      have hBB : Hid (Below w.heap.size w (wr.alloc (.cells #[.string s.name, .int .i64 s.at_, .bool s.g] 116))) := below_alloc HB.out _
      have HK1 : Hid (Blk (wr.alloc (.cells #[.string s.name, .int .i64 s.at_, .bool s.g] 116)) w.heap.size 121 _) := HK.out.grow (new_alloc wr _)
      have HN1 : Hid (NamAt (wr.alloc (.cells #[.string s.name, .int .i64 s.at_, .bool s.g] 116)) bm seen) := HNA.out.below (new_alloc wr _)
      have HS1 : Hid (Blk (wr.alloc (.cells #[.string s.name, .int .i64 s.at_, .bool s.g] 116)) wr.heap.size 116 #[.string s.name, .int .i64 s.at_, .bool s.g]) := Blk.new wr 116 _
      have hbmlt : bm < wr.heap.size := HNA.out.lt
      cases hin : inB s.name seen with
      | true =>
        go_wp2_with (at_lookup; refine nam_look _ rfl _ _ rfl bm seen rfl HN1.out s.name rfl hsn ?_; intro cc hcc; rw [hin])
        go_ret
        exact ⟨ret_bool (by rw [← HR.out, HRS.out, HST.out]; simp [symB, hin]), hBB.out⟩
      | false =>
        have hni : s.name ∉ seen := fun hm => by rw [(inB_iff _ _).2 hm] at hin; cases hin
        cases hnm : nmB s.name with
        | false =>
          go_wp2_with (first
            | (at_lookup; refine nam_look _ rfl _ _ rfl bm seen rfl HN1.out s.name rfl hsn ?_; intro cc hcc; rw [hin])
            | (go_at_call 90; refine (hN _ _).mono ?_; rw [hnm]; rintro E w2 ⟨rfl, hb2⟩; have HB2 := Hid.in (below_step hBB.out hb2); clear hb2))
          go_ret
          exact ⟨ret_bool (by rw [← HR.out, HRS.out, HST.out]; simp [symB, hnm]), HB2.out⟩
        | true =>
          by_cases hlow : s.at_ < z
          · go_wp2_with (first
              | (at_lookup; refine nam_look _ rfl _ _ rfl bm seen rfl HN1.out s.name rfl hsn ?_; intro cc hcc; rw [hin])
              | (go_at_call 90; refine (hN _ _).mono ?_; rw [hnm]; rintro E w2 ⟨rfl, hb2⟩; have HB2 := Hid.in (below_step hBB.out hb2); have s1 : w2.cell? ⟨wr.heap.size, 1, none⟩ = some (.int .i64 s.at_) := (HS1.out.grow hb2).cell 1; clear hb2))
            go_ret
            exact ⟨ret_bool (by rw [← HR.out, HRS.out, HST.out]; simp [symB, show ¬ z ≤ s.at_ by omega]), HB2.out⟩
          · by_cases hhi : (nb : Int) < s.at_
            · go_wp2_with (first
                | (at_lookup; refine nam_look _ rfl _ _ rfl bm seen rfl HN1.out s.name rfl hsn ?_; intro cc hcc; rw [hin])
                | (go_at_call 90; refine (hN _ _).mono ?_; rw [hnm]; rintro E w2 ⟨rfl, hb2⟩; have HB2 := Hid.in (below_step hBB.out hb2); have s1 : w2.cell? ⟨wr.heap.size, 1, none⟩ = some (.int .i64 s.at_) := (HS1.out.grow hb2).cell 1; have o0 : w2.cell? ⟨w.heap.size, 0, none⟩ = some (.slice pb nb cb) := (HK1.out.grow hb2).cell 0; clear hb2))
              go_ret
              exact ⟨ret_bool (by rw [← HR.out, HRS.out, HST.out]; simp [symB, show ¬ s.at_ ≤ nb by omega]), HB2.out⟩
            · have HRS2 : Hid (rsL nb 0 [] L = rsL nb s.at_ (seen ++ [s.name]) (L.drop (k + 1))) := by
                have : rsL nb 0 [] L = rsL nb s.at_ (seen ++ [s.name]) (L.drop (k + 1)) := by
                  rw [HRS.out, HST.out]
                  simp [symB, hin, hnm, show z ≤ s.at_ by omega, show s.at_ ≤ nb by omega]
                exact this
              have hl1 : seen.length ≤ 1048576 := by have := HNL.out; omega
              go_wp2_with (first
                | (at_lookup; refine nam_look _ rfl _ _ rfl bm seen rfl HN1.out s.name rfl hsn ?_; intro cc hcc; rw [hin])
                | (go_at_call 90; refine (hN _ _).mono ?_; rw [hnm]; rintro E w2 ⟨rfl, hb2⟩; have HB2 := Hid.in (below_step hBB.out hb2); have s0 : w2.cell? ⟨wr.heap.size, 0, none⟩ = some (.string s.name) := (HS1.out.grow hb2).cell 0; have s1 : w2.cell? ⟨wr.heap.size, 1, none⟩ = some (.int .i64 s.at_) := (HS1.out.grow hb2).cell 1; have o0 : w2.cell? ⟨w.heap.size, 0, none⟩ = some (.slice pb nb cb) := (HK1.out.grow hb2).cell 0; have HK2 := Hid.in (HK1.out.grow hb2); have HS2 := Hid.in (HS1.out.grow hb2); have HN2 := Hid.in (HN1.out.below hb2); clear hb2)
                | (at_mapUpdate; refine nam_put _ rfl _ _ _ rfl bm seen rfl HN2.out s.name rfl (congrArg (fun j : Nat => Value.int .i64 (j : Int)) HNL.out.symm) hsn hni hl1 ?_; intro w5 hn5 hg5; have HN5 := Hid.in hn5; have HK5 := Hid.in (HK2.out.kept hg5 (by have := HBM.out; intro e; injection e with e; omega)); have s51 : w5.cell? ⟨wr.heap.size, 1, none⟩ = some (.int .i64 s.at_) := (HS2.out.kept hg5 (by intro e; injection e with e; omega)).cell 1; have HB5 := Hid.in (HB2.out.grown hg5 HB2.out.size (fun j hj => by cases hj; have := HBM.out; omega)); clear hn5 hg5))
              go_roundw
              case rel => exact ⟨s.at_, k + 1, rfl, by go_num, by omega, by rw [HNT.out]; exact HRS2.out, ⟨hsa0, hsa1⟩, by rw [HNT.out]; exact HN5.out, HK5.out, HB5.out⟩
              case measure => simp [intOf]; omega
    · have hkn : k = ns := by omega
      subst hkn
      go_wp2_with fail
      go_ret
      exact ⟨ret_bool (by rw [← HR.out, HRS.out, List.drop_eq_nil_of_le (by rw [HN.out]; exact Nat.le_refl _)]; rfl), HB.out⟩

end Go.Proofs.YtgblohjdiheemaaGreat

/- bytes.HasPrefix; object.holds. -/
namespace Go.Proofs.YtgblohjdiheemaaGreat
open Go.RowKit

def pfxB (xs ys : List Int) : Bool := decide (ys.length ≤ xs.length ∧ xs.take ys.length = ys)
theorem Row.take {w : World} {p : Option Addr} {xs : List Int} (h : Row w p xs) (m : Nat) : Row w p (xs.take m) := fun h0 => by
  rw [List.length_take] at h0
  obtain ⟨b, o, e, h1⟩ := h (by omega)
  refine ⟨b, o, e, fun i hi => ?_⟩
  rw [List.length_take] at hi
  rw [h1 i (by omega)]
  simp [List.getD_eq_getElem?_getD, show i < m by omega]
theorem Byt.take {xs : List Int} (h : Byt xs) (m : Nat) : Byt (xs.take m) := fun i => by
  have := h i
  rw [List.getD_eq_getElem?_getD] at this ⊢
  rw [List.getElem?_take]
  split
  · exact this
  · simp
theorem Byt.drop {xs : List Int} (h : Byt xs) (m : Nat) : Byt (xs.drop m) := fun i => by
  have := h (m + i)
  rw [List.getD_eq_getElem?_getD] at this ⊢
  rw [List.getElem?_drop]
  exact this
theorem Row.dropAt {w : World} {b o : Nat} {xs : List Int} (h : Row w (some ⟨b, o, none⟩) xs) (m : Nat) : Row w (some ⟨b, o + m, none⟩) (xs.drop m) := fun h0 => by
  rw [List.length_drop] at h0
  obtain ⟨b', o', e, h1⟩ := h (by omega)
  injection e with e
  injection e with e1 e2
  subst e1 e2
  refine ⟨b, o + m, rfl, fun i hi => ?_⟩
  rw [List.length_drop] at hi
  have := h1 (m + i) (by omega)
  rw [← Nat.add_assoc] at this
  rw [this]
  simp [List.getD_eq_getElem?_getD, List.getElem?_drop]

set_option maxHeartbeats 1000000 in
theorem hasPrefix_any (p q : Option Addr) (n c m d : Nat) (xs ys : List Int) (w : World) (hx : xs.length = n) (hy : ys.length = m) (hnc : n ≤ c) (_hc : c ≤ 9223372036854775807) (hm : m ≤ 9223372036854775807) (h1 : Row w p xs) (h2 : Row w q ys) (b1 : Byt xs) (b2 : Byt ys) :
    Calls Tryz.prog 72 #[.slice p n c, .slice q m d] w fun e w' => e = .returned (.bool (pfxB xs ys)) ∧ w' = w := by
  by_cases hle : m ≤ n
  · have hE := equal_any p q m c m d (xs.take m) ys w (by rw [List.length_take]; omega) hy (h1.take m) h2 (b1.take m) b2
    have HR : Hid (sameB (xs.take m) ys = pfxB xs ys) := by
      have : sameB (xs.take m) ys = pfxB xs ys := by
        unfold sameB pfxB
        rw [hx, hy]
        simp [hle]
      exact this
    rw [HR.out] at hE
    generalize pfxB xs ys = r at *
    clear h1 h2 b1 b2 hx hy HR
    go_enter Tryz.func72, Tryz.ntmps72
    go_wp2_with (go_at_call 85; refine hE.mono ?_; rintro e w' ⟨rfl, rfl⟩)
    go_ret
    exact ⟨rfl, rfl⟩
  · have HR : Hid (pfxB xs ys = false) := by
      have : pfxB xs ys = false := by
        unfold pfxB
        rw [hx, hy]
        simp [hle]
      exact this
    rw [HR.out]
    clear h1 h2 b1 b2 hx hy HR
    go_enter Tryz.func72, Tryz.ntmps72
    go_wp2_with fail
    go_ret
    exact ⟨rfl, rfl⟩

theorem st_pre {xs ys : List Int} {k : Nat} (h : k ≤ xs.length) : stB xs (k : Int) ys = pfxB (xs.drop k) ys := by
  unfold stB pfxB
  rw [List.length_drop, Int.toNat_natCast]
  have e : (0 ≤ (k : Int) ∧ k + ys.length ≤ xs.length ∧ (xs.drop k).take ys.length = ys) ↔ (ys.length ≤ xs.length - k ∧ (xs.drop k).take ys.length = ys) := by
    constructor
    · rintro ⟨_, h1, h2⟩; exact ⟨by omega, h2⟩
    · rintro ⟨h1, h2⟩; exact ⟨by omega, by omega, h2⟩
  simp only [e]
theorem st_far {xs ys : List Int} {a : Int} (h : (xs.length : Int) < a) : stB xs a ys = false := by
  unfold stB
  simp only [decide_eq_false_iff_not]
  rintro ⟨h1, h2, -⟩
  omega

set_option maxHeartbeats 1000000 in
theorem oholds_any (p q : Option Addr) (n c m d : Nat) (a : Int) (xs ys : List Int) (w : World) (hx : xs.length = n) (hy : ys.length = m) (hnc : n ≤ c) (hc : c ≤ 9223372036854775807) (hm : m ≤ 9223372036854775807) (ha : 0 ≤ a) (ha2 : a ≤ 9223372036854775807) (h1 : Row w p xs) (h2 : Row w q ys) (b1 : Byt xs) (b2 : Byt ys) :
    Calls Tryz.prog 91 #[.slice p n c, .int .i64 a, .slice q m d] w fun e w' => e = .returned (.bool (stB xs a ys)) ∧ w' = w := by
  obtain ⟨k, rfl⟩ : ∃ k : Nat, a = k := ⟨a.toNat, by omega⟩
  by_cases hle : k ≤ n
  · have hP : ∀ p', Row w p' (xs.drop k) → Calls Tryz.prog 72 #[.slice p' (n - k) (c - k), .slice q m d] w fun e w' => e = .returned (.bool (stB xs (k : Int) ys)) ∧ w' = w := fun p' hr => by
      rw [st_pre (by omega)]
      exact hasPrefix_any p' q (n - k) (c - k) m d (xs.drop k) ys w (by rw [List.length_drop, hx]) hy (by omega) (by omega) hm hr h2 (b1.drop k) b2
    have hz : n = 0 → xs = [] := fun e => List.eq_nil_of_length_eq_zero (by omega)
    generalize stB xs (k : Int) ys = r at *
    by_cases hn0 : n = 0
    · have hd : ∀ p', Row w p' (xs.drop k) := fun p' h => by rw [hz hn0] at h; simp at h
      have hk0 : k = 0 := by omega
      subst hk0 hn0
      clear h1 h2 b1 b2 hx hy
      simp only [Nat.sub_zero] at hP
      rcases p with _ | ⟨b, o, e⟩
      · go_enter Tryz.func91, Tryz.ntmps91
        go_wp2_with (go_at_call 72; refine (hP _ (hd _)).mono ?_; rintro e w' ⟨rfl, rfl⟩)
        go_ret
        exact ⟨rfl, rfl⟩
      · go_enter Tryz.func91, Tryz.ntmps91
        go_wp2_with (go_at_call 72; refine (hP _ (hd _)).mono ?_; rintro e w' ⟨rfl, rfl⟩)
        go_ret
        exact ⟨rfl, rfl⟩
    · obtain ⟨b, o, rfl, -⟩ := h1 (by omega)
      by_cases hck : c = k
      · have hd : ∀ p', Row w p' (xs.drop k) := fun p' h => by rw [List.length_drop] at h; omega
        have hnk : n = k := by omega
        clear h1 h2 b1 b2 hx hy hz
        subst hck hnk
        rw [Nat.sub_self] at hP
        go_enter Tryz.func91, Tryz.ntmps91
        go_wp2_with (go_at_call 72; refine (hP _ (hd _)).mono ?_; rintro e w' ⟨rfl, rfl⟩)
        go_ret
        exact ⟨rfl, rfl⟩
      · have hd := h1.dropAt k
        clear h1 h2 b1 b2 hx hy hz
        go_enter Tryz.func91, Tryz.ntmps91
        go_wp2_with (go_at_call 72; refine (hP _ hd).mono ?_; rintro e w' ⟨rfl, rfl⟩)
        go_ret
        exact ⟨rfl, rfl⟩
  · rw [st_far (by omega)]
    clear h1 h2 b1 b2 hx hy
    go_enter Tryz.func91, Tryz.ntmps91
    go_wp2_with fail
    go_ret
    exact ⟨rfl, rfl⟩

end Go.Proofs.YtgblohjdiheemaaGreat

/- What octets.inside, number, U16, U32, I32 answer, for every slice of bytes, every place. -/
namespace Go.Proofs.YtgblohjdiheemaaGreat
open Go.RowKit

theorem inside_yes (p : Option Addr) (n c : Nat) (a k : Int) (w : World) (hn : n ≤ 9223372036854775807) (h0 : 0 ≤ k) (h1 : k ≤ 8) (ha : 0 ≤ a) (hb : a ≤ n - k) :
    Calls Tryz.prog 123 #[.slice p n c, .int .i64 a, .int .i64 k] w fun e w' => e = .returned (.bool true) ∧ w' = w := by
  go_enter Tryz.func123, Tryz.ntmps123
  go_wp2
  go_ret
  exact ⟨by simp, rfl⟩

theorem inside_no (p : Option Addr) (n c : Nat) (a k : Int) (w : World) (hn : n ≤ 9223372036854775807) (h0 : 0 ≤ k) (h1 : k ≤ 8) (h : a < 0 ∨ n - k < a) :
    Calls Tryz.prog 123 #[.slice p n c, .int .i64 a, .int .i64 k] w fun e w' => e = .returned (.bool false) ∧ w' = w := by
  by_cases ha : 0 ≤ a
  · have hb : ¬ a ≤ n - k := by omega
    go_enter Tryz.func123, Tryz.ntmps123
    go_wp2
    go_ret
    exact ⟨by simp, rfl⟩
  · have hd : decide (0 ≤ a) = false := by simpa using ha
    go_enter Tryz.func123, Tryz.ntmps123
    go_wp2
    go_ret
    exact ⟨rfl, rfl⟩

theorem ret_int2 {k : IntKind} {a b : Int} {x : Value} (h : a = b) : Ending.returned (.tuple #[.int k a, x]) = .returned (.tuple #[.int k b, x]) := by rw [h]

end Go.Proofs.YtgblohjdiheemaaGreat

/- What octets.Put32 answers, for every slice of bytes, every place, every number. -/
namespace Go.Proofs.YtgblohjdiheemaaGreat
open Go.RowKit

theorem put32_no (p : Option Addr) (n c : Nat) (a v : Int) (w : World) (hn : n ≤ 9223372036854775807) (h : a < 0 ∨ n - 4 < a) :
    Calls Tryz.prog 96 #[.slice p n c, .int .i64 a, .int .u32 v] w fun e w' => e = .returned (.tuple #[.slice none 0 0, .int .i64 2]) ∧ w' = w := by
  go_enter Tryz.func96, Tryz.ntmps96
  go_wp2_with (go_at_call 123; refine (inside_no _ _ _ _ _ _ hn (by decide) (by decide) h).mono ?_; rintro e w' ⟨rfl, rfl⟩)
  go_ret2
  exact ⟨rfl, rfl⟩

def putL (xs : List Int) (a : Nat) (v : Int) : List Int :=
  (((xs.set a (v % 256)).set (a + 1) (v / 256 % 256)).set (a + 2) (v / 65536 % 256)).set (a + 3) (v / 16777216)

theorem Own.of_made {w : World} {B g n : Nat} (h : w.ownsRow B 5 1 (.slice (some ⟨g, 0, none⟩) n n) n (madeCells (Value.int .u8 0).cells (n * 1)).toList) : Own w B g n (List.replicate n 0) := by
  unfold Own
  have e : (madeCells (Value.int .u8 0).cells (n * 1)).toList = byts (List.replicate n 0) := by
    rw [show (Value.int .u8 0).cells = #[Value.int .u8 0] from rfl, toList_madeCells_one]; simp [byts]
  rw [e] at h
  simpa using h

theorem Own.whole {w : World} {B g : Nat} {xs : List Int} (h : Own w B g xs.length xs) : w.heap[g]? = some (.cells (byts xs).toArray 5 (0, 0)) := by
  obtain ⟨cur, _, h2, _, _, h5, h6⟩ := h.parts
  rw [h2, ← h6, List.take_of_length_le (by rw [Array.length_toList]; omega)]

theorem copy_into {w1 : World} {B g n c b o : Nat} {xs : List Int} (hx : xs.length = n) (hown : Own w1 B g n (List.replicate n 0))
    (hc : ∀ i, i < n → w1.cell? ⟨b, o + i, none⟩ = some (.int .u8 (xs.getD i 0))) :
    ∃ w2, (Builtin.copy_ #[22, 22] 3 #[.slice (some ⟨g, 0, none⟩) n n, .slice (some ⟨b, o, none⟩) n c]).run Tryz.prog w1 = .ok (.int .i64 n) w2 ∧ Own w2 B g n xs ∧ ∀ w0, Below B w0 w1 → Below B w0 w2 := by
  obtain ⟨cur, h1, h2, h3, h4, h5, h6⟩ := hown.parts
  have hr := run_copy_row (P := Tryz.prog) w1 22 22 3 5 g 0 n n ⟨b, o, none⟩ n c cur 5 (byts xs) Tryz.underlying22 Tryz.size5 h2 (by simp [hx]) (fun j u hj => by
    have hjl : j < xs.length := by
      rcases Nat.lt_or_ge j xs.length with h | h
      · exact h
      · rw [List.getElem?_eq_none (by simpa using h)] at hj; cases hj
    rw [getD_byts xs j hjl] at hj
    rw [← hj, ← hc j (by omega), Go.WideShapes.add_plain]) (by simp [hx, h5]) (fun u hu => by
    simp only [byts, List.mem_map] at hu
    obtain ⟨z, _, rfl⟩ := hu
    rfl)
  have e : cur.toList.take 0 ++ byts xs ++ cur.toList.drop (0 + (byts xs).length) = byts xs := by
    simp [List.drop_eq_nil_of_le, hx, h5]
  rw [e] at hr
  refine ⟨_, ?_, Own.mk (cur := (byts xs).toArray) h1 (setRow_heap w1 g cur _ 5 (0, 0) h2) (by omega) h4 (by simp [hx]) (by rw [List.take_of_length_le (by simp)]), fun w0 hb => below_setRow hb h1 _⟩
  simpa [hx, goInt] using hr

set_option maxHeartbeats 400000 in
theorem put32_at (b o n c a : Nat) (v : Int) (xs : List Int) (w : World) (hx : xs.length = n) (hn : n ≤ 140737488355328) (h : a + 4 ≤ n) (hv : 0 ≤ v ∧ v ≤ 4294967295)
    (hc : ∀ i, i < n → w.cell? ⟨b, o + i, none⟩ = some (.int .u8 (xs.getD i 0))) :
    Calls Tryz.prog 96 #[.slice (some ⟨b, o, none⟩) n c, .int .i64 a, .int .u32 v] w fun e w' => e = .returned (.tuple #[.slice (some ⟨w.heap.size, 0, none⟩) n n, .int .i64 0]) ∧ Own w' w.heap.size w.heap.size n (putL xs a v) ∧ Below w.heap.size w w' := by
  obtain ⟨i0, hi, hz0, hz1, hz2⟩ := info_parts Tryz.info5
  have HX : Hid (xs.length = n) := hx
  have HC : Hid (∀ i, i < n → w.cell? ⟨b, o + i, none⟩ = some (.int .u8 (xs.getD i 0))) := hc
  clear hx hc
  go_enter Tryz.func96, Tryz.ntmps96
  go_wp2_with (first | (go_at_call 123; refine (inside_yes _ _ _ _ _ _ (by omega) (by decide) (by decide) (by omega) (by omega)).mono ?_; rintro e w' ⟨rfl, rfl⟩) | (at_make; refine wpList_make_full _ rfl _ _ 22 rfl _ 5 i0 (.int .u8 0) 1 Tryz.underlying22 hi hz0 hz1 _ _ _ _ n rfl rfl rfl rfl (by rw [hz2]; omega) (by unfold maxLen; omega) (Nat.le_refl _) ?_; intro w1 hown hgrow; have hb1 := (Below.refl w'.heap.size w').grown hgrow (Nat.le_refl _) (by simp); obtain ⟨w2, hcp, hown2, hb2⟩ := copy_into (c := c) HX.out (Own.of_made hown) (fun i hi => by rw [hb1.cell (p := ⟨b, o + i, none⟩) (cell_lt (HC.out i hi))]; exact HC.out i hi); have hb3 := hb2 _ hb1; have HO : Hid (Own w2 w'.heap.size w'.heap.size n xs) := hown2; have HB : Hid (Below w'.heap.size w' w2) := hb3; clear hown hgrow hb1 hb2 hb3 hown2))
  have c0 := HO.out.cell a (by have := HX.out; omega)
  have c1 := HO.out.cell (a + 1) (by have := HX.out; omega)
  have c2 := HO.out.cell (a + 2) (by have := HX.out; omega)
  have c3 := HO.out.cell (a + 3) (by have := HX.out; omega)
  have f0 := HO.out.free a
  have f1 := HO.out.free (a + 1)
  have f2 := HO.out.free (a + 2)
  have f3 := HO.out.free (a + 3)
  generalize xs.getD a 0 = z0 at c0
  generalize xs.getD (a + 1) 0 = z1 at c1
  generalize xs.getD (a + 2) 0 = z2 at c2
  generalize xs.getD (a + 3) 0 = z3 at c3
  refine wp_loop_rounds 5 ?_
  rw [rounds_succ]; go_wp2
  rw [rounds_succ]; go_wp2
  rw [rounds_succ]; go_wp2
  rw [rounds_succ]; go_wp2
  rw [rounds_succ]; go_wp2
  go_ret2
  exact ⟨rfl, (((HO.out.store a _).store (a + 1) _).store (a + 2) _).store (a + 3) _, (((HB.out.setCell (Nat.le_refl _) _).setCell (Nat.le_refl _) _).setCell (Nat.le_refl _) _).setCell (Nat.le_refl _) _⟩

theorem put32_yes (p : Option Addr) (n c : Nat) (a v : Int) (xs : List Int) (w : World) (hx : xs.length = n) (hn : n ≤ 140737488355328) (hr : Row w p xs) (hv : 0 ≤ v ∧ v ≤ 4294967295) (h0 : 0 ≤ a) (h1 : a + 4 ≤ n) :
    Calls Tryz.prog 96 #[.slice p n c, .int .i64 a, .int .u32 v] w fun e w' => e = .returned (.tuple #[.slice (some ⟨w.heap.size, 0, none⟩) n n, .int .i64 0]) ∧ Own w' w.heap.size w.heap.size n (putL xs a.toNat v) ∧ Below w.heap.size w w' := by
  obtain ⟨k, rfl⟩ := Int.eq_ofNat_of_zero_le h0
  obtain ⟨b, o, rfl, hc⟩ := hr (by omega)
  rw [Int.toNat_natCast]
  exact put32_at b o n c k v xs w hx hn (by omega) hv (fun i hi => hc i (by omega))

/-- the same, the block's number left open -/
theorem put32_ex (p : Option Addr) (n c : Nat) (a v : Int) (xs : List Int) (w : World) (hx : xs.length = n) (hn : n ≤ 140737488355328) (hr : Row w p xs) (hv : 0 ≤ v ∧ v ≤ 4294967295) (h0 : 0 ≤ a) (h1 : a + 4 ≤ n) :
    Calls Tryz.prog 96 #[.slice p n c, .int .i64 a, .int .u32 v] w fun e w' => ∃ g, e = .returned (.tuple #[.slice (some ⟨g, 0, none⟩) n n, .int .i64 0]) ∧ Own w' w.heap.size g n (putL xs a.toNat v) ∧ Below w.heap.size w w' :=
  (put32_yes p n c a v xs w hx hn hr hv h0 h1).mono fun _ _ h => ⟨_, h⟩

/-! ### what is put: plain facts -/
theorem putL_length (xs : List Int) (a : Nat) (v : Int) : (putL xs a v).length = xs.length := by simp [putL]
theorem putL_getD (xs : List Int) (a : Nat) (v : Int) (h : a + 4 ≤ xs.length) (i : Nat) :
    (putL xs a v).getD i 0 = if i = a then v % 256 else if i = a + 1 then v / 256 % 256 else if i = a + 2 then v / 65536 % 256 else if i = a + 3 then v / 16777216 else xs.getD i 0 := by
  simp only [putL, List.getD, List.getElem?_set, List.length_set]
  by_cases e3 : a + 3 = i
  · subst e3; simp [show a + 3 < xs.length by omega]
  · by_cases e2 : a + 2 = i
    · subst e2; simp [show a + 2 < xs.length by omega]
    · by_cases e1 : a + 1 = i
      · subst e1; simp [show a + 1 < xs.length by omega]
      · by_cases e0 : a = i
        · subst e0; simp [show a < xs.length by omega]
        · simp [e0, e1, e2, e3, Ne.symm e0, Ne.symm e1, Ne.symm e2, Ne.symm e3]
theorem putL_byt {xs : List Int} {a : Nat} {v : Int} (hb : Byt xs) (h : a + 4 ≤ xs.length) (hv : 0 ≤ v ∧ v ≤ 4294967295) : Byt (putL xs a v) := fun i => by
  rw [putL_getD xs a v h i]
  have := hb i
  split
  · omega
  · split
    · omega
    · split
      · omega
      · split
        · omega
        · exact this
theorem putL_n4 {xs : List Int} {a : Nat} {v : Int} (h : a + 4 ≤ xs.length) : n4 (putL xs a v) a = v := by
  simp only [n4, putL_getD xs a v h, num4]
  simp
  omega
theorem putL_n2 {xs : List Int} {a : Nat} {v : Int} (h : a + 4 ≤ xs.length) : n2 (putL xs a v) a = v % 65536 := by
  simp only [n2, putL_getD xs a v h, num2]
  simp
  omega
theorem putL_n2' {xs : List Int} {a : Nat} {v : Int} (h : a + 4 ≤ xs.length) : n2 (putL xs a v) (a + 2) = v / 65536 := by
  simp only [n2, putL_getD xs a v h, num2]
  simp
  omega
theorem putL_other {xs : List Int} {a : Nat} {v : Int} (h : a + 4 ≤ xs.length) (i : Nat) (hi : i < a ∨ a + 4 ≤ i) : (putL xs a v).getD i 0 = xs.getD i 0 := by
  rw [putL_getD xs a v h i, if_neg (by omega), if_neg (by omega), if_neg (by omega), if_neg (by omega)]
theorem list_ext_getD {xs ys : List Int} (hl : xs.length = ys.length) (h : ∀ i, xs.getD i 0 = ys.getD i 0) : xs = ys :=
  List.ext_getElem hl fun j h1 h2 => by have := h j; simpa [List.getD, h1, h2] using this
theorem putL_back {xs : List Int} {a : Nat} {v : Int} (hb : Byt xs) (h : a + 4 ≤ xs.length) : putL (putL xs a v) a (n4 xs a) = xs := by
  refine list_ext_getD (by simp [putL_length]) fun i => ?_
  rw [putL_getD _ a _ (by rw [putL_length]; exact h) i]
  have b0 := hb a; have b1 := hb (a + 1); have b2 := hb (a + 2); have b3 := hb (a + 3)
  simp only [n4, num4]
  split
  · next e => subst e; omega
  · split
    · next e => subst e; omega
    · split
      · next e => subst e; omega
      · split
        · next e => subst e; omega
        · exact putL_other h i (by omega)
end Go.Proofs.YtgblohjdiheemaaGreat

/- object.rightFixes. -/
namespace Go.Proofs.YtgblohjdiheemaaGreat
open Go.RowKit

abbrev zero4 : Array Value := #[.int .u8 0, .int .u8 0, .int .u8 0, .int .u8 0]
theorem run_make4 (W : World) : (Instr.makeSlice 22 (.int .i64 4) (.int .i64 4)).run Tryz.prog W = .ok (.slice (some ⟨W.heap.size, 0, none⟩) 4 4) (W.alloc (.cells #[.int .u8 0, .int .u8 0, .int .u8 0, .int .u8 0] 5)) := by kernel_rfl
theorem Own.new4 (W : World) : Own (W.alloc (.cells #[.int .u8 0, .int .u8 0, .int .u8 0, .int .u8 0] 5)) W.heap.size W.heap.size 4 [0, 0, 0, 0] :=
  Own.mk (Nat.le_refl _) (World.alloc_heap_new W _) (by decide) (by unfold maxLen; decide) rfl rfl
theorem byt_zero4 : Byt [0, 0, 0, 0] := fun i => by
  match i with
  | 0 => decide
  | 1 => decide
  | 2 => decide
  | 3 => decide
  | i + 4 => simp

set_option maxRecDepth 20000 in
set_option maxHeartbeats 2000000 in
theorem rightFixes_any (pb ps pf pm : Option Addr) (nb cb ns cs nf cf nm cm : Nat) (bs : List Int) (L : List Fx) (w : World) (hb : bs.length = nb) (hnc : nb ≤ cb) (hcb : cb ≤ 9223372036854775807) (hn : L.length = nf) (hn4 : nf ≤ 4096) (hnb : nb ≤ 65536) (hbt : Byt bs) (hL : ∀ s ∈ L, FxF s) (hr1 : Row w pb bs) (hx : Row3 w pf (L.map fxV)) :
    Calls Tryz.prog 82 #[.agg (obA pb ps pf pm nb cb ns cs nf cf nm cm)] w fun E w' => E = .returned (.bool (rfL bs 0 L)) ∧ Below w.heap.size w w' := by
  have hN := fun s W => name_any s W (nmB s) (nmB_iff s)
  have hH := fun (a : Int) q W ha ha2 k1 k2 => oholds_any pb q nb cb 4 4 a bs [0, 0, 0, 0] W hb rfl hnc hcb (by decide) ha ha2 k1 k2 hbt byt_zero4
  have HX := Hid.in hx
  have HN := Hid.in hn
  have HL := Hid.in hL
  have HRB := Hid.in hr1
  have HLB := Hid.in hb
  clear hx hn hL hr1 hb hbt
  obtain ⟨r, hr⟩ : ∃ r, rfL bs 0 L = r := ⟨_, rfl⟩
  rw [hr]
  have HR := Hid.in hr
  clear hr
  have hmk := run_make4
  go_enter Tryz.func82, Tryz.ntmps82
  go_upto_region 2 with fail
  have HK0 : Hid (Blk (w.alloc (.cells (obA pb ps pf pm nb cb ns cs nf cf nm cm) 121)) w.heap.size 121 (obA pb ps pf pm nb cb ns cs nf cf nm cm)) := Blk.new w 121 _
  have HB0 : Hid (Below w.heap.size w (w.alloc (.cells (obA pb ps pf pm nb cb ns cs nf cf nm cm) 121))) := new_alloc w _
  generalize w.alloc (.cells (obA pb ps pf pm nb cb ns cs nf cf nm cm) 121) = w0 at *
  have c2 : w0.cell? ⟨w.heap.size, 2, none⟩ = some (.slice pf nf cf) := HK0.out.cell 2
  go_wp2_with fail
  clear c2
  go_loopw [3, 9] (fun vl vi wr => ∃ (z : Int) (k : Nat), vl = .int .i64 z ∧ vi = .int .i64 k ∧ k ≤ nf ∧ rfL bs 0 L = rfL bs z (L.drop k) ∧ 0 ≤ z ∧ z ≤ 65540 ∧ Blk wr w.heap.size 121 (obA pb ps pf pm nb cb ns cs nf cf nm cm) ∧ Below w.heap.size w wr) (fun _ vi _ => nf - (intOf vi).toNat)
  case atStart => exact ⟨0, 0, rfl, rfl, Nat.zero_le _, rfl, by omega, by omega, HK0.out, HB0.out⟩
  case round =>
    obtain ⟨z, k, rfl, rfl, hk, hrs, hz0', hz1', hK, hB⟩ := hrel
    have HRS := Hid.in hrs
    have HK := Hid.in hK
    have HB := Hid.in hB
    clear hrs hK hB HK0 HB0
    by_cases hlt : k < nf
    · have hkl : k < L.length := by rw [HN.out]; exact hlt
      obtain ⟨b, o, rfl, hc⟩ := (HX.out.below HB.out) (by rw [List.length_map]; omega)
      obtain ⟨c0, c1, c2⟩ := cells3 hc k (by rw [List.length_map]; exact hkl)
      simp only [List.getElem_map, fxV] at c0 c1 c2
      clear hc
      obtain ⟨hsn, ⟨hsa0, hsa1⟩, hk0, hk1⟩ := HL.out L[k] (List.getElem_mem hkl)
      have HST := Hid.in (rf_step bs L k hkl z)
      generalize L[k] = f at *
      obtain ⟨fk, fa, fs⟩ := f
      simp only at c0 c1 c2 hsn hsa0 hsa1 hk0 hk1
      have hBB : Hid (Below w.heap.size w (wr.alloc (.cells #[.int .u8 fk, .int .i64 fa, .string fs] 142))) := below_alloc HB.out _
      have HK1 : Hid (Blk (wr.alloc (.cells #[.int .u8 fk, .int .i64 fa, .string fs] 142)) w.heap.size 121 _) := HK.out.grow (new_alloc wr _)
      have HS1 : Hid (Blk (wr.alloc (.cells #[.int .u8 fk, .int .i64 fa, .string fs] 142)) wr.heap.size 142 #[.int .u8 fk, .int .i64 fa, .string fs]) := Blk.new wr 142 _
      by_cases hkd : fk = 1 ∨ fk = 2
      · cases hnm : nmB fs with
        | false =>
          obtain rfl | rfl := hkd
          all_goals
            go_wp2_with (go_at_call 90; refine (hN _ _).mono ?_; rw [hnm]; rintro E w2 ⟨rfl, hb2⟩; have HB2 := Hid.in (below_step hBB.out hb2); clear hb2)
            go_ret
            exact ⟨ret_bool (by rw [← HR.out, HRS.out, HST.out]; simp [fixB, hnm]), HB2.out⟩
        | true =>
          by_cases hlow : fa < z
          · obtain rfl | rfl := hkd
            all_goals
              go_upto_region 7 with (go_at_call 90; refine (hN _ _).mono ?_; rw [hnm]; rintro E w2 ⟨rfl, hb2⟩; have HB2 := Hid.in (below_step hBB.out hb2); have s1 : w2.cell? ⟨wr.heap.size, 1, none⟩ = some (.int .i64 fa) := (HS1.out.grow hb2).cell 1; clear hb2)
              go_quiet (fail)
              go_wp2_with fail
              go_ret
              exact ⟨ret_bool (by rw [← HR.out, HRS.out, HST.out]; simp [fixB, show ¬ z ≤ fa by omega]), below_draws HB2.out nq⟩
          · obtain ⟨st, hst⟩ : ∃ st, stB bs fa [0, 0, 0, 0] = st := ⟨_, rfl⟩
            have HFB : Hid (fixB bs z ⟨fk, fa, fs⟩ = st) := by
              have : fixB bs z ⟨fk, fa, fs⟩ = st := by simp [fixB, hnm, hst, hkd, show z ≤ fa by omega]
              exact this
            have HTOP : Hid (st = true → fa ≤ 65536) := fun e => by
              rw [e] at hst
              unfold stB at hst
              have h4 := (of_decide_eq_true hst).2.1
              have hl4 : ([0, 0, 0, 0] : List Int).length = 4 := rfl
              have := HLB.out
              omega
            obtain rfl | rfl := hkd
            all_goals
              go_upto_region 7 with (go_at_call 90; refine (hN _ _).mono ?_; rw [hnm]; rintro E w2 ⟨rfl, hb2⟩; have HB2 := Hid.in (below_step hBB.out hb2); have HK2 := Hid.in (HK1.out.grow hb2); have HS2 := Hid.in (HS1.out.grow hb2); have s1 : w2.cell? ⟨wr.heap.size, 1, none⟩ = some (.int .i64 fa) := (HS1.out.grow hb2).cell 1; have o0 : w2.cell? ⟨w.heap.size, 0, none⟩ = some (.slice pb nb cb) := (HK1.out.grow hb2).cell 0; clear hb2)
              have hd : decide (fa < z) = false := decide_eq_false (by omega)
              have s1d : (w2.alloc (.cells zero4 5)).cell? ⟨wr.heap.size, 1, none⟩ = some (.int .i64 fa) := (HS2.out.grow (new_alloc w2 _)).cell 1
              have o0d : (w2.alloc (.cells zero4 5)).cell? ⟨w.heap.size, 0, none⟩ = some (.slice pb nb cb) := (HK2.out.grow (new_alloc w2 _)).cell 0
              have HO3 : Hid (Own ((w2.alloc (.cells zero4 5)).drew) w2.heap.size w2.heap.size 4 [0, 0, 0, 0]) := (Own.new4 w2).drewN 1
              have HB3 : Hid (Below w.heap.size w ((w2.alloc (.cells zero4 5)).drew)) := below_draws (below_alloc HB2.out _) 1
              have HK3 : Hid (Blk ((w2.alloc (.cells zero4 5)).drew) w.heap.size 121 _) := (HK2.out.grow (new_alloc w2 _)).grow (below_draws (below_self _) 1)
              go_region_law (go_simp; go_at_call 91; refine (hH fa _ _ (by omega) hsa1 (HRB.out.below HB3.out) HO3.out.row).mono ?_; rw [hst]; rintro E w4 ⟨rfl, rfl⟩)
              all_goals
                clear hH hN hmk
                cases st with
                | false =>
                  go_wp2_with fail
                  go_ret
                  exact ⟨ret_bool (by rw [← HR.out, HRS.out, HST.out, HFB.out]; rfl), HB3.out⟩
                | true =>
                  have htop := HTOP.out rfl
                  go_wp2_with fail
                  go_roundw
                  case rel => exact ⟨fa + 4, k + 1, by go_num, by go_num, by omega, by rw [HRS.out, HST.out, HFB.out, Bool.true_and], by omega, by omega, HK3.out, HB3.out⟩
                  case measure => simp [intOf]; omega
      · go_wp2_with (first
          | (refine step_store_new rfl 142 (.tmp 5) (.tmp 12) rfl rfl rfl #[.int .u8 fk, .int .i64 fa, .string fs] rfl Tryz.sz142 rfl rfl ?_))
        go_ret
        exact ⟨ret_bool (by rw [← HR.out, HRS.out, HST.out]; simp [fixB, hkd]), hBB.out⟩
    · have hkn : k = nf := by omega
      subst hkn
      go_wp2_with fail
      go_ret
      exact ⟨ret_bool (by rw [← HR.out, HRS.out, List.drop_eq_nil_of_le (by rw [HN.out]; exact Nat.le_refl _)]; rfl), HB.out⟩

end Go.Proofs.YtgblohjdiheemaaGreat
