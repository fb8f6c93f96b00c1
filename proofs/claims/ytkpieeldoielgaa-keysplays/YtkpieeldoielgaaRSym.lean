/- object.rightSymbols. -/
import Derived.Test.YtkpieeldoielgaaShar
import Derived.Test.YtkpieeldoielgaaWName
import Derived.Test.YtkpieeldoielgaaShp
import Derived.Deep.RegionLaw
namespace Go.Proofs.Ytkpieeldoielgaa
open Go.RowKit Go.Maps

theorem Try.sz100 : (Try.prog.info? 100).map (·.size) = some 3 := by kernel_rfl
theorem Try.sz123 : (Try.prog.info? 123).map (·.size) = some 3 := by kernel_rfl
theorem Try.sz126 : (Try.prog.info? 126).map (·.size) = some 3 := by kernel_rfl
abbrev obA (pb ps pf pm : Option Addr) (nb cb ns cs nf cf nm cm : Nat) : Array Value := #[.slice pb nb cb, .slice ps ns cs, .slice pf nf cf, .slice pm nm cm]

set_option maxRecDepth 20000 in
set_option maxHeartbeats 2000000 in
theorem rightSymbols_any (pb ps pf pm : Option Addr) (nb cb ns cs nf cf nm cm : Nat) (L : List Sy) (w : World) (hn : L.length = ns) (hn4 : ns ≤ 4096) (_hnb : nb ≤ 65536) (hL : ∀ s ∈ L, SyF s) (hx : Row3 w ps (L.map syV)) :
    Calls Try.prog 68 #[.agg (obA pb ps pf pm nb cb ns cs nf cf nm cm)] w fun E w' => E = .returned (.bool (rsL nb 0 [] L)) ∧ Below w.heap.size w w' := by
  have hN := fun s W => name_any s W (nmB s) (nmB_iff s)
  have HX := Hid.in hx
  have HN := Hid.in hn
  have HL := Hid.in hL
  have hmm := @run_makeMap Try.prog
  clear hx hn hL
  obtain ⟨r, hr⟩ : ∃ r, rsL nb 0 [] L = r := ⟨_, rfl⟩
  rw [hr]
  have HR := Hid.in hr
  clear hr
  go_enter Try.func68, Try.ntmps68
  go_upto_region 3 with fail
  have HK0 : Hid (Blk ((w.alloc (.cells (obA pb ps pf pm nb cb ns cs nf cf nm cm) 105)).alloc (.map #[] 0)) w.heap.size 105 (obA pb ps pf pm nb cb ns cs nf cf nm cm)) := (Blk.new w 105 _).grow (new_alloc _ _)
  have HB0 : Hid (Below w.heap.size w ((w.alloc (.cells (obA pb ps pf pm nb cb ns cs nf cf nm cm) 105)).alloc (.map #[] 0))) := below_alloc (new_alloc w _) _
  have HN0 : Hid (NamAt ((w.alloc (.cells (obA pb ps pf pm nb cb ns cs nf cf nm cm) 105)).alloc (.map #[] 0)) (w.heap.size + 1) []) := by
    have := NamAt.made (w.alloc (.cells (obA pb ps pf pm nb cb ns cs nf cf nm cm) 105))
    rw [size_one] at this
    exact this
  generalize (w.alloc (.cells (obA pb ps pf pm nb cb ns cs nf cf nm cm) 105)).alloc (.map #[] 0) = w0 at *
  have c1 : w0.cell? ⟨w.heap.size, 1, none⟩ = some (.slice ps ns cs) := HK0.out.cell 1
  generalize hbm : w.heap.size + 1 = bm at *
  have HBM := Hid.in hbm
  clear hbm hmm
  go_wp2_with fail
  clear c1
  go_loopw [4, 13] (fun vl vi wr => ∃ (z : Int) (k : Nat), vl = .int .i64 z ∧ vi = .int .i64 k ∧ k ≤ ns ∧ rsL nb 0 [] L = rsL nb z (names (L.take k)) (L.drop k) ∧ i64P z ∧ NamAt wr bm (names (L.take k)) ∧ Blk wr w.heap.size 105 (obA pb ps pf pm nb cb ns cs nf cf nm cm) ∧ Below w.heap.size w wr) (fun _ vi _ => ns - (intOf vi).toNat)
  case atStart => exact ⟨0, 0, rfl, rfl, Nat.zero_le _, rfl, by unfold i64P; omega, HN0.out, HK0.out, HB0.out⟩
  case round =>
    obtain ⟨z, k, rfl, rfl, hk, hrs, hz, hna, hK, hB⟩ := hrel
    have HRS := Hid.in hrs
    have HNA := Hid.in hna
    have HK := Hid.in hK
    have HB := Hid.in hB
    clear hrs hna hK hB HK0 HB0 HN0
    obtain ⟨hz0, hz1⟩ := hz
    by_cases hlt : k < ns
    · have hkl : k < L.length := by rw [HN.out]; exact hlt
      obtain ⟨b, o, rfl, hc⟩ := (HX.out.below HB.out) (by rw [List.length_map]; omega)
      obtain ⟨c0, c1, c2⟩ := cells3 hc k (by rw [List.length_map]; exact hkl)
      simp only [List.getElem_map, syV] at c0 c1 c2
      clear hc
      obtain ⟨hsn, hsa0, hsa1⟩ := HL.out L[k] (List.getElem_mem hkl)
      have HST := Hid.in (rs_step nb L k hkl z (names (L.take k)))
      have HNT := Hid.in (names_take L k hkl)
      have HNL : Hid ((names (L.take k)).length = k) := names_len L k (by omega)
      generalize names (L.take k) = seen at *
      generalize L[k] = s at *
      have hBB : Hid (Below w.heap.size w (wr.alloc (.cells #[.string s.name, .int .i64 s.at_, .bool s.g] 100))) := below_alloc HB.out _
      have HK1 : Hid (Blk (wr.alloc (.cells #[.string s.name, .int .i64 s.at_, .bool s.g] 100)) w.heap.size 105 _) := HK.out.grow (new_alloc wr _)
      have HN1 : Hid (NamAt (wr.alloc (.cells #[.string s.name, .int .i64 s.at_, .bool s.g] 100)) bm seen) := HNA.out.below (new_alloc wr _)
      have HS1 : Hid (Blk (wr.alloc (.cells #[.string s.name, .int .i64 s.at_, .bool s.g] 100)) wr.heap.size 100 #[.string s.name, .int .i64 s.at_, .bool s.g]) := Blk.new wr 100 _
      have hbmlt : bm < wr.heap.size := HNA.out.lt
      cases hin : inB s.name seen with
      | true =>
        go_wp2_with (at_lookup; refine nam_look _ rfl _ _ rfl bm seen rfl HN1.out s.name rfl hsn ?_; intro cc hcc; rw [hin])
        go_ret
        exact ⟨ret_bool (by rw [← HR.out, HRS.out, HST.out]; simp [symB, hin]), hBB.out⟩
      | false =>
        have hni : s.name ∉ seen := fun hm => by rw [(inB_iff _ _).2 hm] at hin; cases hin
        cases hnm : nmB s.name with
        | false =>
          go_wp2_with (first
            | (at_lookup; refine nam_look _ rfl _ _ rfl bm seen rfl HN1.out s.name rfl hsn ?_; intro cc hcc; rw [hin])
            | (go_at_call 76; refine (hN _ _).mono ?_; rw [hnm]; rintro E w2 ⟨rfl, hb2⟩; have HB2 := Hid.in (below_step hBB.out hb2); clear hb2))
          go_ret
          exact ⟨ret_bool (by rw [← HR.out, HRS.out, HST.out]; simp [symB, hnm]), HB2.out⟩
        | true =>
          by_cases hlow : s.at_ < z
          · go_wp2_with (first
              | (at_lookup; refine nam_look _ rfl _ _ rfl bm seen rfl HN1.out s.name rfl hsn ?_; intro cc hcc; rw [hin])
              | (go_at_call 76; refine (hN _ _).mono ?_; rw [hnm]; rintro E w2 ⟨rfl, hb2⟩; have HB2 := Hid.in (below_step hBB.out hb2); have s1 : w2.cell? ⟨wr.heap.size, 1, none⟩ = some (.int .i64 s.at_) := (HS1.out.grow hb2).cell 1; clear hb2))
            go_ret
            exact ⟨ret_bool (by rw [← HR.out, HRS.out, HST.out]; simp [symB, show ¬ z ≤ s.at_ by omega]), HB2.out⟩
          · by_cases hhi : (nb : Int) < s.at_
            · go_wp2_with (first
                | (at_lookup; refine nam_look _ rfl _ _ rfl bm seen rfl HN1.out s.name rfl hsn ?_; intro cc hcc; rw [hin])
                | (go_at_call 76; refine (hN _ _).mono ?_; rw [hnm]; rintro E w2 ⟨rfl, hb2⟩; have HB2 := Hid.in (below_step hBB.out hb2); have s1 : w2.cell? ⟨wr.heap.size, 1, none⟩ = some (.int .i64 s.at_) := (HS1.out.grow hb2).cell 1; have o0 : w2.cell? ⟨w.heap.size, 0, none⟩ = some (.slice pb nb cb) := (HK1.out.grow hb2).cell 0; clear hb2))
              go_ret
              exact ⟨ret_bool (by rw [← HR.out, HRS.out, HST.out]; simp [symB, show ¬ s.at_ ≤ nb by omega]), HB2.out⟩
            · have HRS2 : Hid (rsL nb 0 [] L = rsL nb s.at_ (seen ++ [s.name]) (L.drop (k + 1))) := by
                have : rsL nb 0 [] L = rsL nb s.at_ (seen ++ [s.name]) (L.drop (k + 1)) := by
                  rw [HRS.out, HST.out]
                  simp [symB, hin, hnm, show z ≤ s.at_ by omega, show s.at_ ≤ nb by omega]
                exact this
              have hl1 : seen.length ≤ 1048576 := by have := HNL.out; omega
              go_wp2_with (first
                | (at_lookup; refine nam_look _ rfl _ _ rfl bm seen rfl HN1.out s.name rfl hsn ?_; intro cc hcc; rw [hin])
                | (go_at_call 76; refine (hN _ _).mono ?_; rw [hnm]; rintro E w2 ⟨rfl, hb2⟩; have HB2 := Hid.in (below_step hBB.out hb2); have s0 : w2.cell? ⟨wr.heap.size, 0, none⟩ = some (.string s.name) := (HS1.out.grow hb2).cell 0; have s1 : w2.cell? ⟨wr.heap.size, 1, none⟩ = some (.int .i64 s.at_) := (HS1.out.grow hb2).cell 1; have o0 : w2.cell? ⟨w.heap.size, 0, none⟩ = some (.slice pb nb cb) := (HK1.out.grow hb2).cell 0; have HK2 := Hid.in (HK1.out.grow hb2); have HS2 := Hid.in (HS1.out.grow hb2); have HN2 := Hid.in (HN1.out.below hb2); clear hb2)
                | (at_mapUpdate; refine nam_put _ rfl _ _ _ rfl bm seen rfl HN2.out s.name rfl (congrArg (fun j : Nat => Value.int .i64 (j : Int)) HNL.out.symm) hsn hni hl1 ?_; intro w5 hn5 hg5; have HN5 := Hid.in hn5; have HK5 := Hid.in (HK2.out.kept hg5 (by have := HBM.out; intro e; injection e with e; omega)); have s51 : w5.cell? ⟨wr.heap.size, 1, none⟩ = some (.int .i64 s.at_) := (HS2.out.kept hg5 (by intro e; injection e with e; omega)).cell 1; have HB5 := Hid.in (HB2.out.grown hg5 HB2.out.size (fun j hj => by cases hj; have := HBM.out; omega)); clear hn5 hg5))
              go_roundw
              case rel => exact ⟨s.at_, k + 1, rfl, by go_num, by omega, by rw [HNT.out]; exact HRS2.out, ⟨hsa0, hsa1⟩, by rw [HNT.out]; exact HN5.out, HK5.out, HB5.out⟩
              case measure => simp [intOf]; omega
    · have hkn : k = ns := by omega
      subst hkn
      go_wp2_with fail
      go_ret
      exact ⟨ret_bool (by rw [← HR.out, HRS.out, List.drop_eq_nil_of_le (by rw [HN.out]; exact Nat.le_refl _)]; rfl), HB.out⟩

end Go.Proofs.Ytkpieeldoielgaa
