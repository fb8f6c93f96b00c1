/- Texts put together: FetS, HrtD, DoM, DoWA. -/
import Derived.Test.YtnpaijbkhmnfpaaGreatKac
import Derived.Test.YtnpaijbkhmnfpaaGreatKai
import Derived.Deep.CutBlock
import Derived.Lib.Hide

/- fetch.Step: what it answers, for every memory and lines that calls have made. -/
namespace Go.Proofs.YtnpaijbkhmnfpaaGreat
open Go.RowKit Go.Maps

set_option maxHeartbeats 400000 in
theorem len_any (q g B : Nat) (xs : List Int) (w : World) (hm : Mem w B q g xs) :
    Calls Tryz.prog 110 #[.pointer (some ⟨q, 0, none⟩)] w fun e w' => e = .returned (.int .i64 xs.length) ∧ w' = w := by
  have hc := none_no q w hm.c0
  have h1 := hm.c1
  clear hm
  go_enter Tryz.func110, Tryz.ntmps110
  go_wp2_with (go_at_call 61; refine hc.mono ?_; rintro e w1 ⟨rfl, rfl⟩)
  go_ret
  exact ⟨rfl, rfl⟩

set_option maxHeartbeats 400000 in
theorem bytes_any (q g B : Nat) (xs : List Int) (w : World) (hm : Mem w B q g xs) (hn : xs.length ≤ 65536) :
    Calls Tryz.prog 30 #[.pointer (some ⟨q, 0, none⟩)] w fun e w' => ∃ h, e = .returned (.slice (some ⟨h, 0, none⟩) xs.length xs.length) ∧ Own w' w.heap.size h xs.length xs ∧ Below w.heap.size w w' := by
  have hc := none_no q w hm.c0
  have h1 := hm.c1
  have hcon := copied_any (some ⟨g, 0, none⟩) xs.length xs.length xs w rfl (by omega) hm.own.row
  clear hm
  go_enter Tryz.func30, Tryz.ntmps30
  go_wp2_with (first | (go_at_call 61; refine hc.mono ?_; rintro e w1 ⟨rfl, rfl⟩) | (go_at_call 39; refine hcon.mono ?_; rintro e w1 ⟨h, rfl, ho, hb⟩; clear hcon; have HO := Hid.in ho; have HB := Hid.in hb; clear ho hb))
  go_ret
  exact ⟨h, rfl, HO.out, HB.out⟩

/-- a row of bytes stays while lines are written to -/
theorem Row.lines {w w' : World} {p : Option Addr} {xs : List Int} {b : Nat} (h : Row w p xs) (hb : ∃ es c, w.heap[b]? = some (.map es c)) (hk : Keeps (fun j => j = b) w w') : Row w' p xs := fun h0 => by
  obtain ⟨g, o, rfl, hc⟩ := h h0
  obtain ⟨es, c, e⟩ := hb
  have hg : g ≠ b := fun e1 => by
    have := hc 0 h0
    rw [e1] at this
    simp [World.cell?, e] at this
  refine ⟨g, o, rfl, fun i hi => ?_⟩
  have h1 := hc i hi
  have h2 := hk.block g (cell_lt h1) hg
  unfold World.cell? at h1 ⊢
  dsimp only at h1 ⊢
  rw [h2]; exact h1

/-- Take, of a granule of memory -/
theorem take_lin (B B' q mg l b g : Nat) (L : List Ln) (xs : List Int) (hold : Bool) (w : World) (hl : LinAt w B l b L) (hm : Mem w B' q mg xs) (hlen : L.length ≤ 1048576) (hg : g < 16384) :
    Calls Tryz.prog 112 #[.pointer (some ⟨l, 0, none⟩), .pointer (some ⟨q, 0, none⟩), .int .i64 g, .bool hold] w fun e w' => e = .returned (.tuple #[fV (takR L xs g hold).f, .bool (takR L xs g hold).is, .int .i64 0]) ∧ LinAt w' B l b (takR L xs g hold).L ∧ Keeps (fun j => j = b) w w' := by
  have hgW : i64W (g : Int) := by unfold i64W; omega
  rcases takR_cases L g hold with ⟨f, hf, rfl⟩ | hno
  · rw [takR_held hf]
    refine (take_held _ l b L _ _ 0 g f w hl hgW hf (by decide) (gran_is hm (k := g) hg)).mono ?_
    rintro e w' ⟨rfl, hb⟩
    exact ⟨rfl, hl.below hb, Keeps.ofBelow hb⟩
  · rw [takR_in hno (by omega)]
    refine (take_new _ l b L _ (granF xs g) g hold w hl hlen hgW hno (gran_is hm (k := g) hg)).mono ?_
    rintro e w' ⟨rfl, hl', hk⟩
    exact ⟨rfl, hl', hk⟩
/-- there: yes -/
theorem there_yes (B B' q mg l b : Nat) (L : List Ln) (xs : List Int) (w : World) (hl : LinAt w B l b L) (hm : Mem w B' q mg xs) :
    Calls Tryz.prog 108 #[.pointer (some ⟨q, 0, none⟩), .pointer (some ⟨l, 0, none⟩)] w fun E w' => E = .returned (.bool true) ∧ Below w.heap.size w w' :=
  there_of _ _ zF false 2 w (take_err _ l b L _ zF 2 (-1) false w hl (by unfold i64W; omega) (by simp) (by decide) (by decide) (gran_is_bad hm (.inl (by omega))))


set_option maxHeartbeats 1000000 in
theorem step_done (B B' q mg l b pc c : Nat) (p : Option Addr) (L : List Ln) (xs hv : List Int) (hold : Bool) (w : World) (hl : LinAt w B l b L) (hm : Mem w B' q mg xs) (hn : hv.length ≤ 140737488355328) (hrow : Row w p hv) (hd : doneB hv = true) :
    Calls Tryz.prog 78 #[.pointer (some ⟨q, 0, none⟩), .pointer (some ⟨l, 0, none⟩), .int .u32 pc, .slice p hv.length c, .bool hold] w fun e w' => e = .returned (.tuple #[.slice none 0 0, .int .i64 0, .bool false, .int .i64 2]) ∧ Below w.heap.size w w' := by
  have ht := there_yes B B' q mg l b L xs w hl hm
  have h13 := fun W (hW : Below w.heap.size w W) => done_any p hv.length c hv W rfl hn (hrow.below hW)
  rw [hd] at h13
  clear hl hm hrow hd
  go_enter Tryz.func78, Tryz.ntmps78
  go_wp2_with (go_at_call 108; refine Hid.out ?_)
  refine Lib.hid ?_
  refine ht.mono ?_
  rintro e w1 ⟨rfl, hb1⟩
  go_wp2_with (go_at_call 43; refine Hid.out ?_)
  refine Lib.hid ?_
  refine (h13 _ hb1).mono ?_
  rintro e w2 ⟨rfl, hb2⟩
  have HB := Hid.in (below_step hb1 hb2)
  clear hb1 hb2 ht h13
  go_wp2_with fail
  refine bodyPost_ret (v := .tuple #[.slice none 0 0, .int .i64 0, .bool false, .int .i64 2]) (by simp [results, Tryz.results78, go_sem]) rfl ⟨rfl, HB.out⟩

set_option maxHeartbeats 1000000 in
theorem step_out (B B' q mg l b pc c : Nat) (p : Option Addr) (L : List Ln) (xs hv : List Int) (hold : Bool) (w : World) (hl : LinAt w B l b L) (hm : Mem w B' q mg xs) (hpc : pc ≤ 4294967295) (hn : hv.length ≤ 140737488355328) (hrow : Row w p hv) (hd : doneB hv = false) (hx : xs.length ≤ pc + hv.length) :
    Calls Tryz.prog 78 #[.pointer (some ⟨q, 0, none⟩), .pointer (some ⟨l, 0, none⟩), .int .u32 pc, .slice p hv.length c, .bool hold] w fun e w' => e = .returned (.tuple #[.slice none 0 0, .int .i64 0, .bool false, .int .i64 210]) ∧ Below w.heap.size w w' := by
  have ht := there_yes B B' q mg l b L xs w hl hm
  have h13 := fun W (hW : Below w.heap.size w W) => done_any p hv.length c hv W rfl hn (hrow.below hW)
  rw [hd] at h13
  have h29 := fun W => place_any pc p hv.length c W (by omega) (by omega) hn
  have h30 := fun W (hW : Below w.heap.size w W) => len_any q mg B' xs W (hm.below hW)
  have hxl : xs.length ≤ maxLen := hm.len
  unfold maxLen at hxl
  clear hl hm hrow hd
  go_enter Tryz.func78, Tryz.ntmps78
  go_wp2_with (go_at_call 108; refine Hid.out ?_)
  refine Lib.hid ?_
  refine ht.mono ?_
  rintro e w1 ⟨rfl, hb1⟩
  go_wp2_with (go_at_call 43; refine Hid.out ?_)
  refine Lib.hid ?_
  refine (h13 _ hb1).mono ?_
  rintro e w2 ⟨rfl, hb2⟩
  have HB := Hid.in (below_step hb1 hb2)
  have h30' := h30 _ HB.out
  have h29' := h29 w2
  clear hb1 hb2 ht h13 h29 h30
  have hge : (xs.length : Int) ≤ (pc : Int) + hv.length := by omega
  go_wp2_with (first
    | (go_at_call 109; (with_reducible refine h29'.mono ?_); rintro e w3 ⟨rfl, rfl⟩)
    | (go_at_call 110; (with_reducible refine h30'.mono ?_); rintro e w3 ⟨rfl, rfl⟩))
  refine bodyPost_ret (v := .tuple #[.slice none 0 0, .int .i64 0, .bool false, .int .i64 210]) (by simp [results, Tryz.results78, go_sem]) rfl ⟨rfl, HB.out⟩

set_option maxHeartbeats 1000000 in
theorem step_ok (B B' q mg l b pc c : Nat) (p : Option Addr) (L : List Ln) (xs hv : List Int) (hold : Bool) (w : World) (hl : LinAt w B l b L) (hm : Mem w B' q mg xs) (hlen : L.length ≤ 1048576) (hx6 : xs.length ≤ 65536) (hpc : pc ≤ 4294967295) (hrow : Row w p hv) (hd : doneB hv = false) (hx : pc + hv.length < xs.length) :
    Calls Tryz.prog 78 #[.pointer (some ⟨q, 0, none⟩), .pointer (some ⟨l, 0, none⟩), .int .u32 pc, .slice p hv.length c, .bool hold] w fun e w' => ∃ g, e = .returned (.tuple #[.slice (some ⟨g, 0, none⟩) (outF hv (takR L xs (((pc + hv.length) / 4 : Nat) : Int) hold).f ((pc + hv.length) % 4)).length (outF hv (takR L xs (((pc + hv.length) / 4 : Nat) : Int) hold).f ((pc + hv.length) % 4)).length, .int .i64 ((pc + hv.length) / 4 : Nat), .bool (takR L xs (((pc + hv.length) / 4 : Nat) : Int) hold).is, .int .i64 0]) ∧
      Own w' w.heap.size g (outF hv (takR L xs (((pc + hv.length) / 4 : Nat) : Int) hold).f ((pc + hv.length) % 4)).length (outF hv (takR L xs (((pc + hv.length) / 4 : Nat) : Int) hold).f ((pc + hv.length) % 4)) ∧ LinAt w' B l b (takR L xs (((pc + hv.length) / 4 : Nat) : Int) hold).L ∧ Keeps (fun j => j = b) w w' := by
  have ht := there_yes B B' q mg l b L xs w hl hm
  have hn6 : hv.length ≤ 6 := by
    by_cases h0 : hv.length = 0
    · omega
    · have := lt_of_not_done hd (by omega)
      have := (lenB_in (hv.getD 0 0)).2
      omega
  have h13 := fun W (hW : Below w.heap.size w W) => done_any p hv.length c hv W rfl (by omega) (hrow.below hW)
  rw [hd] at h13
  have h29 := fun W => place_any pc p hv.length c W (by omega) (by omega) (by omega)
  have h12 := fun W => next_any pc p hv.length c W hpc (by omega)
  have h30 := fun W (hW : Below w.heap.size w W) => len_any q mg B' xs W (hm.below hW)
  have hg4 : (pc + hv.length) / 4 < 16384 := by omega
  have hr4 : (pc + hv.length) % 4 < 4 := Nat.mod_lt _ (by decide)
  have h31 := fun W (hW : Below w.heap.size w W) => take_lin B B' q mg l b ((pc + hv.length) / 4) L xs hold W (hl.below hW) (hm.below hW) hlen hg4
  obtain ⟨t, ht'⟩ : ∃ t, takR L xs (((pc + hv.length) / 4 : Nat) : Int) hold = t := ⟨_, rfl⟩
  rw [ht'] at h31 ⊢
  clear ht'
  obtain ⟨f, is, e0, L2⟩ := t
  dsimp only at h31 ⊢
  have hM := fst_lt hd f ((pc + hv.length) % 4)
  have hK6 := (lenB_in (fstB hv f ((pc + hv.length) % 4))).2
  have hol := outF_len hd f hr4
  have hoe := outF_eq hd f hr4
  have h32 := fun W (hW : Row W p hv) => behind_core p c ((pc + hv.length) % 4) _ _ hv f _ W hr4 hW rfl rfl hM hK6 hol
  rw [hol, ← hoe, ← hol] at h32
  have HR : Hid (∀ W, Below w.heap.size w W → Row W p hv) := fun W hW => hrow.below hW
  have HM : Hid (∃ es c, w.heap[b]? = some (.map es c)) := hl.isMap
  have HM' : Hid (∀ W, Below w.heap.size w W → ∃ es c, W.heap[b]? = some (.map es c)) := fun W hW => (hl.below hW).isMap
  clear hl hm hrow hd hM hK6 hol hoe
  generalize outF hv f ((pc + hv.length) % 4) = out at *
  have hA : (pc : Int) + hv.length = ((pc + hv.length : Nat) : Int) := by omega
  rw [hA] at h29
  obtain ⟨A, hA2⟩ : ∃ A, pc + hv.length = A := ⟨_, rfl⟩
  rw [hA2] at h29 h12 h31 h32 hx ⊢
  have hrm : (A : Int) % 4 = ((A % 4 : Nat) : Int) := by omega
  have hge : ¬ (xs.length : Int) ≤ A := by omega
  have hAm : A ≤ 65536 := by omega
  rw [hA2] at hr4 hg4
  clear hA hA2
  generalize A / 4 = gq at *
  generalize A % 4 = r at *
  obtain ⟨f0, f1, f2, f3⟩ := f
  simp only [fV] at h31
  dsimp only at h32
  go_enter Tryz.func78, Tryz.ntmps78
  go_wp2_with (go_at_call 108; refine Hid.out ?_)
  refine Lib.hid ?_
  refine ht.mono ?_
  rintro e w1 ⟨rfl, hb1⟩
  go_wp2_with (go_at_call 43; refine Hid.out ?_)
  refine Lib.hid ?_
  refine (h13 _ hb1).mono ?_
  rintro e w2 ⟨rfl, hb2⟩
  have HB := Hid.in (below_step hb1 hb2)
  have h30' := h30 _ HB.out
  have h29' := h29 w2
  have h12' := h12 w2
  have h31' := h31 _ HB.out
  clear hb1 hb2 ht h13 h29 h30 h31 h12
  go_wp2_with (first
    | (go_at_call 109; (with_reducible refine h29'.mono ?_); rintro e w3 ⟨rfl, rfl⟩)
    | (go_at_call 110; (with_reducible refine h30'.mono ?_); rintro e w3 ⟨rfl, rfl⟩)
    | (go_at_call 111; (with_reducible refine h12'.mono ?_); rintro e w3 ⟨rfl, rfl⟩)
    | (go_at_call 112; refine Hid.out ?_))
  refine Lib.hid ?_
  clear h30' h29' h12'
  refine h31'.mono ?_
  rintro e w3 ⟨rfl, hl3, hk3⟩
  have HK3 := Hid.in ((Keeps.ofBelow HB.out).trans' hk3)
  have HR3 := Hid.in ((HR.out _ HB.out).lines (HM'.out _ HB.out) hk3)
  have HL3 := Hid.in hl3
  have HN4 := Hid.in (Blk.new w3 92 #[.int .u8 f0, .int .u8 f1, .int .u8 f2, .int .u8 f3])
  have HW4 := Hid.in (new_alloc w3 (.cells #[.int .u8 f0, .int .u8 f1, .int .u8 f2, .int .u8 f3] 92))
  have HR4 := Hid.in (HR3.out.below HW4.out)
  have HL4 := Hid.in (HL3.out.below HW4.out)
  have HK4 := Hid.in (HK3.out.trans' (Keeps.ofBelow HW4.out))
  clear hl3 hk3 h31' HB HR HM HM' HR3 HL3 HK3 HW4
  go_upto_region 10 with fail
  generalize w3.alloc (.cells #[.int .u8 f0, .int .u8 f1, .int .u8 f2, .int .u8 f3] 92) = w4 at *
  generalize w3.heap.size = g3 at *
  have c0 : w4.cell? ⟨g3, 0, none⟩ = some (.int .u8 f0) := HN4.out.cell 0
  have c1 : w4.cell? ⟨g3, 1, none⟩ = some (.int .u8 f1) := HN4.out.cell 1
  have c2 : w4.cell? ⟨g3, 2, none⟩ = some (.int .u8 f2) := HN4.out.cell 2
  have c3 : w4.cell? ⟨g3, 3, none⟩ = some (.int .u8 f3) := HN4.out.cell 3
  have h32' := h32 w4 HR4.out
  clear h32
  go_wp2_with (go_at_call 113; refine Hid.out ?_)
  refine Lib.hid ?_
  refine h32'.mono ?_
  rintro e w5 ⟨g5, rfl, ho5, hb5⟩
  have HO5 := Hid.in ho5
  have HL5 := Hid.in (HL4.out.below hb5)
  have HK5 := Hid.in (HK4.out.trans' (Keeps.ofBelow hb5))
  have HS5 := Hid.in HK4.out.size
  clear ho5 hb5 h32' HL4 HK4 HR4 c0 c1 c2 c3 HN4
  go_wp2_with fail
  refine bodyPost_ret (v := .tuple #[.slice (some ⟨g5, 0, none⟩) out.length out.length, .int .i64 gq, .bool is, .int .i64 0]) (by simp [results, Tryz.results78, go_sem]) rfl ⟨g5, rfl, HO5.out.lower HS5.out, HL5.out, HK5.out⟩

/-- Step, whatever it answers -/
theorem step_any (B B' q mg l b pc c : Nat) (p : Option Addr) (L : List Ln) (xs hv : List Int) (hold : Bool) (w : World) (hl : LinAt w B l b L) (hm : Mem w B' q mg xs) (hlen : L.length ≤ 1048576) (hx6 : xs.length ≤ 65536) (hpc : pc ≤ 4294967295) (hn : hv.length ≤ 140737488355328) (hrow : Row w p hv) :
    Calls Tryz.prog 78 #[.pointer (some ⟨q, 0, none⟩), .pointer (some ⟨l, 0, none⟩), .int .u32 pc, .slice p hv.length c, .bool hold] w fun e w' => ∃ v, e = .returned (.tuple #[v, .int .i64 (stpR L xs pc hv hold).g, .bool (stpR L xs pc hv hold).is, .int .i64 (stpR L xs pc hv hold).e]) ∧ OwnV w' w.heap.size v (stpR L xs pc hv hold).out ∧ LinAt w' B l b (stpR L xs pc hv hold).L ∧ Keeps (fun j => j = b) w w' := by
  unfold stpR
  by_cases hd : doneB hv = true
  · rw [if_pos hd]
    refine (step_done B B' q mg l b pc c p L xs hv hold w hl hm hn hrow hd).mono ?_
    rintro e w' ⟨rfl, hb⟩
    exact ⟨_, rfl, OwnV.nil _ _, hl.below hb, Keeps.ofBelow hb⟩
  · rw [if_neg hd]
    have hd : doneB hv = false := by simpa using hd
    by_cases hx : xs.length ≤ pc + hv.length
    · rw [if_pos hx]
      refine (step_out B B' q mg l b pc c p L xs hv hold w hl hm hpc hn hrow hd hx).mono ?_
      rintro e w' ⟨rfl, hb⟩
      exact ⟨_, rfl, OwnV.nil _ _, hl.below hb, Keeps.ofBelow hb⟩
    · rw [if_neg hx]
      refine (step_ok B B' q mg l b pc c p L xs hv hold w hl hm hlen hx6 hpc hrow hd (by omega)).mono ?_
      rintro e w' ⟨g, rfl, ho, hl', hk⟩
      exact ⟨_, rfl, ho.val, hl', hk⟩

end Go.Proofs.YtnpaijbkhmnfpaaGreat

/- What a load or store is handed; what a store writes. -/
namespace Go.Proofs.YtnpaijbkhmnfpaaGreat
open Go.RowKit Go.Maps

set_option maxHeartbeats 800000 in
theorem hdata_no (q : Nat) (o a b n : Int) (w : World) (h1 : o ≠ 14) (h2 : o ≠ 15) :
    Calls Tryz.prog 82 #[.pointer (some ⟨q, 0, none⟩), ins o a b n] w fun e w' => e = .returned (.slice none 0 0) ∧ Below w.heap.size w w' := by
  have g1 : (o != 14) = true := by simpa using h1
  have g2 : (o != 15) = true := by simpa using h2
  go_enter Tryz.func82, Tryz.ntmps82
  go_wp2
  go_ret
  exact ⟨rfl, new_alloc w _⟩

set_option maxHeartbeats 1600000 in
theorem hdata_yes (q g B n : Nat) (o a b : Int) (xs : List Int) (w : World) (hm : Mem w B q g xs) (hl : xs.length ≤ 65536) (ho : o = 14 ∨ o = 15) (hn : n ≤ 2147483647) :
    Calls Tryz.prog 82 #[.pointer (some ⟨q, 0, none⟩), ins o a b n] w fun e w' => ∃ v, e = .returned v ∧ OwnV w' w.heap.size v ((xs.drop n).take 4) ∧ Below w.heap.size w w' := by
  have HN := Hid.in (new_alloc w (.cells #[.int .u8 o, .int .u8 a, .int .u8 b, .int .i32 n] 117))
  have hm1 := hm.below HN.out
  clear hm
  have e1 : (n : Int) % 18446744073709551616 = n := by omega
  have g12 : (o != 14) = true ∧ (o != 15) = false ∨ (o != 14) = false := by
    rcases ho with rfl | rfl
    · exact .inr rfl
    · exact .inl ⟨rfl, rfl⟩
  clear ho
  have HLn := len_any q g B xs _ hm1
  have hr4 : ∃ r : Nat, r = min 4 (xs.length - n) := ⟨_, rfl⟩
  obtain ⟨r, hr⟩ := hr4
  have hmx : max 0 ((xs.length : Int) - n) = ((xs.length - n : Nat) : Int) := by omega
  by_cases hin : n ≤ xs.length
  · have hR : Calls Tryz.prog 69 #[.pointer (some ⟨q, 0, none⟩), .int .i64 n, .int .i64 r] (w.alloc (.cells #[.int .u8 o, .int .u8 a, .int .u8 b, .int .i32 n] 117)) _ := read_ok q g B n r xs _ hm1 (by omega) hl
    have HE : Hid ((xs.drop n).take r = (xs.drop n).take 4) := by
      show _ = _
      by_cases h4 : 4 ≤ xs.length - n
      · rw [hr, Nat.min_eq_left h4]
      · rw [List.take_of_length_le (i := 4) (by rw [List.length_drop]; omega), List.take_of_length_le (by rw [List.length_drop]; omega)]
    have hmn : min 4 (max 0 ((xs.length : Int) - n)) = (r : Int) := by omega
    have HL4 : Hid (((xs.drop n).take 4).length = r) := by show _ = _; rw [List.length_take, List.length_drop]; omega
    clear hm1 hr hmx
    rcases g12 with ⟨g1, g2⟩ | g1
    all_goals
      go_enter Tryz.func82, Tryz.ntmps82
      go_upto_region 4 with fail
      generalize w.alloc (.cells #[.int .u8 o, .int .u8 a, .int .u8 b, .int .i32 n] 117) = w1 at *
      go_wp2_with (first
        | (go_at_call 110; (with_reducible refine HLn.mono ?_); rintro e w2 ⟨rfl, rfl⟩)
        | (go_at_call 69; refine Hid.out ?_))
      refine Lib.hid ?_
      (with_reducible refine hR.mono ?_)
      rintro e w3 ⟨k, rfl, ho3, hb3⟩
      have HO3 := Hid.in (ho3.lower HN.out.size)
      have HB3 := Hid.in (below_step HN.out hb3)
      clear ho3 hb3 hR HLn
      go_wp2_with fail
      go_ret
      refine ⟨_, rfl, ?_, HB3.out⟩
      have := HO3.out
      rw [HE.out] at this
      have := this.val
      rwa [HL4.out] at this
  · have hR : Calls Tryz.prog 69 #[.pointer (some ⟨q, 0, none⟩), .int .i64 n, .int .i64 0] (w.alloc (.cells #[.int .u8 o, .int .u8 a, .int .u8 b, .int .i32 n] 117)) _ := read_out q g B n 0 xs _ hm1 (by omega) (by omega) (by omega)
    have HE : Hid ((xs.drop n).take 4 = []) := by show _ = _; rw [List.drop_eq_nil_of_le (by omega)]; rfl
    have hmn : min 4 (max 0 ((xs.length : Int) - n)) = 0 := by omega
    clear hm1 hr hmx
    rcases g12 with ⟨g1, g2⟩ | g1
    all_goals
      go_enter Tryz.func82, Tryz.ntmps82
      go_upto_region 4 with fail
      generalize w.alloc (.cells #[.int .u8 o, .int .u8 a, .int .u8 b, .int .i32 n] 117) = w1 at *
      go_wp2_with (first
        | (go_at_call 110; (with_reducible refine HLn.mono ?_); rintro e w2 ⟨rfl, rfl⟩)
        | (go_at_call 69; refine Hid.out ?_))
      refine Lib.hid ?_
      (with_reducible refine hR.mono ?_)
      rintro e w3 ⟨rfl, rfl⟩
      clear hR HLn
      go_wp2_with fail
      go_ret
      refine ⟨_, rfl, ?_, HN.out⟩
      rw [HE.out]
      exact OwnV.nil _ _

theorem putL_four (v : Int) (hv : 0 ≤ v ∧ v ≤ 4294967295) : putL [0, 0, 0, 0] 0 v = le4 v := by
  have e : v % 4294967296 = v := by omega
  simp [putL, le4, e]
theorem le4_len (v : Int) : (le4 v).length = 4 := rfl
theorem le4_byt (v : Int) : Byt (le4 v) := fun i => by
  rcases (by omega : i = 0 ∨ i = 1 ∨ i = 2 ∨ i = 3 ∨ 4 ≤ i) with rfl | rfl | rfl | rfl | h
  · show 0 ≤ v % 4294967296 % 256 ∧ v % 4294967296 % 256 ≤ 255; omega
  · show 0 ≤ v % 4294967296 / 256 % 256 ∧ v % 4294967296 / 256 % 256 ≤ 255; omega
  · show 0 ≤ v % 4294967296 / 65536 % 256 ∧ v % 4294967296 / 65536 % 256 ≤ 255; omega
  · show 0 ≤ v % 4294967296 / 16777216 ∧ v % 4294967296 / 16777216 ≤ 255; omega
  · have e : (le4 v).getD i 0 = 0 := by simp only [List.getD, List.getElem?_eq_none (show (le4 v).length ≤ i from h), Option.getD_none]
    rw [e]; omega
set_option maxHeartbeats 1600000 in
theorem hput_any (q g B a : Nat) (v : Int) (xs : List Int) (w : World) (hm : Mem w B q g xs) (hl : xs.length ≤ 65536) (ha : a + 4 ≤ xs.length) (hv : 0 ≤ v ∧ v ≤ 4294967295) :
    Calls Tryz.prog 84 #[.pointer (some ⟨q, 0, none⟩), .int .u32 a, .int .u32 v] w fun e w' => e = .returned (.tuple #[]) ∧ Mem w' B q g (putA xs a (le4 v)) ∧ Keeps (fun j => j = g) w w' := by
  obtain ⟨i0, hi, hz0, hz1, hz2⟩ := info_parts Tryz.info5
  have HM := Hid.in hm
  clear hm
  have e1 : (a : Int) % 18446744073709551616 = a := by omega
  go_enter Tryz.func84, Tryz.ntmps84
  go_wp2_with (first
    | (at_make; refine wpList_make_full _ rfl _ _ 26 rfl _ 5 i0 (.int .u8 0) 1 Tryz.underlying26 hi hz0 hz1 _ _ _ _ 4 rfl rfl rfl rfl (by rw [hz2]; omega) (by unfold maxLen; omega) (Nat.le_refl _) ?_; intro w1 hown hgrow; have HB1 := Hid.in ((Below.refl w.heap.size w).grown hgrow (Nat.le_refl _) (by simp)); have HO1 : Hid (Own w1 w.heap.size w.heap.size 4 [0, 0, 0, 0]) := Own.of_made hown; clear hown hgrow)
    | (go_at_call 115; refine Hid.out ?_))
  refine Lib.hid ?_
  have hP := put32_ex (some ⟨w.heap.size, 0, none⟩) 4 4 0 v [0, 0, 0, 0] w1 rfl (by decide) HO1.out.row hv (by decide) (by decide)
  rw [show (0 : Int).toNat = 0 from rfl, putL_four v hv] at hP
  (with_reducible refine hP.mono ?_)
  rintro e w2 ⟨k, rfl, ho2, hb2⟩
  have HB2 := Hid.in (below_step HB1.out hb2)
  have hW := write_ok q g B a 4 (some ⟨k, 0, none⟩) xs (le4 v) w2 (HM.out.below HB2.out) ho2.row (by rw [le4_len]; exact ha) hl
  rw [le4_len] at hW
  clear hP ho2 hb2 HO1 HB1
  go_wp2_with (go_at_call 26; refine Hid.out ?_)
  refine Lib.hid ?_
  (with_reducible refine hW.mono ?_)
  rintro e w3 ⟨rfl, hm3, hk3⟩
  have HM3 := Hid.in hm3
  have HK3 := Hid.in ((Keeps.ofBelow HB2.out).trans' hk3)
  clear hW hm3 hk3
  go_wp2_with fail
  first | go_end0 | skip
  exact ⟨rfl, HM3.out, HK3.out⟩

end Go.Proofs.YtnpaijbkhmnfpaaGreat

/- exec.Do: how its variables lie when it begins. -/
namespace Go.Proofs.YtnpaijbkhmnfpaaGreat
open Go.RowKit

/-- how Do's variables lie when it begins -/
theorem DSt.start (w w0 : World) (o a b n : Int) (R S : List Int) (p : Option Addr) (s c : Nat) (lR : R.length = 8) (h0 : w0 = (((w.alloc (.cells #[.int .u8 o, .int .u8 a, .int .u8 b, .int .i32 n] 117)).alloc (.cells (rgA R (.slice p s c)) 47)).alloc (.cells noRegs 47)).alloc (.cells (efA 0) 134)) :
    (∀ w1 v, POwnV w1 (w.heap.size + 4) v S → Below w0.heap.size w0 w1 → DSt w w.heap.size o a b n R v S (w1.setCell ⟨w.heap.size + 1, 8, none⟩ v)) ∧ w0.heap.size = w.heap.size + 4 ∧ w0.cell? ⟨w.heap.size + 1, 8, none⟩ = some (.slice p s c) ∧ Below w.heap.size w w0 ∧ (∀ w1, Below w0.heap.size w0 w1 → Blk w1 (w.heap.size + 1) 47 (rgA R (.slice p s c))) := by
  have b1 : Blk (w.alloc (.cells #[.int .u8 o, .int .u8 a, .int .u8 b, .int .i32 n] 117)) w.heap.size 117 #[.int .u8 o, .int .u8 a, .int .u8 b, .int .i32 n] := Blk.new _ _ _
  have s1 := size_one w (.cells #[.int .u8 o, .int .u8 a, .int .u8 b, .int .i32 n] 117)
  have g1 := new_alloc w (.cells #[.int .u8 o, .int .u8 a, .int .u8 b, .int .i32 n] 117)
  generalize w.alloc (.cells #[.int .u8 o, .int .u8 a, .int .u8 b, .int .i32 n] 117) = W1 at *
  have b2 := Blk.new W1 47 (rgA R (.slice p s c))
  have s2 := size_one W1 (.cells (rgA R (.slice p s c)) 47)
  have g2 := new_alloc W1 (.cells (rgA R (.slice p s c)) 47)
  generalize W1.alloc (.cells (rgA R (.slice p s c)) 47) = W2 at *
  have b3 := Blk.new W2 47 noRegs
  have s3 := size_one W2 (.cells noRegs 47)
  have g3 := new_alloc W2 (.cells noRegs 47)
  generalize W2.alloc (.cells noRegs 47) = W3 at *
  have b4 := Blk.new W3 134 (efA 0)
  have s4 := size_one W3 (.cells (efA 0) 134)
  have g4 := new_alloc W3 (.cells (efA 0) 134)
  rw [← h0] at b4 s4 g4
  rw [s1] at b2
  rw [s2, s1] at b3
  rw [s3, s2, s1] at b4
  have e0 : w0.heap.size = w.heap.size + 4 := by omega
  have B1 := ((b1.grow g2).grow g3).grow g4
  have B2 := (b2.grow g3).grow g4
  have B3 := b3.grow g4
  have hb : Below w.heap.size w w0 := below_step (below_step (below_step g1 g2) g3) g4
  refine ⟨fun w1 v ho h1 => ?_, e0, by rw [B2.cell, rgA_last R _ lR], hb, fun w1 h1 => B2.grow h1⟩
  refine ⟨(B1.grow h1).other (by omega) _ _, ?_, (B3.grow h1).other (by omega) _ _, (b4.grow h1).other (by omega) _ _, ho.keptFar (grown_setCell _ _ _ _) (by omega), (below_step hb h1).grown (grown_setCell _ _ _ _) (by have := h1.size; omega) (fun k hk => by cases hk; omega), lR⟩
  have := (B2.grow h1).set 8 v
  rw [rgA_stack R _ _ lR] at this
  exact this

theorem spanN_right {o : Nat} {a b n : Int} (h : rightB o a b n = true) : spanN o a b n = lenN o := by simp [spanN, h]
theorem flt_right {o : Nat} {a b n : Int} {s d : Nat} (h : fltL o a b n s d = 0) : rightB o a b n = true := by
  cases hR : rightB o a b n
  · simp [fltL, hR] at h
  · rfl
theorem right_reg {o : Nat} {a b : Nat} {n : Int} (h : rightB o a b n = true) : a < 8 ∧ b < 8 := by
  obtain ⟨_, h1, h2, _⟩ := rightB_parts h
  simp only [regB] at h1 h2
  split at h1 <;> split at h2 <;> simp at h1 h2 <;> omega

end Go.Proofs.YtnpaijbkhmnfpaaGreat

/- exec.Do, for every instruction that is done. -/
namespace Go.Proofs.YtnpaijbkhmnfpaaGreat
open Go.RowKit

set_option maxHeartbeats 40000000 in
set_option maxRecDepth 8000 in
theorem do_okA (o a b : Nat) (n pc : Int) (R S D : List Int) (p q : Option Addr) (s c d dc : Nat) (w : World) (ho : o ≤ 255) (ha : a ≤ 255) (hb : b ≤ 255) (_hpc : 0 ≤ pc ∧ pc ≤ 4294967295) (_hn : -2147483648 ≤ n ∧ n ≤ 2147483647)
    (lR : R.length = 8) (hS : S.length = s) (hs : s * 4 ≤ 140737488355324) (hD : D.length = d) (hd : d ≤ 140737488355328) (hr : PRow w p S) (hrd : Row w q D) (hbd : Byt D)
    (hf : fltL o a b n s d = 0) (hset : o = 1 ∨ o = 2 ∨ o = 3 ∨ o = 5 ∨ o = 6) :
    Calls Tryz.prog 71 #[ins o a b n, .int .u32 pc, rgV R (.slice p s c), .slice q d dc] w fun e w' => (∃ v, e = .returned (.tuple #[rgV (doR o a b n R D) v, .agg (effA (doE o a n pc R S))]) ∧ POwnV w' w.heap.size v (doS o pc S)) ∧ Below w.heap.size w w' := by
  have HSET := Hid.in hset
  clear hset
  have hR := flt_right hf
  obtain ⟨ha8, hb8⟩ := right_reg hR
  have ho17 := (rightB_parts hR).1
  have h13 := fun W => span_any o a b n W ho (by omega) (by omega)
  rw [spanN_right hR] at h13
  have h20 := fun W v c => fault_any o a b n v q s c d dc W ho (by omega) (by omega) (by omega) (by omega)
  rw [hf] at h20
  have h19 := fun W (h : PRow W p S) => xcopied_any p s c S W hS (by omega) h
  have hlen := lenN_in o ho17.1 ho17.2
  have HRW : Hid (∀ W, Below w.heap.size w W → PRow W p S) := fun W h => hr.below h
  have HRD : Hid (∀ W, Below w.heap.size w W → Row W q D) := fun W h => hrd.below h
  have HS := Hid.in hS
  have HD := Hid.in hD
  have HBY := Hid.in hbd
  clear hr hrd hS hD hbd
  show Calls Tryz.prog 71 #[ins o a b n, .int .u32 pc, .agg (rgA R (.slice p s c)), .slice q d dc] w _
  go_enter Tryz.func71, Tryz.ntmps71
  go_upto_region 1 with fail
  obtain ⟨hst, hsz, hc8, hb0, hbr⟩ := DSt.start w _ o a b n R S p s c lR rfl
  generalize (((w.alloc (.cells #[.int .u8 o, .int .u8 a, .int .u8 b, .int .i32 n] 117)).alloc (.cells (rgA R (.slice p s c)) 47)).alloc (.cells noRegs 47)).alloc (.cells (efA 0) 134) = w0 at *
  have h19' := h19 w0 (HRW.out _ hb0)
  clear h19 HRW
  go_wp2_with (go_at_call 101; refine Hid.out ?_)
  refine Lib.hid ?_
  refine h19'.mono ?_
  rintro e w1 ⟨g, rfl, ho1, hb1⟩
  have hB1 := hbr w1 hb1
  have HG : Hid (w.heap.size + 4 ≤ g) := by have := ho1.base; rw [hsz] at this; exact this
  have HST := Hid.in (hst w1 _ (by rw [← hsz]; exact ho1.val) hb1)
  rw [HS.out] at HST
  have c8 : w1.cell? ⟨w.heap.size + 1, 8, none⟩ = some (.slice p s c) := by rw [hB1.cell, rgA_last R _ lR]
  have f8 : w1.frozen? ⟨w.heap.size + 1, 8, none⟩ = false := hB1.free 8
  clear hst hbr hB1 hb1 ho1 h19' hc8 hb0
  go_upto_region 2 with fail
  generalize w1.setCell ⟨w.heap.size + 1, 8, none⟩ (.slice (some ⟨g, 0, none⟩) s s) = w2 at *
  clear c8 f8
  have i0 : w2.cell? ⟨w.heap.size, 0, none⟩ = some (.int .u8 o) := HST.out.bi.cell 0
  have i1 : w2.cell? ⟨w.heap.size, 1, none⟩ = some (.int .u8 a) := HST.out.bi.cell 1
  have i2 : w2.cell? ⟨w.heap.size, 2, none⟩ = some (.int .u8 b) := HST.out.bi.cell 2
  have i3 : w2.cell? ⟨w.heap.size, 3, none⟩ = some (.int .i32 n) := HST.out.bi.cell 3
  have r8 : w2.cell? ⟨w.heap.size + 1, 8, none⟩ = some (.slice (some ⟨g, 0, none⟩) s s) := by rw [HST.out.br.cell, rgA_last R _ lR]
  have h20' := h20 w2 (some ⟨g, 0, none⟩) s
  clear h20
  go_wp2_with (go_at_call 102; refine Hid.out ?_)
  refine Lib.hid ?_
  refine h20'.mono ?_
  rintro e w3 ⟨rfl, hb3⟩
  have HST3 := Hid.in (HST.out.below hb3)
  clear h20' hb3 HST i0 i1 i2 i3 r8
  have i0 : w3.cell? ⟨w.heap.size, 0, none⟩ = some (.int .u8 o) := HST3.out.bi.cell 0
  have i1 : w3.cell? ⟨w.heap.size, 1, none⟩ = some (.int .u8 a) := HST3.out.bi.cell 1
  have i2 : w3.cell? ⟨w.heap.size, 2, none⟩ = some (.int .u8 b) := HST3.out.bi.cell 2
  have i3 : w3.cell? ⟨w.heap.size, 3, none⟩ = some (.int .i32 n) := HST3.out.bi.cell 3
  have h13' := h13 w3
  clear h13
  go_wp2_with (go_at_call 103; refine Hid.out ?_)
  refine Lib.hid ?_
  refine h13'.mono ?_
  rintro e w4 ⟨rfl, hb4⟩
  have HST4 := Hid.in (HST3.out.below hb4)
  clear h13' hb4 HST3 i0 i1 i2 i3
  have i3 : w4.cell? ⟨w.heap.size, 3, none⟩ = some (.int .i32 n) := HST4.out.bi.cell 3
  go_upto_region 8 with fail
  have HX5 := Hid.in (HST4.out.withE g s s (.cells (efA ((pc + (lenN o : Int)) % 4294967296)) 134) rfl)
  have HBH : Hid (behL o pc = (pc + (lenN o : Int)) % 4294967296) := rfl
  have HWY : Hid (wayL o n pc = ((pc + (lenN o : Int)) % 4294967296 + n % 4294967296) % 4294967296) := rfl
  generalize (pc + (lenN o : Int)) % 4294967296 = bh at *
  generalize (bh + n % 4294967296) % 4294967296 = wy at *
  generalize w4.alloc (.cells (efA bh) 134) = w5 at *
  generalize w4.heap.size = gx at *
  have HX : Hid (DSx w w.heap.size o a b n R (.slice (some ⟨g, 0, none⟩) s s) S gx (efA bh) w5) := HX5.out
  clear HX5 HST4 i3 hlen
  obtain ⟨x, HRA⟩ : ∃ x, Hid (R.getD a 0 = x) := ⟨_, rfl⟩
  obtain ⟨y, HRB⟩ : ∃ y, Hid (R.getD b 0 = y) := ⟨_, rfl⟩
  have ra : w5.cell? ⟨w.heap.size + 1, a, none⟩ = some (.int .u32 x) := by rw [← HRA.out]; exact HX.out.reg ha8
  have rb : w5.cell? ⟨w.heap.size + 1, b, none⟩ = some (.int .u32 y) := by rw [← HRB.out]; exact HX.out.reg hb8
  have fr : ∀ i, w5.frozen? ⟨w.heap.size + 1, i, none⟩ = false := fun i => HX.out.st.br.free i
  have fx : ∀ i, w5.frozen? ⟨gx, i, none⟩ = false := fun i => HX.out.bx.free i
  have i0 : w5.cell? ⟨w.heap.size, 0, none⟩ = some (.int .u8 o) := HX.out.st.bi.cell 0
  have i1 : w5.cell? ⟨w.heap.size, 1, none⟩ = some (.int .u8 a) := HX.out.st.bi.cell 1
  have i2 : w5.cell? ⟨w.heap.size, 2, none⟩ = some (.int .u8 b) := HX.out.st.bi.cell 2
  have i3 : w5.cell? ⟨w.heap.size, 3, none⟩ = some (.int .i32 n) := HX.out.st.bi.cell 3
  have hgx : w.heap.size + 4 ≤ gx := HX.out.ge
  go_upto_block 0 with fail
  go_cut [14] from 42 to 168 (fun _ wx => ∃ v', DSx w w.heap.size o a b n (doR o a b n R D) v' (doS o pc S) gx (effA (doE o a n pc R S)) wx)
  case first =>
    rcases HSET.out with rfl | rfl | rfl | rfl | rfl
    ·   have e1 : w5.cell? ⟨gx, 1, none⟩ = some (.bool false) := HX.out.bx.cell 1
        go_wp2_with fail
        go_meet
        case rel => exact ⟨_, (HX.out.setE 1 _).to (by simp [doR]) (by simp [doS]) (by simp [doE, effA, goE, HBH.out])⟩
    ·   go_wp2_with fail
        go_meet
        case rel => exact ⟨_, HX.out.to (by simp [doR]) (by simp [doS]) (by simp [doE, effA, goE, HBH.out])⟩
    ·   go_wp2_with fail
        go_meet
        case rel => exact ⟨_, HX.out.to (by simp [doR]) (by simp [doS]) (by simp [doE, effA, goE, HBH.out])⟩
    ·   go_wp2_with fail
        go_meet
        case rel => exact ⟨_, (HX.out.setR a ha8 _).to (by simp [doR]) (by simp [doS]) (by simp [doE, effA, goE, HBH.out])⟩
    ·   go_wp2_with fail
        go_region
        all_goals
          go_wp2_with fail
          go_meet
          case rel => exact ⟨_, ((HX.out.drewN 1).setR a ha8 _).to (by rw [← HRB.out]; simp [doR]) (by simp [doS]) (by simp [doE, effA, goE, HBH.out])⟩
  case rest =>
    obtain ⟨v', hx⟩ := hcut
    clear ra rb fr fx i0 i1 i2 i3 HX HRA HRB
    obtain ⟨r0, r1, r2, r3, r4, r5, r6, r7, hR8⟩ := eight hx.st.len
    obtain ⟨⟨e0, e1, e2, e3, e4, e5, e6⟩, hE⟩ : ∃ E, doE o a n pc R S = E := ⟨_, rfl⟩
    obtain ⟨p1, c1, hv, -, -⟩ := hx.st.ow.slice
    subst hv
    have HRR := Hid.in hR8
    have HEE := Hid.in hE
    have HXX := Hid.in hx
    rw [hR8, hE] at HXX
    clear hx hR8 hE
    generalize (doS o pc S).length = n1 at *
    have B1 : Hid (Blk wc (w.heap.size + 1) 47 #[.int .u32 r0, .int .u32 r1, .int .u32 r2, .int .u32 r3, .int .u32 r4, .int .u32 r5, .int .u32 r6, .int .u32 r7, .slice p1 n1 c1]) := HXX.out.st.br
    have BE : Hid (Blk wc gx 134 #[.int .u32 e0, .bool e1, .int .i64 e2, .bool e3, .bool e4, .int .u32 e5, .int .u32 e6]) := HXX.out.bx
    have B8 := Hid.in HXX.out.st.b8
    have B9 := Hid.in HXX.out.st.b9
    have a0 : wc.cell? ⟨w.heap.size + 1, 0, none⟩ = some (.int .u32 r0) := B1.out.cell 0
    have a1 : wc.cell? ⟨w.heap.size + 1, 1, none⟩ = some (.int .u32 r1) := B1.out.cell 1
    have a2 : wc.cell? ⟨w.heap.size + 1, 2, none⟩ = some (.int .u32 r2) := B1.out.cell 2
    have a3 : wc.cell? ⟨w.heap.size + 1, 3, none⟩ = some (.int .u32 r3) := B1.out.cell 3
    have a4 : wc.cell? ⟨w.heap.size + 1, 4, none⟩ = some (.int .u32 r4) := B1.out.cell 4
    have a5 : wc.cell? ⟨w.heap.size + 1, 5, none⟩ = some (.int .u32 r5) := B1.out.cell 5
    have a6 : wc.cell? ⟨w.heap.size + 1, 6, none⟩ = some (.int .u32 r6) := B1.out.cell 6
    have a7 : wc.cell? ⟨w.heap.size + 1, 7, none⟩ = some (.int .u32 r7) := B1.out.cell 7
    have a8 : wc.cell? ⟨w.heap.size + 1, 8, none⟩ = some (.slice p1 n1 c1) := B1.out.cell 8
    have x0 : wc.cell? ⟨gx, 0, none⟩ = some (.int .u32 e0) := BE.out.cell 0
    have x1 : wc.cell? ⟨gx, 1, none⟩ = some (.bool e1) := BE.out.cell 1
    have x2 : wc.cell? ⟨gx, 2, none⟩ = some (.int .i64 e2) := BE.out.cell 2
    have x3 : wc.cell? ⟨gx, 3, none⟩ = some (.bool e3) := BE.out.cell 3
    have x4 : wc.cell? ⟨gx, 4, none⟩ = some (.bool e4) := BE.out.cell 4
    have x5 : wc.cell? ⟨gx, 5, none⟩ = some (.int .u32 e5) := BE.out.cell 5
    have x6 : wc.cell? ⟨gx, 6, none⟩ = some (.int .u32 e6) := BE.out.cell 6
    have y0 : wc.cell? ⟨w.heap.size + 1 + 1, 0, none⟩ = some (.int .u32 0) := B8.out.cell 0
    have y1 : wc.cell? ⟨w.heap.size + 1 + 1, 1, none⟩ = some (.int .u32 0) := B8.out.cell 1
    have y2 : wc.cell? ⟨w.heap.size + 1 + 1, 2, none⟩ = some (.int .u32 0) := B8.out.cell 2
    have y3 : wc.cell? ⟨w.heap.size + 1 + 1, 3, none⟩ = some (.int .u32 0) := B8.out.cell 3
    have y4 : wc.cell? ⟨w.heap.size + 1 + 1, 4, none⟩ = some (.int .u32 0) := B8.out.cell 4
    have y5 : wc.cell? ⟨w.heap.size + 1 + 1, 5, none⟩ = some (.int .u32 0) := B8.out.cell 5
    have y6 : wc.cell? ⟨w.heap.size + 1 + 1, 6, none⟩ = some (.int .u32 0) := B8.out.cell 6
    have y7 : wc.cell? ⟨w.heap.size + 1 + 1, 7, none⟩ = some (.int .u32 0) := B8.out.cell 7
    have y8 : wc.cell? ⟨w.heap.size + 1 + 1, 8, none⟩ = some (.slice none 0 0) := B8.out.cell 8
    have z0 : wc.cell? ⟨w.heap.size + 1 + 1 + 1, 0, none⟩ = some (.int .u32 0) := B9.out.cell 0
    have z1 : wc.cell? ⟨w.heap.size + 1 + 1 + 1, 1, none⟩ = some (.bool false) := B9.out.cell 1
    have z2 : wc.cell? ⟨w.heap.size + 1 + 1 + 1, 2, none⟩ = some (.int .i64 0) := B9.out.cell 2
    have z3 : wc.cell? ⟨w.heap.size + 1 + 1 + 1, 3, none⟩ = some (.bool false) := B9.out.cell 3
    have z4 : wc.cell? ⟨w.heap.size + 1 + 1 + 1, 4, none⟩ = some (.bool false) := B9.out.cell 4
    have z5 : wc.cell? ⟨w.heap.size + 1 + 1 + 1, 5, none⟩ = some (.int .u32 0) := B9.out.cell 5
    have z6 : wc.cell? ⟨w.heap.size + 1 + 1 + 1, 6, none⟩ = some (.int .u32 0) := B9.out.cell 6
    have f8 : ∀ i, wc.frozen? ⟨w.heap.size + 1 + 1, i, none⟩ = false := fun i => B8.out.free i
    have f9 : ∀ i, wc.frozen? ⟨w.heap.size + 1 + 1 + 1, i, none⟩ = false := fun i => B9.out.free i
    go_upto_region 38 with fail
    go_region
    have HD : Hid (Blk ((((((((((((((((wc.setCell ⟨w.heap.size + 1 + 1, 0, none⟩ (.int .u32 r0)).setCell ⟨w.heap.size + 1 + 1, 1, none⟩ (.int .u32 r1)).setCell ⟨w.heap.size + 1 + 1, 2, none⟩ (.int .u32 r2)).setCell ⟨w.heap.size + 1 + 1, 3, none⟩ (.int .u32 r3)).setCell ⟨w.heap.size + 1 + 1, 4, none⟩ (.int .u32 r4)).setCell ⟨w.heap.size + 1 + 1, 5, none⟩ (.int .u32 r5)).setCell ⟨w.heap.size + 1 + 1, 6, none⟩ (.int .u32 r6)).setCell ⟨w.heap.size + 1 + 1, 7, none⟩ (.int .u32 r7)).setCell ⟨w.heap.size + 1 + 1, 8, none⟩ (.slice p1 n1 c1)).setCell ⟨w.heap.size + 1 + 1 + 1, 0, none⟩ (.int .u32 e0)).setCell ⟨w.heap.size + 1 + 1 + 1, 1, none⟩ (.bool e1)).setCell ⟨w.heap.size + 1 + 1 + 1, 2, none⟩ (.int .i64 e2)).setCell ⟨w.heap.size + 1 + 1 + 1, 3, none⟩ (.bool e3)).setCell ⟨w.heap.size + 1 + 1 + 1, 4, none⟩ (.bool e4)).setCell ⟨w.heap.size + 1 + 1 + 1, 5, none⟩ (.int .u32 e5)).setCell ⟨w.heap.size + 1 + 1 + 1, 6, none⟩ (.int .u32 e6)).drew (w.heap.size + 1 + 1) 47 #[.int .u32 r0, .int .u32 r1, .int .u32 r2, .int .u32 r3, .int .u32 r4, .int .u32 r5, .int .u32 r6, .int .u32 r7, .slice p1 n1 c1] ∧ Blk ((((((((((((((((wc.setCell ⟨w.heap.size + 1 + 1, 0, none⟩ (.int .u32 r0)).setCell ⟨w.heap.size + 1 + 1, 1, none⟩ (.int .u32 r1)).setCell ⟨w.heap.size + 1 + 1, 2, none⟩ (.int .u32 r2)).setCell ⟨w.heap.size + 1 + 1, 3, none⟩ (.int .u32 r3)).setCell ⟨w.heap.size + 1 + 1, 4, none⟩ (.int .u32 r4)).setCell ⟨w.heap.size + 1 + 1, 5, none⟩ (.int .u32 r5)).setCell ⟨w.heap.size + 1 + 1, 6, none⟩ (.int .u32 r6)).setCell ⟨w.heap.size + 1 + 1, 7, none⟩ (.int .u32 r7)).setCell ⟨w.heap.size + 1 + 1, 8, none⟩ (.slice p1 n1 c1)).setCell ⟨w.heap.size + 1 + 1 + 1, 0, none⟩ (.int .u32 e0)).setCell ⟨w.heap.size + 1 + 1 + 1, 1, none⟩ (.bool e1)).setCell ⟨w.heap.size + 1 + 1 + 1, 2, none⟩ (.int .i64 e2)).setCell ⟨w.heap.size + 1 + 1 + 1, 3, none⟩ (.bool e3)).setCell ⟨w.heap.size + 1 + 1 + 1, 4, none⟩ (.bool e4)).setCell ⟨w.heap.size + 1 + 1 + 1, 5, none⟩ (.int .u32 e5)).setCell ⟨w.heap.size + 1 + 1 + 1, 6, none⟩ (.int .u32 e6)).drew (w.heap.size + 1 + 1 + 1) 134 #[.int .u32 e0, .bool e1, .int .i64 e2, .bool e3, .bool e4, .int .u32 e5, .int .u32 e6] ∧ POwnV ((((((((((((((((wc.setCell ⟨w.heap.size + 1 + 1, 0, none⟩ (.int .u32 r0)).setCell ⟨w.heap.size + 1 + 1, 1, none⟩ (.int .u32 r1)).setCell ⟨w.heap.size + 1 + 1, 2, none⟩ (.int .u32 r2)).setCell ⟨w.heap.size + 1 + 1, 3, none⟩ (.int .u32 r3)).setCell ⟨w.heap.size + 1 + 1, 4, none⟩ (.int .u32 r4)).setCell ⟨w.heap.size + 1 + 1, 5, none⟩ (.int .u32 r5)).setCell ⟨w.heap.size + 1 + 1, 6, none⟩ (.int .u32 r6)).setCell ⟨w.heap.size + 1 + 1, 7, none⟩ (.int .u32 r7)).setCell ⟨w.heap.size + 1 + 1, 8, none⟩ (.slice p1 n1 c1)).setCell ⟨w.heap.size + 1 + 1 + 1, 0, none⟩ (.int .u32 e0)).setCell ⟨w.heap.size + 1 + 1 + 1, 1, none⟩ (.bool e1)).setCell ⟨w.heap.size + 1 + 1 + 1, 2, none⟩ (.int .i64 e2)).setCell ⟨w.heap.size + 1 + 1 + 1, 3, none⟩ (.bool e3)).setCell ⟨w.heap.size + 1 + 1 + 1, 4, none⟩ (.bool e4)).setCell ⟨w.heap.size + 1 + 1 + 1, 5, none⟩ (.int .u32 e5)).setCell ⟨w.heap.size + 1 + 1 + 1, 6, none⟩ (.int .u32 e6)).drew w.heap.size (.slice p1 n1 c1) (doS o pc S) ∧ Below w.heap.size w ((((((((((((((((wc.setCell ⟨w.heap.size + 1 + 1, 0, none⟩ (.int .u32 r0)).setCell ⟨w.heap.size + 1 + 1, 1, none⟩ (.int .u32 r1)).setCell ⟨w.heap.size + 1 + 1, 2, none⟩ (.int .u32 r2)).setCell ⟨w.heap.size + 1 + 1, 3, none⟩ (.int .u32 r3)).setCell ⟨w.heap.size + 1 + 1, 4, none⟩ (.int .u32 r4)).setCell ⟨w.heap.size + 1 + 1, 5, none⟩ (.int .u32 r5)).setCell ⟨w.heap.size + 1 + 1, 6, none⟩ (.int .u32 r6)).setCell ⟨w.heap.size + 1 + 1, 7, none⟩ (.int .u32 r7)).setCell ⟨w.heap.size + 1 + 1, 8, none⟩ (.slice p1 n1 c1)).setCell ⟨w.heap.size + 1 + 1 + 1, 0, none⟩ (.int .u32 e0)).setCell ⟨w.heap.size + 1 + 1 + 1, 1, none⟩ (.bool e1)).setCell ⟨w.heap.size + 1 + 1 + 1, 2, none⟩ (.int .i64 e2)).setCell ⟨w.heap.size + 1 + 1 + 1, 3, none⟩ (.bool e3)).setCell ⟨w.heap.size + 1 + 1 + 1, 4, none⟩ (.bool e4)).setCell ⟨w.heap.size + 1 + 1 + 1, 5, none⟩ (.int .u32 e5)).setCell ⟨w.heap.size + 1 + 1 + 1, 6, none⟩ (.int .u32 e6)).drew) := HXX.out.stored #[.int .u32 r0, .int .u32 r1, .int .u32 r2, .int .u32 r3, .int .u32 r4, .int .u32 r5, .int .u32 r6, .int .u32 r7, .slice p1 n1 c1] #[.int .u32 e0, .bool e1, .int .i64 e2, .bool e3, .bool e4, .int .u32 e5, .int .u32 e6] rfl rfl
    generalize ((((((((((((((((wc.setCell ⟨w.heap.size + 1 + 1, 0, none⟩ (.int .u32 r0)).setCell ⟨w.heap.size + 1 + 1, 1, none⟩ (.int .u32 r1)).setCell ⟨w.heap.size + 1 + 1, 2, none⟩ (.int .u32 r2)).setCell ⟨w.heap.size + 1 + 1, 3, none⟩ (.int .u32 r3)).setCell ⟨w.heap.size + 1 + 1, 4, none⟩ (.int .u32 r4)).setCell ⟨w.heap.size + 1 + 1, 5, none⟩ (.int .u32 r5)).setCell ⟨w.heap.size + 1 + 1, 6, none⟩ (.int .u32 r6)).setCell ⟨w.heap.size + 1 + 1, 7, none⟩ (.int .u32 r7)).setCell ⟨w.heap.size + 1 + 1, 8, none⟩ (.slice p1 n1 c1)).setCell ⟨w.heap.size + 1 + 1 + 1, 0, none⟩ (.int .u32 e0)).setCell ⟨w.heap.size + 1 + 1 + 1, 1, none⟩ (.bool e1)).setCell ⟨w.heap.size + 1 + 1 + 1, 2, none⟩ (.int .i64 e2)).setCell ⟨w.heap.size + 1 + 1 + 1, 3, none⟩ (.bool e3)).setCell ⟨w.heap.size + 1 + 1 + 1, 4, none⟩ (.bool e4)).setCell ⟨w.heap.size + 1 + 1 + 1, 5, none⟩ (.int .u32 e5)).setCell ⟨w.heap.size + 1 + 1 + 1, 6, none⟩ (.int .u32 e6)).drew = wd at *
    obtain ⟨d1, d2, d3, d4⟩ := HD.out
    clear a0 a1 a2 a3 a4 a5 a6 a7 a8 x0 x1 x2 x3 x4 x5 x6 y0 y1 y2 y3 y4 y5 y6 y7 y8 z0 z1 z2 z3 z4 z5 z6 f8 f9 HD
    go_wp2_with fail
    have l1 := d1.load 47 _ Tryz.underlying47 rfl Tryz.sz47
    have l2 := d2.load 134 _ Tryz.underlying134 rfl Tryz.sz134
    refine bodyPost_ret (v := .tuple #[.agg #[.int .u32 r0, .int .u32 r1, .int .u32 r2, .int .u32 r3, .int .u32 r4, .int .u32 r5, .int .u32 r6, .int .u32 r7, .slice p1 n1 c1], .agg #[.int .u32 e0, .bool e1, .int .i64 e2, .bool e3, .bool e4, .int .u32 e5, .int .u32 e6]]) (by simp [results, Tryz.results71, asAddr, l1, l2]) rfl ⟨⟨_, ?_, d3⟩, d4⟩
    rw [HRR.out, HEE.out]
    rfl

end Go.Proofs.YtnpaijbkhmnfpaaGreat
