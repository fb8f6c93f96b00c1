/- fetch.Step: what it answers, for every memory and lines that calls have made. -/
import Derived.Test.YteeeedphhaphpaaFetB
namespace Go.Proofs.Yteeeedphhaphpaa
open Go.RowKit Go.Maps

set_option maxHeartbeats 400000 in
theorem len_any (q g B : Nat) (xs : List Int) (w : World) (hm : Mem w B q g xs) :
    Calls Try.prog 30 #[.pointer (some ⟨q, 0, none⟩)] w fun e w' => e = .returned (.int .i64 xs.length) ∧ w' = w := by
  have hc := none_no q w hm.c0
  have h1 := hm.c1
  clear hm
  go_enter Try.func30, Try.ntmps30
  go_wp2_with (go_at_call 39; refine hc.mono ?_; rintro e w1 ⟨rfl, rfl⟩)
  go_ret
  exact ⟨rfl, rfl⟩

set_option maxHeartbeats 400000 in
theorem bytes_any (q g B : Nat) (xs : List Int) (w : World) (hm : Mem w B q g xs) (hn : xs.length ≤ 65536) :
    Calls Try.prog 22 #[.pointer (some ⟨q, 0, none⟩)] w fun e w' => ∃ h, e = .returned (.slice (some ⟨h, 0, none⟩) xs.length xs.length) ∧ Own w' w.heap.size h xs.length xs ∧ Below w.heap.size w w' := by
  have hc := none_no q w hm.c0
  have h1 := hm.c1
  have hcon := copied_any (some ⟨g, 0, none⟩) xs.length xs.length xs w rfl (by omega) hm.own.row
  clear hm
  go_enter Try.func22, Try.ntmps22
  go_wp2_with (first | (go_at_call 39; refine hc.mono ?_; rintro e w1 ⟨rfl, rfl⟩) | (go_at_call 33; refine hcon.mono ?_; rintro e w1 ⟨h, rfl, ho, hb⟩; clear hcon; have HO := Hid.in ho; have HB := Hid.in hb; clear ho hb))
  go_ret
  exact ⟨h, rfl, HO.out, HB.out⟩

/-- a row of bytes stays while lines are written to -/
theorem Row.lines {w w' : World} {p : Option Addr} {xs : List Int} {b : Nat} (h : Row w p xs) (hb : ∃ es c, w.heap[b]? = some (.map es c)) (hk : Keeps (fun j => j = b) w w') : Row w' p xs := fun h0 => by
  obtain ⟨g, o, rfl, hc⟩ := h h0
  obtain ⟨es, c, e⟩ := hb
  have hg : g ≠ b := fun e1 => by
    have := hc 0 h0
    rw [e1] at this
    simp [World.cell?, e] at this
  refine ⟨g, o, rfl, fun i hi => ?_⟩
  have h1 := hc i hi
  have h2 := hk.block g (cell_lt h1) hg
  unfold World.cell? at h1 ⊢
  dsimp only at h1 ⊢
  rw [h2]; exact h1

/-- Take, of a granule of memory -/
theorem take_lin (B B' q mg l b g : Nat) (L : List Ln) (xs : List Int) (hold : Bool) (w : World) (hl : LinAt w B l b L) (hm : Mem w B' q mg xs) (hlen : L.length ≤ 1048576) (hg : g < 16384) :
    Calls Try.prog 31 #[.pointer (some ⟨l, 0, none⟩), .pointer (some ⟨q, 0, none⟩), .int .i64 g, .bool hold] w fun e w' => e = .returned (.tuple #[fV (takR L xs g hold).f, .bool (takR L xs g hold).is, .int .i64 0]) ∧ LinAt w' B l b (takR L xs g hold).L ∧ Keeps (fun j => j = b) w w' := by
  have hgW : i64W (g : Int) := by unfold i64W; omega
  rcases takR_cases L g hold with ⟨f, hf, rfl⟩ | hno
  · rw [takR_held hf]
    refine (take_held _ l b L _ _ 0 g f w hl hgW hf (by decide) (gran_is hm (k := g) hg)).mono ?_
    rintro e w' ⟨rfl, hb⟩
    exact ⟨rfl, hl.below hb, Keeps.ofBelow hb⟩
  · rw [takR_in hno (by omega)]
    refine (take_new _ l b L _ (granF xs g) g hold w hl hlen hgW hno (gran_is hm (k := g) hg)).mono ?_
    rintro e w' ⟨rfl, hl', hk⟩
    exact ⟨rfl, hl', hk⟩
/-- there: yes -/
theorem there_yes (B B' q mg l b : Nat) (L : List Ln) (xs : List Int) (w : World) (hl : LinAt w B l b L) (hm : Mem w B' q mg xs) :
    Calls Try.prog 28 #[.pointer (some ⟨q, 0, none⟩), .pointer (some ⟨l, 0, none⟩)] w fun E w' => E = .returned (.bool true) ∧ Below w.heap.size w w' :=
  there_of _ _ zF false 2 w (take_err _ l b L _ zF 2 (-1) false w hl (by unfold i64W; omega) (by simp) (by decide) (by decide) (gran_is_bad hm (.inl (by omega))))

theorem Keeps.trans' {G : Nat → Prop} {a b c : World} (h : Keeps G a b) (k : Keeps G b c) : Keeps G a c :=
  ⟨k.os.trans h.os, k.tape.trans h.tape, k.output.trans h.output, Nat.le_trans h.size k.size, fun j hj hG => (k.block j (Nat.lt_of_lt_of_le hj h.size) hG).trans (h.block j hj hG)⟩

set_option maxHeartbeats 1000000 in
theorem step_done (B B' q mg l b pc c : Nat) (p : Option Addr) (L : List Ln) (xs hv : List Int) (hold : Bool) (w : World) (hl : LinAt w B l b L) (hm : Mem w B' q mg xs) (hn : hv.length ≤ 140737488355328) (hrow : Row w p hv) (hd : doneB hv = true) :
    Calls Try.prog 9 #[.pointer (some ⟨q, 0, none⟩), .pointer (some ⟨l, 0, none⟩), .int .u32 pc, .slice p hv.length c, .bool hold] w fun e w' => e = .returned (.tuple #[.slice none 0 0, .int .i64 0, .bool false, .int .i64 2]) ∧ Below w.heap.size w w' := by
  have ht := there_yes B B' q mg l b L xs w hl hm
  have h13 := fun W (hW : Below w.heap.size w W) => done_any p hv.length c hv W rfl hn (hrow.below hW)
  rw [hd] at h13
  clear hl hm hrow hd
  go_enter Try.func9, Try.ntmps9
  go_wp2_with (go_at_call 28; refine Hid.out ?_)
  refine Lib.hid ?_
  refine ht.mono ?_
  rintro e w1 ⟨rfl, hb1⟩
  go_wp2_with (go_at_call 13; refine Hid.out ?_)
  refine Lib.hid ?_
  refine (h13 _ hb1).mono ?_
  rintro e w2 ⟨rfl, hb2⟩
  have HB := Hid.in (below_step hb1 hb2)
  clear hb1 hb2 ht h13
  go_wp2_with fail
  refine bodyPost_ret (v := .tuple #[.slice none 0 0, .int .i64 0, .bool false, .int .i64 2]) (by simp [results, Try.results9, go_sem]) rfl ⟨rfl, HB.out⟩

set_option maxHeartbeats 1000000 in
theorem step_out (B B' q mg l b pc c : Nat) (p : Option Addr) (L : List Ln) (xs hv : List Int) (hold : Bool) (w : World) (hl : LinAt w B l b L) (hm : Mem w B' q mg xs) (hpc : pc ≤ 4294967295) (hn : hv.length ≤ 140737488355328) (hrow : Row w p hv) (hd : doneB hv = false) (hx : xs.length ≤ pc + hv.length) :
    Calls Try.prog 9 #[.pointer (some ⟨q, 0, none⟩), .pointer (some ⟨l, 0, none⟩), .int .u32 pc, .slice p hv.length c, .bool hold] w fun e w' => e = .returned (.tuple #[.slice none 0 0, .int .i64 0, .bool false, .int .i64 210]) ∧ Below w.heap.size w w' := by
  have ht := there_yes B B' q mg l b L xs w hl hm
  have h13 := fun W (hW : Below w.heap.size w W) => done_any p hv.length c hv W rfl hn (hrow.below hW)
  rw [hd] at h13
  have h29 := fun W => place_any pc p hv.length c W (by omega) (by omega) hn
  have h30 := fun W (hW : Below w.heap.size w W) => len_any q mg B' xs W (hm.below hW)
  have hxl : xs.length ≤ maxLen := hm.len
  unfold maxLen at hxl
  clear hl hm hrow hd
  go_enter Try.func9, Try.ntmps9
  go_wp2_with (go_at_call 28; refine Hid.out ?_)
  refine Lib.hid ?_
  refine ht.mono ?_
  rintro e w1 ⟨rfl, hb1⟩
  go_wp2_with (go_at_call 13; refine Hid.out ?_)
  refine Lib.hid ?_
  refine (h13 _ hb1).mono ?_
  rintro e w2 ⟨rfl, hb2⟩
  have HB := Hid.in (below_step hb1 hb2)
  have h30' := h30 _ HB.out
  have h29' := h29 w2
  clear hb1 hb2 ht h13 h29 h30
  have hge : (xs.length : Int) ≤ (pc : Int) + hv.length := by omega
  go_wp2_with (first
    | (go_at_call 29; (with_reducible refine h29'.mono ?_); rintro e w3 ⟨rfl, rfl⟩)
    | (go_at_call 30; (with_reducible refine h30'.mono ?_); rintro e w3 ⟨rfl, rfl⟩))
  refine bodyPost_ret (v := .tuple #[.slice none 0 0, .int .i64 0, .bool false, .int .i64 210]) (by simp [results, Try.results9, go_sem]) rfl ⟨rfl, HB.out⟩

set_option maxHeartbeats 1000000 in
theorem step_ok (B B' q mg l b pc c : Nat) (p : Option Addr) (L : List Ln) (xs hv : List Int) (hold : Bool) (w : World) (hl : LinAt w B l b L) (hm : Mem w B' q mg xs) (hlen : L.length ≤ 1048576) (hx6 : xs.length ≤ 65536) (hpc : pc ≤ 4294967295) (hrow : Row w p hv) (hd : doneB hv = false) (hx : pc + hv.length < xs.length) :
    Calls Try.prog 9 #[.pointer (some ⟨q, 0, none⟩), .pointer (some ⟨l, 0, none⟩), .int .u32 pc, .slice p hv.length c, .bool hold] w fun e w' => ∃ g, e = .returned (.tuple #[.slice (some ⟨g, 0, none⟩) (outF hv (takR L xs (((pc + hv.length) / 4 : Nat) : Int) hold).f ((pc + hv.length) % 4)).length (outF hv (takR L xs (((pc + hv.length) / 4 : Nat) : Int) hold).f ((pc + hv.length) % 4)).length, .int .i64 ((pc + hv.length) / 4 : Nat), .bool (takR L xs (((pc + hv.length) / 4 : Nat) : Int) hold).is, .int .i64 0]) ∧
      Own w' w.heap.size g (outF hv (takR L xs (((pc + hv.length) / 4 : Nat) : Int) hold).f ((pc + hv.length) % 4)).length (outF hv (takR L xs (((pc + hv.length) / 4 : Nat) : Int) hold).f ((pc + hv.length) % 4)) ∧ LinAt w' B l b (takR L xs (((pc + hv.length) / 4 : Nat) : Int) hold).L ∧ Keeps (fun j => j = b) w w' := by
  have ht := there_yes B B' q mg l b L xs w hl hm
  have hn6 : hv.length ≤ 6 := by
    by_cases h0 : hv.length = 0
    · omega
    · have := lt_of_not_done hd (by omega)
      have := (lenB_in (hv.getD 0 0)).2
      omega
  have h13 := fun W (hW : Below w.heap.size w W) => done_any p hv.length c hv W rfl (by omega) (hrow.below hW)
  rw [hd] at h13
  have h29 := fun W => place_any pc p hv.length c W (by omega) (by omega) (by omega)
  have h12 := fun W => next_any pc p hv.length c W hpc (by omega)
  have h30 := fun W (hW : Below w.heap.size w W) => len_any q mg B' xs W (hm.below hW)
  have hg4 : (pc + hv.length) / 4 < 16384 := by omega
  have hr4 : (pc + hv.length) % 4 < 4 := Nat.mod_lt _ (by decide)
  have h31 := fun W (hW : Below w.heap.size w W) => take_lin B B' q mg l b ((pc + hv.length) / 4) L xs hold W (hl.below hW) (hm.below hW) hlen hg4
  obtain ⟨t, ht'⟩ : ∃ t, takR L xs (((pc + hv.length) / 4 : Nat) : Int) hold = t := ⟨_, rfl⟩
  rw [ht'] at h31 ⊢
  clear ht'
  obtain ⟨f, is, e0, L2⟩ := t
  dsimp only at h31 ⊢
  have hM := fst_lt hd f ((pc + hv.length) % 4)
  have hK6 := (lenB_in (fstB hv f ((pc + hv.length) % 4))).2
  have hol := outF_len hd f hr4
  have hoe := outF_eq hd f hr4
  have h32 := fun W (hW : Row W p hv) => behind_core p c ((pc + hv.length) % 4) _ _ hv f _ W hr4 hW rfl rfl hM hK6 hol
  rw [hol, ← hoe, ← hol] at h32
  have HR : Hid (∀ W, Below w.heap.size w W → Row W p hv) := fun W hW => hrow.below hW
  have HM : Hid (∃ es c, w.heap[b]? = some (.map es c)) := hl.isMap
  have HM' : Hid (∀ W, Below w.heap.size w W → ∃ es c, W.heap[b]? = some (.map es c)) := fun W hW => (hl.below hW).isMap
  clear hl hm hrow hd hM hK6 hol hoe
  generalize outF hv f ((pc + hv.length) % 4) = out at *
  have hA : (pc : Int) + hv.length = ((pc + hv.length : Nat) : Int) := by omega
  rw [hA] at h29
  obtain ⟨A, hA2⟩ : ∃ A, pc + hv.length = A := ⟨_, rfl⟩
  rw [hA2] at h29 h12 h31 h32 hx ⊢
  have hrm : (A : Int) % 4 = ((A % 4 : Nat) : Int) := by omega
  have hge : ¬ (xs.length : Int) ≤ A := by omega
  have hAm : A ≤ 65536 := by omega
  rw [hA2] at hr4 hg4
  clear hA hA2
  generalize A / 4 = gq at *
  generalize A % 4 = r at *
  obtain ⟨f0, f1, f2, f3⟩ := f
  simp only [fV] at h31
  dsimp only at h32
  go_enter Try.func9, Try.ntmps9
  go_wp2_with (go_at_call 28; refine Hid.out ?_)
  refine Lib.hid ?_
  refine ht.mono ?_
  rintro e w1 ⟨rfl, hb1⟩
  go_wp2_with (go_at_call 13; refine Hid.out ?_)
  refine Lib.hid ?_
  refine (h13 _ hb1).mono ?_
  rintro e w2 ⟨rfl, hb2⟩
  have HB := Hid.in (below_step hb1 hb2)
  have h30' := h30 _ HB.out
  have h29' := h29 w2
  have h12' := h12 w2
  have h31' := h31 _ HB.out
  clear hb1 hb2 ht h13 h29 h30 h31 h12
  go_wp2_with (first
    | (go_at_call 29; (with_reducible refine h29'.mono ?_); rintro e w3 ⟨rfl, rfl⟩)
    | (go_at_call 30; (with_reducible refine h30'.mono ?_); rintro e w3 ⟨rfl, rfl⟩)
    | (go_at_call 12; (with_reducible refine h12'.mono ?_); rintro e w3 ⟨rfl, rfl⟩)
    | (go_at_call 31; refine Hid.out ?_))
  refine Lib.hid ?_
  clear h30' h29' h12'
  refine h31'.mono ?_
  rintro e w3 ⟨rfl, hl3, hk3⟩
  have HK3 := Hid.in ((Keeps.ofBelow HB.out).trans' hk3)
  have HR3 := Hid.in ((HR.out _ HB.out).lines (HM'.out _ HB.out) hk3)
  have HL3 := Hid.in hl3
  have HN4 := Hid.in (Blk.new w3 62 #[.int .u8 f0, .int .u8 f1, .int .u8 f2, .int .u8 f3])
  have HW4 := Hid.in (new_alloc w3 (.cells #[.int .u8 f0, .int .u8 f1, .int .u8 f2, .int .u8 f3] 62))
  have HR4 := Hid.in (HR3.out.below HW4.out)
  have HL4 := Hid.in (HL3.out.below HW4.out)
  have HK4 := Hid.in (HK3.out.trans' (Keeps.ofBelow HW4.out))
  clear hl3 hk3 h31' HB HR HM HM' HR3 HL3 HK3 HW4
  go_upto_region 10 with fail
  generalize w3.alloc (.cells #[.int .u8 f0, .int .u8 f1, .int .u8 f2, .int .u8 f3] 62) = w4 at *
  generalize w3.heap.size = g3 at *
  have c0 : w4.cell? ⟨g3, 0, none⟩ = some (.int .u8 f0) := HN4.out.cell 0
  have c1 : w4.cell? ⟨g3, 1, none⟩ = some (.int .u8 f1) := HN4.out.cell 1
  have c2 : w4.cell? ⟨g3, 2, none⟩ = some (.int .u8 f2) := HN4.out.cell 2
  have c3 : w4.cell? ⟨g3, 3, none⟩ = some (.int .u8 f3) := HN4.out.cell 3
  have h32' := h32 w4 HR4.out
  clear h32
  go_wp2_with (go_at_call 32; refine Hid.out ?_)
  refine Lib.hid ?_
  refine h32'.mono ?_
  rintro e w5 ⟨g5, rfl, ho5, hb5⟩
  have HO5 := Hid.in ho5
  have HL5 := Hid.in (HL4.out.below hb5)
  have HK5 := Hid.in (HK4.out.trans' (Keeps.ofBelow hb5))
  have HS5 := Hid.in HK4.out.size
  clear ho5 hb5 h32' HL4 HK4 HR4 c0 c1 c2 c3 HN4
  go_wp2_with fail
  refine bodyPost_ret (v := .tuple #[.slice (some ⟨g5, 0, none⟩) out.length out.length, .int .i64 gq, .bool is, .int .i64 0]) (by simp [results, Try.results9, go_sem]) rfl ⟨g5, rfl, HO5.out.lower HS5.out, HL5.out, HK5.out⟩

/-- Step, whatever it answers -/
theorem step_any (B B' q mg l b pc c : Nat) (p : Option Addr) (L : List Ln) (xs hv : List Int) (hold : Bool) (w : World) (hl : LinAt w B l b L) (hm : Mem w B' q mg xs) (hlen : L.length ≤ 1048576) (hx6 : xs.length ≤ 65536) (hpc : pc ≤ 4294967295) (hn : hv.length ≤ 140737488355328) (hrow : Row w p hv) :
    Calls Try.prog 9 #[.pointer (some ⟨q, 0, none⟩), .pointer (some ⟨l, 0, none⟩), .int .u32 pc, .slice p hv.length c, .bool hold] w fun e w' => ∃ v, e = .returned (.tuple #[v, .int .i64 (stpR L xs pc hv hold).g, .bool (stpR L xs pc hv hold).is, .int .i64 (stpR L xs pc hv hold).e]) ∧ OwnV w' w.heap.size v (stpR L xs pc hv hold).out ∧ LinAt w' B l b (stpR L xs pc hv hold).L ∧ Keeps (fun j => j = b) w w' := by
  unfold stpR
  by_cases hd : doneB hv = true
  · rw [if_pos hd]
    refine (step_done B B' q mg l b pc c p L xs hv hold w hl hm hn hrow hd).mono ?_
    rintro e w' ⟨rfl, hb⟩
    exact ⟨_, rfl, OwnV.nil _ _, hl.below hb, Keeps.ofBelow hb⟩
  · rw [if_neg hd]
    have hd : doneB hv = false := by simpa using hd
    by_cases hx : xs.length ≤ pc + hv.length
    · rw [if_pos hx]
      refine (step_out B B' q mg l b pc c p L xs hv hold w hl hm hpc hn hrow hd hx).mono ?_
      rintro e w' ⟨rfl, hb⟩
      exact ⟨_, rfl, OwnV.nil _ _, hl.below hb, Keeps.ofBelow hb⟩
    · rw [if_neg hx]
      refine (step_ok B B' q mg l b pc c p L xs hv hold w hl hm hlen hx6 hpc hrow hd (by omega)).mono ?_
      rintro e w' ⟨g, rfl, ho, hl', hk⟩
      exact ⟨_, rfl, ho.val, hl', hk⟩

end Go.Proofs.Yteeeedphhaphpaa
