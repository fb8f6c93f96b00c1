/- The laws of fetch: memory and lines side by side; made; awake answers true. -/
import Derived.Test.YteeeedphhaphpaaFetS
import Derived.Deep.DeepCutAuto
import Derived.Lib.Hide
namespace Go.Proofs.Yteeeedphhaphpaa
open Go.RowKit Go.Maps

theorem Mem.lower {w : World} {B B' q g : Nat} {xs : List Int} (h : Mem w B q g xs) (hB : B' ≤ B) : Mem w B' q g xs := ⟨h.blk, h.own.lower hB, Nat.le_trans hB h.base, h.ne⟩
/-- memory and lines, behind w0 -/
structure FSt (w0 w : World) (q mg l b : Nat) (L : List Ln) (xs : List Int) : Prop where
  bel : Below w0.heap.size w0 w
  lin : LinAt w w0.heap.size l b L
  mem : Mem w w0.heap.size q mg xs
/-- what stands not in that block -/
def Far (p : Option Addr) (mg : Nat) : Prop := ∀ g o, p = some ⟨g, o, none⟩ → g ≠ mg
theorem far_none (mg : Nat) : Far none mg := fun _ _ e => by cases e
section
variable {w0 w w' : World} {q mg l b : Nat} {L : List Ln} {xs : List Int}
theorem FSt.below (h : FSt w0 w q mg l b L xs) (hb : Below w.heap.size w w') : FSt w0 w' q mg l b L xs := ⟨below_step h.bel hb, h.lin.below hb, h.mem.below hb⟩
theorem FSt.drewN (h : FSt w0 w q mg l b L xs) (n : Nat) : FSt w0 (w.drewN n) q mg l b L xs := ⟨below_draws h.bel n, h.lin.drewN n, h.mem.drewN n⟩
theorem FSt.swap (h : FSt w0 w q mg l b L xs) {L' : List Ln} (hl : LinAt w' w0.heap.size l b L') (hk : Keeps (fun j => j = b) w w') : FSt w0 w' q mg l b L' xs :=
  ⟨below_take h.bel hk h.lin.hb (Nat.le_refl _), hl, h.mem.lines h.lin.isMap hk⟩
theorem FSt.written (h : FSt w0 w q mg l b L xs) {zs : List Int} (hm : Mem w' w0.heap.size q mg zs) (hk : Keeps (fun j => j = mg) w w') : FSt w0 w' q mg l b L zs :=
  ⟨below_take h.bel hk h.mem.own.base (Nat.le_refl _), h.lin.mem h.mem hk, hm⟩
theorem Row.far {p : Option Addr} {ys : List Int} (h : Row w p ys) (hf : Far p mg) (hk : Keeps (fun j => j = mg) w w') : Row w' p ys := fun h0 => by
  obtain ⟨g, o, rfl, hc⟩ := h h0
  refine ⟨g, o, rfl, fun i hi => ?_⟩
  have h1 := hc i hi
  have h2 := hk.block g (cell_lt h1) (hf g o rfl)
  unfold World.cell? at h1 ⊢
  dsimp only at h1 ⊢
  rw [h2]; exact h1
theorem OwnV.far {B : Nat} {v : Value} {ys : List Int} (h : OwnV w B v ys) (hg : mg < B) : ∃ p c, v = .slice p ys.length c ∧ Row w p ys ∧ Far p mg ∧ (0 < ys.length → ∃ g, p = some ⟨g, 0, none⟩) := by
  rcases h.shape with ⟨rfl, rfl⟩ | ⟨g, cap, rfl, ho⟩
  · exact ⟨none, 0, rfl, fun h => absurd h (Nat.lt_irrefl 0), far_none _, fun h => absurd h (Nat.lt_irrefl 0)⟩
  · exact ⟨_, _, rfl, ho.row, fun g' o e => by injection e with e; injection e with e; have := ho.base; omega, fun _ => ⟨g, rfl⟩⟩
/-- Step, where memory and lines stand so -/
theorem FSt.step (h : FSt w0 w q mg l b L xs) (pc c : Nat) (p : Option Addr) (hv : List Int) (hold : Bool) (hlen : L.length ≤ 1048576) (hx6 : xs.length ≤ 65536) (hpc : pc ≤ 4294967295) (hn : hv.length ≤ 140737488355328) (hrow : Row w p hv) :
    Calls Try.prog 9 #[.pointer (some ⟨q, 0, none⟩), .pointer (some ⟨l, 0, none⟩), .int .u32 pc, .slice p hv.length c, .bool hold] w fun e w' => ∃ p' c', e = .returned (.tuple #[.slice p' (stpR L xs pc hv hold).out.length c', .int .i64 (stpR L xs pc hv hold).g, .bool (stpR L xs pc hv hold).is, .int .i64 (stpR L xs pc hv hold).e]) ∧ Row w' p' (stpR L xs pc hv hold).out ∧ Far p' mg ∧ FSt w0 w' q mg l b (stpR L xs pc hv hold).L xs ∧ ∀ r ys, Row w r ys → Row w' r ys := by
  refine (step_any _ _ q mg l b pc c p L xs hv hold w h.lin h.mem hlen hx6 hpc hn hrow).mono ?_
  rintro e w' ⟨v, rfl, ho, hl, hk⟩
  obtain ⟨p', c', rfl, hr, hf, -⟩ := ho.far h.mem.own.lt
  exact ⟨p', c', rfl, hr, hf, h.swap hl hk, fun r ys hr => hr.lines h.lin.isMap hk⟩
end

theorem Row.take {w : World} {p : Option Addr} {xs : List Int} (h : Row w p xs) (n : Nat) : Row w p (xs.take n) := fun h0 => by
  rw [List.length_take] at h0
  obtain ⟨b, o, rfl, hc⟩ := h (by omega)
  refine ⟨b, o, rfl, fun i hi => ?_⟩
  rw [List.length_take] at hi
  rw [hc i (by omega)]
  simp only [List.getD, List.getElem?_take_of_lt (show i < n by omega)]
theorem byt_take {xs : List Int} (h : Byt xs) (n : Nat) : Byt (xs.take n) := fun i => by
  by_cases hi : i < n
  · have e : (xs.take n).getD i 0 = xs.getD i 0 := by simp only [List.getD, List.getElem?_take_of_lt hi]
    rw [e]; exact h i
  · have e : (xs.take n).getD i 0 = 0 := by simp only [List.getD, List.getElem?_eq_none (show (xs.take n).length ≤ i by rw [List.length_take]; omega), Option.getD_none]
    rw [e]; omega

set_option maxHeartbeats 1000000 in
theorem made_any (p : Option Addr) (n c : Nat) (xs : List Int) (w : World) (hx : xs.length = n) (hn : n ≤ 140737488355328) (hnc : n ≤ c) (hr : Row w p xs) :
    Calls Try.prog 8 #[.slice p n c] w fun e w' => ∃ q mg l b pw cw, e = .returned (.tuple #[.pointer (some ⟨q, 0, none⟩), .pointer (some ⟨l, 0, none⟩), .slice pw (xs.take 2000).length cw]) ∧ FSt w w' q mg l b [] (xs.take 2000) ∧ Row w' pw (xs.take 2000) ∧ Far pw mg ∧ (0 < (xs.take 2000).length → ∃ g, pw = some ⟨g, 0, none⟩) := by
  have hall : ∃ (mm : Nat), (xs.take 2000).length = mm ∧ mm ≤ 2000 ∧ (2000 < n → mm = 2000) ∧ (¬ 2000 < n → mm = n) ∧ (2000 < n → ∃ b0 o0, p = some ⟨b0, o0, none⟩) := by
    refine ⟨_, rfl, ?_, fun h => ?_, fun h => ?_, fun h => ?_⟩
    · rw [List.length_take]; omega
    · rw [List.length_take]; omega
    · rw [List.length_take]; omega
    · obtain ⟨b0, o0, e, -⟩ := hr (by omega)
      exact ⟨b0, o0, e⟩
  obtain ⟨mm, hzl, hmm, hv1, hv2, hp8⟩ := hall
  have HZ : Hid (∀ W, Below w.heap.size w W → Row W p (xs.take 2000)) := fun W hW => (hr.below hW).take 2000
  rw [hzl]
  generalize xs.take 2000 = zs at *
  have HX := Hid.in hzl
  have HV1 := Hid.in hv1
  have HV2 := Hid.in hv2
  have HP8 := Hid.in hp8
  clear hzl hv1 hv2 hx hr hp8
  go_enter Try.func8, Try.ntmps8
  go_upto_if 9 with fail
  go_cut [0] (fun v wx => v = .slice p mm c ∧ wx = w)
  case first =>
    by_cases h8 : 2000 < n
    · have e := HV1.out h8
      obtain ⟨b0, o0, rfl⟩ := HP8.out h8
      have g2 : decide (2000 < n) = true := decide_eq_true h8
      clear HV1 HV2 HP8 HZ
      go_wp2_with fail
      go_meet
      case rel => exact ⟨by rw [e], rfl⟩
    · have HE := Hid.in (HV2.out h8)
      have g2 : decide (2000 < n) = false := decide_eq_false h8
      go_wp2_with fail
      go_meet
      case rel => exact ⟨by rw [HE.out], rfl⟩
  case rest =>
    obtain ⟨rfl, rfl⟩ := hcut
    clear HV1 HV2 HP8
    go_wp2_with (go_at_call 10; refine Hid.out ?_)
    refine Lib.hid ?_
    refine (new_ok p mm c zs wc HX.out (by omega) (HZ.out _ (below_self wc))).mono ?_
    rintro e w3 ⟨q, mg, rfl, hm3, hb⟩
    have HM3 := Hid.in hm3
    have HB3 := Hid.in hb
    clear hm3 hb
    go_wp2_with (go_at_call 26; refine Hid.out ?_)
    refine Lib.hid ?_
    refine (lnew_any w3).mono ?_
    rintro e w4 ⟨l, b, rfl, hl, hb⟩
    have HL4 := Hid.in (hl.lower HB3.out.size)
    have HM4 := Hid.in (HM3.out.below hb)
    have HB4 := Hid.in (below_step HB3.out hb)
    clear hl hb HM3 HB3
    go_wp2_with (go_at_call 27; refine Hid.out ?_)
    refine Lib.hid ?_
    refine (copy_any p mm c zs w4 HX.out (by omega) (HZ.out _ HB4.out)).mono ?_
    rintro e w5 ⟨v5, rfl, ho5, hb⟩
    obtain ⟨pw, cw, rfl, hr5, hf5, hs5⟩ := ho5.far HM4.out.own.lt
    rw [HX.out]
    have HST : Hid (FSt wc w5 q mg l b [] zs) := ⟨below_step HB4.out hb, HL4.out.below hb, HM4.out.below hb⟩
    have HR5 := Hid.in hr5
    have HF5 := Hid.in hf5
    have HS5 : Hid (0 < mm → ∃ g, pw = some ⟨g, 0, none⟩) := by rw [← HX.out]; exact hs5
    clear hr5 hf5 hs5 ho5 hb HL4 HM4 HB4 HZ
    go_wp2_with fail
    exact bodyPost_ret (v := .tuple #[.pointer (some ⟨q, 0, none⟩), .pointer (some ⟨l, 0, none⟩), .slice pw mm cw]) (by simp [results, Try.results8, go_sem]) rfl ⟨q, mg, l, b, pw, cw, rfl, HST.out, HR5.out, HF5.out, HS5.out⟩

def aw : List Int := [144, 233, 1, 2, 3, 4, 144, 0]
theorem aw1 : stpR [] aw 1 [] true = ⟨[233, 1, 2], 0, false, 0, [⟨0, ⟨144, 233, 1, 2⟩⟩]⟩ := by kernel_rfl
theorem aw2 : stpR [⟨0, ⟨144, 233, 1, 2⟩⟩] aw 1 [233, 1, 2] true = ⟨[233, 1, 2, 3, 4], 1, false, 0, [⟨0, ⟨144, 233, 1, 2⟩⟩, ⟨1, ⟨3, 4, 144, 0⟩⟩]⟩ := by kernel_rfl
theorem aw3 : doneB [233, 1, 2] = false := by kernel_rfl
theorem aw4 : doneB [233, 1, 2, 3, 4] = true := by kernel_rfl

set_option maxRecDepth 8000 in
set_option maxHeartbeats 1000000 in
theorem awake_any (w : World) : Calls Try.prog 15 #[] w fun e w' => e = .returned (.bool true) ∧ Below w.heap.size w w' := by
  go_enter Try.func15, Try.ntmps15
  go_upto_region 2 with (first
    | (refine wp_lit rfl 8 _ rfl aw rfl (by decide) (by decide) rfl ?_; intro w1 g1 HO1 HB1)
    | (go_at_call 8; refine (made_any _ 8 8 aw w1 rfl (by decide) (by decide) HO1.out.row).mono ?_; rintro e w2 ⟨q, mg, l, b, pw, cw, rfl, hst, -, -, -⟩; have HT2 : Hid (FSt w1 w2 q mg l b [] aw) := hst; clear hst HO1))
  have hs1 := HT2.out.step 1 0 none [] true (by decide) (by decide) (by decide) (by decide) (fun h => absurd h (Nat.lt_irrefl 0))
  rw [aw1] at hs1
  dsimp only at hs1
  go_wp2_with (go_at_call 9; refine Hid.out ?_)
  refine Lib.hid ?_
  refine hs1.mono ?_
  rintro e w3 ⟨p3, c3, rfl, hr3, -, ht3, -⟩
  have HT3 := Hid.in ht3
  have HR3 := Hid.in hr3
  clear hs1 ht3 hr3 HT2
  have hs2 := HT3.out.step 1 c3 p3 [233, 1, 2] true (by decide) (by decide) (by decide) (by decide) HR3.out
  rw [aw2] at hs2
  dsimp only [List.length_cons, List.length_nil, Nat.zero_add, Nat.reduceAdd] at hs2
  go_wp2_with (go_at_call 9; refine Hid.out ?_)
  refine Lib.hid ?_
  refine hs2.mono ?_
  rintro e w4 ⟨p4, c4, rfl, hr4, -, ht4, hk4⟩
  have HB4 := Hid.in (below_step HB1.out ht4.bel)
  have HR4 := Hid.in hr4
  have HR3' := Hid.in (hk4 _ _ HR3.out)
  clear hs2 ht4 hr4 hk4 HR3 HT3 HB1
  have hn5 := new_alloc w4 (.cells #[.int .u8 233, .int .u8 1, .int .u8 2] 5)
  have hr5 : Row (w4.alloc (.cells #[.int .u8 233, .int .u8 1, .int .u8 2] 5)) (some ⟨w4.heap.size, 0, none⟩) [233, 1, 2] := (Own.lit w4 [233, 1, 2] (by unfold maxLen; decide)).row
  have h11 := sameBytes_any p3 (some ⟨w4.heap.size, 0, none⟩) 3 c3 3 3 [233, 1, 2] [233, 1, 2] _ rfl rfl (by decide) (HR3'.out.below hn5) hr5
  rw [sameB_self] at h11
  have HB5 := Hid.in (below_step HB4.out hn5)
  have HR45 := Hid.in (HR4.out.below hn5)
  have HR35 := Hid.in (HR3'.out.below hn5)
  clear hr5 hn5 HB4 HR4 HR3'
  go_wp2_with (go_at_call 11; refine Hid.out ?_)
  refine Lib.hid ?_
  refine h11.mono ?_
  rintro e w6 ⟨rfl, m6, rfl⟩
  clear h11
  have HB6 := Hid.in (below_draws HB5.out m6)
  have HR46 := Hid.in (HR45.out.drewN m6)
  have HR36 := Hid.in (HR35.out.drewN m6)
  clear HB5 HR45 HR35
  generalize (w4.alloc (.cells #[.int .u8 233, .int .u8 1, .int .u8 2] 5)).drewN m6 = w6 at *
  have hn7 := new_alloc w6 (.cells #[.int .u8 233, .int .u8 1, .int .u8 2, .int .u8 3, .int .u8 4] 5)
  have hr7 : Row (w6.alloc (.cells #[.int .u8 233, .int .u8 1, .int .u8 2, .int .u8 3, .int .u8 4] 5)) (some ⟨w6.heap.size, 0, none⟩) [233, 1, 2, 3, 4] := (Own.lit w6 [233, 1, 2, 3, 4] (by unfold maxLen; decide)).row
  have h11 := sameBytes_any p4 (some ⟨w6.heap.size, 0, none⟩) 5 c4 5 5 [233, 1, 2, 3, 4] [233, 1, 2, 3, 4] _ rfl rfl (by decide) (HR46.out.below hn7) hr7
  rw [sameB_self] at h11
  have HB7 := Hid.in (below_step HB6.out hn7)
  have HR47 := Hid.in (HR46.out.below hn7)
  have HR37 := Hid.in (HR36.out.below hn7)
  clear hr7 hn7 HB6 HR46 HR36
  go_wp2_with (go_at_call 11; refine Hid.out ?_)
  refine Lib.hid ?_
  refine h11.mono ?_
  rintro e w8 ⟨rfl, m8, rfl⟩
  clear h11
  have HB8 := Hid.in (below_draws HB7.out m8)
  have HR48 := Hid.in (HR47.out.drewN m8)
  have HR38 := Hid.in (HR37.out.drewN m8)
  clear HB7 HR47 HR37
  generalize (w6.alloc (.cells #[.int .u8 233, .int .u8 1, .int .u8 2, .int .u8 3, .int .u8 4] 5)).drewN m8 = w8 at *
  have h13 := done_any p4 5 c4 [233, 1, 2, 3, 4] w8 rfl (by decide) HR48.out
  rw [aw4] at h13
  go_wp2_with (go_at_call 13; refine Hid.out ?_)
  refine Lib.hid ?_
  refine h13.mono ?_
  rintro e w9 ⟨rfl, hb9⟩
  have h13 := done_any p3 3 c3 [233, 1, 2] w9 rfl (by decide) (HR38.out.below hb9)
  rw [aw3] at h13
  have HB9 := Hid.in (below_step HB8.out hb9)
  clear hb9 HB8 HR48 HR38
  go_wp2_with (go_at_call 13; refine Hid.out ?_)
  refine Lib.hid ?_
  refine h13.mono ?_
  rintro e wa ⟨rfl, hba⟩
  have HBa := Hid.in (below_step HB9.out hba)
  clear hba HB9 h13
  go_wp2_with fail
  go_ret
  exact ⟨rfl, HBa.out⟩

end Go.Proofs.Yteeeedphhaphpaa
