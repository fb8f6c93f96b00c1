/- Texts put together: ExS, ExB, DoL, HrtL, HrtC, FetW, FetB. -/
import Derived.Test.YtnpaijbkhmnfpaaGreatKac
import Derived.Test.YtnpaijbkhmnfpaaGreatKag
import Derived.Test.YtnpaijbkhmnfpaaGreatKah
import Derived.Test.YtnpaijbkhmnfpaaGreatKaa
import Derived.Deep.DeepCutAuto
import Derived.Deep.RegionHeld3
import Derived.BigQuiet

/- exec.Span, switchyardref14.Span, exec.fault, for every instruction. -/
namespace Go.Proofs.YtnpaijbkhmnfpaaGreat
open Go.RowKit

/-- how long an instruction is: 0, if it is not right -/
def spanN (o : Nat) (a b n : Int) : Nat := if rightB o a b n = true then lenN o else 0

set_option maxHeartbeats 1000000 in
theorem span_any (o : Nat) (a b n : Int) (w : World) (ho : o ≤ 255) (ha : 0 ≤ a ∧ a ≤ 255) (hb : 0 ≤ b ∧ b ≤ 255) :
    Calls Tryz.prog 103 #[ins o a b n] w fun e w' => e = .returned (.int .i64 (spanN o a b n)) ∧ Below w.heap.size w w' := by
  cases hR : rightB o a b n
  · have hcon := fun w => encode_no o a b n w ho ha hb hR
    have hs : spanN o a b n = 0 := by simp [spanN, hR]
    rw [hs]
    clear hR hs
    go_enter Tryz.func103, Tryz.ntmps103
    go_wp2_with (go_at_call 127; refine (hcon _).mono ?_; rintro e w1 ⟨rfl, hb1⟩; have HB := Hid.in (below_step (new_alloc _ _) hb1); clear hb1)
    go_ret
    exact ⟨rfl, HB.out⟩
  · have hcon := fun w => encode_yes o a b n w ha hb hR
    have hs : spanN o a b n = lenN o := by simp [spanN, hR]
    rw [hs]
    clear hR hs
    generalize lenN o = l at *
    go_enter Tryz.func103, Tryz.ntmps103
    go_wp2_with (go_at_call 127; refine (hcon _).mono ?_; rintro e w1 ⟨g, cap, rfl, -, hb1⟩; have HB := Hid.in (below_step (new_alloc _ _) hb1); clear hb1)
    go_ret
    exact ⟨rfl, HB.out⟩

theorem bcell {W w1 : World} (hb : Below W.heap.size W w1) : (∀ b o, b < W.heap.size → w1.cell? ⟨b, o, none⟩ = W.cell? ⟨b, o, none⟩) ∧ (∀ b o, b < W.heap.size → w1.frozen? ⟨b, o, none⟩ = W.frozen? ⟨b, o, none⟩) :=
  ⟨fun b o h => hb.cell (p := ⟨b, o, none⟩) h, fun b o h => hb.frozen (p := ⟨b, o, none⟩) h⟩
theorem ret_int {k : IntKind} {a b : Int} (h : a = b) : Ending.returned (.int k a) = .returned (.int k b) := by rw [h]

set_option maxHeartbeats 1000000 in
theorem rspan_any (o : Nat) (a b n : Int) (w : World) (ha : 0 ≤ a ∧ a ≤ 255) (hb : 0 ≤ b ∧ b ≤ 255) :
    Calls Tryz.prog 94 #[ins o a b n] w fun e w' => e = .returned (.int .i64 (spanN o a b n)) ∧ Below w.heap.size w w' := by
  cases hR : rightB o a b n
  · have hcon := fun w => rencode_no o a b n w ha hb hR
    have hs : spanN o a b n = 0 := by simp [spanN, hR]
    rw [hs]
    clear hR hs
    go_enter Tryz.func94, Tryz.ntmps94
    go_wp2_with (go_at_call 93; refine (hcon _).mono ?_; rintro e w1 ⟨rfl, hb1⟩; have HB := Hid.in (below_step (new_alloc _ _) hb1); clear hb1)
    go_ret
    exact ⟨rfl, HB.out⟩
  · have hcon := fun w => rencode_yes o a b n w ha hb hR
    have hs : spanN o a b n = lenN o := by simp [spanN, hR]
    have hl : (encL o a b n).length = lenN o := encL_length o a b n (rightB_parts hR).1.2
    rw [hs]
    clear hR hs
    generalize lenN o = l at *
    have HL := Hid.in hl
    clear hl
    go_enter Tryz.func94, Tryz.ntmps94
    go_wp2_with (go_at_call 93; refine (hcon _).mono ?_; rintro e w1 ⟨v, rfl, hv, hb1⟩; obtain ⟨pv, cv, rfl, -, -⟩ := hv.slice; rw [HL.out]; have HB := Hid.in (below_step (new_alloc _ _) hb1); clear hb1 hv hcon)
    go_ret
    exact ⟨rfl, HB.out⟩

/-- what can't be done -/
def fltL (o : Nat) (a b n : Int) (s d : Nat) : Int :=
  if rightB o a b n = false then 120 else if o = 4 then 120 else if o = 12 then (if 64 ≤ s then 3 else 0) else if o = 14 ∨ o = 15 then (if d < 4 then 210 else 0) else 0

set_option maxHeartbeats 2000000 in
theorem fault_any (o : Nat) (a b n : Int) (p q : Option Addr) (s sc d dc : Nat) (w : World) (ho : o ≤ 255) (ha : 0 ≤ a ∧ a ≤ 255) (hb : 0 ≤ b ∧ b ≤ 255) (hs : s ≤ 9223372036854775807) (hd : d ≤ 9223372036854775807) :
    Calls Tryz.prog 102 #[ins o a b n, .slice p s sc, .slice q d dc] w fun e w' => e = .returned (.int .i64 (fltL o a b n s d)) ∧ Below w.heap.size w w' := by
  have hcon := fun w => right_any o a b n w ho ha hb
  have HF : Hid (fltL o a b n s d = if rightB o a b n = false then 120 else if o = 4 then 120 else if o = 12 then (if 64 ≤ s then 3 else 0) else if o = 14 ∨ o = 15 then (if d < 4 then 210 else 0) else 0) := rfl
  generalize fltL o a b n s d = f at *
  cases hR : rightB o a b n
  · rw [hR] at hcon HF
    obtain rfl : f = 120 := HF.out
    clear hR HF
    go_enter Tryz.func102, Tryz.ntmps102
    go_wp2_with (go_at_call 99; refine (hcon _).mono ?_; rintro e w1 ⟨rfl, hb1⟩; have HB := Hid.in (below_step (new_alloc _ _) hb1); clear hb1)
    go_ret
    exact ⟨rfl, HB.out⟩
  · rw [hR] at hcon HF
    have HF2 : Hid (f = if o = 4 then 120 else if o = 12 then (if 64 ≤ s then 3 else 0) else if o = 14 ∨ o = 15 then (if d < 4 then 210 else 0) else 0) := HF.out
    clear hR HF
    have HB0 : ∀ w1, Below (w.alloc (.cells #[.int .u8 o, .int .u8 a, .int .u8 b, .int .i32 n] 117)).heap.size (w.alloc (.cells #[.int .u8 o, .int .u8 a, .int .u8 b, .int .i32 n] 117)) w1 → Below w.heap.size w w1 ∧ w1.cell? ⟨w.heap.size, 0, none⟩ = some (.int .u8 o) := fun w1 h => ⟨below_step (new_alloc _ _) h, ((Blk.new w 117 _).grow h).cell 0⟩
    rcases (by omega : o = 4 ∨ o = 12 ∨ o = 14 ∨ o = 15 ∨ (o ≠ 4 ∧ o ≠ 12 ∧ o ≠ 14 ∧ o ≠ 15)) with rfl | rfl | rfl | rfl | ⟨n1, n2, n3, n4⟩
    · obtain rfl : f = 120 := HF2.out
      go_enter Tryz.func102, Tryz.ntmps102
      go_wp2_with (go_at_call 99; refine (hcon _).mono ?_; rintro e w1 ⟨rfl, hb1⟩; obtain ⟨HB, hc⟩ := HB0 _ hb1; clear hb1 HB0)
      go_ret
      exact ⟨rfl, HB⟩
    · by_cases h64 : 64 ≤ s
      · obtain rfl : f = 3 := by rw [HF2.out]; simp [h64]
        clear HF2
        go_enter Tryz.func102, Tryz.ntmps102
        go_wp2_with (go_at_call 99; refine (hcon _).mono ?_; rintro e w1 ⟨rfl, hb1⟩; obtain ⟨HB, hc⟩ := HB0 _ hb1; clear hb1 HB0)
        go_ret
        exact ⟨rfl, HB⟩
      · obtain rfl : f = 0 := by rw [HF2.out]; simp [h64]
        clear HF2
        go_enter Tryz.func102, Tryz.ntmps102
        go_wp2_with (go_at_call 99; refine (hcon _).mono ?_; rintro e w1 ⟨rfl, hb1⟩; obtain ⟨HB, hc⟩ := HB0 _ hb1; clear hb1 HB0)
        go_ret
        exact ⟨rfl, HB⟩
    · by_cases h4 : d < 4
      · obtain rfl : f = 210 := by rw [HF2.out]; simp [h4]
        clear HF2
        go_enter Tryz.func102, Tryz.ntmps102
        go_wp2_with (go_at_call 99; refine (hcon _).mono ?_; rintro e w1 ⟨rfl, hb1⟩; obtain ⟨HB, hc⟩ := HB0 _ hb1; clear hb1 HB0)
        go_ret
        exact ⟨rfl, HB⟩
      · obtain rfl : f = 0 := by rw [HF2.out]; simp [h4]
        clear HF2
        go_enter Tryz.func102, Tryz.ntmps102
        go_wp2_with (go_at_call 99; refine (hcon _).mono ?_; rintro e w1 ⟨rfl, hb1⟩; obtain ⟨HB, hc⟩ := HB0 _ hb1; clear hb1 HB0)
        go_ret
        exact ⟨rfl, HB⟩
    · by_cases h4 : d < 4
      · obtain rfl : f = 210 := by rw [HF2.out]; simp [h4]
        clear HF2
        go_enter Tryz.func102, Tryz.ntmps102
        go_wp2_with (go_at_call 99; refine (hcon _).mono ?_; rintro e w1 ⟨rfl, hb1⟩; obtain ⟨HB, hc⟩ := HB0 _ hb1; clear hb1 HB0)
        go_ret
        exact ⟨rfl, HB⟩
      · obtain rfl : f = 0 := by rw [HF2.out]; simp [h4]
        clear HF2
        go_enter Tryz.func102, Tryz.ntmps102
        go_wp2_with (go_at_call 99; refine (hcon _).mono ?_; rintro e w1 ⟨rfl, hb1⟩; obtain ⟨HB, hc⟩ := HB0 _ hb1; clear hb1 HB0)
        go_ret
        exact ⟨rfl, HB⟩
    · obtain rfl : f = 0 := by rw [HF2.out, if_neg n1, if_neg n2, if_neg (by omega)]
      clear HF2
      have m1 : ((o : Int) == 4) = false := by simp; omega
      have m2 : ((o : Int) == 12) = false := by simp; omega
      have m3 : ((o : Int) == 14) = false := by simp; omega
      have m4 : ((o : Int) == 15) = false := by simp; omega
      go_enter Tryz.func102, Tryz.ntmps102
      go_wp2_with (go_at_call 99; refine (hcon _).mono ?_; rintro e w1 ⟨rfl, hb1⟩; obtain ⟨HB, hc⟩ := HB0 _ hb1; clear hb1 HB0)
      go_ret
      exact ⟨rfl, HB⟩

end Go.Proofs.YtnpaijbkhmnfpaaGreat

/- exec.back. -/
namespace Go.Proofs.YtnpaijbkhmnfpaaGreat
open Go.RowKit

/-- an effect that goes on at nx, and no more -/
abbrev efA (nx : Int) : Array Value := #[.int .u32 nx, .bool false, .int .i64 0, .bool false, .bool false, .int .u32 0, .int .u32 0]
abbrev efH (nx : Int) : Array Value := #[.int .u32 nx, .bool true, .int .i64 0, .bool false, .bool false, .int .u32 0, .int .u32 0]
theorem Tryz.sz134 : (Tryz.prog.info? 134).map (·.size) = some 7 := by kernel_rfl

set_option maxHeartbeats 2000000 in
theorem back_zero (p : Option Addr) (c : Nat) (nx : Int) (w : World) :
    Calls Tryz.prog 104 #[.slice p 0 c, .agg (efA nx)] w fun e w' => e = .returned (.tuple #[.slice p 0 c, .agg (efH nx)]) ∧ Below w.heap.size w w' := by
  go_enter Tryz.func104, Tryz.ntmps104
  go_wp2
  go_region
  all_goals (go_wp2; exact bodyPost_ret (v := .tuple #[.slice p 0 c, .agg (efH nx)]) (by simp [results, Tryz.results104, go_sem]) rfl ⟨rfl, (below_alloc (new_alloc _ _) _).drew⟩)

set_option maxHeartbeats 2000000 in
theorem back_last (g k cap : Nat) (nx z : Int) (w : World) (hk : k < cap) (hc : cap ≤ 140737488355328) (hz : w.cell? ⟨g, k, none⟩ = some (.int .u32 z)) :
    Calls Tryz.prog 104 #[.slice (some ⟨g, 0, none⟩) (k + 1 : Nat) cap, .agg (efA nx)] w fun e w' => e = .returned (.tuple #[.slice (some ⟨g, 0, none⟩) k cap, .agg (efA z)]) ∧ Below w.heap.size w w' := by
  have hl := cell_lt hz
  go_enter Tryz.func104, Tryz.ntmps104
  go_wp2
  go_region
  all_goals (go_wp2; exact bodyPost_ret (v := .tuple #[.slice (some ⟨g, 0, none⟩) k cap, .agg (efA z)]) (by simp [results, Tryz.results104, go_sem]) rfl ⟨rfl, (below_alloc (new_alloc _ _) _).drew⟩)

end Go.Proofs.YtnpaijbkhmnfpaaGreat

/- What an instruction does, as lists: P14.1. How exec.Do's variables lie in memory. -/
namespace Go.Proofs.YtnpaijbkhmnfpaaGreat
open Go.RowKit

/-- an effect -/
structure Eff where
  nx : Int
  ht : Bool
  fl : Int
  ou : Bool
  st : Bool
  at_ : Int
  va : Int
def effA (E : Eff) : Array Value := #[.int .u32 E.nx, .bool E.ht, .int .i64 E.fl, .bool E.ou, .bool E.st, .int .u32 E.at_, .int .u32 E.va]
/-- it goes on at z, and no more -/
def goE (z : Int) : Eff := ⟨z, false, 0, false, false, 0, 0⟩
/-- the place behind, the way's place -/
def behL (o : Nat) (pc : Int) : Int := (pc + (lenN o : Int)) % 4294967296
def wayL (o : Nat) (n pc : Int) : Int := (behL o pc + n % 4294967296) % 4294967296
/-- the registers behind an instruction -/
def doR (o a b : Nat) (n : Int) (R D : List Int) : List Int :=
  if o = 5 then R.set a (n % 4294967296)
  else if o = 6 then R.set a (R.getD b 0)
  else if o = 7 then R.set a ((R.getD a 0 + R.getD b 0) % 4294967296)
  else if o = 8 then R.set a ((R.getD a 0 - R.getD b 0) % 4294967296)
  else if o = 14 then R.set a (n4 D 0)
  else R
/-- the stack behind it -/
def doS (o : Nat) (pc : Int) (S : List Int) : List Int :=
  if o = 12 then S ++ [behL o pc] else if o = 13 then S.dropLast else S
/-- its effect -/
def doE (o a : Nat) (n pc : Int) (R S : List Int) : Eff :=
  if o = 1 then { goE (behL o pc) with ht := true }
  else if o = 9 then (if R.getD a 0 = 0 then goE (wayL o n pc) else goE (behL o pc))
  else if o = 10 then (if R.getD a 0 = 0 then goE (behL o pc) else goE (wayL o n pc))
  else if o = 11 then goE (wayL o n pc)
  else if o = 12 then goE (wayL o n pc)
  else if o = 13 then (if S = [] then { goE (behL o pc) with ht := true } else goE (S.getD (S.length - 1) 0))
  else if o = 15 then { goE (behL o pc) with st := true, at_ := n % 4294967296, va := R.getD a 0 }
  else if o = 16 then { goE (behL o pc) with ou := true, va := R.getD a 0 }
  else goE (behL o pc)

/-- what Do answers: registers, stack, effect -/
def doL (o a b : Nat) (n pc : Int) (R S D : List Int) : List Int × List Int × Eff :=
  if fltL o a b n S.length D.length = 0 then (doR o a b n R D, doS o pc S, doE o a n pc R S) else (R, S, { goE pc with fl := fltL o a b n S.length D.length })

theorem rgA_cell (R : List Int) (v : Value) (i : Nat) (h : i < R.length) : (rgA R v)[i]? = some (.int .u32 (R.getD i 0)) := by
  simp only [rgA, wrds, List.getElem?_toArray]
  rw [List.getElem?_append_left (by simpa using h)]
  simp [h]
theorem rgA_last (R : List Int) (v : Value) (h : R.length = 8) : (rgA R v)[8]? = some v := by
  simp [rgA, wrds, h]
theorem rgA_set (R : List Int) (v : Value) (i : Nat) (h : i < R.length) (x : Int) : (rgA R v).setIfInBounds i (.int .u32 x) = rgA (R.set i x) v := by
  simp [rgA, wrds, List.map_set, h]
theorem rgA_stack (R : List Int) (v v' : Value) (h : R.length = 8) : (rgA R v).setIfInBounds 8 v' = rgA R v' := by
  simp [rgA, wrds, h]
theorem rgA_size (R : List Int) (v : Value) (h : R.length = 8) : (rgA R v).size = 9 := by
  simp [rgA, wrds, h]

/-- Do's variables: the instruction, the registers, both results; q: the first block -/
structure DSt (w : World) (q : Nat) (o a b n : Int) (R : List Int) (v : Value) (S : List Int) (wr : World) : Prop where
  bi : Blk wr q 117 #[.int .u8 o, .int .u8 a, .int .u8 b, .int .i32 n]
  br : Blk wr (q + 1) 47 (rgA R v)
  b8 : Blk wr (q + 1 + 1) 47 noRegs
  b9 : Blk wr (q + 1 + 1 + 1) 134 (efA 0)
  ow : POwnV wr (q + 4) v S
  bel : Below q w wr
  len : R.length = 8

theorem DSt.below {w wr wr' : World} {q : Nat} {o a b n : Int} {R S : List Int} {v : Value} (h : DSt w q o a b n R v S wr) (hb : Below wr.heap.size wr wr') : DSt w q o a b n R v S wr' :=
  ⟨h.bi.grow hb, h.br.grow hb, h.b8.grow hb, h.b9.grow hb, h.ow.below hb, h.bel.trans (hb.mono (by have := h.bi.lt; omega)), h.len⟩
theorem DSt.drewN {w wr : World} {q : Nat} {o a b n : Int} {R S : List Int} {v : Value} (h : DSt w q o a b n R v S wr) (k : Nat) : DSt w q o a b n R v S (wr.drewN k) :=
  ⟨h.bi, h.br, h.b8, h.b9, h.ow, below_drewN h.bel k, h.len⟩
theorem DSt.setR {w wr : World} {q : Nat} {o a b n : Int} {R S : List Int} {v : Value} (h : DSt w q o a b n R v S wr) (i : Nat) (hi : i < 8) (x : Int) : DSt w q o a b n (R.set i x) v S (wr.setCell ⟨q + 1, i, none⟩ (.int .u32 x)) :=
  ⟨h.bi.other (by omega) _ _, by have := h.br.set i (.int .u32 x); rw [rgA_set R v i (by rw [h.len]; exact hi)] at this; exact this, h.b8.other (by omega) _ _, h.b9.other (by omega) _ _,
    h.ow.keptFar (grown_setCell _ _ _ _) (by omega), h.bel.grown (grown_setCell _ _ _ _) (by have := h.bi.lt; omega) (fun k hk => by cases hk; omega), by rw [List.length_set]; exact h.len⟩
/-- .. and the effect's -/
structure DSx (w : World) (q : Nat) (o a b n : Int) (R : List Int) (v : Value) (S : List Int) (gx : Nat) (E : Array Value) (wr : World) : Prop where
  st : DSt w q o a b n R v S wr
  bx : Blk wr gx 134 E
  ge : q + 4 ≤ gx
  ne : v.ownBlock ≠ some gx
theorem DSx.setR {w wr : World} {q gx : Nat} {o a b n : Int} {R S : List Int} {v : Value} {E : Array Value} (h : DSx w q o a b n R v S gx E wr) (i : Nat) (hi : i < 8) (x : Int) : DSx w q o a b n (R.set i x) v S gx E (wr.setCell ⟨q + 1, i, none⟩ (.int .u32 x)) :=
  ⟨h.st.setR i hi x, h.bx.other (by have := h.ge; omega) _ _, h.ge, h.ne⟩
theorem DSx.drewN {w wr : World} {q gx : Nat} {o a b n : Int} {R S : List Int} {v : Value} {E : Array Value} (h : DSx w q o a b n R v S gx E wr) (k : Nat) : DSx w q o a b n R v S gx E (wr.drewN k) :=
  ⟨h.st.drewN k, h.bx, h.ge, h.ne⟩
theorem POwnV.kept {w w' : World} {B g : Nat} {v : Value} {xs : List Int} (h : POwnV w B v xs) (hg : w.grownBy w' (some g)) (hne : v.ownBlock ≠ some g) : POwnV w' B v xs := by
  rcases h.shape with ⟨rfl, rfl⟩ | ⟨g', cap, rfl, ho⟩
  · exact POwnV.nil _ _
  · exact World.ownsRow.kept h hg (.inr hne)
theorem DSt.far {w wr wr' : World} {q gx : Nat} {o a b n : Int} {R S : List Int} {v : Value} (h : DSt w q o a b n R v S wr) (hg : wr.grownBy wr' (some gx)) (hq : q + 4 ≤ gx) (hne : v.ownBlock ≠ some gx) : DSt w q o a b n R v S wr' :=
  ⟨h.bi.kept hg (by intro e; injection e with e; omega), h.br.kept hg (by intro e; injection e with e; omega), h.b8.kept hg (by intro e; injection e with e; omega), h.b9.kept hg (by intro e; injection e with e; omega),
    h.ow.kept hg hne, h.bel.grown hg (by have := h.bi.lt; omega) (fun k hk => by cases hk; omega), h.len⟩
theorem DSx.setE {w wr : World} {q gx : Nat} {o a b n : Int} {R S : List Int} {v : Value} {E : Array Value} (h : DSx w q o a b n R v S gx E wr) (i : Nat) (x : Value) : DSx w q o a b n R v S gx (E.setIfInBounds i x) (wr.setCell ⟨gx, i, none⟩ x) :=
  ⟨h.st.far (grown_setCell _ _ _ _) h.ge h.ne, h.bx.set i x, h.ge, h.ne⟩

theorem DSx.to {w wr : World} {q gx : Nat} {o a b n : Int} {R R' S S' : List Int} {v : Value} {E E' : Array Value} (h : DSx w q o a b n R v S gx E wr) (h1 : R' = R) (h2 : S' = S) (h3 : E' = E) : DSx w q o a b n R' v S' gx E' wr := by
  subst h1 h2 h3; exact h
theorem DSx.below {w wr wr' : World} {q gx : Nat} {o a b n : Int} {R S : List Int} {v : Value} {E : Array Value} (h : DSx w q o a b n R v S gx E wr) (hb : Below wr.heap.size wr wr') : DSx w q o a b n R v S gx E wr' :=
  ⟨h.st.below hb, h.bx.grow hb, h.ge, h.ne⟩
theorem DSx.reg {w wr : World} {q gx : Nat} {o a b n : Int} {R S : List Int} {v : Value} {E : Array Value} (h : DSx w q o a b n R v S gx E wr) {i : Nat} (hi : i < 8) : wr.cell? ⟨q + 1, i, none⟩ = some (.int .u32 (R.getD i 0)) := by
  rw [h.st.br.cell, rgA_cell R v i (by rw [h.st.len]; exact hi)]
theorem DSt.withE {w wr : World} {q : Nat} {o a b n : Int} {R S : List Int} (g s c : Nat) (ob : Obj) {E : Array Value} (h : DSt w q o a b n R (.slice (some ⟨g, 0, none⟩) s c) S wr) (hob : ob = .cells E 134) :
    DSx w q o a b n R (.slice (some ⟨g, 0, none⟩) s c) S wr.heap.size E (wr.alloc ob) := by
  subst hob
  have hl : g < wr.heap.size := by
    rcases h.ow.shape with ⟨e, _⟩ | ⟨g', cap, e, ho⟩
    · cases e
    · injection e with e _ _; injection e with e; injection e with e _ _; rw [e]; exact ho.lt
  exact ⟨h.below (new_alloc _ _), Blk.new _ _ _, by have := h.b9.lt; omega, fun e => by have e' : some g = some wr.heap.size := e; injection e' with e'; omega⟩
theorem POwnV.notType {w : World} {B g : Nat} {v : Value} {xs : List Int} {E : Array Value} (h : POwnV w B v xs) (hb : Blk w g 134 E) : v.ownBlock ≠ some g := by
  rcases h.shape with ⟨rfl, _⟩ | ⟨g', cap, rfl, ho⟩
  · intro e; cases e
  · intro e
    have e' : some g' = some g := e
    injection e' with e'
    obtain ⟨cur, _, h2, _⟩ := ho.parts
    rw [e', show w.heap[g]? = _ from hb] at h2
    simp at h2
theorem DSx.pushed {w wr w6 : World} {q gx g s c : Nat} {o a b n bh : Int} {R S : List Int} {E : Array Value} {p' : Option Addr} {l' c' : Nat} (h : DSx w q o a b n R (.slice (some ⟨g, 0, none⟩) s c) S gx E wr)
    (ho : POwnV w6 (q + 4) (.slice p' l' c') (S ++ [bh])) (hgr : (wr.alloc (.cells #[.int .u32 bh] 31)).grownBy w6 (some g)) (hg : q + 4 ≤ g) :
    w6.cell? ⟨q + 1, 8, none⟩ = some (.slice (some ⟨g, 0, none⟩) s c) ∧ w6.frozen? ⟨q + 1, 8, none⟩ = false ∧ (w6.setCell ⟨q + 1, 8, none⟩ (.slice p' l' c')).cell? ⟨gx, 0, none⟩ = E[0]? ∧ (∀ i, (w6.setCell ⟨q + 1, 8, none⟩ (.slice p' l' c')).frozen? ⟨gx, i, none⟩ = false) ∧
      DSx w q o a b n R (.slice p' l' c') (S ++ [bh]) gx E (w6.setCell ⟨q + 1, 8, none⟩ (.slice p' l' c')) := by
  have h5 := h.below (new_alloc wr (.cells #[.int .u32 bh] 31))
  have k1 := h5.st.br.kept hgr (by intro e; injection e with e; omega)
  have kx := h5.bx.kept hgr (by intro e; exact h.ne e.symm)
  have kx' := kx.other (k := q + 1) (by have := h.ge; omega) 8 (.slice p' l' c')
  refine ⟨by rw [k1.cell, rgA_last R _ h.st.len], k1.free 8, by rw [kx'.cell], fun i => kx'.free i, ⟨⟨?_, ?_, ?_, ?_, ?_, ?_, h.st.len⟩, kx', h.ge, ho.notType kx⟩⟩
  · exact (h5.st.bi.kept hgr (by intro e; injection e with e; omega)).other (by omega) _ _
  · have := k1.set 8 (.slice p' l' c'); rw [rgA_stack R _ _ h.st.len] at this; exact this
  · exact (h5.st.b8.kept hgr (by intro e; injection e with e; omega)).other (by omega) _ _
  · exact (h5.st.b9.kept hgr (by intro e; injection e with e; omega)).other (by omega) _ _
  · exact ho.keptFar (grown_setCell _ _ _ _) (by omega)
  · exact (h5.st.bel.grown hgr (by have := h5.st.bi.lt; omega) (fun k hk => by cases hk; omega)).grown (grown_setCell _ _ _ _) (by have := (h5.st.bi.kept hgr (by intro e; injection e with e; omega)).lt; omega) (fun k hk => by cases hk; omega)
theorem DSx.cells {w wr : World} {q gx : Nat} {o a b n bh : Int} {R S : List Int} {v : Value} (h : DSx w q o a b n R v S gx (efA bh) wr) :
    wr.cell? ⟨q + 1, 8, none⟩ = some v ∧ wr.frozen? ⟨q + 1, 8, none⟩ = false ∧ wr.cell? ⟨gx, 0, none⟩ = some (.int .u32 bh) ∧ wr.cell? ⟨gx, 1, none⟩ = some (.bool false) ∧ wr.cell? ⟨gx, 2, none⟩ = some (.int .i64 0) ∧ wr.cell? ⟨gx, 3, none⟩ = some (.bool false) ∧ wr.cell? ⟨gx, 4, none⟩ = some (.bool false) ∧ wr.cell? ⟨gx, 5, none⟩ = some (.int .u32 0) ∧ wr.cell? ⟨gx, 6, none⟩ = some (.int .u32 0) ∧ (∀ i, wr.frozen? ⟨gx, i, none⟩ = false) ∧
      ∀ v' S', v'.ownBlock ≠ some gx → (POwnV wr (q + 4) v S → POwnV wr (q + 4) v' S') → DSx w q o a b n R v' S' gx (efA bh) (wr.setCell ⟨q + 1, 8, none⟩ v') := by
  refine ⟨by rw [h.st.br.cell, rgA_last R _ h.st.len], h.st.br.free 8, h.bx.cell 0, h.bx.cell 1, h.bx.cell 2, h.bx.cell 3, h.bx.cell 4, h.bx.cell 5, h.bx.cell 6, fun i => h.bx.free i, fun v' S' hne ho => ⟨⟨h.st.bi.other (by omega) _ _, ?_, h.st.b8.other (by omega) _ _, h.st.b9.other (by omega) _ _, (ho h.st.ow).keptFar (grown_setCell _ _ _ _) (by omega), ?_, h.st.len⟩, h.bx.other (by have := h.ge; omega) _ _, h.ge, hne⟩⟩
  · have := h.st.br.set 8 v'; rw [rgA_stack R _ _ h.st.len] at this; exact this
  · exact h.st.bel.grown (grown_setCell _ _ _ _) (by have := h.st.bi.lt; omega) (fun k hk => by cases hk; omega)
theorem DSx.setAll {w wr : World} {q gx : Nat} {o a b n : Int} {R S : List Int} {v : Value} {E : Array Value} (h : DSx w q o a b n R v S gx E wr) (E' : Array Value) (hs : E'.size = E.size) : DSx w q o a b n R v S gx E' (wr.setCells gx 0 E'.toList) :=
  ⟨h.st.far (grown_setCells gx _ _ _) h.ge h.ne, h.bx.setAll E' hs, h.ge, h.ne⟩
theorem POwnV.cellAt {w : World} {B g s c k : Nat} {S : List Int} (h : POwnV w B (.slice (some ⟨g, 0, none⟩) s c) S) (hS : S.length = s) (hk : k < s) : w.cell? ⟨g, k, none⟩ = some (.int .u32 (S.getD k 0)) := by
  rcases h.shape with ⟨e, _⟩ | ⟨g', cap, e, ho⟩
  · cases e
  · injection e with e _ _; injection e with e; injection e with e _ _
    rw [e]; exact ho.cell k (by omega)
theorem POwnV.front {w : World} {B g c k : Nat} {S : List Int} (h : POwnV w B (.slice (some ⟨g, 0, none⟩) (k + 1) c) S) (hS : S.length = k + 1) : POwnV w B (.slice (some ⟨g, 0, none⟩) k c) S.dropLast := by
  rcases h.shape with ⟨e, _⟩ | ⟨g', cap, e, ho⟩
  · cases e
  · injection e with e _ e3; injection e with e; injection e with e _ _
    subst e e3
    obtain ⟨cur, h1, h2, h3, h4, h5, h6⟩ := ho.parts
    have hl : S.dropLast.length = k := by rw [List.length_dropLast]; omega
    have : POwn w B g c S.dropLast := POwn.mk h1 h2 (by omega) h4 h5 (by
      rw [hl]
      have := congrArg (List.take k) h6
      rw [List.take_take, Nat.min_eq_left (by omega)] at this
      rw [this, List.dropLast_eq_take]
      simp [wrds, hS])
    have := this.val
    rw [hl] at this
    exact this

theorem DSx.stored {w wr : World} {q gx : Nat} {o a b n : Int} {R S : List Int} {v : Value} {E : Array Value} (h : DSx w q o a b n R v S gx E wr) (A F : Array Value) (hA : A.size = 9) (hF : F.size = 7) :
    Blk ((wr.setCells (q + 1 + 1) 0 A.toList).setCells (q + 1 + 1 + 1) 0 F.toList).drew (q + 1 + 1) 47 A ∧ Blk ((wr.setCells (q + 1 + 1) 0 A.toList).setCells (q + 1 + 1 + 1) 0 F.toList).drew (q + 1 + 1 + 1) 134 F ∧
      POwnV ((wr.setCells (q + 1 + 1) 0 A.toList).setCells (q + 1 + 1 + 1) 0 F.toList).drew q v S ∧ Below q w ((wr.setCells (q + 1 + 1) 0 A.toList).setCells (q + 1 + 1 + 1) 0 F.toList).drew := by
  have g1 := grown_setCells (q + 1 + 1) A.toList 0 wr
  have b1 : Blk (wr.setCells (q + 1 + 1) 0 A.toList) (q + 1 + 1) 47 A := h.st.b8.setAll A (by rw [hA]; rfl)
  have b2 := h.st.b9.kept g1 (by intro e; injection e with e; omega)
  have o1 := h.st.ow.keptFar g1 (by omega)
  have l1 := h.st.bel.grown g1 (by have := h.st.bi.lt; omega) (fun k hk => by cases hk; omega)
  generalize wr.setCells (q + 1 + 1) 0 A.toList = w1 at *
  have g2 := grown_setCells (q + 1 + 1 + 1) F.toList 0 w1
  have b3 : Blk (w1.setCells (q + 1 + 1 + 1) 0 F.toList) (q + 1 + 1 + 1) 134 F := b2.setAll F (by rw [hF]; rfl)
  have k1 : Blk (w1.setCells (q + 1 + 1 + 1) 0 F.toList) (q + 1 + 1) 47 A := b1.kept g2 (by intro e; injection e with e; omega)
  have o2 : POwnV (w1.setCells (q + 1 + 1 + 1) 0 F.toList) q v S := (o1.keptFar g2 (by omega)).low (by omega)
  exact ⟨k1, b3, o2, (l1.grown g2 (by have := b1.lt; omega) (fun k hk => by cases hk; omega)).drew⟩

end Go.Proofs.YtnpaijbkhmnfpaaGreat

/- What a hart does in a step, as lists: P15.2. -/
namespace Go.Proofs.YtnpaijbkhmnfpaaGreat
open Go.RowKit Go.Maps

/-- all of a hart -/
structure Hs where
  st : Int
  pc : Nat
  R : List Int
  S : List Int
  hv : List Int
  L : List Ln

/-- what a load or store is handed -/
def dataL (xs : List Int) (o : Nat) (n : Int) : List Int := if o = 14 ∨ o = 15 then (xs.drop n.toNat).take 4 else []
/-- what an instruction's effect tells -/
def evX (id : Int) (pc : Nat) (o : Nat) (E : Eff) : List Ev :=
  [⟨2, id, pc, o, E.nx⟩] ++ (if E.ou = true then [⟨5, id, 0, 0, E.va⟩] else []) ++ (if E.st = true then [⟨6, id, E.at_, 0, E.va⟩] else []) ++ (if E.ht = true then [⟨12, id, pc, 0, 0⟩] else [])
/-- what a step leaves: the hart, memory's bytes, the events -/
structure St where
  h : Hs
  xs : List Int
  ev : List Ev
def fltH (id : Int) (h : Hs) (xs : List Int) (e : Int) : St := ⟨{ h with st := 2 }, xs, [⟨4, id, h.pc, 0, e⟩]⟩
def movH (id : Int) (h : Hs) (xs : List Int) (s : Fs) : St :=
  if s.e = 0 then ⟨{ h with hv := s.out, L := s.L }, xs, [⟨1, id, ((h.pc + h.hv.length : Nat) : Int), 0, if s.is = true then 1 else 0⟩]⟩ else fltH id h xs s.e
def folH (id : Int) (h : Hs) (xs : List Int) : Option Nat → St
  | none => fltH id h xs 120
  | some z => ⟨{ h with pc := z }, xs, [⟨3, id, h.pc, 0, z⟩]⟩
def exeH (id : Int) (h : Hs) (xs : List Int) (o : Nat) (r : List Int × List Int × Eff) : St :=
  if r.2.2.fl = 0 then ⟨⟨if r.2.2.ht = true then 1 else h.st, r.2.2.nx.toNat, r.1, r.2.1, h.hv, h.L⟩, if r.2.2.st = true then putA xs r.2.2.at_.toNat (le4 r.2.2.va) else xs, evX id h.pc o r.2.2⟩ else fltH id h xs r.2.2.fl
/-- what is done with an instruction -/
def insH (id : Int) (h : Hs) (xs : List Int) (tr : Option Nat) (d : Dec) : St :=
  if d.e = 0 then (if d.o = 4 then folH id h xs tr else exeH id h xs d.o.toNat (doL d.o.toNat d.a.toNat d.b.toNat d.n h.pc h.R h.S (dataL xs d.o.toNat d.n))) else fltH id h xs 120
def nilH (h : Hs) : Hs := { h with hv := [] }
/-- a step -/
def stpH (id : Int) (h : Hs) (xs : List Int) (hold : Bool) (tr : Option Nat) : St :=
  if h.st = 0 then (if doneB h.hv = true then insH id (nilH h) xs tr (dec h.hv) else movH id h xs (stpR h.L xs h.pc h.hv hold)) else ⟨h, xs, []⟩

/-- a hart that may be: at most k granules -/
structure HsOk (k : Nat) (h : Hs) : Prop where
  pc : h.pc ≤ 4294967295
  lR : h.R.length = 8
  wR : Wds h.R
  wS : Wds h.S
  lS : h.S.length ≤ 64
  bH : Byt h.hv
  lH : h.hv.length ≤ 6
  wL : LnW h.L
  lL : h.L.length ≤ k
theorem HsOk.more {k k' : Nat} {h : Hs} (hk : HsOk k h) (h1 : k ≤ k') : HsOk k' h := ⟨hk.pc, hk.lR, hk.wR, hk.wS, hk.lS, hk.bH, hk.lH, hk.wL, Nat.le_trans hk.lL h1⟩
theorem HsOk.nil {k : Nat} {h : Hs} (hk : HsOk k h) : HsOk k (nilH h) := ⟨hk.pc, hk.lR, hk.wR, hk.wS, hk.lS, byt_nil, Nat.zero_le _, hk.wL, hk.lL⟩

end Go.Proofs.YtnpaijbkhmnfpaaGreat

/- What an instruction tells: done. -/
namespace Go.Proofs.YtnpaijbkhmnfpaaGreat
open Go.RowKit Go.Maps

/-- done's variables -/
structure DnS (w : World) (gx : Nat) (h : Nat) (id : Int) (pc : Nat) (E : Eff) (L : List Ev) (v : Value) (wx : World) : Prop where
  bel : Below w.heap.size w wx
  bx : Blk wx gx 134 (effA E)
  c0 : wx.cell? ⟨h, 0, none⟩ = some (.int .i64 id)
  c2 : wx.cell? ⟨h, 2, none⟩ = some (.int .u32 pc)
  ow : EOwn 41 wx w.heap.size v L
  len : L.length ≤ 8
theorem DnS.below {w wx wy : World} {gx h pc : Nat} {id : Int} {E : Eff} {L : List Ev} {v : Value} (k : DnS w gx h id pc E L v wx) (hb : Below wx.heap.size wx wy) : DnS w gx h id pc E L v wy :=
  ⟨below_step k.bel hb, k.bx.grow hb, by rw [hb.cell (p := ⟨h, 0, none⟩) (cell_lt k.c0)]; exact k.c0, by rw [hb.cell (p := ⟨h, 2, none⟩) (cell_lt k.c2)]; exact k.c2, k.ow.below hb, k.len⟩

theorem ifF (l x : List Ev) : (l ++ if false = true then x else []) = l := by simp
theorem cell_other {w : World} {g h i j : Nat} {v : Value} (hne : g ≠ h) : (w.setCell ⟨g, i, none⟩ v).cell? ⟨h, j, none⟩ = w.cell? ⟨h, j, none⟩ :=
  World.cell?_setCell_other _ _ _ _ (by intro e; injection e with e; exact hne e)
theorem EOwn.ownNe {w : World} {B g : Nat} {v : Value} {L : List Ev} {T T' : TypeId} {E : Array Value} (h : EOwn T w B v L) (hb : Blk w g T' E) (hT : T ≠ T') : some g ≠ v.ownBlock := by
  rcases h.2 with ⟨e1, e2⟩ | ⟨g', cap, cur, e1, e2, e3, e4⟩
  · rw [e1]; intro e; cases e
  · rw [e1]
    intro e
    have e' : some g = some g' := e
    injection e' with e'
    rw [← e', show w.heap[g]? = _ from hb] at e3
    injection e3 with e3
    injection e3 with _ e3 _
    exact hT e3.symm
theorem EOwn.ownGe {w : World} {B : Nat} {v : Value} {L : List Ev} {T : TypeId} (h : EOwn T w B v L) {k : Nat} (hk : v.ownBlock = some k) : B ≤ k := by
  rcases h.2 with ⟨e1, e2⟩ | ⟨g', cap, cur, e1, e2, e3, e4⟩
  · rw [e1] at hk; cases hk
  · rw [e1] at hk
    have e' : some g' = some k := hk
    injection e' with e'
    omega
theorem DnS.pushed {w wx w' : World} {gx h pc : Nat} {id : Int} {E : Eff} {L : List Ev} {v v' : Value} {q : Ev} {ob : Obj} (k : DnS w gx h id pc E L v wx) (hh : h < w.heap.size) (ho : EOwn 41 w' w.heap.size v' (L ++ [q])) (hg : (wx.alloc ob).grownBy w' v.ownBlock) (hb : Below w.heap.size w w') (hl : L.length ≤ 7) :
    DnS w gx h id pc E (L ++ [q]) v' w' := by
  have k1 := k.below (new_alloc wx ob)
  have hc : ∀ j u, (wx.alloc ob).cell? ⟨h, j, none⟩ = some u → w'.cell? ⟨h, j, none⟩ = some u := fun j u hu => by
    have := hg.block h (cell_lt hu) (fun e => by have := k1.ow.ownGe e.symm; omega)
    unfold World.cell? at hu ⊢
    dsimp only at hu ⊢
    rw [this]; exact hu
  exact ⟨hb, k1.bx.kept hg (k1.ow.ownNe k1.bx (by decide)), hc _ _ k1.c0, hc _ _ k1.c2, ho, by rw [List.length_append]; simp; omega⟩

set_option maxHeartbeats 4000000 in
set_option maxRecDepth 8000 in
theorem hdone_any (h pc o : Nat) (id : Int) (E : Eff) (w : World) (h0 : w.cell? ⟨h, 0, none⟩ = some (.int .i64 id)) (h2 : w.cell? ⟨h, 2, none⟩ = some (.int .u32 pc)) (hpc : pc ≤ 4294967295) (hnx : 0 ≤ E.nx ∧ E.nx ≤ 4294967295) (hat : 0 ≤ E.at_ ∧ E.at_ ≤ 4294967295) (hva : 0 ≤ E.va ∧ E.va ≤ 4294967295) :
    Calls Tryz.prog 83 #[.pointer (some ⟨h, 0, none⟩), .int .u8 o, .agg (effA E)] w fun e w' => ∃ v, e = .returned v ∧ EOwn 41 w' w.heap.size v (evX id pc o E) ∧ Below w.heap.size w w' := by
  obtain ⟨nx, ht, fl, ou, st, at_, va⟩ := E
  have HB1 := Hid.in (Blk.new w 134 (effA ⟨nx, ht, fl, ou, st, at_, va⟩))
  have HN1 := Hid.in (new_alloc w (.cells (effA ⟨nx, ht, fl, ou, st, at_, va⟩) 134))
  have HH0 : Hid (h < w.heap.size) := cell_lt h0
  have hz := size_one w (.cells (effA ⟨nx, ht, fl, ou, st, at_, va⟩) 134)
  dsimp only at hnx hat hva
  simp only [effA] at HB1 HN1 hz ⊢
  go_enter Tryz.func83, Tryz.ntmps83
  go_upto_region 1 with fail
  generalize w.alloc (.cells #[.int .u32 nx, .bool ht, .int .i64 fl, .bool ou, .bool st, .int .u32 at_, .int .u32 va] 134) = w1 at *
  have c0 : w1.cell? ⟨h, 0, none⟩ = some (.int .i64 id) := by rw [HN1.out.cell (p := ⟨h, 0, none⟩) (cell_lt h0)]; exact h0
  have c2 : w1.cell? ⟨h, 2, none⟩ = some (.int .u32 pc) := by rw [HN1.out.cell (p := ⟨h, 2, none⟩) (cell_lt h2)]; exact h2
  have x0 : w1.cell? ⟨w.heap.size, 0, none⟩ = some (.int .u32 nx) := HB1.out.cell 0
  have HE := fun W (hc : W.cell? ⟨h, 0, none⟩ = some (.int .i64 id)) => event_any h id 2 pc nx W hc (by omega) hnx
  have HG := Hid.in (Nat.lt_of_lt_of_eq (Nat.lt_succ_self w.heap.size) hz.symm)
  clear hz
  go_cut [7] (fun v7 wx => ∃ g, v7 = .pointer (some ⟨g, 0, none⟩) ∧ Blk wx g 41 (evA ⟨2, id, pc, 0, nx⟩) ∧ Below w1.heap.size w1 wx ∧ w1.heap.size ≤ g)
  case first =>
    have k0 : w1.drew.cell? ⟨h, 0, none⟩ = some (.int .i64 id) := c0
    have ka : (w1.alloc (.cells zEv 41)).drew.cell? ⟨h, 0, none⟩ = some (.int .i64 id) := by
      show (w1.alloc (.cells zEv 41)).cell? _ = _
      rw [(new_alloc w1 _).cell (p := ⟨h, 0, none⟩) (cell_lt c0)]; exact c0
    have HEa := HE _ k0
    have HEb := HE _ ka
    have HZ := Hid.in (Blk.new w1 41 zEv)
    have HNz := Hid.in (new_alloc w1 (.cells zEv 41))
    have hne1 : ¬ h = w1.heap.size := fun e => by have := cell_lt c2; omega
    have hne2 : ¬ w.heap.size = w1.heap.size := fun e => by have := cell_lt x0; omega
    have hne3 : ¬ w1.heap.size = h := fun e => hne1 e.symm
    have hne4 : ¬ w1.heap.size = w.heap.size := fun e => hne2 e.symm
    clear HE k0 ka
    simp only [evA] at HEa HEb
    go_region_held3 (fun W => W.cell? ⟨h, 2, none⟩ = some (.int .u32 pc) ∧ W.cell? ⟨w.heap.size, 0, none⟩ = some (.int .u32 nx)) (first | (with_reducible exact hk1) | go_keep)
      (first
        | (go_at_call 80; (with_reducible refine HEa.mono ?_); rintro e w2 ⟨rfl, hb2⟩; have HBa := Hid.in (below_step (below_draws (below_self w1) 1) hb2); have hk1 : w2.cell? ⟨h, 2, none⟩ = some (.int .u32 pc) ∧ w2.cell? ⟨w.heap.size, 0, none⟩ = some (.int .u32 nx) := ⟨(HBa.out.cell (p := ⟨h, 2, none⟩) (cell_lt c2)).trans c2, (HBa.out.cell (p := ⟨w.heap.size, 0, none⟩) (cell_lt x0)).trans x0⟩; clear hb2)
        | (go_at_call 80; (with_reducible refine HEb.mono ?_); rintro e w2 ⟨rfl, hb2⟩; have HBb := Hid.in (below_step (below_draws HNz.out 1) hb2); have HZb : Hid (Blk w2 w1.heap.size 41 zEv) := HZ.out.grow (below_step (below_draws (below_self _) 1) hb2); have hk1 : w2.cell? ⟨h, 2, none⟩ = some (.int .u32 pc) ∧ w2.cell? ⟨w.heap.size, 0, none⟩ = some (.int .u32 nx) := ⟨(HBb.out.cell (p := ⟨h, 2, none⟩) (cell_lt c2)).trans c2, (HBb.out.cell (p := ⟨w.heap.size, 0, none⟩) (cell_lt x0)).trans x0⟩; have y0 : w2.cell? ⟨w1.heap.size, 0, none⟩ = some (.int .u8 0) := HZb.out.cell 0; have y1 : w2.cell? ⟨w1.heap.size, 1, none⟩ = some (.int .i64 0) := HZb.out.cell 1; have y2 : w2.cell? ⟨w1.heap.size, 2, none⟩ = some (.int .i64 0) := HZb.out.cell 2; have y3 : w2.cell? ⟨w1.heap.size, 3, none⟩ = some (.int .i64 0) := HZb.out.cell 3; have y4 : w2.cell? ⟨w1.heap.size, 4, none⟩ = some (.int .u8 0) := HZb.out.cell 4; have y5 : w2.cell? ⟨w1.heap.size, 5, none⟩ = some (.int .i64 0) := HZb.out.cell 5; have y6 : w2.cell? ⟨w1.heap.size, 6, none⟩ = some (.int .i64 0) := HZb.out.cell 6; have yf : ∀ i, w2.frozen? ⟨w1.heap.size, i, none⟩ = false := fun i => HZb.out.free i; clear hb2))
    · go_wp2_with fail
      go_meet
      case rel => exact ⟨_, rfl, Blk.new w2 41 _, below_alloc HBa.out _, HBa.out.size⟩
    · go_wp2_with fail
      go_meet
      case rel => exact ⟨_, rfl, HZb.out.setAll (evA ⟨2, id, pc, 0, nx⟩) rfl, HBb.out.grown (grown_setCells w1.heap.size (evA ⟨2, id, pc, 0, nx⟩).toList 0 w2) HBb.out.size (fun k hk => by cases hk; exact Nat.le_refl _), Nat.le_refl _⟩
  case rest =>
    obtain ⟨g, rfl, hbg, hbc, hg1⟩ := hcut
    have HX2 := Hid.in (HB1.out.grow hbc)
    have HC0 : Hid (wc.cell? ⟨h, 0, none⟩ = some (.int .i64 id)) := (hbc.cell (p := ⟨h, 0, none⟩) (cell_lt c0)).trans c0
    have HC2 : Hid (wc.cell? ⟨h, 2, none⟩ = some (.int .u32 pc)) := (hbc.cell (p := ⟨h, 2, none⟩) (cell_lt c2)).trans c2
    have HL : Hid (h < w1.heap.size) := cell_lt c0
    have HBg := Hid.in hbg
    have HBw := Hid.in (below_step HN1.out hbc)
    have HLg := Hid.in hg1
    have f4 : wc.frozen? ⟨g, 4, none⟩ = false := hbg.free 4
    have y4 : wc.cell? ⟨g, 4, none⟩ = some (.int .u8 0) := hbg.cell 4
    have HBg2 : Hid (Blk (wc.setCell ⟨g, 4, none⟩ (.int .u8 o)) g 41 (evA ⟨2, id, pc, o, nx⟩)) := hbg.set 4 (.int .u8 o)
    have HGg := Hid.in (grown_setCell wc g 4 (.int .u8 o))
    clear HE HN1 HB1 c0 c2 x0 hbg hbc hg1 h0 h2
    go_upto_region 3 with fail
    have HX3 := Hid.in (HX2.out.kept HGg.out (by intro e; injection e with e; have := HG.out; have := HLg.out; omega))
    have hd0 : (wc.setCell ⟨g, 4, none⟩ (.int .u8 o)).cell? ⟨h, 0, none⟩ = some (.int .i64 id) := by rw [cell_other (by have := HL.out; have := HLg.out; omega)]; exact HC0.out
    have hd2 : (wc.setCell ⟨g, 4, none⟩ (.int .u8 o)).cell? ⟨h, 2, none⟩ = some (.int .u32 pc) := by rw [cell_other (by have := HL.out; have := HLg.out; omega)]; exact HC2.out
    have HB3 := Hid.in (HBw.out.grown HGg.out HBw.out.size (fun k hk => by cases hk; have := HG.out; have := HLg.out; omega))
    clear HX2 HC0 HC2 HBg HGg f4 y4 HBw
    generalize wc.setCell ⟨g, 4, none⟩ (.int .u8 o) = w3 at *
    have y0 : w3.cell? ⟨g, 0, none⟩ = some (.int .u8 2) := HBg2.out.cell 0
    have y1 : w3.cell? ⟨g, 1, none⟩ = some (.int .i64 0) := HBg2.out.cell 1
    have y2 : w3.cell? ⟨g, 2, none⟩ = some (.int .i64 id) := HBg2.out.cell 2
    have y3 : w3.cell? ⟨g, 3, none⟩ = some (.int .i64 pc) := HBg2.out.cell 3
    have y4 : w3.cell? ⟨g, 4, none⟩ = some (.int .u8 o) := HBg2.out.cell 4
    have y5 : w3.cell? ⟨g, 5, none⟩ = some (.int .i64 0) := HBg2.out.cell 5
    have y6 : w3.cell? ⟨g, 6, none⟩ = some (.int .i64 nx) := HBg2.out.cell 6
    have HS : Hid (DnS w w.heap.size h id pc ⟨nx, ht, fl, ou, st, at_, va⟩ [⟨2, id, pc, o, nx⟩] (.slice (some ⟨w3.heap.size, 0, none⟩) 1 1) (w3.alloc (.cells (evA ⟨2, id, pc, o, nx⟩) 41))) :=
      ⟨below_alloc HB3.out _, HX3.out.grow (new_alloc _ _), by rw [(new_alloc w3 _).cell (p := ⟨h, 0, none⟩) (cell_lt hd0)]; exact hd0, by rw [(new_alloc w3 _).cell (p := ⟨h, 2, none⟩) (cell_lt hd2)]; exact hd2, (EOwn.one w3 _).lower HB3.out.size, by simp⟩
    clear HX3 hd0 hd2 HB3 HBg2
    simp only [evA] at HS
    have HH : Hid (h < w.heap.size) := HH0.out
    go_upto_region 4 with fail
    generalize w3.heap.size = g3 at *
    generalize w3.alloc (.cells #[.int .u8 2, .int .i64 0, .int .i64 id, .int .i64 pc, .int .u8 o, .int .i64 0, .int .i64 nx] 41) = w4 at *
    clear y0 y1 y2 y3 y4 y5 y6
    have HLN : Hid (([⟨2, id, pc, o, nx⟩] : List Ev).length ≤ 1048576) := by show _ ≤ _; have := HS.out.len; omega
    have HLM : Hid (([⟨2, id, pc, o, nx⟩] : List Ev).length ≤ 7) := by show _ ≤ _; simp
    have q3 : w4.cell? ⟨w.heap.size, 3, none⟩ = some (.bool ou) := HS.out.bx.cell 3
    have q5 : w4.cell? ⟨w.heap.size, 5, none⟩ = some (.int .u32 at_) := HS.out.bx.cell 5
    have q6 : w4.cell? ⟨w.heap.size, 6, none⟩ = some (.int .u32 va) := HS.out.bx.cell 6
    have qp : w4.cell? ⟨h, 2, none⟩ = some (.int .u32 pc) := HS.out.c2
    have hE := event_any h id 5 0 va w4 HS.out.c0 (by omega) (by omega)
    go_upto_if 22 with fail
    go_cut [8] (fun v8 wx => DnS w w.heap.size h id pc ⟨nx, ht, fl, ou, st, at_, va⟩ ([⟨2, id, pc, o, nx⟩] ++ if ou = true then [⟨5, id, 0, 0, va⟩] else []) v8 wx)
    case first =>
      cases ou
      · go_wp2_with fail
        go_meet
        case rel => first | exact HS.out | (rw [ifF]; exact HS.out)
      · go_wp2_with (go_at_call 80; refine Hid.out ?_)
        refine Lib.hid ?_
        (with_reducible refine hE.mono ?_)
        rintro e w5 ⟨rfl, hb5⟩
        have HS5 := Hid.in (HS.out.below hb5)
        have hsz := HS5.out.bel.size
        have hnews := news7 w5 ⟨5, id, 0, 0, va⟩ 41
        clear hE hb5
        simp only [evA] at hnews ⊢
        go_wp2_with (at_builtin; refine epush Tryz.elemEv _ rfl _ _ rfl w.heap.size _ ([⟨2, id, pc, o, nx⟩]) rfl (HS5.out.ow.alloc _) ⟨w5.heap.size, 0, none⟩ 1 ⟨5, id, 0, 0, va⟩ rfl hnews HLN.out (by decide) (by rw [size_one]; omega) ?_; intro v6 w6 hT6 hg6 hb6; have HS6 := Hid.in (HS5.out.pushed HH.out hT6 hg6 (hb6 w (below_alloc HS5.out.bel _)) HLM.out); clear hT6 hg6 hb6)
        go_meet
        case rel => exact HS6.out
    case rest =>
      have HS := Hid.in hcut
      clear hcut HLN HLM hE q3 q5 q6 qp
      have HLN : Hid ((([⟨2, id, pc, o, nx⟩] ++ if ou = true then [⟨5, id, 0, 0, va⟩] else []) : List Ev).length ≤ 1048576) := by show _ ≤ _; have := HS.out.len; omega
      have HLM : Hid ((([⟨2, id, pc, o, nx⟩] ++ if ou = true then [⟨5, id, 0, 0, va⟩] else []) : List Ev).length ≤ 7) := by show _ ≤ _; split <;> simp
      have q4 : wc.cell? ⟨w.heap.size, 4, none⟩ = some (.bool st) := HS.out.bx.cell 4
      have q5 : wc.cell? ⟨w.heap.size, 5, none⟩ = some (.int .u32 at_) := HS.out.bx.cell 5
      have q6 : wc.cell? ⟨w.heap.size, 6, none⟩ = some (.int .u32 va) := HS.out.bx.cell 6
      have qp : wc.cell? ⟨h, 2, none⟩ = some (.int .u32 pc) := HS.out.c2
      have hE := event_any h id 6 at_ va wc HS.out.c0 (by omega) (by omega)
      go_upto_if 31 with fail
      go_cut [8] (fun v8 wx => DnS w w.heap.size h id pc ⟨nx, ht, fl, ou, st, at_, va⟩ (([⟨2, id, pc, o, nx⟩] ++ if ou = true then [⟨5, id, 0, 0, va⟩] else []) ++ if st = true then [⟨6, id, at_, 0, va⟩] else []) v8 wx)
      case first =>
        cases st
        · go_wp2_with fail
          go_meet
          case rel => first | exact HS.out | (rw [ifF]; exact HS.out)
        · go_wp2_with (go_at_call 80; refine Hid.out ?_)
          refine Lib.hid ?_
          (with_reducible refine hE.mono ?_)
          rintro e w5 ⟨rfl, hb5⟩
          have HS5 := Hid.in (HS.out.below hb5)
          have hsz := HS5.out.bel.size
          have hnews := news7 w5 ⟨6, id, at_, 0, va⟩ 41
          clear hE hb5
          simp only [evA] at hnews ⊢
          go_wp2_with (at_builtin; refine epush Tryz.elemEv _ rfl _ _ rfl w.heap.size _ (([⟨2, id, pc, o, nx⟩] ++ if ou = true then [⟨5, id, 0, 0, va⟩] else [])) rfl (HS5.out.ow.alloc _) ⟨w5.heap.size, 0, none⟩ 1 ⟨6, id, at_, 0, va⟩ rfl hnews HLN.out (by decide) (by rw [size_one]; omega) ?_; intro v6 w6 hT6 hg6 hb6; have HS6 := Hid.in (HS5.out.pushed HH.out hT6 hg6 (hb6 w (below_alloc HS5.out.bel _)) HLM.out); clear hT6 hg6 hb6)
          go_meet
          case rel => exact HS6.out
      case rest =>
        have HS := Hid.in hcut
        clear hcut HLN HLM hE q4 q5 q6 qp
        have HLN : Hid (((([⟨2, id, pc, o, nx⟩] ++ if ou = true then [⟨5, id, 0, 0, va⟩] else []) ++ if st = true then [⟨6, id, at_, 0, va⟩] else []) : List Ev).length ≤ 1048576) := by show _ ≤ _; have := HS.out.len; omega
        have HLM : Hid (((([⟨2, id, pc, o, nx⟩] ++ if ou = true then [⟨5, id, 0, 0, va⟩] else []) ++ if st = true then [⟨6, id, at_, 0, va⟩] else []) : List Ev).length ≤ 7) := by show _ ≤ _; split <;> split <;> simp
        have q1 : wc.cell? ⟨w.heap.size, 1, none⟩ = some (.bool ht) := HS.out.bx.cell 1
        have q5 : wc.cell? ⟨w.heap.size, 5, none⟩ = some (.int .u32 at_) := HS.out.bx.cell 5
        have q6 : wc.cell? ⟨w.heap.size, 6, none⟩ = some (.int .u32 va) := HS.out.bx.cell 6
        have qp : wc.cell? ⟨h, 2, none⟩ = some (.int .u32 pc) := HS.out.c2
        have hE := event_any h id 12 pc 0 wc HS.out.c0 (by omega) (by omega)
        go_upto_if 42 with fail
        go_cut [8] (fun v8 wx => DnS w w.heap.size h id pc ⟨nx, ht, fl, ou, st, at_, va⟩ ((([⟨2, id, pc, o, nx⟩] ++ if ou = true then [⟨5, id, 0, 0, va⟩] else []) ++ if st = true then [⟨6, id, at_, 0, va⟩] else []) ++ if ht = true then [⟨12, id, pc, 0, 0⟩] else []) v8 wx)
        case first =>
          cases ht
          · go_wp2_with fail
            go_meet
            case rel => first | exact HS.out | (rw [ifF]; exact HS.out)
          · go_wp2_with (go_at_call 80; refine Hid.out ?_)
            refine Lib.hid ?_
            (with_reducible refine hE.mono ?_)
            rintro e w5 ⟨rfl, hb5⟩
            have HS5 := Hid.in (HS.out.below hb5)
            have hsz := HS5.out.bel.size
            have hnews := news7 w5 ⟨12, id, pc, 0, 0⟩ 41
            clear hE hb5
            simp only [evA] at hnews ⊢
            go_wp2_with (at_builtin; refine epush Tryz.elemEv _ rfl _ _ rfl w.heap.size _ ((([⟨2, id, pc, o, nx⟩] ++ if ou = true then [⟨5, id, 0, 0, va⟩] else []) ++ if st = true then [⟨6, id, at_, 0, va⟩] else [])) rfl (HS5.out.ow.alloc _) ⟨w5.heap.size, 0, none⟩ 1 ⟨12, id, pc, 0, 0⟩ rfl hnews HLN.out (by decide) (by rw [size_one]; omega) ?_; intro v6 w6 hT6 hg6 hb6; have HS6 := Hid.in (HS5.out.pushed HH.out hT6 hg6 (hb6 w (below_alloc HS5.out.bel _)) HLM.out); clear hT6 hg6 hb6)
            go_meet
            case rel => exact HS6.out
        case rest =>
          have HS := Hid.in hcut
          clear hcut HLN HLM hE q1 q5 q6 qp
          go_wp2_with fail
          go_ret
          exact ⟨_, rfl, HS.out.ow, HS.out.bel⟩

end Go.Proofs.YtnpaijbkhmnfpaaGreat

/- What fetch's Next, Done, place, there, behind answer. -/
namespace Go.Proofs.YtnpaijbkhmnfpaaGreat
open Go.RowKit Go.Maps

set_option maxHeartbeats 400000 in
theorem place_any (a : Int) (p : Option Addr) (n c : Nat) (w : World) (h0 : 0 ≤ a) (h1 : a ≤ 4294967295) (hn : n ≤ 140737488355328) :
    Calls Tryz.prog 109 #[.int .u32 a, .slice p n c] w fun e w' => e = .returned (.int .i64 (a + n)) ∧ w' = w := by
  go_enter Tryz.func109, Tryz.ntmps109
  go_wp2
  go_ret
  exact ⟨rfl, rfl⟩

set_option maxHeartbeats 400000 in
theorem next_any (a : Nat) (p : Option Addr) (n c : Nat) (w : World) (h1 : a ≤ 4294967295) (hn : n ≤ 140737488355328) :
    Calls Tryz.prog 111 #[.int .u32 a, .slice p n c] w fun e w' => e = .returned (.int .i64 ((a + n) / 4 : Nat)) ∧ w' = w := by
  have h := place_any a p n c w (by omega) (by omega) hn
  go_enter Tryz.func111, Tryz.ntmps111
  go_wp2_with (go_at_call 109; refine h.mono ?_; rintro e w1 ⟨rfl, rfl⟩)
  go_ret
  exact ⟨ret_i64 (by omega), rfl⟩

set_option maxHeartbeats 400000 in
theorem done_any (p : Option Addr) (n c : Nat) (xs : List Int) (w : World) (hx : xs.length = n) (hn : n ≤ 140737488355328) (hr : Row w p xs) :
    Calls Tryz.prog 43 #[.slice p n c] w fun e w' => e = .returned (.bool (doneB xs)) ∧ Below w.heap.size w w' := by
  by_cases h0 : n = 0
  · subst h0
    obtain rfl := List.eq_nil_of_length_eq_zero hx
    go_enter Tryz.func43, Tryz.ntmps43
    go_wp2
    go_ret
    exact ⟨rfl, below_self _⟩
  · obtain ⟨b, o, rfl, hc⟩ := hr (by omega)
    have c0 := hc 0 (by omega)
    rw [Nat.add_zero] at c0
    have hpos : 0 < n := by omega
    have hl := length_any (xs.getD 0 0) w
    have hi := lenB_in (xs.getD 0 0)
    have hb : doneB xs = decide (lenB (xs.getD 0 0) ≤ n) := by unfold doneB; rw [hx, decide_eq_true hpos, Bool.true_and]
    rw [hb]
    generalize xs.getD 0 0 = y at *
    generalize lenB y = K at *
    clear hc hr hb hx
    go_enter Tryz.func43, Tryz.ntmps43
    go_wp2_with (go_at_call 77; refine hl.mono ?_; rintro e w1 ⟨rfl, hb1⟩)
    go_ret
    exact ⟨ret_bool (by simp), hb1⟩

set_option maxHeartbeats 400000 in
theorem there_of (mp lp : Option Addr) (f : F4) (is : Bool) (e : Int) (w : World) (ht : Calls Tryz.prog 112 #[.pointer lp, .pointer mp, .int .i64 (-1), .bool false] w fun E w' => E = .returned (.tuple #[fV f, .bool is, .int .i64 e]) ∧ Below w.heap.size w w') :
    Calls Tryz.prog 108 #[.pointer mp, .pointer lp] w fun E w' => E = .returned (.bool (e != 1)) ∧ Below w.heap.size w w' := by
  obtain ⟨f0, f1, f2, f3⟩ := f
  simp only [fV] at ht
  go_enter Tryz.func108, Tryz.ntmps108
  go_wp2_with (go_at_call 112; refine ht.mono ?_; rintro e w1 ⟨rfl, hb1⟩)
  go_ret
  exact ⟨rfl, below_alloc hb1 _⟩

end Go.Proofs.YtnpaijbkhmnfpaaGreat

/- fetch.behind. -/
namespace Go.Proofs.YtnpaijbkhmnfpaaGreat
open Go.RowKit Go.Maps

theorem f4_cell {W : World} {g : Nat} {f : F4} (h : Blk W g 92 #[.int .u8 f.a, .int .u8 f.b, .int .u8 f.c, .int .u8 f.d]) {j : Nat} (hj : j < 4) : W.cell? ⟨g, j, none⟩ = some (.int .u8 ((f4L f).getD j 0)) := by
  rcases (by omega : j = 0 ∨ j = 1 ∨ j = 2 ∨ j = 3) with rfl | rfl | rfl | rfl
  · exact h.cell 0
  · exact h.cell 1
  · exact h.cell 2
  · exact h.cell 3
theorem f4_src {W : World} {g : Nat} {f : F4} (h : Blk W g 92 #[.int .u8 f.a, .int .u8 f.b, .int .u8 f.c, .int .u8 f.d]) (r m : Nat) : ∀ j v, (byts (((f4L f).drop r).take m))[j]? = some v → W.cell? ((⟨g, r, none⟩ : Addr).add j) = some v := by
  intro j v hj
  have hl : j < (byts (((f4L f).drop r).take m)).length := by
    rcases Nat.lt_or_ge j (byts (((f4L f).drop r).take m)).length with h | h
    · exact h
    · rw [List.getElem?_eq_none h] at hj; cases hj
  have hl' : j < (((f4L f).drop r).take m).length := by simpa using hl
  rw [getD_byts _ _ hl'] at hj
  injection hj with hj
  rw [List.length_take, List.length_drop, f4L_len] at hl'
  have e := f4_cell h (j := r + j) (by omega)
  have e2 : (((f4L f).drop r).take m).getD j 0 = (f4L f).getD (r + j) 0 := by
    simp only [List.getD, List.getElem?_take_of_lt (show j < m by omega), List.getElem?_drop]
  rw [← hj, e2, ← e]
  by_cases h0 : j = 0
  · subst h0; simp [Addr.add]
  · simp [Addr.add, h0]

theorem slice_four (g r : Nat) (W : World) (hr : r < 4) : (Instr.sliceAt 92 (.pointer (some ⟨g, 0, none⟩)) (some (.int .i64 r)) none none).run Tryz.prog W = .ok (.slice (some ⟨g, r, none⟩) (4 - r) (4 - r)) W := by
  rcases (by omega : r = 0 ∨ r = 1 ∨ r = 2 ∨ r = 3) with rfl | rfl | rfl | rfl <;> kernel_rfl
theorem put_hv {hv : List Int} {n M : Nat} (hx : hv.length = n) : putA (List.replicate M 0) 0 hv = hv ++ List.replicate (M - n) 0 := by
  unfold putA; simp [hx]
theorem put_zs {hv zs : List Int} {n M : Nat} (hx : hv.length = n) (hz : zs.length = M - n) : putA (hv ++ List.replicate (M - n) 0) n zs = hv ++ zs := by
  unfold putA; subst hx; rw [List.take_append_of_le_length (Nat.le_refl _), List.take_length, List.drop_append, hz]; simp

set_option maxHeartbeats 1000000 in
theorem behind_core (p : Option Addr) (c r K M : Nat) (hv : List Int) (f : F4) (y : Int) (w : World) (hr : r < 4) (hrow : Row w p hv) (hy : fstB hv f r = y) (hK : lenB y = K) (hnK : hv.length < K) (hK6 : K ≤ 6) (hM : M = min (hv.length + 4 - r) K) :
    Calls Tryz.prog 113 #[.slice p hv.length c, .agg #[.int .u8 f.a, .int .u8 f.b, .int .u8 f.c, .int .u8 f.d], .int .i64 r] w fun e w' => ∃ g, e = .returned (.slice (some ⟨g, 0, none⟩) M M) ∧ Own w' w.heap.size g M (hv ++ ((f4L f).drop r).take (M - hv.length)) ∧ Below w.heap.size w w' := by
  obtain ⟨i0, hi, hz0, hz1, hz2⟩ := info_parts Tryz.info5
  have HB1 := Hid.in (new_alloc w (.cells #[.int .u8 f.a, .int .u8 f.b, .int .u8 f.c, .int .u8 f.d] 92))
  have HF1 := Hid.in (Blk.new w 92 #[.int .u8 f.a, .int .u8 f.b, .int .u8 f.c, .int .u8 f.d])
  have HR1 := Hid.in (hrow.below HB1.out)
  have hcell := f4_cell HF1.out hr
  have hl := fun W => length_any y W
  rw [hK] at hl
  have hfst : (hv.length = 0 → (f4L f).getD r 0 = y) ∧ (0 < hv.length → hv.getD 0 0 = y) := by
    unfold fstB at hy
    exact ⟨fun h => by rw [if_pos (by omega)] at hy; exact hy, fun h => by rw [if_neg (by omega)] at hy; exact hy⟩
  have hMn : hv.length < M := by omega
  have hM10 : M ≤ 6 := by omega
  have hzl : (((f4L f).drop r).take (M - hv.length)).length = M - hv.length := by rw [List.length_take, List.length_drop, f4L_len]; omega
  have HZL := Hid.in hzl
  clear hrow hK hy hzl
  obtain ⟨w1, hw1⟩ : ∃ w1, w1 = w.alloc (.cells #[.int .u8 f.a, .int .u8 f.b, .int .u8 f.c, .int .u8 f.d] 92) := ⟨_, rfl⟩
  obtain ⟨z, hz⟩ : ∃ z, (f4L f).getD r 0 = z := ⟨_, rfl⟩
  obtain ⟨fa, hfa⟩ : ∃ x, f.a = x := ⟨_, rfl⟩
  obtain ⟨fb, hfb⟩ : ∃ x, f.b = x := ⟨_, rfl⟩
  obtain ⟨fc, hfc⟩ : ∃ x, f.c = x := ⟨_, rfl⟩
  obtain ⟨fd, hfd⟩ : ∃ x, f.d = x := ⟨_, rfl⟩
  rw [hz] at hcell hfst
  have HSR : Hid (∀ W, Below w1.heap.size w1 W → ∀ j v, (byts (((f4L f).drop r).take (M - hv.length)))[j]? = some v → W.cell? ((⟨w.heap.size, r, none⟩ : Addr).add j) = some v) := fun W hW => f4_src ((hw1 ▸ HF1.out).grow hW) r (M - hv.length)
  have HRW : Hid (∀ W, Below w1.heap.size w1 W → Row W p hv) := fun W hW => (hw1 ▸ HR1.out).below hW
  have HBW : Hid (∀ W, Below w1.heap.size w1 W → Below w.heap.size w W) := fun W hW => below_step (hw1 ▸ HB1.out) hW
  have hsz1 : w.heap.size < w1.heap.size := by rw [hw1, size_one]; omega
  rw [hfa, hfb, hfc, hfd] at hw1 hcell ⊢
  rw [← hw1] at hcell
  clear HF1 HR1 HB1 hfa hfb hfc hfd
  generalize ((f4L f).drop r).take (M - hv.length) = zs at *
  have hr4 : (r : Int) < 4 := by omega
  have hr0 : (0 : Int) ≤ r := by omega
  have HYS := Hid.in (put_hv (M := M) (hv := hv) rfl)
  have HPZ : Hid (putA (hv ++ List.replicate (M - hv.length) 0) hv.length zs = hv ++ zs) := put_zs rfl HZL.out
  have HYL : Hid ((hv ++ List.replicate (M - hv.length) 0).length = M) := by show _ = _; simp; omega
  generalize hv ++ List.replicate (M - hv.length) 0 = ys at *
  have hc0 : 0 < hv.length → ∃ b o, p = some ⟨b, o, none⟩ ∧ w1.cell? ⟨b, o, none⟩ = some (.int .u8 y) := fun h => by
    obtain ⟨b, o, e, hc⟩ := HRW.out w1 (below_self _) (by omega)
    have := hc 0 (by omega)
    rw [Nat.add_zero, hfst.2 h] at this
    exact ⟨b, o, e, this⟩
  have hcl : (byts zs).length = Nat.min (4 - r) (M - hv.length) := by
    rw [List.length_map, HZL.out]
    exact (Nat.min_eq_right (by omega)).symm
  have HCL := Hid.in hcl
  have HM := Hid.in hM
  have HF := Hid.in hfst
  have hn6 : hv.length ≤ 6 := by omega
  have hne1 : ¬ M = hv.length := by omega
  have hne2 : ¬ 4 = r := by omega
  have hle1 : hv.length ≤ M := by omega
  have hle2 : r ≤ 4 := by omega
  clear hM hfst hK6 hz hcl
  have hg : (0 < hv.length ∧ decide (0 < hv.length) = true) ∨ (hv.length = 0 ∧ decide (0 < hv.length) = false) := by
    by_cases h : 0 < hv.length
    · exact .inl ⟨h, decide_eq_true h⟩
    · exact .inr ⟨by omega, decide_eq_false h⟩
  have HW1 := Hid.in hw1
  clear hw1
  rcases hg with ⟨h0, hg⟩ | ⟨h0, hg⟩
  · obtain ⟨b, o, rfl, c0⟩ := hc0 h0
    clear hc0 HF
    go_enter Tryz.func113, Tryz.ntmps113
    go_upto_region 1 with fail
    rw [← HW1.out]
    clear HW1
    go_upto_region 4 with fail
    clear c0 hcell
    go_upto_region 6 with (first
      | (go_at_call 77; refine (hl _).mono ?_; rintro e w2 ⟨rfl, hb2⟩)
      | (at_make; refine wpList_make_full _ rfl _ _ 26 rfl _ 5 i0 (.int .u8 0) 1 Tryz.underlying26 hi hz0 hz1 _ _ _ _ M rfl rfl (by have := HM.out; omega) (by have := HM.out; omega) (by rw [hz2]; omega) (by unfold maxLen; omega) (Nat.le_refl _) ?_; intro w3 hown hgrow; have hb3 := below_step hb2 ((Below.refl w2.heap.size w2).grown hgrow (Nat.le_refl _) (by simp)); have HO : Hid (Own w3 w2.heap.size w2.heap.size M (List.replicate M 0)) := Own.of_made hown; clear hown hgrow)
      | (have hw := HO.out.block (List.length_replicate ..); refine wpList_copy_splice rfl _ _ 26 26 rfl 5 Tryz.underlying26 Tryz.size5 _ _ _ _ _ _ rfl rfl w2.heap.size 0 _ 5 hw (byts hv) (by rw [List.length_map]; exact (Nat.min_eq_left (by omega)).symm) (fun h0 => ⟨rfl, (HRW.out w3 hb3).src (by simpa using h0)⟩) (by simp; omega) (one_byts hv) w1.heap.size w1 hb3 hb2.size ?_; intro w4 hw4 hb4; rw [putA_splice, HYS.out] at hw4; have HW4 := Hid.in hw4.out; have HB4 := Hid.in hb4; have hs2 : w1.heap.size ≤ w2.heap.size := hb2.size; clear hw hw4 HO hb3 hb4 hb2 hl))
    have hsrc := HSR.out w4 HB4.out
    have hcl := HCL.out
    have hs4 := fun W => slice_four w.heap.size r W hr
    go_region_law (refine step_copy_splice (by rfl) _ _ 26 26 (by rfl) 5 Tryz.underlying26 Tryz.size5 _ _ _ _ _ _ (by rfl) (by rfl) w2.heap.size hv.length (byts ys) 5 HW4.out (byts zs) hcl (fun _ => ⟨rfl, ⟨w.heap.size, r, none⟩, rfl, hsrc⟩) (by rw [List.length_map, List.length_map, HZL.out, HYL.out]; omega) (one_byts _) w1.heap.size w1 (below_drewN HB4.out 1) hs2 ?_; intro w5 HW5 HB5; rw [putA_splice, HPZ.out] at HW5)
    all_goals
      have HBB := Hid.in (HBW.out _ HB5)
      clear HB5 hsrc hcl HW4 HB4
      go_wp2_with fail
      go_ret
      refine ⟨w2.heap.size, rfl, Own.mk (by omega) HW5.out (by rw [List.length_append, HZL.out]; omega) (by unfold maxLen; omega) (by simp [HZL.out]; omega) (by rw [List.take_of_length_le (by simp)]), HBB.out⟩
  · have e1 := HF.out.1 h0
    subst e1
    clear hc0 h0 HF
    go_enter Tryz.func113, Tryz.ntmps113
    go_upto_region 1 with fail
    rw [← HW1.out]
    clear HW1
    go_upto_region 4 with fail
    clear hcell
    go_upto_region 6 with (first
      | (go_at_call 77; refine (hl _).mono ?_; rintro e w2 ⟨rfl, hb2⟩)
      | (at_make; refine wpList_make_full _ rfl _ _ 26 rfl _ 5 i0 (.int .u8 0) 1 Tryz.underlying26 hi hz0 hz1 _ _ _ _ M rfl rfl (by have := HM.out; omega) (by have := HM.out; omega) (by rw [hz2]; omega) (by unfold maxLen; omega) (Nat.le_refl _) ?_; intro w3 hown hgrow; have hb3 := below_step hb2 ((Below.refl w2.heap.size w2).grown hgrow (Nat.le_refl _) (by simp)); have HO : Hid (Own w3 w2.heap.size w2.heap.size M (List.replicate M 0)) := Own.of_made hown; clear hown hgrow)
      | (have hw := HO.out.block (List.length_replicate ..); refine wpList_copy_splice rfl _ _ 26 26 rfl 5 Tryz.underlying26 Tryz.size5 _ _ _ _ _ _ rfl rfl w2.heap.size 0 _ 5 hw (byts hv) (by rw [List.length_map]; exact (Nat.min_eq_left (by omega)).symm) (fun h0 => ⟨rfl, (HRW.out w3 hb3).src (by simpa using h0)⟩) (by simp; omega) (one_byts hv) w1.heap.size w1 hb3 hb2.size ?_; intro w4 hw4 hb4; rw [putA_splice, HYS.out] at hw4; have HW4 := Hid.in hw4.out; have HB4 := Hid.in hb4; have hs2 : w1.heap.size ≤ w2.heap.size := hb2.size; clear hw hw4 HO hb3 hb4 hb2 hl))
    have hsrc := HSR.out w4 HB4.out
    have hcl := HCL.out
    have hs4 := fun W => slice_four w.heap.size r W hr
    go_region_law (refine step_copy_splice (by rfl) _ _ 26 26 (by rfl) 5 Tryz.underlying26 Tryz.size5 _ _ _ _ _ _ (by rfl) (by rfl) w2.heap.size hv.length (byts ys) 5 HW4.out (byts zs) hcl (fun _ => ⟨rfl, ⟨w.heap.size, r, none⟩, rfl, hsrc⟩) (by rw [List.length_map, List.length_map, HZL.out, HYL.out]; omega) (one_byts _) w1.heap.size w1 (below_drewN HB4.out 1) hs2 ?_; intro w5 HW5 HB5; rw [putA_splice, HPZ.out] at HW5)
    all_goals
      have HBB := Hid.in (HBW.out _ HB5)
      clear HB5 hsrc hcl HW4 HB4
      go_wp2_with fail
      go_ret
      refine ⟨w2.heap.size, rfl, Own.mk (by omega) HW5.out (by rw [List.length_append, HZL.out]; omega) (by unfold maxLen; omega) (by simp [HZL.out]; omega) (by rw [List.take_of_length_le (by simp)]), HBB.out⟩

end Go.Proofs.YtnpaijbkhmnfpaaGreat
