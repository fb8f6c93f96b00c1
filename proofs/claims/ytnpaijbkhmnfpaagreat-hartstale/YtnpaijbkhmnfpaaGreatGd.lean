/- Texts put together: ExS, ExB, DoL, DoM. -/
import Derived.Test.YtnpaijbkhmnfpaaGreatGa
import Derived.Test.YtnpaijbkhmnfpaaGreatGb
import Derived.Deep.CutBlock
import Derived.Lib.Hide

/- exec.Span, switchyardref14.Span, exec.fault, for every instruction. -/
namespace Go.Proofs.YtnpaijbkhmnfpaaGreat
open Go.RowKit

/-- how long an instruction is: 0, if it is not right -/
def spanN (o : Nat) (a b n : Int) : Nat := if rightB o a b n = true then lenN o else 0

set_option maxHeartbeats 1000000 in
theorem span_any (o : Nat) (a b n : Int) (w : World) (ho : o ≤ 255) (ha : 0 ≤ a ∧ a ≤ 255) (hb : 0 ≤ b ∧ b ≤ 255) :
    Calls Tryz.prog 103 #[ins o a b n] w fun e w' => e = .returned (.int .i64 (spanN o a b n)) ∧ Below w.heap.size w w' := by
  cases hR : rightB o a b n
  · have hcon := fun w => encode_no o a b n w ho ha hb hR
    have hs : spanN o a b n = 0 := by simp [spanN, hR]
    rw [hs]
    clear hR hs
    go_enter Tryz.func103, Tryz.ntmps103
    go_wp2_with (go_at_call 127; refine (hcon _).mono ?_; rintro e w1 ⟨rfl, hb1⟩; have HB := Hid.in (below_step (new_alloc _ _) hb1); clear hb1)
    go_ret
    exact ⟨rfl, HB.out⟩
  · have hcon := fun w => encode_yes o a b n w ha hb hR
    have hs : spanN o a b n = lenN o := by simp [spanN, hR]
    rw [hs]
    clear hR hs
    generalize lenN o = l at *
    go_enter Tryz.func103, Tryz.ntmps103
    go_wp2_with (go_at_call 127; refine (hcon _).mono ?_; rintro e w1 ⟨g, cap, rfl, -, hb1⟩; have HB := Hid.in (below_step (new_alloc _ _) hb1); clear hb1)
    go_ret
    exact ⟨rfl, HB.out⟩

theorem bcell {W w1 : World} (hb : Below W.heap.size W w1) : (∀ b o, b < W.heap.size → w1.cell? ⟨b, o, none⟩ = W.cell? ⟨b, o, none⟩) ∧ (∀ b o, b < W.heap.size → w1.frozen? ⟨b, o, none⟩ = W.frozen? ⟨b, o, none⟩) :=
  ⟨fun b o h => hb.cell (p := ⟨b, o, none⟩) h, fun b o h => hb.frozen (p := ⟨b, o, none⟩) h⟩
theorem ret_int {k : IntKind} {a b : Int} (h : a = b) : Ending.returned (.int k a) = .returned (.int k b) := by rw [h]

set_option maxHeartbeats 1000000 in
theorem rspan_any (o : Nat) (a b n : Int) (w : World) (ha : 0 ≤ a ∧ a ≤ 255) (hb : 0 ≤ b ∧ b ≤ 255) :
    Calls Tryz.prog 94 #[ins o a b n] w fun e w' => e = .returned (.int .i64 (spanN o a b n)) ∧ Below w.heap.size w w' := by
  cases hR : rightB o a b n
  · have hcon := fun w => rencode_no o a b n w ha hb hR
    have hs : spanN o a b n = 0 := by simp [spanN, hR]
    rw [hs]
    clear hR hs
    go_enter Tryz.func94, Tryz.ntmps94
    go_wp2_with (go_at_call 93; refine (hcon _).mono ?_; rintro e w1 ⟨rfl, hb1⟩; have HB := Hid.in (below_step (new_alloc _ _) hb1); clear hb1)
    go_ret
    exact ⟨rfl, HB.out⟩
  · have hcon := fun w => rencode_yes o a b n w ha hb hR
    have hs : spanN o a b n = lenN o := by simp [spanN, hR]
    have hl : (encL o a b n).length = lenN o := encL_length o a b n (rightB_parts hR).1.2
    rw [hs]
    clear hR hs
    generalize lenN o = l at *
    have HL := Hid.in hl
    clear hl
    go_enter Tryz.func94, Tryz.ntmps94
    go_wp2_with (go_at_call 93; refine (hcon _).mono ?_; rintro e w1 ⟨v, rfl, hv, hb1⟩; obtain ⟨pv, cv, rfl, -, -⟩ := hv.slice; rw [HL.out]; have HB := Hid.in (below_step (new_alloc _ _) hb1); clear hb1 hv hcon)
    go_ret
    exact ⟨rfl, HB.out⟩

/-- what can't be done -/
def fltL (o : Nat) (a b n : Int) (s d : Nat) : Int :=
  if rightB o a b n = false then 120 else if o = 4 then 120 else if o = 12 then (if 64 ≤ s then 3 else 0) else if o = 14 ∨ o = 15 then (if d < 4 then 210 else 0) else 0

set_option maxHeartbeats 2000000 in
theorem fault_any (o : Nat) (a b n : Int) (p q : Option Addr) (s sc d dc : Nat) (w : World) (ho : o ≤ 255) (ha : 0 ≤ a ∧ a ≤ 255) (hb : 0 ≤ b ∧ b ≤ 255) (hs : s ≤ 9223372036854775807) (hd : d ≤ 9223372036854775807) :
    Calls Tryz.prog 102 #[ins o a b n, .slice p s sc, .slice q d dc] w fun e w' => e = .returned (.int .i64 (fltL o a b n s d)) ∧ Below w.heap.size w w' := by
  have hcon := fun w => right_any o a b n w ho ha hb
  have HF : Hid (fltL o a b n s d = if rightB o a b n = false then 120 else if o = 4 then 120 else if o = 12 then (if 64 ≤ s then 3 else 0) else if o = 14 ∨ o = 15 then (if d < 4 then 210 else 0) else 0) := rfl
  generalize fltL o a b n s d = f at *
  cases hR : rightB o a b n
  · rw [hR] at hcon HF
    obtain rfl : f = 120 := HF.out
    clear hR HF
    go_enter Tryz.func102, Tryz.ntmps102
    go_wp2_with (go_at_call 99; refine (hcon _).mono ?_; rintro e w1 ⟨rfl, hb1⟩; have HB := Hid.in (below_step (new_alloc _ _) hb1); clear hb1)
    go_ret
    exact ⟨rfl, HB.out⟩
  · rw [hR] at hcon HF
    have HF2 : Hid (f = if o = 4 then 120 else if o = 12 then (if 64 ≤ s then 3 else 0) else if o = 14 ∨ o = 15 then (if d < 4 then 210 else 0) else 0) := HF.out
    clear hR HF
    have HB0 : ∀ w1, Below (w.alloc (.cells #[.int .u8 o, .int .u8 a, .int .u8 b, .int .i32 n] 117)).heap.size (w.alloc (.cells #[.int .u8 o, .int .u8 a, .int .u8 b, .int .i32 n] 117)) w1 → Below w.heap.size w w1 ∧ w1.cell? ⟨w.heap.size, 0, none⟩ = some (.int .u8 o) := fun w1 h => ⟨below_step (new_alloc _ _) h, ((Blk.new w 117 _).grow h).cell 0⟩
    rcases (by omega : o = 4 ∨ o = 12 ∨ o = 14 ∨ o = 15 ∨ (o ≠ 4 ∧ o ≠ 12 ∧ o ≠ 14 ∧ o ≠ 15)) with rfl | rfl | rfl | rfl | ⟨n1, n2, n3, n4⟩
    · obtain rfl : f = 120 := HF2.out
      go_enter Tryz.func102, Tryz.ntmps102
      go_wp2_with (go_at_call 99; refine (hcon _).mono ?_; rintro e w1 ⟨rfl, hb1⟩; obtain ⟨HB, hc⟩ := HB0 _ hb1; clear hb1 HB0)
      go_ret
      exact ⟨rfl, HB⟩
    · by_cases h64 : 64 ≤ s
      · obtain rfl : f = 3 := by rw [HF2.out]; simp [h64]
        clear HF2
        go_enter Tryz.func102, Tryz.ntmps102
        go_wp2_with (go_at_call 99; refine (hcon _).mono ?_; rintro e w1 ⟨rfl, hb1⟩; obtain ⟨HB, hc⟩ := HB0 _ hb1; clear hb1 HB0)
        go_ret
        exact ⟨rfl, HB⟩
      · obtain rfl : f = 0 := by rw [HF2.out]; simp [h64]
        clear HF2
        go_enter Tryz.func102, Tryz.ntmps102
        go_wp2_with (go_at_call 99; refine (hcon _).mono ?_; rintro e w1 ⟨rfl, hb1⟩; obtain ⟨HB, hc⟩ := HB0 _ hb1; clear hb1 HB0)
        go_ret
        exact ⟨rfl, HB⟩
    · by_cases h4 : d < 4
      · obtain rfl : f = 210 := by rw [HF2.out]; simp [h4]
        clear HF2
        go_enter Tryz.func102, Tryz.ntmps102
        go_wp2_with (go_at_call 99; refine (hcon _).mono ?_; rintro e w1 ⟨rfl, hb1⟩; obtain ⟨HB, hc⟩ := HB0 _ hb1; clear hb1 HB0)
        go_ret
        exact ⟨rfl, HB⟩
      · obtain rfl : f = 0 := by rw [HF2.out]; simp [h4]
        clear HF2
        go_enter Tryz.func102, Tryz.ntmps102
        go_wp2_with (go_at_call 99; refine (hcon _).mono ?_; rintro e w1 ⟨rfl, hb1⟩; obtain ⟨HB, hc⟩ := HB0 _ hb1; clear hb1 HB0)
        go_ret
        exact ⟨rfl, HB⟩
    · by_cases h4 : d < 4
      · obtain rfl : f = 210 := by rw [HF2.out]; simp [h4]
        clear HF2
        go_enter Tryz.func102, Tryz.ntmps102
        go_wp2_with (go_at_call 99; refine (hcon _).mono ?_; rintro e w1 ⟨rfl, hb1⟩; obtain ⟨HB, hc⟩ := HB0 _ hb1; clear hb1 HB0)
        go_ret
        exact ⟨rfl, HB⟩
      · obtain rfl : f = 0 := by rw [HF2.out]; simp [h4]
        clear HF2
        go_enter Tryz.func102, Tryz.ntmps102
        go_wp2_with (go_at_call 99; refine (hcon _).mono ?_; rintro e w1 ⟨rfl, hb1⟩; obtain ⟨HB, hc⟩ := HB0 _ hb1; clear hb1 HB0)
        go_ret
        exact ⟨rfl, HB⟩
    · obtain rfl : f = 0 := by rw [HF2.out, if_neg n1, if_neg n2, if_neg (by omega)]
      clear HF2
      have m1 : ((o : Int) == 4) = false := by simp; omega
      have m2 : ((o : Int) == 12) = false := by simp; omega
      have m3 : ((o : Int) == 14) = false := by simp; omega
      have m4 : ((o : Int) == 15) = false := by simp; omega
      go_enter Tryz.func102, Tryz.ntmps102
      go_wp2_with (go_at_call 99; refine (hcon _).mono ?_; rintro e w1 ⟨rfl, hb1⟩; obtain ⟨HB, hc⟩ := HB0 _ hb1; clear hb1 HB0)
      go_ret
      exact ⟨rfl, HB⟩

end Go.Proofs.YtnpaijbkhmnfpaaGreat

/- exec.back. -/
namespace Go.Proofs.YtnpaijbkhmnfpaaGreat
open Go.RowKit

/-- an effect that goes on at nx, and no more -/
abbrev efA (nx : Int) : Array Value := #[.int .u32 nx, .bool false, .int .i64 0, .bool false, .bool false, .int .u32 0, .int .u32 0]
abbrev efH (nx : Int) : Array Value := #[.int .u32 nx, .bool true, .int .i64 0, .bool false, .bool false, .int .u32 0, .int .u32 0]
theorem Tryz.sz134 : (Tryz.prog.info? 134).map (·.size) = some 7 := by kernel_rfl

set_option maxHeartbeats 2000000 in
theorem back_zero (p : Option Addr) (c : Nat) (nx : Int) (w : World) :
    Calls Tryz.prog 104 #[.slice p 0 c, .agg (efA nx)] w fun e w' => e = .returned (.tuple #[.slice p 0 c, .agg (efH nx)]) ∧ Below w.heap.size w w' := by
  go_enter Tryz.func104, Tryz.ntmps104
  go_wp2
  go_region
  all_goals (go_wp2; exact bodyPost_ret (v := .tuple #[.slice p 0 c, .agg (efH nx)]) (by simp [results, Tryz.results104, go_sem]) rfl ⟨rfl, (below_alloc (new_alloc _ _) _).drew⟩)

set_option maxHeartbeats 2000000 in
theorem back_last (g k cap : Nat) (nx z : Int) (w : World) (hk : k < cap) (hc : cap ≤ 140737488355328) (hz : w.cell? ⟨g, k, none⟩ = some (.int .u32 z)) :
    Calls Tryz.prog 104 #[.slice (some ⟨g, 0, none⟩) (k + 1 : Nat) cap, .agg (efA nx)] w fun e w' => e = .returned (.tuple #[.slice (some ⟨g, 0, none⟩) k cap, .agg (efA z)]) ∧ Below w.heap.size w w' := by
  have hl := cell_lt hz
  go_enter Tryz.func104, Tryz.ntmps104
  go_wp2
  go_region
  all_goals (go_wp2; exact bodyPost_ret (v := .tuple #[.slice (some ⟨g, 0, none⟩) k cap, .agg (efA z)]) (by simp [results, Tryz.results104, go_sem]) rfl ⟨rfl, (below_alloc (new_alloc _ _) _).drew⟩)

end Go.Proofs.YtnpaijbkhmnfpaaGreat

/- What an instruction does, as lists: P14.1. How exec.Do's variables lie in memory. -/
namespace Go.Proofs.YtnpaijbkhmnfpaaGreat
open Go.RowKit

/-- an effect -/
structure Eff where
  nx : Int
  ht : Bool
  fl : Int
  ou : Bool
  st : Bool
  at_ : Int
  va : Int
def effA (E : Eff) : Array Value := #[.int .u32 E.nx, .bool E.ht, .int .i64 E.fl, .bool E.ou, .bool E.st, .int .u32 E.at_, .int .u32 E.va]
/-- it goes on at z, and no more -/
def goE (z : Int) : Eff := ⟨z, false, 0, false, false, 0, 0⟩
/-- the place behind, the way's place -/
def behL (o : Nat) (pc : Int) : Int := (pc + (lenN o : Int)) % 4294967296
def wayL (o : Nat) (n pc : Int) : Int := (behL o pc + n % 4294967296) % 4294967296
/-- the registers behind an instruction -/
def doR (o a b : Nat) (n : Int) (R D : List Int) : List Int :=
  if o = 5 then R.set a (n % 4294967296)
  else if o = 6 then R.set a (R.getD b 0)
  else if o = 7 then R.set a ((R.getD a 0 + R.getD b 0) % 4294967296)
  else if o = 8 then R.set a ((R.getD a 0 - R.getD b 0) % 4294967296)
  else if o = 14 then R.set a (n4 D 0)
  else R
/-- the stack behind it -/
def doS (o : Nat) (pc : Int) (S : List Int) : List Int :=
  if o = 12 then S ++ [behL o pc] else if o = 13 then S.dropLast else S
/-- its effect -/
def doE (o a : Nat) (n pc : Int) (R S : List Int) : Eff :=
  if o = 1 then { goE (behL o pc) with ht := true }
  else if o = 9 then (if R.getD a 0 = 0 then goE (wayL o n pc) else goE (behL o pc))
  else if o = 10 then (if R.getD a 0 = 0 then goE (behL o pc) else goE (wayL o n pc))
  else if o = 11 then goE (wayL o n pc)
  else if o = 12 then goE (wayL o n pc)
  else if o = 13 then (if S = [] then { goE (behL o pc) with ht := true } else goE (S.getD (S.length - 1) 0))
  else if o = 15 then { goE (behL o pc) with st := true, at_ := n % 4294967296, va := R.getD a 0 }
  else if o = 16 then { goE (behL o pc) with ou := true, va := R.getD a 0 }
  else goE (behL o pc)

/-- what Do answers: registers, stack, effect -/
def doL (o a b : Nat) (n pc : Int) (R S D : List Int) : List Int × List Int × Eff :=
  if fltL o a b n S.length D.length = 0 then (doR o a b n R D, doS o pc S, doE o a n pc R S) else (R, S, { goE pc with fl := fltL o a b n S.length D.length })

theorem rgA_cell (R : List Int) (v : Value) (i : Nat) (h : i < R.length) : (rgA R v)[i]? = some (.int .u32 (R.getD i 0)) := by
  simp only [rgA, wrds, List.getElem?_toArray]
  rw [List.getElem?_append_left (by simpa using h)]
  simp [h]
theorem rgA_last (R : List Int) (v : Value) (h : R.length = 8) : (rgA R v)[8]? = some v := by
  simp [rgA, wrds, h]
theorem rgA_set (R : List Int) (v : Value) (i : Nat) (h : i < R.length) (x : Int) : (rgA R v).setIfInBounds i (.int .u32 x) = rgA (R.set i x) v := by
  simp [rgA, wrds, List.map_set, h]
theorem rgA_stack (R : List Int) (v v' : Value) (h : R.length = 8) : (rgA R v).setIfInBounds 8 v' = rgA R v' := by
  simp [rgA, wrds, h]
theorem rgA_size (R : List Int) (v : Value) (h : R.length = 8) : (rgA R v).size = 9 := by
  simp [rgA, wrds, h]

/-- Do's variables: the instruction, the registers, both results; q: the first block -/
structure DSt (w : World) (q : Nat) (o a b n : Int) (R : List Int) (v : Value) (S : List Int) (wr : World) : Prop where
  bi : Blk wr q 117 #[.int .u8 o, .int .u8 a, .int .u8 b, .int .i32 n]
  br : Blk wr (q + 1) 47 (rgA R v)
  b8 : Blk wr (q + 1 + 1) 47 noRegs
  b9 : Blk wr (q + 1 + 1 + 1) 134 (efA 0)
  ow : POwnV wr (q + 4) v S
  bel : Below q w wr
  len : R.length = 8

theorem DSt.below {w wr wr' : World} {q : Nat} {o a b n : Int} {R S : List Int} {v : Value} (h : DSt w q o a b n R v S wr) (hb : Below wr.heap.size wr wr') : DSt w q o a b n R v S wr' :=
  ⟨h.bi.grow hb, h.br.grow hb, h.b8.grow hb, h.b9.grow hb, h.ow.below hb, h.bel.trans (hb.mono (by have := h.bi.lt; omega)), h.len⟩
theorem DSt.drewN {w wr : World} {q : Nat} {o a b n : Int} {R S : List Int} {v : Value} (h : DSt w q o a b n R v S wr) (k : Nat) : DSt w q o a b n R v S (wr.drewN k) :=
  ⟨h.bi, h.br, h.b8, h.b9, h.ow, below_drewN h.bel k, h.len⟩
theorem DSt.setR {w wr : World} {q : Nat} {o a b n : Int} {R S : List Int} {v : Value} (h : DSt w q o a b n R v S wr) (i : Nat) (hi : i < 8) (x : Int) : DSt w q o a b n (R.set i x) v S (wr.setCell ⟨q + 1, i, none⟩ (.int .u32 x)) :=
  ⟨h.bi.other (by omega) _ _, by have := h.br.set i (.int .u32 x); rw [rgA_set R v i (by rw [h.len]; exact hi)] at this; exact this, h.b8.other (by omega) _ _, h.b9.other (by omega) _ _,
    h.ow.keptFar (grown_setCell _ _ _ _) (by omega), h.bel.grown (grown_setCell _ _ _ _) (by have := h.bi.lt; omega) (fun k hk => by cases hk; omega), by rw [List.length_set]; exact h.len⟩
/-- .. and the effect's -/
structure DSx (w : World) (q : Nat) (o a b n : Int) (R : List Int) (v : Value) (S : List Int) (gx : Nat) (E : Array Value) (wr : World) : Prop where
  st : DSt w q o a b n R v S wr
  bx : Blk wr gx 134 E
  ge : q + 4 ≤ gx
  ne : v.ownBlock ≠ some gx
theorem DSx.setR {w wr : World} {q gx : Nat} {o a b n : Int} {R S : List Int} {v : Value} {E : Array Value} (h : DSx w q o a b n R v S gx E wr) (i : Nat) (hi : i < 8) (x : Int) : DSx w q o a b n (R.set i x) v S gx E (wr.setCell ⟨q + 1, i, none⟩ (.int .u32 x)) :=
  ⟨h.st.setR i hi x, h.bx.other (by have := h.ge; omega) _ _, h.ge, h.ne⟩
theorem DSx.drewN {w wr : World} {q gx : Nat} {o a b n : Int} {R S : List Int} {v : Value} {E : Array Value} (h : DSx w q o a b n R v S gx E wr) (k : Nat) : DSx w q o a b n R v S gx E (wr.drewN k) :=
  ⟨h.st.drewN k, h.bx, h.ge, h.ne⟩
theorem POwnV.kept {w w' : World} {B g : Nat} {v : Value} {xs : List Int} (h : POwnV w B v xs) (hg : w.grownBy w' (some g)) (hne : v.ownBlock ≠ some g) : POwnV w' B v xs := by
  rcases h.shape with ⟨rfl, rfl⟩ | ⟨g', cap, rfl, ho⟩
  · exact POwnV.nil _ _
  · exact World.ownsRow.kept h hg (.inr hne)
theorem DSt.far {w wr wr' : World} {q gx : Nat} {o a b n : Int} {R S : List Int} {v : Value} (h : DSt w q o a b n R v S wr) (hg : wr.grownBy wr' (some gx)) (hq : q + 4 ≤ gx) (hne : v.ownBlock ≠ some gx) : DSt w q o a b n R v S wr' :=
  ⟨h.bi.kept hg (by intro e; injection e with e; omega), h.br.kept hg (by intro e; injection e with e; omega), h.b8.kept hg (by intro e; injection e with e; omega), h.b9.kept hg (by intro e; injection e with e; omega),
    h.ow.kept hg hne, h.bel.grown hg (by have := h.bi.lt; omega) (fun k hk => by cases hk; omega), h.len⟩
theorem DSx.setE {w wr : World} {q gx : Nat} {o a b n : Int} {R S : List Int} {v : Value} {E : Array Value} (h : DSx w q o a b n R v S gx E wr) (i : Nat) (x : Value) : DSx w q o a b n R v S gx (E.setIfInBounds i x) (wr.setCell ⟨gx, i, none⟩ x) :=
  ⟨h.st.far (grown_setCell _ _ _ _) h.ge h.ne, h.bx.set i x, h.ge, h.ne⟩

theorem DSx.to {w wr : World} {q gx : Nat} {o a b n : Int} {R R' S S' : List Int} {v : Value} {E E' : Array Value} (h : DSx w q o a b n R v S gx E wr) (h1 : R' = R) (h2 : S' = S) (h3 : E' = E) : DSx w q o a b n R' v S' gx E' wr := by
  subst h1 h2 h3; exact h
theorem DSx.below {w wr wr' : World} {q gx : Nat} {o a b n : Int} {R S : List Int} {v : Value} {E : Array Value} (h : DSx w q o a b n R v S gx E wr) (hb : Below wr.heap.size wr wr') : DSx w q o a b n R v S gx E wr' :=
  ⟨h.st.below hb, h.bx.grow hb, h.ge, h.ne⟩
theorem DSx.reg {w wr : World} {q gx : Nat} {o a b n : Int} {R S : List Int} {v : Value} {E : Array Value} (h : DSx w q o a b n R v S gx E wr) {i : Nat} (hi : i < 8) : wr.cell? ⟨q + 1, i, none⟩ = some (.int .u32 (R.getD i 0)) := by
  rw [h.st.br.cell, rgA_cell R v i (by rw [h.st.len]; exact hi)]
theorem DSt.withE {w wr : World} {q : Nat} {o a b n : Int} {R S : List Int} (g s c : Nat) (ob : Obj) {E : Array Value} (h : DSt w q o a b n R (.slice (some ⟨g, 0, none⟩) s c) S wr) (hob : ob = .cells E 134) :
    DSx w q o a b n R (.slice (some ⟨g, 0, none⟩) s c) S wr.heap.size E (wr.alloc ob) := by
  subst hob
  have hl : g < wr.heap.size := by
    rcases h.ow.shape with ⟨e, _⟩ | ⟨g', cap, e, ho⟩
    · cases e
    · injection e with e _ _; injection e with e; injection e with e _ _; rw [e]; exact ho.lt
  exact ⟨h.below (new_alloc _ _), Blk.new _ _ _, by have := h.b9.lt; omega, fun e => by have e' : some g = some wr.heap.size := e; injection e' with e'; omega⟩
theorem POwnV.notType {w : World} {B g : Nat} {v : Value} {xs : List Int} {E : Array Value} (h : POwnV w B v xs) (hb : Blk w g 134 E) : v.ownBlock ≠ some g := by
  rcases h.shape with ⟨rfl, _⟩ | ⟨g', cap, rfl, ho⟩
  · intro e; cases e
  · intro e
    have e' : some g' = some g := e
    injection e' with e'
    obtain ⟨cur, _, h2, _⟩ := ho.parts
    rw [e', show w.heap[g]? = _ from hb] at h2
    simp at h2
theorem DSx.pushed {w wr w6 : World} {q gx g s c : Nat} {o a b n bh : Int} {R S : List Int} {E : Array Value} {p' : Option Addr} {l' c' : Nat} (h : DSx w q o a b n R (.slice (some ⟨g, 0, none⟩) s c) S gx E wr)
    (ho : POwnV w6 (q + 4) (.slice p' l' c') (S ++ [bh])) (hgr : (wr.alloc (.cells #[.int .u32 bh] 31)).grownBy w6 (some g)) (hg : q + 4 ≤ g) :
    w6.cell? ⟨q + 1, 8, none⟩ = some (.slice (some ⟨g, 0, none⟩) s c) ∧ w6.frozen? ⟨q + 1, 8, none⟩ = false ∧ (w6.setCell ⟨q + 1, 8, none⟩ (.slice p' l' c')).cell? ⟨gx, 0, none⟩ = E[0]? ∧ (∀ i, (w6.setCell ⟨q + 1, 8, none⟩ (.slice p' l' c')).frozen? ⟨gx, i, none⟩ = false) ∧
      DSx w q o a b n R (.slice p' l' c') (S ++ [bh]) gx E (w6.setCell ⟨q + 1, 8, none⟩ (.slice p' l' c')) := by
  have h5 := h.below (new_alloc wr (.cells #[.int .u32 bh] 31))
  have k1 := h5.st.br.kept hgr (by intro e; injection e with e; omega)
  have kx := h5.bx.kept hgr (by intro e; exact h.ne e.symm)
  have kx' := kx.other (k := q + 1) (by have := h.ge; omega) 8 (.slice p' l' c')
  refine ⟨by rw [k1.cell, rgA_last R _ h.st.len], k1.free 8, by rw [kx'.cell], fun i => kx'.free i, ⟨⟨?_, ?_, ?_, ?_, ?_, ?_, h.st.len⟩, kx', h.ge, ho.notType kx⟩⟩
  · exact (h5.st.bi.kept hgr (by intro e; injection e with e; omega)).other (by omega) _ _
  · have := k1.set 8 (.slice p' l' c'); rw [rgA_stack R _ _ h.st.len] at this; exact this
  · exact (h5.st.b8.kept hgr (by intro e; injection e with e; omega)).other (by omega) _ _
  · exact (h5.st.b9.kept hgr (by intro e; injection e with e; omega)).other (by omega) _ _
  · exact ho.keptFar (grown_setCell _ _ _ _) (by omega)
  · exact (h5.st.bel.grown hgr (by have := h5.st.bi.lt; omega) (fun k hk => by cases hk; omega)).grown (grown_setCell _ _ _ _) (by have := (h5.st.bi.kept hgr (by intro e; injection e with e; omega)).lt; omega) (fun k hk => by cases hk; omega)
theorem DSx.cells {w wr : World} {q gx : Nat} {o a b n bh : Int} {R S : List Int} {v : Value} (h : DSx w q o a b n R v S gx (efA bh) wr) :
    wr.cell? ⟨q + 1, 8, none⟩ = some v ∧ wr.frozen? ⟨q + 1, 8, none⟩ = false ∧ wr.cell? ⟨gx, 0, none⟩ = some (.int .u32 bh) ∧ wr.cell? ⟨gx, 1, none⟩ = some (.bool false) ∧ wr.cell? ⟨gx, 2, none⟩ = some (.int .i64 0) ∧ wr.cell? ⟨gx, 3, none⟩ = some (.bool false) ∧ wr.cell? ⟨gx, 4, none⟩ = some (.bool false) ∧ wr.cell? ⟨gx, 5, none⟩ = some (.int .u32 0) ∧ wr.cell? ⟨gx, 6, none⟩ = some (.int .u32 0) ∧ (∀ i, wr.frozen? ⟨gx, i, none⟩ = false) ∧
      ∀ v' S', v'.ownBlock ≠ some gx → (POwnV wr (q + 4) v S → POwnV wr (q + 4) v' S') → DSx w q o a b n R v' S' gx (efA bh) (wr.setCell ⟨q + 1, 8, none⟩ v') := by
  refine ⟨by rw [h.st.br.cell, rgA_last R _ h.st.len], h.st.br.free 8, h.bx.cell 0, h.bx.cell 1, h.bx.cell 2, h.bx.cell 3, h.bx.cell 4, h.bx.cell 5, h.bx.cell 6, fun i => h.bx.free i, fun v' S' hne ho => ⟨⟨h.st.bi.other (by omega) _ _, ?_, h.st.b8.other (by omega) _ _, h.st.b9.other (by omega) _ _, (ho h.st.ow).keptFar (grown_setCell _ _ _ _) (by omega), ?_, h.st.len⟩, h.bx.other (by have := h.ge; omega) _ _, h.ge, hne⟩⟩
  · have := h.st.br.set 8 v'; rw [rgA_stack R _ _ h.st.len] at this; exact this
  · exact h.st.bel.grown (grown_setCell _ _ _ _) (by have := h.st.bi.lt; omega) (fun k hk => by cases hk; omega)
theorem DSx.setAll {w wr : World} {q gx : Nat} {o a b n : Int} {R S : List Int} {v : Value} {E : Array Value} (h : DSx w q o a b n R v S gx E wr) (E' : Array Value) (hs : E'.size = E.size) : DSx w q o a b n R v S gx E' (wr.setCells gx 0 E'.toList) :=
  ⟨h.st.far (grown_setCells gx _ _ _) h.ge h.ne, h.bx.setAll E' hs, h.ge, h.ne⟩
theorem POwnV.cellAt {w : World} {B g s c k : Nat} {S : List Int} (h : POwnV w B (.slice (some ⟨g, 0, none⟩) s c) S) (hS : S.length = s) (hk : k < s) : w.cell? ⟨g, k, none⟩ = some (.int .u32 (S.getD k 0)) := by
  rcases h.shape with ⟨e, _⟩ | ⟨g', cap, e, ho⟩
  · cases e
  · injection e with e _ _; injection e with e; injection e with e _ _
    rw [e]; exact ho.cell k (by omega)
theorem POwnV.front {w : World} {B g c k : Nat} {S : List Int} (h : POwnV w B (.slice (some ⟨g, 0, none⟩) (k + 1) c) S) (hS : S.length = k + 1) : POwnV w B (.slice (some ⟨g, 0, none⟩) k c) S.dropLast := by
  rcases h.shape with ⟨e, _⟩ | ⟨g', cap, e, ho⟩
  · cases e
  · injection e with e _ e3; injection e with e; injection e with e _ _
    subst e e3
    obtain ⟨cur, h1, h2, h3, h4, h5, h6⟩ := ho.parts
    have hl : S.dropLast.length = k := by rw [List.length_dropLast]; omega
    have : POwn w B g c S.dropLast := POwn.mk h1 h2 (by omega) h4 h5 (by
      rw [hl]
      have := congrArg (List.take k) h6
      rw [List.take_take, Nat.min_eq_left (by omega)] at this
      rw [this, List.dropLast_eq_take]
      simp [wrds, hS])
    have := this.val
    rw [hl] at this
    exact this

theorem DSx.stored {w wr : World} {q gx : Nat} {o a b n : Int} {R S : List Int} {v : Value} {E : Array Value} (h : DSx w q o a b n R v S gx E wr) (A F : Array Value) (hA : A.size = 9) (hF : F.size = 7) :
    Blk ((wr.setCells (q + 1 + 1) 0 A.toList).setCells (q + 1 + 1 + 1) 0 F.toList).drew (q + 1 + 1) 47 A ∧ Blk ((wr.setCells (q + 1 + 1) 0 A.toList).setCells (q + 1 + 1 + 1) 0 F.toList).drew (q + 1 + 1 + 1) 134 F ∧
      POwnV ((wr.setCells (q + 1 + 1) 0 A.toList).setCells (q + 1 + 1 + 1) 0 F.toList).drew q v S ∧ Below q w ((wr.setCells (q + 1 + 1) 0 A.toList).setCells (q + 1 + 1 + 1) 0 F.toList).drew := by
  have g1 := grown_setCells (q + 1 + 1) A.toList 0 wr
  have b1 : Blk (wr.setCells (q + 1 + 1) 0 A.toList) (q + 1 + 1) 47 A := h.st.b8.setAll A (by rw [hA]; rfl)
  have b2 := h.st.b9.kept g1 (by intro e; injection e with e; omega)
  have o1 := h.st.ow.keptFar g1 (by omega)
  have l1 := h.st.bel.grown g1 (by have := h.st.bi.lt; omega) (fun k hk => by cases hk; omega)
  generalize wr.setCells (q + 1 + 1) 0 A.toList = w1 at *
  have g2 := grown_setCells (q + 1 + 1 + 1) F.toList 0 w1
  have b3 : Blk (w1.setCells (q + 1 + 1 + 1) 0 F.toList) (q + 1 + 1 + 1) 134 F := b2.setAll F (by rw [hF]; rfl)
  have k1 : Blk (w1.setCells (q + 1 + 1 + 1) 0 F.toList) (q + 1 + 1) 47 A := b1.kept g2 (by intro e; injection e with e; omega)
  have o2 : POwnV (w1.setCells (q + 1 + 1 + 1) 0 F.toList) q v S := (o1.keptFar g2 (by omega)).low (by omega)
  exact ⟨k1, b3, o2, (l1.grown g2 (by have := b1.lt; omega) (fun k hk => by cases hk; omega)).drew⟩

end Go.Proofs.YtnpaijbkhmnfpaaGreat

/- exec.Do: how its variables lie when it begins. -/
namespace Go.Proofs.YtnpaijbkhmnfpaaGreat
open Go.RowKit

/-- how Do's variables lie when it begins -/
theorem DSt.start (w w0 : World) (o a b n : Int) (R S : List Int) (p : Option Addr) (s c : Nat) (lR : R.length = 8) (h0 : w0 = (((w.alloc (.cells #[.int .u8 o, .int .u8 a, .int .u8 b, .int .i32 n] 117)).alloc (.cells (rgA R (.slice p s c)) 47)).alloc (.cells noRegs 47)).alloc (.cells (efA 0) 134)) :
    (∀ w1 v, POwnV w1 (w.heap.size + 4) v S → Below w0.heap.size w0 w1 → DSt w w.heap.size o a b n R v S (w1.setCell ⟨w.heap.size + 1, 8, none⟩ v)) ∧ w0.heap.size = w.heap.size + 4 ∧ w0.cell? ⟨w.heap.size + 1, 8, none⟩ = some (.slice p s c) ∧ Below w.heap.size w w0 ∧ (∀ w1, Below w0.heap.size w0 w1 → Blk w1 (w.heap.size + 1) 47 (rgA R (.slice p s c))) := by
  have b1 : Blk (w.alloc (.cells #[.int .u8 o, .int .u8 a, .int .u8 b, .int .i32 n] 117)) w.heap.size 117 #[.int .u8 o, .int .u8 a, .int .u8 b, .int .i32 n] := Blk.new _ _ _
  have s1 := size_one w (.cells #[.int .u8 o, .int .u8 a, .int .u8 b, .int .i32 n] 117)
  have g1 := new_alloc w (.cells #[.int .u8 o, .int .u8 a, .int .u8 b, .int .i32 n] 117)
  generalize w.alloc (.cells #[.int .u8 o, .int .u8 a, .int .u8 b, .int .i32 n] 117) = W1 at *
  have b2 := Blk.new W1 47 (rgA R (.slice p s c))
  have s2 := size_one W1 (.cells (rgA R (.slice p s c)) 47)
  have g2 := new_alloc W1 (.cells (rgA R (.slice p s c)) 47)
  generalize W1.alloc (.cells (rgA R (.slice p s c)) 47) = W2 at *
  have b3 := Blk.new W2 47 noRegs
  have s3 := size_one W2 (.cells noRegs 47)
  have g3 := new_alloc W2 (.cells noRegs 47)
  generalize W2.alloc (.cells noRegs 47) = W3 at *
  have b4 := Blk.new W3 134 (efA 0)
  have s4 := size_one W3 (.cells (efA 0) 134)
  have g4 := new_alloc W3 (.cells (efA 0) 134)
  rw [← h0] at b4 s4 g4
  rw [s1] at b2
  rw [s2, s1] at b3
  rw [s3, s2, s1] at b4
  have e0 : w0.heap.size = w.heap.size + 4 := by omega
  have B1 := ((b1.grow g2).grow g3).grow g4
  have B2 := (b2.grow g3).grow g4
  have B3 := b3.grow g4
  have hb : Below w.heap.size w w0 := below_step (below_step (below_step g1 g2) g3) g4
  refine ⟨fun w1 v ho h1 => ?_, e0, by rw [B2.cell, rgA_last R _ lR], hb, fun w1 h1 => B2.grow h1⟩
  refine ⟨(B1.grow h1).other (by omega) _ _, ?_, (B3.grow h1).other (by omega) _ _, (b4.grow h1).other (by omega) _ _, ho.keptFar (grown_setCell _ _ _ _) (by omega), (below_step hb h1).grown (grown_setCell _ _ _ _) (by have := h1.size; omega) (fun k hk => by cases hk; omega), lR⟩
  have := (B2.grow h1).set 8 v
  rw [rgA_stack R _ _ lR] at this
  exact this

theorem spanN_right {o : Nat} {a b n : Int} (h : rightB o a b n = true) : spanN o a b n = lenN o := by simp [spanN, h]
theorem flt_right {o : Nat} {a b n : Int} {s d : Nat} (h : fltL o a b n s d = 0) : rightB o a b n = true := by
  cases hR : rightB o a b n
  · simp [fltL, hR] at h
  · rfl
theorem right_reg {o : Nat} {a b : Nat} {n : Int} (h : rightB o a b n = true) : a < 8 ∧ b < 8 := by
  obtain ⟨_, h1, h2, _⟩ := rightB_parts h
  simp only [regB] at h1 h2
  split at h1 <;> split at h2 <;> simp at h1 h2 <;> omega

end Go.Proofs.YtnpaijbkhmnfpaaGreat
