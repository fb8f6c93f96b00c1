/- Texts put together: RefA, RefB, RefC, RefD. -/
import Derived.Test.YthjbdbmncfbihaaGreatDoorKj
import Derived.Test.YthjbdbmncfbihaaGreatDoorKi

/- switchyardref04: register, power. -/
namespace Go.Proofs.YthjbdbmncfbihaaGreatDoor
open Go.RowKit

set_option maxHeartbeats 1000000 in
theorem register_some (f : ByteArray) (r : Int) (hr : regL f.data.toList = some r) (w : World) :
    Calls Tryz.prog 64 #[.string f] w fun e w' => e = .returned (.tuple #[.int .u8 r, .bool true]) ∧ w' = w := by
  have hsz : f.size = 2 := by
    rw [Lib.size_eq]
    unfold regL at hr
    split at hr
    · rename_i h; rw [h]; rfl
    · cases hr
  rw [list_two f hsz] at hr
  simp only [regL] at hr
  split at hr
  · rename_i h
    obtain ⟨h0, h1, h2⟩ := h
    injection hr with hr
    subst hr
    have h0' : ((f[0]'(by omega)).toNat : Int) = 114 := by rw [h0]; rfl
    have h1' : (48 : Int) ≤ ((f[1]'(by omega)).toNat : Int) := by omega
    have h2' : ((f[1]'(by omega)).toNat : Int) ≤ 55 := by omega
    clear h0 h1 h2
    go_enter Tryz.func64, Tryz.ntmps64
    go_wp2
    go_ret2
    exact ⟨rfl, rfl⟩
  · cases hr

set_option maxHeartbeats 1000000 in
theorem register_none (f : ByteArray) (hr : regL f.data.toList = none) (w : World) :
    Calls Tryz.prog 64 #[.string f] w fun e w' => e = .returned (.tuple #[.int .u8 0, .bool false]) ∧ w' = w := by
  by_cases hsz : f.size = 2
  · rw [list_two f hsz] at hr
    simp only [regL] at hr
    split at hr
    · cases hr
    · rename_i h
      clear hr
      by_cases h0 : f[0]'(by omega) = 114
      · have h0' : ((f[0]'(by omega)).toNat : Int) = 114 := by rw [h0]; rfl
        by_cases h1 : 48 ≤ (f[1]'(by omega)).toNat
        · have h1' : (48 : Int) ≤ ((f[1]'(by omega)).toNat : Int) := by omega
          have h2' : (55 : Int) < ((f[1]'(by omega)).toNat : Int) := by
            have : ¬ (f[1]'(by omega)).toNat ≤ 55 := fun e => h ⟨h0, h1, e⟩
            omega
          clear h h0 h1
          go_enter Tryz.func64, Tryz.ntmps64
          go_wp2
          go_ret2
          exact ⟨rfl, rfl⟩
        · have h1' : ((f[1]'(by omega)).toNat : Int) < 48 := by omega
          clear h h0 h1
          go_enter Tryz.func64, Tryz.ntmps64
          go_wp2
          go_ret2
          exact ⟨rfl, rfl⟩
      · have h0' : ¬ ((f[0]'(by omega)).toNat : Int) = 114 := fun e => h0 (by
          apply UInt8.toNat_inj.1
          have : ((114 : UInt8).toNat : Int) = 114 := rfl
          omega)
        clear h h0
        go_enter Tryz.func64, Tryz.ntmps64
        go_wp2
        go_ret2
        exact ⟨rfl, rfl⟩
  · clear hr
    have hz : ¬ ((f.size : Int) = 2) := by omega
    go_enter Tryz.func64, Tryz.ntmps64
    go_wp2
    go_ret2
    exact ⟨rfl, rfl⟩

set_option maxHeartbeats 2000000 in
theorem power_any (v : Int) (w : World) :
    Calls Tryz.prog 65 #[.int .i64 v] w fun e w' => e = .returned (.bool (holdsB 7 v)) ∧ w' = w := by
  have hD : holdsB 7 v = decide (v = 1 ∨ v = 2 ∨ v = 4 ∨ v = 8 ∨ v = 16 ∨ v = 32 ∨ v = 64) := by simp [holdsB]
  have HT : Hid ((v = 1 ∨ v = 2 ∨ v = 4 ∨ v = 8 ∨ v = 16 ∨ v = 32 ∨ v = 64) → holdsB 7 v = true) := fun h => by rw [hD]; exact decide_eq_true h
  have HF : Hid (¬ (v = 1 ∨ v = 2 ∨ v = 4 ∨ v = 8 ∨ v = 16 ∨ v = 32 ∨ v = 64) → holdsB 7 v = false) := fun h => by rw [hD]; exact decide_eq_false h
  clear hD
  generalize holdsB 7 v = hv at *
  go_enter Tryz.func65, Tryz.ntmps65
  go_wp2
  go_loop [3] (fun p => ∃ k : Int, p = .int .i64 k ∧ ((k = 1) ∨ (k = 2 ∧ ¬ v = 1) ∨ (k = 4 ∧ ¬ v = 1 ∧ ¬ v = 2) ∨ (k = 8 ∧ ¬ v = 1 ∧ ¬ v = 2 ∧ ¬ v = 4) ∨ (k = 16 ∧ ¬ v = 1 ∧ ¬ v = 2 ∧ ¬ v = 4 ∧ ¬ v = 8) ∨ (k = 32 ∧ ¬ v = 1 ∧ ¬ v = 2 ∧ ¬ v = 4 ∧ ¬ v = 8 ∧ ¬ v = 16) ∨ (k = 64 ∧ ¬ v = 1 ∧ ¬ v = 2 ∧ ¬ v = 4 ∧ ¬ v = 8 ∧ ¬ v = 16 ∧ ¬ v = 32) ∨ (k = 128 ∧ ¬ v = 1 ∧ ¬ v = 2 ∧ ¬ v = 4 ∧ ¬ v = 8 ∧ ¬ v = 16 ∧ ¬ v = 32 ∧ ¬ v = 64))) (fun p => (128 - intOf p).toNat)
  case atStart => exact ⟨1, rfl, .inl rfl⟩
  case round =>
    obtain ⟨k, rfl, hk⟩ := hrel
    rcases hk with rfl | hk | hk | hk | hk | hk | hk | hk
    · skip
      by_cases n1 : v = 1
      · have := HT.out (by omega)
        subst this
        go_wp2
        go_ret
        exact ⟨rfl, rfl⟩
      · go_wp2
        go_round
        case rel => exact ⟨2, rfl, by omega⟩
        case measure => simp [intOf]
    · obtain ⟨rfl, n1⟩ := hk
      by_cases n2 : v = 2
      · have := HT.out (by omega)
        subst this
        go_wp2
        go_ret
        exact ⟨rfl, rfl⟩
      · go_wp2
        go_round
        case rel => exact ⟨4, rfl, by omega⟩
        case measure => simp [intOf]
    · obtain ⟨rfl, n1, n2⟩ := hk
      by_cases n4 : v = 4
      · have := HT.out (by omega)
        subst this
        go_wp2
        go_ret
        exact ⟨rfl, rfl⟩
      · go_wp2
        go_round
        case rel => exact ⟨8, rfl, by omega⟩
        case measure => simp [intOf]
    · obtain ⟨rfl, n1, n2, n4⟩ := hk
      by_cases n8 : v = 8
      · have := HT.out (by omega)
        subst this
        go_wp2
        go_ret
        exact ⟨rfl, rfl⟩
      · go_wp2
        go_round
        case rel => exact ⟨16, rfl, by omega⟩
        case measure => simp [intOf]
    · obtain ⟨rfl, n1, n2, n4, n8⟩ := hk
      by_cases n16 : v = 16
      · have := HT.out (by omega)
        subst this
        go_wp2
        go_ret
        exact ⟨rfl, rfl⟩
      · go_wp2
        go_round
        case rel => exact ⟨32, rfl, by omega⟩
        case measure => simp [intOf]
    · obtain ⟨rfl, n1, n2, n4, n8, n16⟩ := hk
      by_cases n32 : v = 32
      · have := HT.out (by omega)
        subst this
        go_wp2
        go_ret
        exact ⟨rfl, rfl⟩
      · go_wp2
        go_round
        case rel => exact ⟨64, rfl, by omega⟩
        case measure => simp [intOf]
    · obtain ⟨rfl, n1, n2, n4, n8, n16, n32⟩ := hk
      by_cases n64 : v = 64
      · have := HT.out (by omega)
        subst this
        go_wp2
        go_ret
        exact ⟨rfl, rfl⟩
      · go_wp2
        go_round
        case rel => exact ⟨128, rfl, by omega⟩
        case measure => simp [intOf]
    · obtain ⟨rfl, n1, n2, n4, n8, n16, n32, n64⟩ := hk
      have := HF.out (by omega)
      subst this
      go_wp2
      go_ret
      exact ⟨rfl, rfl⟩

end Go.Proofs.YthjbdbmncfbihaaGreatDoor

/- switchyardref04.fits: the error of a field at its place. -/
namespace Go.Proofs.YthjbdbmncfbihaaGreatDoor
open Go.RowKit

theorem register_any (f : ByteArray) (w : World) :
    Calls Tryz.prog 64 #[.string f] w fun e w' => e = .returned (.tuple #[.int .u8 ((regL f.data.toList).getD 0), .bool (regL f.data.toList).isSome]) ∧ w' = w := by
  cases h : regL f.data.toList with
  | none => exact register_none f h w
  | some r => exact register_some f r h w
abbrev askd (c : Int) (lo hi : Int) : Value := .agg #[.int .u8 c, .int .i64 lo, .int .i64 hi]

set_option maxHeartbeats 1000000 in
theorem fits_reg (f : ByteArray) (hm : f.size ≤ 281474976710656) (w : World) :
    Calls Tryz.prog 53 #[.string f, askd 114 0 0] w fun e w' => e = .returned (.int .i64 (if (regL f.data.toList).isSome then 0 else 140)) ∧ Below w.heap.size w w' := by
  have hN := fun W => refNumber_any f hm W
  have hR := fun W => register_any f W
  generalize (regL f.data.toList).isSome = rb at *
  generalize (regL f.data.toList).getD 0 = rv at *
  generalize numV f.data.toList = nv at *
  generalize (numL f.data.toList).isSome = nb at *
  cases rb
  all_goals
    go_enter Tryz.func53, Tryz.ntmps53
    go_wp2_with (first
      | (go_at_call 63; refine (hN _).mono ?_; rintro e w1 ⟨rfl, rfl⟩)
      | (go_at_call 64; refine (hR _).mono ?_; rintro e w2 ⟨rfl, rfl⟩))
    go_ret
    exact ⟨rfl, new_alloc _ _⟩
set_option maxHeartbeats 1000000 in
theorem fits_name (f : ByteArray) (hm : f.size ≤ 281474976710656) (w : World) :
    Calls Tryz.prog 53 #[.string f, askd 119 0 0] w fun e w' => e = .returned (.int .i64 (if nameB f.data.toList then 0 else 140)) ∧ Below w.heap.size w w' := by
  have hN := fun W => refNumber_any f hm W
  have hR := fun W => register_any f W
  have hA : ∀ W, Calls Tryz.prog 51 #[.string f] W fun e w' => e = .returned (.bool (nameB f.data.toList)) ∧ w' = W := fun W => by
    cases h : nameB f.data.toList with
    | true => exact refName_yes f W (by omega) ((nameB_iff f).1 h)
    | false => exact refName_no f W (by omega) (fun e => by rw [(nameB_iff f).2 e] at h; cases h)
  generalize (regL f.data.toList).isSome = rb at *
  generalize (regL f.data.toList).getD 0 = rv at *
  generalize numV f.data.toList = nv at *
  generalize (numL f.data.toList).isSome = nb at *
  generalize nameB f.data.toList = na at *
  cases na
  all_goals
    go_enter Tryz.func53, Tryz.ntmps53
    go_wp2_with (first
      | (go_at_call 63; refine (hN _).mono ?_; rintro e w1 ⟨rfl, rfl⟩)
      | (go_at_call 64; refine (hR _).mono ?_; rintro e w2 ⟨rfl, rfl⟩)
      | (go_at_call 51; refine (hA _).mono ?_; rintro e w3 ⟨rfl, rfl⟩))
    go_ret
    exact ⟨rfl, new_alloc _ _⟩

set_option maxHeartbeats 1000000 in
theorem fits_none (c lo hi : Int) (hc : c = 110 ∨ c = 97) (f : ByteArray) (hm : f.size ≤ 281474976710656) (hn : numL f.data.toList = none) (w : World) :
    Calls Tryz.prog 53 #[.string f, askd c lo hi] w fun e w' => e = .returned (.int .i64 140) ∧ Below w.heap.size w w' := by
  have hN := fun W => refNumber_any f hm W
  have hR := fun W => register_any f W
  rw [hn] at hN
  simp only [Option.isSome_none] at hN
  generalize (regL f.data.toList).isSome = rb at *
  generalize (regL f.data.toList).getD 0 = rv at *
  generalize numV f.data.toList = nv at *
  clear hn
  rcases hc with rfl | rfl
  all_goals
    go_enter Tryz.func53, Tryz.ntmps53
    go_wp2_with (first
      | (go_at_call 63; refine (hN _).mono ?_; rintro e w1 ⟨rfl, rfl⟩)
      | (go_at_call 64; refine (hR _).mono ?_; rintro e w2 ⟨rfl, rfl⟩))
    go_ret
    exact ⟨rfl, new_alloc _ _⟩
set_option maxHeartbeats 1000000 in
theorem fits_num (lo hi : Int) (f : ByteArray) (hm : f.size ≤ 281474976710656) (v : Int) (hn : numL f.data.toList = some v) (w : World) :
    Calls Tryz.prog 53 #[.string f, askd 110 lo hi] w fun e w' => e = .returned (.int .i64 (if lo ≤ v ∧ v ≤ hi then 0 else 150)) ∧ Below w.heap.size w w' := by
  have hN := fun W => refNumber_any f hm W
  have hR := fun W => register_any f W
  rw [numV, hn] at hN
  simp only [Option.isSome_some, Option.getD_some] at hN
  generalize (regL f.data.toList).isSome = rb at *
  generalize (regL f.data.toList).getD 0 = rv at *
  clear hn
  by_cases h1 : lo ≤ v
  · by_cases h2 : v ≤ hi
    · rw [if_pos ⟨h1, h2⟩]
      go_enter Tryz.func53, Tryz.ntmps53
      go_wp2_with (first
        | (go_at_call 63; refine (hN _).mono ?_; rintro e w1 ⟨rfl, rfl⟩)
        | (go_at_call 64; refine (hR _).mono ?_; rintro e w2 ⟨rfl, rfl⟩))
      go_ret
      exact ⟨rfl, new_alloc _ _⟩
    · rw [if_neg fun h => h2 h.2]
      go_enter Tryz.func53, Tryz.ntmps53
      go_wp2_with (first
        | (go_at_call 63; refine (hN _).mono ?_; rintro e w1 ⟨rfl, rfl⟩)
        | (go_at_call 64; refine (hR _).mono ?_; rintro e w2 ⟨rfl, rfl⟩))
      go_ret
      exact ⟨rfl, new_alloc _ _⟩
  · rw [if_neg fun h => h1 h.1]
    go_enter Tryz.func53, Tryz.ntmps53
    go_wp2_with (first
      | (go_at_call 63; refine (hN _).mono ?_; rintro e w1 ⟨rfl, rfl⟩)
      | (go_at_call 64; refine (hR _).mono ?_; rintro e w2 ⟨rfl, rfl⟩))
    go_ret
    exact ⟨rfl, new_alloc _ _⟩
set_option maxHeartbeats 1000000 in
theorem fits_pow (f : ByteArray) (hm : f.size ≤ 281474976710656) (v : Int) (hn : numL f.data.toList = some v) (w : World) :
    Calls Tryz.prog 53 #[.string f, askd 97 0 0] w fun e w' => e = .returned (.int .i64 (if holdsB 7 v then 0 else 150)) ∧ Below w.heap.size w w' := by
  have hN := fun W => refNumber_any f hm W
  have hR := fun W => register_any f W
  have hP := fun W => power_any v W
  rw [numV, hn] at hN
  simp only [Option.isSome_some, Option.getD_some] at hN
  generalize (regL f.data.toList).isSome = rb at *
  generalize (regL f.data.toList).getD 0 = rv at *
  generalize holdsB 7 v = hb at *
  clear hn
  cases hb
  all_goals
    go_enter Tryz.func53, Tryz.ntmps53
    go_wp2_with (first
      | (go_at_call 63; refine (hN _).mono ?_; rintro e w1 ⟨rfl, rfl⟩)
      | (go_at_call 64; refine (hR _).mono ?_; rintro e w2 ⟨rfl, rfl⟩)
      | (go_at_call 65; refine (hP _).mono ?_; rintro e w3 ⟨rfl, rfl⟩))
    go_ret
    exact ⟨rfl, new_alloc _ _⟩

/-- what a place asks for, in the reference's words -/
def askV (p : Nat) : Value :=
  if p = 0 ∨ p = 1 then askd 114 0 0 else if p = 3 ∨ p = 4 then askd 119 0 0 else if p = 2 then askd 110 (-2147483648) 2147483647 else if p = 5 then askd 110 0 255 else if p = 6 then askd 110 0 4096 else askd 97 0 0
/-- the error of a field at its place -/
theorem fits_any (p : Nat) (hp : p < 8) (x : Src) (f : ByteArray) (hm : f.size ≤ 281474976710656) (w : World) :
    Calls Tryz.prog 53 #[.string f, askV p] w fun e w' => e = .returned (.int .i64 (readL p x f.data.toList).1) ∧ Below w.heap.size w w' := by
  have : p = 0 ∨ p = 1 ∨ p = 3 ∨ p = 4 ∨ p = 2 ∨ p = 5 ∨ p = 6 ∨ p = 7 := by omega
  rcases this with rfl | rfl | rfl | rfl | rfl | rfl | rfl | rfl
  · have := fits_reg f hm w
    cases h : regL f.data.toList <;> simpa [askV, readL, h] using this
  · have := fits_reg f hm w
    cases h : regL f.data.toList <;> simpa [askV, readL, h] using this
  · have := fits_name f hm w
    cases h : nameB f.data.toList <;> simpa [askV, readL, h] using this
  · have := fits_name f hm w
    cases h : nameB f.data.toList <;> simpa [askV, readL, h] using this
  · cases h : numL f.data.toList with
    | none => have := fits_none 110 (-2147483648) 2147483647 (.inl rfl) f hm h w; simpa [askV, readL, h] using this
    | some v =>
      have := fits_num (-2147483648) 2147483647 f hm v h w
      by_cases hh : -2147483648 ≤ v ∧ v ≤ 2147483647 <;> simpa [askV, readL, h, holdsB, hh] using this
  · cases h : numL f.data.toList with
    | none => have := fits_none 110 0 255 (.inl rfl) f hm h w; simpa [askV, readL, h] using this
    | some v =>
      have := fits_num 0 255 f hm v h w
      by_cases hh : 0 ≤ v ∧ v ≤ 255 <;> simpa [askV, readL, h, holdsB, hh] using this
  · cases h : numL f.data.toList with
    | none => have := fits_none 110 0 4096 (.inl rfl) f hm h w; simpa [askV, readL, h] using this
    | some v =>
      have := fits_num 0 4096 f hm v h w
      by_cases hh : 0 ≤ v ∧ v ≤ 4096 <;> simpa [askV, readL, h, holdsB, hh] using this
  · cases h : numL f.data.toList with
    | none => have := fits_none 97 0 0 (.inr rfl) f hm h w; simpa [askV, readL, h] using this
    | some v =>
      have := fits_pow f hm v h w
      cases hh : holdsB 7 v <;> simpa [askV, readL, h, hh] using this

end Go.Proofs.YthjbdbmncfbihaaGreatDoor

/- switchyardref04.asks: what a first field asks for, in the reference's words. -/
namespace Go.Proofs.YthjbdbmncfbihaaGreatDoor
open Go.RowKit

/-- the cells of a place -/
def askC (p : Nat) : List Value := match askV p with | .agg c => c.toList | _ => []
/-- what a first field asks for: the places, whether the last one may stand again -/
def askL (l : List UInt8) : Option (List Nat × Bool) :=
  match wdL l with
  | some 1 => some ([5], true)
  | some i => some ((formW i).2.1, false)
  | none => match opL l with
    | some o => some (plO o, false)
    | none => none
/-- a list of places, as a slice holds it -/
def AskOwn (w : World) (B : Nat) (v : Value) (ps : List Nat) : Prop :=
  (ps = [] ∧ v = .slice none 0 0) ∨ ∃ g, v = .slice (some ⟨g, 0, none⟩) ps.length ps.length ∧ B ≤ g ∧ Blk w g 90 (ps.flatMap askC).toArray
def AsksIs (r : Option (List Nat × Bool)) (w : World) (e : Ending) (w' : World) : Prop :=
  Below w.heap.size w w' ∧ match r with
  | none => e = .returned (.tuple #[.slice none 0 0, .bool false, .bool false])
  | some (ps, m) => ∃ v, e = .returned (.tuple #[v, .bool m, .bool true]) ∧ AskOwn w' w.heap.size v ps
theorem AsksIs.no {w : World} (A B : Obj) : AsksIs none w (.returned (.tuple #[.slice none 0 0, .bool false, .bool false])) ((w.alloc A).alloc B) := ⟨below_alloc (new_alloc _ _) _, rfl⟩
theorem AsksIs.nil {w : World} (A B : Obj) : AsksIs (some ([], false)) w (.returned (.tuple #[.slice none 0 0, .bool false, .bool true])) ((w.alloc A).alloc B) := ⟨below_alloc (new_alloc _ _) _, _, rfl, .inl ⟨rfl, rfl⟩⟩
theorem AsksIs.lit {w : World} (A B : Obj) (ps : List Nat) (m : Bool) (c : Array Value) (hc : (ps.flatMap askC).toArray = c) :
    AsksIs (some (ps, m)) w (.returned (.tuple #[.slice (some ⟨w.heap.size + 1 + 1, 0, none⟩) ps.length ps.length, .bool m, .bool true])) (((w.alloc A).alloc B).alloc (.cells c 90)) :=
  ⟨below_alloc (below_alloc (new_alloc _ _) _) _, _, rfl, .inr ⟨w.heap.size + 1 + 1, rfl, by omega, by
    rw [hc]
    have := Blk.new ((w.alloc A).alloc B) 90 c
    rw [size_one, size_one] at this
    exact this⟩⟩

set_option maxRecDepth 20000 in
set_option maxHeartbeats 1000000 in
theorem asks_w0 (w : World) : Calls Tryz.prog 52 #[.string (wd 0)] w (AsksIs (some ([3, 4], false)) w) := by
  unfold wd
  go_enter Tryz.func52, Tryz.ntmps52
  go_wp2
  go_ret3
  exact AsksIs.lit _ _ [3, 4] false _ rfl
set_option maxRecDepth 20000 in
set_option maxHeartbeats 1000000 in
theorem asks_w1 (w : World) : Calls Tryz.prog 52 #[.string (wd 1)] w (AsksIs (some ([5], true)) w) := by
  unfold wd
  go_enter Tryz.func52, Tryz.ntmps52
  go_wp2
  go_ret3
  exact AsksIs.lit _ _ [5] true _ rfl
set_option maxRecDepth 20000 in
set_option maxHeartbeats 1000000 in
theorem asks_w2 (w : World) : Calls Tryz.prog 52 #[.string (wd 2)] w (AsksIs (some ([6], false)) w) := by
  unfold wd
  go_enter Tryz.func52, Tryz.ntmps52
  go_wp2
  go_ret3
  exact AsksIs.lit _ _ [6] false _ rfl
set_option maxRecDepth 20000 in
set_option maxHeartbeats 1000000 in
theorem asks_w3 (w : World) : Calls Tryz.prog 52 #[.string (wd 3)] w (AsksIs (some ([7], false)) w) := by
  unfold wd
  go_enter Tryz.func52, Tryz.ntmps52
  go_wp2
  go_ret3
  exact AsksIs.lit _ _ [7] false _ rfl
set_option maxRecDepth 20000 in
set_option maxHeartbeats 1000000 in
theorem asks_w4 (w : World) : Calls Tryz.prog 52 #[.string (wd 4)] w (AsksIs (some ([3], false)) w) := by
  unfold wd
  go_enter Tryz.func52, Tryz.ntmps52
  go_wp2
  go_ret3
  exact AsksIs.lit _ _ [3] false _ rfl
set_option maxRecDepth 20000 in
set_option maxHeartbeats 1000000 in
theorem asks_o1 (w : World) : Calls Tryz.prog 52 #[.string (nm 1)] w (AsksIs (some ([], false)) w) := by
  unfold nm
  go_enter Tryz.func52, Tryz.ntmps52
  go_wp2
  go_ret3
  exact AsksIs.nil _ _
set_option maxRecDepth 20000 in
set_option maxHeartbeats 1000000 in
theorem asks_o2 (w : World) : Calls Tryz.prog 52 #[.string (nm 2)] w (AsksIs (some ([], false)) w) := by
  unfold nm
  go_enter Tryz.func52, Tryz.ntmps52
  go_wp2
  go_ret3
  exact AsksIs.nil _ _
set_option maxRecDepth 20000 in
set_option maxHeartbeats 1000000 in
theorem asks_o3 (w : World) : Calls Tryz.prog 52 #[.string (nm 3)] w (AsksIs (some ([], false)) w) := by
  unfold nm
  go_enter Tryz.func52, Tryz.ntmps52
  go_wp2
  go_ret3
  exact AsksIs.nil _ _
set_option maxRecDepth 20000 in
set_option maxHeartbeats 1000000 in
theorem asks_o4 (w : World) : Calls Tryz.prog 52 #[.string (nm 4)] w (AsksIs (some ([], false)) w) := by
  unfold nm
  go_enter Tryz.func52, Tryz.ntmps52
  go_wp2
  go_ret3
  exact AsksIs.nil _ _
set_option maxRecDepth 20000 in
set_option maxHeartbeats 1000000 in
theorem asks_o5 (w : World) : Calls Tryz.prog 52 #[.string (nm 5)] w (AsksIs (some ([0, 2], false)) w) := by
  unfold nm
  go_enter Tryz.func52, Tryz.ntmps52
  go_wp2
  go_ret3
  exact AsksIs.lit _ _ [0, 2] false _ rfl
set_option maxRecDepth 20000 in
set_option maxHeartbeats 1000000 in
theorem asks_o6 (w : World) : Calls Tryz.prog 52 #[.string (nm 6)] w (AsksIs (some ([0, 1], false)) w) := by
  unfold nm
  go_enter Tryz.func52, Tryz.ntmps52
  go_wp2
  go_ret3
  exact AsksIs.lit _ _ [0, 1] false _ rfl
set_option maxRecDepth 20000 in
set_option maxHeartbeats 1000000 in
theorem asks_o7 (w : World) : Calls Tryz.prog 52 #[.string (nm 7)] w (AsksIs (some ([0, 1], false)) w) := by
  unfold nm
  go_enter Tryz.func52, Tryz.ntmps52
  go_wp2
  go_ret3
  exact AsksIs.lit _ _ [0, 1] false _ rfl
set_option maxRecDepth 20000 in
set_option maxHeartbeats 1000000 in
theorem asks_o8 (w : World) : Calls Tryz.prog 52 #[.string (nm 8)] w (AsksIs (some ([0, 1], false)) w) := by
  unfold nm
  go_enter Tryz.func52, Tryz.ntmps52
  go_wp2
  go_ret3
  exact AsksIs.lit _ _ [0, 1] false _ rfl
set_option maxRecDepth 20000 in
set_option maxHeartbeats 1000000 in
theorem asks_o9 (w : World) : Calls Tryz.prog 52 #[.string (nm 9)] w (AsksIs (some ([0, 3], false)) w) := by
  unfold nm
  go_enter Tryz.func52, Tryz.ntmps52
  go_wp2
  go_ret3
  exact AsksIs.lit _ _ [0, 3] false _ rfl
set_option maxRecDepth 20000 in
set_option maxHeartbeats 1000000 in
theorem asks_o10 (w : World) : Calls Tryz.prog 52 #[.string (nm 10)] w (AsksIs (some ([0, 3], false)) w) := by
  unfold nm
  go_enter Tryz.func52, Tryz.ntmps52
  go_wp2
  go_ret3
  exact AsksIs.lit _ _ [0, 3] false _ rfl
set_option maxRecDepth 20000 in
set_option maxHeartbeats 1000000 in
theorem asks_o11 (w : World) : Calls Tryz.prog 52 #[.string (nm 11)] w (AsksIs (some ([3], false)) w) := by
  unfold nm
  go_enter Tryz.func52, Tryz.ntmps52
  go_wp2
  go_ret3
  exact AsksIs.lit _ _ [3] false _ rfl
set_option maxRecDepth 20000 in
set_option maxHeartbeats 1000000 in
theorem asks_o12 (w : World) : Calls Tryz.prog 52 #[.string (nm 12)] w (AsksIs (some ([3], false)) w) := by
  unfold nm
  go_enter Tryz.func52, Tryz.ntmps52
  go_wp2
  go_ret3
  exact AsksIs.lit _ _ [3] false _ rfl
set_option maxRecDepth 20000 in
set_option maxHeartbeats 1000000 in
theorem asks_o13 (w : World) : Calls Tryz.prog 52 #[.string (nm 13)] w (AsksIs (some ([], false)) w) := by
  unfold nm
  go_enter Tryz.func52, Tryz.ntmps52
  go_wp2
  go_ret3
  exact AsksIs.nil _ _
set_option maxRecDepth 20000 in
set_option maxHeartbeats 1000000 in
theorem asks_o14 (w : World) : Calls Tryz.prog 52 #[.string (nm 14)] w (AsksIs (some ([0, 3], false)) w) := by
  unfold nm
  go_enter Tryz.func52, Tryz.ntmps52
  go_wp2
  go_ret3
  exact AsksIs.lit _ _ [0, 3] false _ rfl
set_option maxRecDepth 20000 in
set_option maxHeartbeats 1000000 in
theorem asks_o15 (w : World) : Calls Tryz.prog 52 #[.string (nm 15)] w (AsksIs (some ([0, 3], false)) w) := by
  unfold nm
  go_enter Tryz.func52, Tryz.ntmps52
  go_wp2
  go_ret3
  exact AsksIs.lit _ _ [0, 3] false _ rfl
set_option maxRecDepth 20000 in
set_option maxHeartbeats 1000000 in
theorem asks_o16 (w : World) : Calls Tryz.prog 52 #[.string (nm 16)] w (AsksIs (some ([0], false)) w) := by
  unfold nm
  go_enter Tryz.func52, Tryz.ntmps52
  go_wp2
  go_ret3
  exact AsksIs.lit _ _ [0] false _ rfl

end Go.Proofs.YthjbdbmncfbihaaGreatDoor

/- switchyardref04.asks, for every first field. -/
namespace Go.Proofs.YthjbdbmncfbihaaGreatDoor
open Go.RowKit

theorem not_op {y : ByteArray} (h : opL y.data.toList = none) : (y.toList == [104, 97, 108, 116]) = false ∧ (y.toList == [110, 111, 112]) = false ∧ (y.toList == [110, 111, 112, 53]) = false ∧ (y.toList == [98, 114, 107]) = false ∧ (y.toList == [109, 111, 118, 105]) = false ∧ (y.toList == [109, 111, 118]) = false ∧ (y.toList == [97, 100, 100]) = false ∧ (y.toList == [115, 117, 98]) = false ∧ (y.toList == [98, 122]) = false ∧ (y.toList == [98, 110, 122]) = false ∧ (y.toList == [106, 109, 112]) = false ∧ (y.toList == [99, 97, 108, 108]) = false ∧ (y.toList == [114, 101, 116]) = false ∧ (y.toList == [108, 111, 97, 100]) = false ∧ (y.toList == [115, 116, 111, 114, 101]) = false ∧ (y.toList == [111, 117, 116]) = false := by
  unfold opL at h
  rw [List.find?_eq_none] at h
  rw [toList_eq]
  have h1 := h 1 (by decide)
  have h2 := h 2 (by decide)
  have h3 := h 3 (by decide)
  have h4 := h 4 (by decide)
  have h5 := h 5 (by decide)
  have h6 := h 6 (by decide)
  have h7 := h 7 (by decide)
  have h8 := h 8 (by decide)
  have h9 := h 9 (by decide)
  have h10 := h 10 (by decide)
  have h11 := h 11 (by decide)
  have h12 := h 12 (by decide)
  have h13 := h 13 (by decide)
  have h14 := h 14 (by decide)
  have h15 := h 15 (by decide)
  have h16 := h 16 (by decide)
  simp only [nm, beq_iff_eq] at h1 h2 h3 h4 h5 h6 h7 h8 h9 h10 h11 h12 h13 h14 h15 h16
  exact ⟨beq_eq_false_iff_ne.2 fun e => h1 e.symm, beq_eq_false_iff_ne.2 fun e => h2 e.symm, beq_eq_false_iff_ne.2 fun e => h3 e.symm, beq_eq_false_iff_ne.2 fun e => h4 e.symm, beq_eq_false_iff_ne.2 fun e => h5 e.symm, beq_eq_false_iff_ne.2 fun e => h6 e.symm, beq_eq_false_iff_ne.2 fun e => h7 e.symm, beq_eq_false_iff_ne.2 fun e => h8 e.symm, beq_eq_false_iff_ne.2 fun e => h9 e.symm, beq_eq_false_iff_ne.2 fun e => h10 e.symm, beq_eq_false_iff_ne.2 fun e => h11 e.symm, beq_eq_false_iff_ne.2 fun e => h12 e.symm, beq_eq_false_iff_ne.2 fun e => h13 e.symm, beq_eq_false_iff_ne.2 fun e => h14 e.symm, beq_eq_false_iff_ne.2 fun e => h15 e.symm, beq_eq_false_iff_ne.2 fun e => h16 e.symm⟩

set_option maxRecDepth 20000 in
set_option maxHeartbeats 1000000 in
theorem asks_none (f : ByteArray) (hw : wdL f.data.toList = none) (ho : opL f.data.toList = none) (w : World) : Calls Tryz.prog 52 #[.string f] w (AsksIs none w) := by
  obtain ⟨n0, n1, n2, n3, n4⟩ := not_word hw
  obtain ⟨o1, o2, o3, o4, o5, o6, o7, o8, o9, o10, o11, o12, o13, o14, o15, o16⟩ := not_op ho
  clear hw ho
  go_enter Tryz.func52, Tryz.ntmps52
  go_wp2
  go_ret3
  exact AsksIs.no _ _

theorem wd_of {l : List UInt8} {i : Nat} (h : wdL l = some i) : i < 5 ∧ bytesOf l = wd i := by
  have h1 := List.find?_some h
  have h2 := List.mem_of_find?_eq_some h
  rw [List.mem_range] at h2
  simp only [beq_iff_eq] at h1
  exact ⟨h2, by rw [← h1]; rfl⟩
theorem op_of {l : List UInt8} {o : Nat} (h : opL l = some o) : 1 ≤ o ∧ o < 17 ∧ bytesOf l = nm o := by
  have h1 := List.find?_some h
  have h2 := List.mem_of_find?_eq_some h
  rw [List.mem_range'] at h2
  simp only [beq_iff_eq] at h1
  exact ⟨by omega, by omega, by rw [← h1]; rfl⟩
theorem asks_any (f : ByteArray) (w : World) : Calls Tryz.prog 52 #[.string f] w (AsksIs (askL f.data.toList) w) := by
  unfold askL
  cases hw : wdL f.data.toList with
  | some i =>
    obtain ⟨h1, h2⟩ := wd_of hw
    have hf : f = wd i := by rw [← h2]; rfl
    rw [hf]
    have : i = 0 ∨ i = 1 ∨ i = 2 ∨ i = 3 ∨ i = 4 := by omega
    rcases this with rfl | rfl | rfl | rfl | rfl
    · exact asks_w0 w
    · exact asks_w1 w
    · exact asks_w2 w
    · exact asks_w3 w
    · exact asks_w4 w
  | none =>
    simp only
    cases ho : opL f.data.toList with
    | none => exact asks_none f hw ho w
    | some o =>
      obtain ⟨h0, h1, h2⟩ := op_of ho
      have hf : f = nm o := by rw [← h2]; rfl
      rw [hf]
      have : o = 1 ∨ o = 2 ∨ o = 3 ∨ o = 4 ∨ o = 5 ∨ o = 6 ∨ o = 7 ∨ o = 8 ∨ o = 9 ∨ o = 10 ∨ o = 11 ∨ o = 12 ∨ o = 13 ∨ o = 14 ∨ o = 15 ∨ o = 16 := by omega
      rcases this with rfl | rfl | rfl | rfl | rfl | rfl | rfl | rfl | rfl | rfl | rfl | rfl | rfl | rfl | rfl | rfl
      · exact asks_o1 w
      · exact asks_o2 w
      · exact asks_o3 w
      · exact asks_o4 w
      · exact asks_o5 w
      · exact asks_o6 w
      · exact asks_o7 w
      · exact asks_o8 w
      · exact asks_o9 w
      · exact asks_o10 w
      · exact asks_o11 w
      · exact asks_o12 w
      · exact asks_o13 w
      · exact asks_o14 w
      · exact asks_o15 w
      · exact asks_o16 w

end Go.Proofs.YthjbdbmncfbihaaGreatDoor
