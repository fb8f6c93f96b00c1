/- Texts put together: RHi, PlyT. -/
import Derived.Test.YtnpaijbkhmnfpaaGreatKba
import Derived.Test.YtnpaijbkhmnfpaaGreatKay

/- Ours: the reference's Step (switchyardref15): every step. -/
namespace Go.Proofs.YtnpaijbkhmnfpaaGreat
open Go.RowKit Go.Maps

theorem stp_idle {id : Int} {H : Hs} {xs : List Int} {hold : Bool} {tr : Option Nat} (h0 : H.st ≠ 0) : stpH id H xs hold tr = ⟨H, xs, []⟩ := if_neg h0
theorem stp_fetch {id : Int} {H : Hs} {xs : List Int} {hold : Bool} {tr : Option Nat} (h0 : H.st = 0) (hd : doneB H.hv = false) : stpH id H xs hold tr = movH id H xs (stpR H.L xs H.pc H.hv hold) := (if_pos h0).trans (if_neg (by rw [hd]; decide))
theorem stp_ins {id : Int} {H : Hs} {xs : List Int} {hold : Bool} {tr : Option Nat} (h0 : H.st = 0) (hd : doneB H.hv = true) : stpH id H xs hold tr = insH id (nilH H) xs tr (dec H.hv) := (if_pos h0).trans (if_pos hd)
/-- the reference's Step answers what a step leaves and tells -/
theorem rstepH_any {H : Hs} {V : Value} (id t : Int) (p8 : Option Addr) (d : Nat) (xs : List Int) (hold : Bool) (w : World) (hok : HsOk 1000000 H) (G : Nat → Prop) (hG : ∀ j, G j → j < w.heap.size) (k : HvN G w H V) (hx : Row w p8 xs) (hxo : Off G p8 xs.length) (hxl : xs.length ≤ 65536) (hbx : Byt xs) (hri : Ris H.L) (tr : Option Nat) (ht : (tr = none ∧ t < 0) ∨ ∃ z : Nat, tr = some z ∧ t = z ∧ z ≤ 4294967295) :
    Calls Tryz.prog 23 #[V, .int .i64 id, .slice p8 xs.length d, .bool hold, .int .i64 t] w fun e w' => RsIs G w (stpH id H xs hold tr) e w' := by
  by_cases h0 : H.st = 0
  · cases hd : doneB H.hv with
    | false =>
      rw [stp_fetch h0 hd]
      exact rstepH_fetch id t p8 d xs hold w hok G hG k hx hxo hxl h0 hd hri
    | true =>
      rw [stp_ins h0 hd]
      by_cases he : (dec H.hv).e = 0
      · by_cases ho : (dec H.hv).o = 4
        · have e1 : insH id (nilH H) xs tr (dec H.hv) = folH id (nilH H) xs tr := (if_pos he).trans (if_pos ho)
          rw [e1]
          rcases ht with ⟨rfl, ht⟩ | ⟨z, rfl, rfl, hz⟩
          · exact rstepH_bad id t p8 d xs hold w hok G hG k hx hxo h0 hd (.inr ⟨he, ho, ht⟩)
          · exact rstepH_trap id z p8 d xs hold w hok G hG k hx hxo h0 hd ⟨he, ho⟩ hz
        · exact rstepH_exec id t p8 d xs hold w hok G hG k hx hxo hxl tr hbx h0 hd ⟨he, ho⟩
      · have e1 : insH id (nilH H) xs tr (dec H.hv) = fltH id (nilH H) xs 120 := if_neg he
        rw [e1]
        exact rstepH_bad id t p8 d xs hold w hok G hG k hx hxo h0 hd (.inl he)
  · rw [stp_idle h0]
    exact rstepH_idle id t p8 d xs hold w hok G hG k hx hxo h0
end Go.Proofs.YtnpaijbkhmnfpaaGreat

/- Ours: HartPlays at all arguments. -/
namespace Go.Proofs.YtnpaijbkhmnfpaaGreat
open Go.RowKit Go.Maps

theorem rsteps_all : RSteps := fun _ _ id t p8 d xs hold w a G b c e f g h i tr ht => rstepH_any id t p8 d xs hold w a G b c e f g h i tr ht
theorem hplays_any (p : Option Addr) (c : Nat) (pc other : Int) (s : Option Addr) (e : Nat) (xs : List Int) (Z : List OpD) (w : World) (hs : Sl w p c xs) (hby : Byt xs) (hpc : 0 ≤ pc ∧ pc ≤ 4294967295) (hoth : 0 ≤ other ∧ other ≤ 4294967295) (hZ : Z.length ≤ 9223372036854775807) (hsc : Scr w s Z) :
    Calls Tryz.prog 4 #[.slice p xs.length c, .int .u32 pc, .int .u32 other, .slice s Z.length e] w fun e w' => e = .returned (.bool true) ∧ Below w.heap.size w w' := by
  obtain ⟨a, rfl⟩ : ∃ k : Nat, pc = k := ⟨pc.toNat, by omega⟩
  obtain ⟨b, rfl⟩ : ∃ k : Nat, other = k := ⟨other.toNat, by omega⟩
  exact hplays_walk rsteps_all p c a b s e xs Z w hs.le hs.cm hs.row hby (by omega) (by omega) hZ hsc
end Go.Proofs.YtnpaijbkhmnfpaaGreat
