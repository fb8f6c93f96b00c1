/- exec.Do and switchyardref14.Do, for every instruction: both answer doL. -/
import Derived.Test.YtdbpeigcnhhpmaaDoWA
import Derived.Test.YtdbpeigcnhhpmaaDoWB
import Derived.Test.YtdbpeigcnhhpmaaDoWC
import Derived.Test.YtdbpeigcnhhpmaaDoWD
import Derived.Test.YtdbpeigcnhhpmaaDoF
import Derived.Test.YtdbpeigcnhhpmaaRDoWA
import Derived.Test.YtdbpeigcnhhpmaaRDoWB
import Derived.Test.YtdbpeigcnhhpmaaRDoF
namespace Go.Proofs.Ytdbpeigcnhhpmaa
open Go.RowKit

theorem do_any (o a b : Nat) (n pc : Int) (R S D : List Int) (p q : Option Addr) (s c d dc : Nat) (w : World) (ho : o ≤ 255) (ha : a ≤ 255) (hb : b ≤ 255) (hpc : 0 ≤ pc ∧ pc ≤ 4294967295) (hn : -2147483648 ≤ n ∧ n ≤ 2147483647)
    (lR : R.length = 8) (hS : S.length = s) (hs : s * 4 ≤ 140737488355324) (hD : D.length = d) (hd : d ≤ 140737488355328) (hr : PRow w p S) (hrd : Row w q D) (hbd : Byt D) :
    Calls Try.prog 9 #[ins o a b n, .int .u32 pc, rgV R (.slice p s c), .slice q d dc] w fun e w' => (∃ v, e = .returned (.tuple #[rgV (doL o a b n pc R S D).1 v, .agg (effA (doL o a b n pc R S D).2.2)]) ∧ POwnV w' w.heap.size v (doL o a b n pc R S D).2.1) ∧ Below w.heap.size w w' := by
  by_cases hf : fltL o a b n s d = 0
  · have e : doL o a b n pc R S D = (doR o a b n R D, doS o pc S, doE o a n pc R S) := by simp [doL, hS, hD, hf]
    rw [e]
    have hR := flt_right hf
    have ho17 := (rightB_parts hR).1
    have o4 : o ≠ 4 := fun e => by subst e; simp [fltL, hR] at hf
    rcases (by omega : (o = 1 ∨ o = 2 ∨ o = 3 ∨ o = 5 ∨ o = 6) ∨ (o = 7 ∨ o = 8 ∨ o = 9) ∨ (o = 10 ∨ o = 11 ∨ o = 12 ∨ o = 13) ∨ (o = 14 ∨ o = 15 ∨ o = 16)) with h | h | h | h
    · exact do_okA o a b n pc R S D p q s c d dc w ho ha hb hpc hn lR hS hs hD hd hr hrd hbd hf h
    · exact do_okB o a b n pc R S D p q s c d dc w ho ha hb hpc hn lR hS hs hD hd hr hrd hbd hf h
    · exact do_okC o a b n pc R S D p q s c d dc w ho ha hb hpc hn lR hS hs hD hd hr hrd hbd hf h
    · exact do_okD o a b n pc R S D p q s c d dc w ho ha hb hpc hn lR hS hs hD hd hr hrd hbd hf h
  · have e : doL o a b n pc R S D = (R, S, { goE pc with fl := fltL o a b n s d }) := by simp [doL, hS, hD, hf]
    rw [e]
    exact do_bad o a b n pc R S p q s c d dc w ho ha hb lR hS hs hd hr hf

theorem rdo_any (o a b : Nat) (n pc : Int) (R S D : List Int) (p q : Option Addr) (s c d dc : Nat) (w : World) (ha : a ≤ 255) (hb : b ≤ 255) (hpc : 0 ≤ pc ∧ pc ≤ 4294967295) (hn : -2147483648 ≤ n ∧ n ≤ 2147483647)
    (lR : R.length = 8) (hS : S.length = s) (hs : s * 4 ≤ 140737488355324) (hD : D.length = d) (hd : d ≤ 140737488355328) (hr : PRow w p S) (hrd : Row w q D) (hbd : Byt D) :
    Calls Try.prog 10 #[ins o a b n, .int .u32 pc, rgV R (.slice p s c), .slice q d dc] w fun e w' => (∃ v, e = .returned (.tuple #[rgV (doL o a b n pc R S D).1 v, .agg (effA (doL o a b n pc R S D).2.2)]) ∧ POwnV w' w.heap.size v (doL o a b n pc R S D).2.1) ∧ Below w.heap.size w w' := by
  by_cases hf : fltL o a b n s d = 0
  · have e : doL o a b n pc R S D = (doR o a b n R D, doS o pc S, doE o a n pc R S) := by simp [doL, hS, hD, hf]
    rw [e]
    have hR := flt_right hf
    have ho17 := (rightB_parts hR).1
    have o4 : o ≠ 4 := fun e => by subst e; simp [fltL, hR] at hf
    rcases (by omega : (o = 1 ∨ o = 2 ∨ o = 3 ∨ o = 5 ∨ o = 6 ∨ o = 7 ∨ o = 8 ∨ o = 9) ∨ (o = 10 ∨ o = 11 ∨ o = 12 ∨ o = 13 ∨ o = 14 ∨ o = 15 ∨ o = 16)) with h | h
    · exact rdo_okA o a b n pc R S D p q s c d dc w ha hb hpc hn lR hS hs hD hd hr hrd hbd hf h
    · exact rdo_okB o a b n pc R S D p q s c d dc w ha hb hpc hn lR hS hs hD hd hr hrd hbd hf h
  · have e : doL o a b n pc R S D = (R, S, { goE pc with fl := fltL o a b n s d }) := by simp [doL, hS, hD, hf]
    rw [e]
    cases hR : rightB o a b n
    · rw [show fltL o a b n s d = 120 by simp [fltL, hR]]
      exact rdo_wrong o a b n pc R S p q s c d dc w ha hb hpc lR hS hs hr hR
    · by_cases h4 : o = 4
      · rw [show fltL o a b n s d = 120 by simp [fltL, h4]]
        exact rdo_brk o a b n pc R S p q s c d dc w ha hb hpc lR hS hs hr h4 hR
      · by_cases h12 : o = 12
        · by_cases h64 : 64 ≤ s
          · rw [show fltL o a b n s d = 3 by subst h12; simp [fltL, hR, h64]]
            exact rdo_call o a b n pc R S p q s c d dc w ha hb hpc lR hS hs hr h12 hR h64
          · exact absurd (show fltL o a b n s d = 0 by subst h12; simp [fltL, hR, h64]) hf
        · by_cases h14 : o = 14
          · by_cases hd4 : d < 4
            · rw [show fltL o a b n s d = 210 by subst h14; simp [fltL, hR, hd4]]
              exact rdo_load o a b n pc R S p q s c d dc w ha hb hpc lR hS hs hr h14 hR hd4
            · exact absurd (show fltL o a b n s d = 0 by subst h14; simp [fltL, hR, hd4]) hf
          · by_cases h15 : o = 15
            · by_cases hd4 : d < 4
              · rw [show fltL o a b n s d = 210 by subst h15; simp [fltL, hR, hd4]]
                exact rdo_store o a b n pc R S p q s c d dc w ha hb hpc lR hS hs hr h15 hR hd4
              · exact absurd (show fltL o a b n s d = 0 by subst h15; simp [fltL, hR, hd4]) hf
            · exact absurd (show fltL o a b n s d = 0 by simp [fltL, hR, h4, h12, h14, h15]) hf

end Go.Proofs.Ytdbpeigcnhhpmaa
