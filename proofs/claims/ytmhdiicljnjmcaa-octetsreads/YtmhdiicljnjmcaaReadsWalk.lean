/- What the law OctetsReads answers: true, for every text, every two slices of bytes. -/
import Derived.Test.YtmhdiicljnjmcaaRefUnhex
namespace Go.Proofs.Ytmhdiicljnjmcaa
open Go.RowKit

/-- both texts' answers at once: what they hold, and whether they were read -/
def unW (cs : List Int) (ok : Bool) : List Int := if ok = true then unhexB cs else []
theorem unhex_all (s : ByteArray) (ok : Bool) (w : World) (hs : s.size ≤ 140737488355328) (hg : ok = true ↔ Good (codes s)) :
    Calls Try.prog 13 #[.string s] w fun e w' => ∃ q cap, e = .returned (.tuple #[.slice q (unW (codes s) ok).length cap, .bool ok]) ∧ Row w' q (unW (codes s) ok) ∧ Below w.heap.size w w' := by
  by_cases h : ok = true
  · refine (unhex_yes s w (by omega) (hg.1 h)).mono fun e w' ⟨g, h1, h2, h3⟩ => ?_
    rw [unW, if_pos h, h]
    refine ⟨some ⟨g, 0, none⟩, s.size / 2, ?_, h2.row, h3⟩
    rw [h1, unhexB_length, codes_length]
  · refine (unhex_no s w (by omega) (fun g => h (hg.2 g))).mono fun e w' ⟨h1, h3⟩ => ?_
    rw [unW, if_neg h, eq_false_of_ne_true h]
    exact ⟨_, _, h1, fun h => absurd h (Nat.lt_irrefl 0), h3⟩
theorem refUnhex_all (s : ByteArray) (ok : Bool) (w : World) (hs : s.size ≤ 140737488355328) (hg : ok = true ↔ Good (codes s)) :
    Calls Try.prog 23 #[.string s] w fun e w' => ∃ q cap, e = .returned (.tuple #[.slice q (unW (codes s) ok).length cap, .bool ok]) ∧ Row w' q (unW (codes s) ok) ∧ Below w.heap.size w w' := by
  by_cases h : ok = true
  · refine (refUnhex_yes s w hs (hg.1 h)).mono fun e w' ⟨v, h1, h2, h3⟩ => ?_
    rw [unW, if_pos h, h]
    obtain ⟨q, cap, hv, hrow, _⟩ := h2.slice
    exact ⟨q, cap, by rw [h1, hv], hrow, h3⟩
  · refine (refUnhex_no s w hs (fun g => h (hg.2 g))).mono fun e w' ⟨h1, h3⟩ => ?_
    rw [unW, if_neg h, eq_false_of_ne_true h]
    exact ⟨_, _, h1, fun h => absurd h (Nat.lt_irrefl 0), h3⟩
theorem unW_len (s : ByteArray) (ok : Bool) : (unW (codes s) ok).length ≤ s.size := by
  unfold unW; split
  · rw [unhexB_length, codes_length]; omega
  · exact Nat.zero_le _

set_option maxHeartbeats 1000000 in
theorem lawReads_any (s : ByteArray) (p q : Option Addr) (n c m d : Nat) (xs ys : List Int) (w : World) (hs : s.size ≤ 140737488355328)
    (hx : xs.length = n) (hn : n ≤ 140737488355328) (hr : Row w p xs) (hb : Byt xs) (hy : ys.length = m) (hr' : Row w q ys) (hb' : Byt ys) :
    Calls Try.prog 5 #[.string s, .slice p n c, .slice q m d] w fun e w' => e = .returned (.bool true) ∧ Below w.heap.size w w' := by
  have HX : Hid (xs.length = n) := hx
  have HY : Hid (ys.length = m) := hy
  clear hx hy
  obtain ⟨ok, hok⟩ : ∃ ok : Bool, ok = true ↔ Good (codes s) := by
    rcases Classical.em (Good (codes s)) with h | h
    · exact ⟨true, by simpa using h⟩
    · exact ⟨false, by simpa using h⟩
  have HU := fun w => unhex_all s ok w hs hok
  have HR := fun w => refUnhex_all s ok w hs hok
  have hul := unW_len s ok
  clear hok
  generalize unW (codes s) ok = us at *
  have HU' : Hid (∀ w, Calls Try.prog 13 #[.string s] w fun e w' => ∃ q cap, e = .returned (.tuple #[.slice q us.length cap, .bool ok]) ∧ Row w' q us ∧ Below w.heap.size w w') := HU
  have HR' : Hid (∀ w, Calls Try.prog 23 #[.string s] w fun e w' => ∃ q cap, e = .returned (.tuple #[.slice q us.length cap, .bool ok]) ∧ Row w' q us ∧ Below w.heap.size w w') := HR
  clear HU HR
  go_enter Try.func5, Try.ntmps5
  go_wp2_with fail
  refine (HU'.out _).mono ?_
  rintro e w1 ⟨q1, c1, rfl, hq1, hb1⟩
  go_wp2_with fail
  refine (HR'.out _).mono ?_
  rintro e w2 ⟨q2, c2, rfl, hq2, hb2⟩
  have hq12 := hq1.below hb2
  have hb12 := below_step hb1 hb2
  have hp2 := hr.below hb12
  have hr2 := hr'.below hb12
  clear hq1 hb1 hb2 hr hr' HU' HR'
  go_wp2_with fail
  refine (sameBytes_any _ _ _ _ _ _ us us _ rfl rfl (by omega) hq12 hq2).mono ?_
  rw [sameB_self]
  rintro e w3 ⟨rfl, m3, hw3⟩
  have hp3 : Row w3 p xs := by rw [hw3]; exact hp2.drewN m3
  have hr3 : Row w3 q ys := by rw [hw3]; exact hr2.drewN m3
  have hb3 : Below w.heap.size w w3 := by rw [hw3]; exact below_draws hb12 m3
  clear hw3 hp2 hr2 hb12 hq12 hq2
  go_wp2_with fail
  refine (same_any _ _ n c m d xs ys _ HX.out HY.out hp3 hr3 hb hb').mono ?_
  rintro e w4 ⟨rfl, rfl⟩
  go_wp2_with fail
  refine (sameBytes_any _ _ n c m d xs ys _ HX.out HY.out (by omega) hp3 hr3).mono ?_
  rintro e w5 ⟨rfl, m5, hw5⟩
  have hb5 : Below w.heap.size w w5 := by rw [hw5]; exact below_draws hb3 m5
  clear hw5 hp3 hr3 hb3
  generalize sameB xs ys = sb
  have hsb : (sb == sb) = true := by simp
  go_wp2_with fail
  refine (awake_any _).mono ?_
  rintro e w6 ⟨rfl, hb6⟩
  go_wp2
  go_ret
  exact ⟨rfl, below_step hb5 hb6⟩

end Go.Proofs.Ytmhdiicljnjmcaa
