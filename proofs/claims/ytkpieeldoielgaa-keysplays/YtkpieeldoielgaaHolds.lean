/- bytes.HasPrefix; object.holds. -/
import Derived.Test.YtkpieeldoielgaaSame
import Derived.Test.YtkpieeldoielgaaRightL
namespace Go.Proofs.Ytkpieeldoielgaa
open Go.RowKit

def pfxB (xs ys : List Int) : Bool := decide (ys.length ≤ xs.length ∧ xs.take ys.length = ys)
theorem Row.take {w : World} {p : Option Addr} {xs : List Int} (h : Row w p xs) (m : Nat) : Row w p (xs.take m) := fun h0 => by
  rw [List.length_take] at h0
  obtain ⟨b, o, e, h1⟩ := h (by omega)
  refine ⟨b, o, e, fun i hi => ?_⟩
  rw [List.length_take] at hi
  rw [h1 i (by omega)]
  simp [List.getD_eq_getElem?_getD, show i < m by omega]
theorem Byt.take {xs : List Int} (h : Byt xs) (m : Nat) : Byt (xs.take m) := fun i => by
  have := h i
  rw [List.getD_eq_getElem?_getD] at this ⊢
  rw [List.getElem?_take]
  split
  · exact this
  · simp
theorem Byt.drop {xs : List Int} (h : Byt xs) (m : Nat) : Byt (xs.drop m) := fun i => by
  have := h (m + i)
  rw [List.getD_eq_getElem?_getD] at this ⊢
  rw [List.getElem?_drop]
  exact this
theorem Row.dropAt {w : World} {b o : Nat} {xs : List Int} (h : Row w (some ⟨b, o, none⟩) xs) (m : Nat) : Row w (some ⟨b, o + m, none⟩) (xs.drop m) := fun h0 => by
  rw [List.length_drop] at h0
  obtain ⟨b', o', e, h1⟩ := h (by omega)
  injection e with e
  injection e with e1 e2
  subst e1 e2
  refine ⟨b, o + m, rfl, fun i hi => ?_⟩
  rw [List.length_drop] at hi
  have := h1 (m + i) (by omega)
  rw [← Nat.add_assoc] at this
  rw [this]
  simp [List.getD_eq_getElem?_getD, List.getElem?_drop]

set_option maxHeartbeats 1000000 in
theorem hasPrefix_any (p q : Option Addr) (n c m d : Nat) (xs ys : List Int) (w : World) (hx : xs.length = n) (hy : ys.length = m) (hnc : n ≤ c) (_hc : c ≤ 9223372036854775807) (hm : m ≤ 9223372036854775807) (h1 : Row w p xs) (h2 : Row w q ys) (b1 : Byt xs) (b2 : Byt ys) :
    Calls Try.prog 60 #[.slice p n c, .slice q m d] w fun e w' => e = .returned (.bool (pfxB xs ys)) ∧ w' = w := by
  by_cases hle : m ≤ n
  · have hE := equal_any p q m c m d (xs.take m) ys w (by rw [List.length_take]; omega) hy (h1.take m) h2 (b1.take m) b2
    have HR : Hid (sameB (xs.take m) ys = pfxB xs ys) := by
      have : sameB (xs.take m) ys = pfxB xs ys := by
        unfold sameB pfxB
        rw [hx, hy]
        simp [hle]
      exact this
    rw [HR.out] at hE
    generalize pfxB xs ys = r at *
    clear h1 h2 b1 b2 hx hy HR
    go_enter Try.func60, Try.ntmps60
    go_wp2_with (go_at_call 72; refine hE.mono ?_; rintro e w' ⟨rfl, rfl⟩)
    go_ret
    exact ⟨rfl, rfl⟩
  · have HR : Hid (pfxB xs ys = false) := by
      have : pfxB xs ys = false := by
        unfold pfxB
        rw [hx, hy]
        simp [hle]
      exact this
    rw [HR.out]
    clear h1 h2 b1 b2 hx hy HR
    go_enter Try.func60, Try.ntmps60
    go_wp2_with fail
    go_ret
    exact ⟨rfl, rfl⟩

theorem st_pre {xs ys : List Int} {k : Nat} (h : k ≤ xs.length) : stB xs (k : Int) ys = pfxB (xs.drop k) ys := by
  unfold stB pfxB
  rw [List.length_drop, Int.toNat_natCast]
  have e : (0 ≤ (k : Int) ∧ k + ys.length ≤ xs.length ∧ (xs.drop k).take ys.length = ys) ↔ (ys.length ≤ xs.length - k ∧ (xs.drop k).take ys.length = ys) := by
    constructor
    · rintro ⟨_, h1, h2⟩; exact ⟨by omega, h2⟩
    · rintro ⟨h1, h2⟩; exact ⟨by omega, by omega, h2⟩
  simp only [e]
theorem st_far {xs ys : List Int} {a : Int} (h : (xs.length : Int) < a) : stB xs a ys = false := by
  unfold stB
  simp only [decide_eq_false_iff_not]
  rintro ⟨h1, h2, -⟩
  omega

set_option maxHeartbeats 1000000 in
theorem oholds_any (p q : Option Addr) (n c m d : Nat) (a : Int) (xs ys : List Int) (w : World) (hx : xs.length = n) (hy : ys.length = m) (hnc : n ≤ c) (hc : c ≤ 9223372036854775807) (hm : m ≤ 9223372036854775807) (ha : 0 ≤ a) (ha2 : a ≤ 9223372036854775807) (h1 : Row w p xs) (h2 : Row w q ys) (b1 : Byt xs) (b2 : Byt ys) :
    Calls Try.prog 77 #[.slice p n c, .int .i64 a, .slice q m d] w fun e w' => e = .returned (.bool (stB xs a ys)) ∧ w' = w := by
  obtain ⟨k, rfl⟩ : ∃ k : Nat, a = k := ⟨a.toNat, by omega⟩
  by_cases hle : k ≤ n
  · have hP : ∀ p', Row w p' (xs.drop k) → Calls Try.prog 60 #[.slice p' (n - k) (c - k), .slice q m d] w fun e w' => e = .returned (.bool (stB xs (k : Int) ys)) ∧ w' = w := fun p' hr => by
      rw [st_pre (by omega)]
      exact hasPrefix_any p' q (n - k) (c - k) m d (xs.drop k) ys w (by rw [List.length_drop, hx]) hy (by omega) (by omega) hm hr h2 (b1.drop k) b2
    have hz : n = 0 → xs = [] := fun e => List.eq_nil_of_length_eq_zero (by omega)
    generalize stB xs (k : Int) ys = r at *
    by_cases hn0 : n = 0
    · have hd : ∀ p', Row w p' (xs.drop k) := fun p' h => by rw [hz hn0] at h; simp at h
      have hk0 : k = 0 := by omega
      subst hk0 hn0
      clear h1 h2 b1 b2 hx hy
      simp only [Nat.sub_zero] at hP
      rcases p with _ | ⟨b, o, e⟩
      · go_enter Try.func77, Try.ntmps77
        go_wp2_with (go_at_call 60; refine (hP _ (hd _)).mono ?_; rintro e w' ⟨rfl, rfl⟩)
        go_ret
        exact ⟨rfl, rfl⟩
      · go_enter Try.func77, Try.ntmps77
        go_wp2_with (go_at_call 60; refine (hP _ (hd _)).mono ?_; rintro e w' ⟨rfl, rfl⟩)
        go_ret
        exact ⟨rfl, rfl⟩
    · obtain ⟨b, o, rfl, -⟩ := h1 (by omega)
      by_cases hck : c = k
      · have hd : ∀ p', Row w p' (xs.drop k) := fun p' h => by rw [List.length_drop] at h; omega
        have hnk : n = k := by omega
        clear h1 h2 b1 b2 hx hy hz
        subst hck hnk
        rw [Nat.sub_self] at hP
        go_enter Try.func77, Try.ntmps77
        go_wp2_with (go_at_call 60; refine (hP _ (hd _)).mono ?_; rintro e w' ⟨rfl, rfl⟩)
        go_ret
        exact ⟨rfl, rfl⟩
      · have hd := h1.dropAt k
        clear h1 h2 b1 b2 hx hy hz
        go_enter Try.func77, Try.ntmps77
        go_wp2_with (go_at_call 60; refine (hP _ hd).mono ?_; rintro e w' ⟨rfl, rfl⟩)
        go_ret
        exact ⟨rfl, rfl⟩
  · rw [st_far (by omega)]
    clear h1 h2 b1 b2 hx hy
    go_enter Try.func77, Try.ntmps77
    go_wp2_with fail
    go_ret
    exact ⟨rfl, rfl⟩

end Go.Proofs.Ytkpieeldoielgaa
