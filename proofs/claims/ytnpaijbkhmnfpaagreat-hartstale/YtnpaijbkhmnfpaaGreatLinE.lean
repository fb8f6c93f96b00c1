/- Rows of granules, whoever made them; SameLines, switchyardref12.Find. -/
import Derived.Test.YtnpaijbkhmnfpaaGreatW5
import Derived.Test.YtnpaijbkhmnfpaaGreatEq4
import Derived.Lib.Hide
namespace Go.Proofs.YtnpaijbkhmnfpaaGreat
open Go.RowKit Go.Maps

theorem eq_four_at (n : Nat) (f : F4) (h : (0 ≤ f.a ∧ f.a ≤ 255) ∧ (0 ≤ f.b ∧ f.b ≤ 255) ∧ (0 ≤ f.c ∧ f.c ≤ 255) ∧ (0 ≤ f.d ∧ f.d ≤ 255)) (w : World) : (Op.equalIn (n + 2) 92 (.agg #[.int .u8 f.a, .int .u8 f.b, .int .u8 f.c, .int .u8 f.d]) (.agg #[.int .u8 f.a, .int .u8 f.b, .int .u8 f.c, .int .u8 f.d])).run Tryz.prog w = .ok true w := by
  obtain ⟨a, b, c, d⟩ := f
  obtain ⟨ha, hb, hc, hd⟩ := h
  dsimp only at *
  obtain ⟨i0, hi, hz0, hz1, hz2⟩ := info_parts Tryz.info5
  rw [run_equalIn_array (P := Tryz.prog) w (n + 1) (e := 5) (n := 4) _ _ Tryz.und92 hi]
  obtain ⟨r, h1, h2⟩ := run_eqItems_plain (P := Tryz.prog) w n Tryz.plain5 #[.int .u8 a, .int .u8 b, .int .u8 c, .int .u8 d] #[.int .u8 a, .int .u8 b, .int .u8 c, .int .u8 d] (D := 1) (D' := 1) (List.range 4) [[.int .u8 a], [.int .u8 b], [.int .u8 c], [.int .u8 d]] [[.int .u8 a], [.int .u8 b], [.int .u8 c], [.int .u8 d]] (by simp [Tryz.cells5', List.range, List.range.loop, Program.keyLits, Tryz.underlying5, u8_wf ha, u8_wf hb, u8_wf hc, u8_wf hd]) (by simp [Tryz.cells5', List.range, List.range.loop, Program.keyLits, Tryz.underlying5, u8_wf ha, u8_wf hb, u8_wf hc, u8_wf hd])
  rw [h1, h2.2 rfl]
/-- four bytes that bytes are -/
def F8 (f : F4) : Prop := (0 ≤ f.a ∧ f.a ≤ 255) ∧ (0 ≤ f.b ∧ f.b ≤ 255) ∧ (0 ≤ f.c ∧ f.c ≤ 255) ∧ (0 ≤ f.d ∧ f.d ≤ 255)

/-- a list of granules in memory, whoever made it -/
def LRow (w : World) (p : Option Addr) (L : List Ln) : Prop :=
  0 < L.length → ∃ b o, p = some ⟨b, o, none⟩ ∧ ∀ i (hi : i < L.length) j, j < 5 → w.cell? ⟨b, o + i * 5 + j, none⟩ = (l5 L[i])[j]?
theorem LRow.below {w w' : World} {p : Option Addr} {L : List Ln} (h : LRow w p L) (hb : Below w.heap.size w w') : LRow w' p L := fun h0 => by
  obtain ⟨b, o, e, h1⟩ := h h0
  refine ⟨b, o, e, fun i hi j hj => ?_⟩
  have h2 := h1 i hi j hj
  obtain ⟨u, hu⟩ : ∃ u, (l5 L[i])[j]? = some u := ⟨_, List.getElem?_eq_getElem (show j < 5 from hj)⟩
  rw [hu] at h2 ⊢
  exact (hb.cell (p := ⟨b, o + i * 5 + j, none⟩) (cell_lt h2)).trans h2
theorem LRow.five {w : World} {p : Option Addr} {L : List Ln} (h : LRow w p L) (h0 : 0 < L.length) : ∃ b o, p = some ⟨b, o, none⟩ ∧ ∀ i (hi : i < L.length), w.cell? ⟨b, o + i * 5, none⟩ = some (.int .i64 L[i].g) ∧ w.cell? ⟨b, o + i * 5 + 1, none⟩ = some (.int .u8 L[i].f.a) ∧ w.cell? ⟨b, o + i * 5 + 2, none⟩ = some (.int .u8 L[i].f.b) ∧ w.cell? ⟨b, o + i * 5 + 3, none⟩ = some (.int .u8 L[i].f.c) ∧ w.cell? ⟨b, o + i * 5 + 4, none⟩ = some (.int .u8 L[i].f.d) := by
  obtain ⟨b, o, e, hc⟩ := h h0
  exact ⟨b, o, e, fun i hi => ⟨hc i hi 0 (by omega), hc i hi 1 (by omega), hc i hi 2 (by omega), hc i hi 3 (by omega), hc i hi 4 (by omega)⟩⟩
theorem LOwn.row5 {T : TypeId} {w : World} {B : Nat} {v : Value} {L : List Ln} (h : LOwn T w B v L) : ∃ p cap, v = .slice p L.length cap ∧ L.length ≤ cap ∧ cap ≤ maxLen ∧ LRow w p L := by
  obtain ⟨p, cap, e, h1, h2, h3⟩ := h.shape
  refine ⟨p, cap, e, h1, h2, fun h0 => ?_⟩
  obtain ⟨g, e2, -, -, h4⟩ := h3 h0
  exact ⟨g, 0, e2, fun i hi j hj => by rw [Nat.zero_add]; exact h4 i hi j hj⟩

/-- the place of a granule, or -1 -/
def fidx (L : List Ln) (g : Int) : Int := match L.findIdx? fun x => decide (x.g = g) with
  | some k => k
  | none => -1
theorem fidx_some {L : List Ln} {g : Int} {k : Nat} (h : k < L.length) (he : L[k].g = g) (ha : ∀ i (hi : i < L.length), i < k → L[i].g ≠ g) : fidx L g = k ∧ findL L g = some L[k].f := by
  have h1 : L.findIdx? (fun x => decide (x.g = g)) = some k := by
    rw [List.findIdx?_eq_some_iff_getElem]
    exact ⟨h, by simpa using he, fun j hj => by simpa using ha j (by omega) hj⟩
  refine ⟨by unfold fidx; rw [h1], ?_⟩
  unfold findL
  have h2 : L.find? (fun x => decide (x.g = g)) = some L[k] := by
    rw [List.find?_eq_some_iff_getElem]
    exact ⟨by simpa using he, k, h, rfl, fun j hj => by simpa using ha j (by omega) hj⟩
  rw [h2]; rfl
theorem fidx_none {L : List Ln} {g : Int} (ha : ∀ i (hi : i < L.length), L[i].g ≠ g) : fidx L g = -1 ∧ findL L g = none := by
  have h1 : L.findIdx? (fun x => decide (x.g = g)) = none := by
    rw [List.findIdx?_eq_none_iff]
    intro x hx
    obtain ⟨i, hi, rfl⟩ := List.getElem_of_mem hx
    simpa using ha i hi
  refine ⟨by unfold fidx; rw [h1], ?_⟩
  unfold findL
  have h2 : L.find? (fun x => decide (x.g = g)) = none := by
    rw [List.find?_eq_none]
    intro x hx
    obtain ⟨i, hi, rfl⟩ := List.getElem_of_mem hx
    simpa using ha i hi
  rw [h2]; rfl

set_option maxRecDepth 4000 in
set_option maxHeartbeats 1000000 in
theorem rfind_any (p : Option Addr) (n c : Nat) (L : List Ln) (g : Int) (w : World) (hn : L.length = n) (hn6 : n ≤ 9223372036854775807) (hr : LRow w p L) :
    Calls Tryz.prog 120 #[.slice p n c, .int .i64 g] w fun e w' => e = .returned (.int .i64 (fidx L g)) ∧ w' = w := by
  have HN := Hid.in hn
  have HR := Hid.in hr
  clear hn hr
  go_enter Tryz.func120, Tryz.ntmps120
  go_wp2_with fail
  go_loopw [5] (fun vi wr => ∃ j : Nat, vi = .int .i64 j ∧ j ≤ n ∧ (∀ i (hi : i < L.length), i < j → L[i].g ≠ g) ∧ wr = w) (fun vi _ => n - (intOf vi).toNat)
  case atStart => exact ⟨0, rfl, Nat.zero_le _, fun i _ h => absurd h (Nat.not_lt_zero _), rfl⟩
  case round =>
    obtain ⟨j, rfl, hj, hgo, rfl⟩ := hrel
    have HGO := Hid.in hgo
    clear hgo
    by_cases hlt : j < n
    · have hjL : j < L.length := by rw [HN.out]; exact hlt
      obtain ⟨b, o, rfl, hcc⟩ := HR.out.five (by omega)
      obtain ⟨c0, -⟩ := hcc j hjL
      clear hcc
      by_cases he : L[j].g = g
      · have HE := Hid.in (fidx_some hjL he HGO.out).1
        rw [he] at c0
        have g1 : (g == g) = true := by simp
        go_wp2_with fail
        go_ret
        exact ⟨by rw [HE.out]; rfl, rfl⟩
      · have HG2 : Hid (∀ i (hi : i < L.length), i < j + 1 → L[i].g ≠ g) := fun i hi h => by
          by_cases e : i = j
          · subst e; exact he
          · exact HGO.out i hi (by omega)
        generalize L[j].g = lg at *
        have g1 : (lg == g) = false := by simpa using he
        go_wp2_with fail
        go_roundw
        case rel => exact ⟨j + 1, by go_num, by omega, HG2.out, trivial⟩
        case measure => simp [intOf]; omega
    · have HE := Hid.in (fidx_none (L := L) (g := g) (fun i hi => HGO.out i hi (by rw [HN.out] at hi; omega))).1
      go_wp2_with fail
      go_ret
      exact ⟨by rw [HE.out]; rfl, rfl⟩

set_option maxRecDepth 4000 in
set_option maxHeartbeats 1000000 in
theorem sameLines_self (p q : Option Addr) (n c d : Nat) (L : List Ln) (w : World) (hn : L.length = n) (hn6 : n ≤ 9223372036854775807) (h1 : LRow w p L) (h2 : LRow w q L) (hb : ∀ x ∈ L, F8 x.f) :
    Calls Tryz.prog 52 #[.slice p n c, .slice q n d] w fun e w' => e = .returned (.bool true) ∧ ∃ m, w' = w.drewN m := by
  have HN := Hid.in hn
  have HR := Hid.in h1
  have HQ := Hid.in h2
  have HF := Hid.in hb
  clear hn h1 h2 hb
  have g0 : (n != n) = false := by simp
  go_enter Tryz.func52, Tryz.ntmps52
  go_wp2_with fail
  go_loopw [5] (fun vi wr => ∃ j m : Nat, vi = .int .i64 j ∧ j ≤ n ∧ wr = w.drewN m) (fun vi _ => n - (intOf vi).toNat)
  case atStart => exact ⟨0, 0, rfl, Nat.zero_le _, rfl⟩
  case round =>
    obtain ⟨j, m, rfl, hj, rfl⟩ := hrel
    by_cases hlt : j < n
    · have hjL : j < L.length := by rw [HN.out]; exact hlt
      obtain ⟨b, o, rfl, hcc⟩ := HR.out.five (by omega)
      obtain ⟨b', o', rfl, hcd⟩ := HQ.out.five (by omega)
      obtain ⟨c0, c1, c2, c3, c4⟩ := hcc j hjL
      obtain ⟨d0, d1, d2, d3, d4⟩ := hcd j hjL
      have heq := eq_four_at 9997 L[j].f (HF.out _ (List.getElem_mem hjL))
      clear hcc hcd
      generalize L[j] = x at *
      obtain ⟨xg, xa, xb, xc, xd⟩ := x
      dsimp only at *
      have g1 : (xg == xg) = true := by simp
      go_wp2_with fail
      go_quiet (fail)
      go_wp2_with fail
      go_roundw
      case rel => exact ⟨j + 1, _, by go_num, by omega, rfl⟩
      case measure => simp [intOf]; omega
    · go_wp2_with fail
      go_ret
      exact ⟨rfl, _, rfl⟩

end Go.Proofs.YtnpaijbkhmnfpaaGreat
