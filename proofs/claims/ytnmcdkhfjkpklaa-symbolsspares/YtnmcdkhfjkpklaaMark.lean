/- What switchyardkit.markText answers. -/
import Derived.Test.YtnmcdkhfjkpklaaApartII
import Derived.Test.YtnmcdkhfjkpklaaSame
namespace Go.Proofs.Ytnmcdkhfjkpklaa
open Go.RowKit

theorem row_seven (w : World) (a b c d e f g : Int) : Row (w.alloc (.cells #[.int .u8 a, .int .u8 b, .int .u8 c, .int .u8 d, .int .u8 e, .int .u8 f, .int .u8 g] 5)) (some ⟨w.heap.size, 0, none⟩) [a, b, c, d, e, f, g] := fun _ => by
  refine ⟨w.heap.size, 0, rfl, fun i hi => ?_⟩
  have hh : (w.alloc (.cells #[.int .u8 a, .int .u8 b, .int .u8 c, .int .u8 d, .int .u8 e, .int .u8 f, .int .u8 g] 5)).heap[w.heap.size]? = some (.cells #[.int .u8 a, .int .u8 b, .int .u8 c, .int .u8 d, .int .u8 e, .int .u8 f, .int .u8 g] 5 (0, 0)) := heap_alloc_new w _
  rw [Nat.zero_add, cell_of_row _ _ _ _ _ _ hh]
  simp only [List.length_cons, List.length_nil] at hi
  match i, hi with
  | 0, _ => rfl
  | 1, _ => rfl
  | 2, _ => rfl
  | 3, _ => rfl
  | 4, _ => rfl
  | 5, _ => rfl
  | 6, _ => rfl

/-- the mark of place i in list k -/
def mt (k i : Nat) : ByteArray := strOfNums [35, (k : Int) % 256, (k : Int) / 256, 47, (i : Int) % 256, (i : Int) / 256 % 256, (i : Int) / 65536 % 256]
def mtV (k i : Nat) : Value := .string (mt k i)

set_option maxHeartbeats 400000 in
theorem markText_any (k i : Nat) (w : World) (hk : k ≤ 1000) (_hi : i ≤ 281474976710656) :
    Calls Try.prog 42 #[.int .i64 k, .int .i64 i] w fun e w' => e = .returned (.string (mt k i)) ∧ Below w.heap.size w w' := by
  have hcv : ∀ a b c d e f g : Int, (convert 35 9 (.slice (some ⟨w.heap.size, 0, none⟩) 7 7)).run Try.prog (w.alloc (.cells #[.int .u8 a, .int .u8 b, .int .u8 c, .int .u8 d, .int .u8 e, .int .u8 f, .int .u8 g] 5)) = .ok (.string (strOfNums [a, b, c, d, e, f, g])) (w.alloc (.cells #[.int .u8 a, .int .u8 b, .int .u8 c, .int .u8 d, .int .u8 e, .int .u8 f, .int .u8 g] 5)) := fun a b c d e f g => (row_seven w a b c d e f g).convert rfl 7
  go_enter Try.func42, Try.ntmps42
  go_wp2
  go_ret
  exact ⟨rfl, (Below.refl _ _).alloc (Nat.le_refl _) _⟩

/-- what stands where the first loop marks -/
theorem St1.look {T e : TypeId} {mk : Nat → Nat → Value} (hT : T ≠ e) {w wr : World} {K B L G : Nat} {p : Nat → Option Nat} {n c : Nat → Nat} {xs : Nat → List Value} {k i g : Nat} (h : St1 T e w K B L G p n c (fun j => ctAt mk xs n k i j) wr) (hk : k < K) (hp : p k = some g) (hx : (xs k).length = n k) (hi : i < n k) :
    wr.cell? ⟨L, k, none⟩ = some (.slice (some ⟨g, 0, none⟩) (n k) (c k)) ∧ (∃ old, wr.cell? ⟨g, i, none⟩ = some old) ∧ wr.frozen? ⟨g, i, none⟩ = false ∧ L ≠ g := by
  have cl := h.tab.cell k hk
  rw [sl_ptr, hp, ptr_some] at cl
  have ho := h.own k hk
  have hne : L ≠ g := fun e => h.tab.ne hT ho (by rw [hp, e])
  have hct : ctAt mk xs n k i k = part mk (xs k) k i := by simp [ctAt]
  have hpl := part_length mk (xs k) k i (n k) hx (by omega)
  rw [hp, hct] at ho
  obtain ⟨-, ho2⟩ := ho.full
  exact ⟨cl, ho2.some i (by omega), ho2.free i, hne⟩

/-- what the third loop reads -/
theorem St2.look {T e : TypeId} {mk : Nat → Nat → Value} {w wr : World} {K B L G : Nat} {p : Nat → Option Nat} {n c : Nat → Nat} {ub uc : Nat → Nat} (h : St2 T e mk w K B L G p n c K ub uc wr) (k : Nat) (hk : k < K) :
    wr.cell? ⟨L, k, none⟩ = some (.slice (ptr (p k)) (n k) (c k)) ∧ wr.cell? ⟨G, k, none⟩ = some (.slice (some ⟨ub k, 0, none⟩) (n k + 64) (uc k)) ∧ (∀ i, i < n k + 64 → wr.cell? ⟨ub k, i, none⟩ = some (mk k i)) ∧ (0 < n k → ∃ g, p k = some g ∧ ∀ i, i < n k → wr.cell? ⟨g, i, none⟩ = some (mk k i)) := by
  refine ⟨h.tab.cell k hk, ?_, fun i hi => ?_, fun h0 => ?_⟩
  · have := h.gs.cell k hk
    rwa [if_pos hk] at this
  · rw [(h.us k hk).cell i (by rw [mkL_length]; exact hi), mkL_at mk k _ i hi]
  · obtain ⟨g, hp, -, ho⟩ := (h.own k hk).filled (by rw [mkL_length]; exact h0)
    exact ⟨g, hp, fun i hi => by rw [ho.cell i (by rw [mkL_length]; exact hi), mkL_at mk k _ i hi]⟩
theorem St2.grown {T e : TypeId} {mk : Nat → Nat → Value} {w wr w1 : World} {K B L G : Nat} {p : Nat → Option Nat} {n c : Nat → Nat} {k : Nat} {ub uc : Nat → Nat} (h : St2 T e mk w K B L G p n c k ub uc wr) (hg : wr.grownBy w1 none) : St2 T e mk w K B L G p n c k ub uc w1 :=
  ⟨h.own.kept hg (fun j _ => by cases p j <;> simp), h.tab.kept hg (by simp), h.gs.kept hg (by simp), fun i hi => GOwnV.kept (h.us i hi).val hg (.inr (by simp [Value.ownBlock])), h.sep, h.keeps.grown hg (fun _ e => by cases e)⟩
end Go.Proofs.Ytnmcdkhfjkpklaa
