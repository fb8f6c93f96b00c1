/- What Granule tells a Take; switchyardlaw12.awake answers true. -/
import Derived.Test.YtnpaijbkhmnfpaaGreatLinT
import Derived.Test.YtnpaijbkhmnfpaaGreatEq4
import Derived.Test.YtnpaijbkhmnfpaaGreatAllW
import Derived.Great.BuildSlice
namespace Go.Proofs.YtnpaijbkhmnfpaaGreat
open Go.RowKit Go.Maps Go.WideMaps

/-- a granule's four bytes -/
def granF (xs : List Int) (k : Nat) : F4 := ⟨xs.getD (4 * k) 0, xs.getD (4 * k + 1) 0, xs.getD (4 * k + 2) 0, xs.getD (4 * k + 3) 0⟩
theorem gran_is {w : World} {B q g : Nat} {xs : List Int} (hm : Mem w B q g xs) {k : Nat} (hk : k < 16384) : GranIs w (some ⟨q, 0, none⟩) k (granF xs k) 0 := fun W hW => gran_any q g B k xs W (hm.below hW) hk
theorem gran_is_bad {w : World} {B q g : Nat} {xs : List Int} (hm : Mem w B q g xs) {k : Int} (hk : k < 0 ∨ 16384 ≤ k) : GranIs w (some ⟨q, 0, none⟩) k zF 2 := fun W hW => gran_bad q g B k xs W (hm.below hW) hk
/-- no memory: nil, or one that no call made -/
def NoMem (w : World) (p : Option Addr) : Prop := ∀ W, Below w.heap.size w W → Calls Tryz.prog 61 #[.pointer p] W fun e w' => e = .returned (.bool true) ∧ w' = W
theorem noMem_nil (w : World) : NoMem w none := fun W _ => none_nil W
theorem noMem_zero {w : World} {q : Nat} (h : Blk w q 53 #[.bool false, .slice none 0 0]) : NoMem w (some ⟨q, 0, none⟩) := fun W hb => none_zero q W ((h.grow hb).cell 0)
set_option maxHeartbeats 400000 in
theorem gran_is_none {w : World} {p : Option Addr} (h : NoMem w p) (k : Int) : GranIs w p k zF 1 := fun W hW => by
  have hn := h _ (below_alloc hW (.cells #[.int .u8 0, .int .u8 0, .int .u8 0, .int .u8 0] 92))
  go_enter Tryz.func129, Tryz.ntmps129
  go_wp2_with (go_at_call 61; refine hn.mono ?_; rintro e w1 ⟨rfl, rfl⟩)
  exact bodyPost_ret (v := .tuple #[.agg #[.int .u8 zF.a, .int .u8 zF.b, .int .u8 zF.c, .int .u8 zF.d], .int .i64 1]) (by simp [results, Tryz.results129, go_sem, zF]) rfl ⟨rfl, new_alloc _ _⟩
theorem Mem.notMap {w : World} {B q g b : Nat} {xs : List Int} (h : Mem w B q g xs) (hb : ∃ es c, w.heap[b]? = some (.map es c)) : q ≠ b ∧ g ≠ b := by
  obtain ⟨es, c, e⟩ := hb
  refine ⟨fun e' => ?_, fun e' => ?_⟩
  · have h1 := h.blk
    rw [e', e] at h1
    cases h1
  · have h1 := h.own.block rfl
    rw [e', e] at h1
    cases h1
/-- a memory stays while lines are written to -/
theorem Mem.lines {w w' : World} {B q g b : Nat} {xs : List Int} (h : Mem w B q g xs) (hb : ∃ es c, w.heap[b]? = some (.map es c)) (hk : Keeps (fun j => j = b) w w') : Mem w' B q g xs :=
  h.keeps hk (h.notMap hb).1 (h.notMap hb).2
/-- lines stay while a memory is written to -/
theorem LinAt.mem {w w' : World} {B B' q g q' b : Nat} {xs : List Int} {L : List Ln} (h : LinAt w B q' b L) (hm : Mem w B' q g xs) (hk : Keeps (fun j => j = g) w w') : LinAt w' B q' b L :=
  h.keeps hk (fun e => by
    have h1 := hm.own.block rfl
    have h2 : w.heap[q']? = _ := h.blk
    rw [show q' = g from e, h1] at h2
    injection h2 with h2
    injection h2 with _ h2
    cases h2) (fun e => (hm.notMap h.isMap).2 (show g = b from (show b = g from e).symm))
/-- a variable stays -/
theorem Blk.lines {w w' : World} {q b : Nat} {T : TypeId} {c : Array Value} (h : Blk w q T c) (hb : ∃ es c, w.heap[b]? = some (.map es c)) (hk : Keeps (fun j => j = b) w w') : Blk w' q T c :=
  (hk.block q h.lt (fun e => by
    obtain ⟨es, c, e1⟩ := hb
    have h2 : w.heap[q]? = _ := h
    rw [show q = b from e, e1] at h2
    cases h2)).trans h
theorem Blk.mem {w w' : World} {B q g x : Nat} {xs : List Int} {T : TypeId} {c : Array Value} (h : Blk w x T c) (hT : T ≠ 5) (hm : Mem w B q g xs) (hk : Keeps (fun j => j = g) w w') : Blk w' x T c :=
  (hk.block x h.lt (fun e => by
    have h1 := hm.own.block rfl
    have h2 : w.heap[x]? = _ := h
    rw [show x = g from e, h1] at h2
    injection h2 with h2
    injection h2 with _ h2
    exact hT h2.symm)).trans h

/-- a literal slice of bytes: a block of its own -/
theorem wp_lit {ops : Array Oper} {rest : List Oper} {o : Oper} {a : Act} {w : World} {Q : Exit → Act → World → Prop} (hg : o.guard = none) (len : Nat) (parts : Array (Nat × Operand)) (ho : o.op = .buildSlice 26 len parts)
    (zs : List Int) (hlen : len = zs.length) (hpos : 0 < len) (hsmall : len ≤ 2 ^ 24) (hparts : parts.toList = (zs.zipIdx 0).map fun x => (x.2, Operand.const (Value.int .u8 x.1)))
    (h : ∀ w1 g, Hid (Own w1 w.heap.size g len zs) → Hid (Below w.heap.size w w1) → wpList Tryz.prog ops Q rest (a.put o.dst (.slice (some ⟨g, 0, none⟩) len len)) w1) : wpList Tryz.prog ops Q (o :: rest) a w := by
  refine wpList_buildFlat hg 26 5 len parts ho .u8 zs Tryz.underlying26 (by kernel_rfl) (by kernel_rfl) hlen hpos hsmall hparts ?_
  exact h _ _ (by subst hlen; exact Own.lit w zs (by unfold maxLen; omega)) (new_alloc _ _)

/-- Below behind a Take -/
theorem below_take {w0 w w' : World} {B b : Nat} (h : Below B w0 w) (hk : Keeps (fun j => j = b) w w') (hb : B ≤ b) (hs : B ≤ w0.heap.size) : Below B w0 w' :=
  h.trans (hk.below (Nat.le_trans hs h.size) (fun j hj => by have e : j = b := hj; omega))

theorem one64 : i64W 1 := by unfold i64W; omega

end Go.Proofs.YtnpaijbkhmnfpaaGreat
