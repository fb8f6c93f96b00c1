/- A patcher in memory. -/
import Derived.Test.YtekggimgobeggaaPokL
import Derived.Test.YtekggimgobeggaaBatK
import Derived.Test.YtekggimgobeggaaRnm
import Derived.Test.YtekggimgobeggaaKps
import Derived.Test.YtekggimgobeggaaQPick
namespace Go.Proofs.Ytekggimgobeggaa
open Go.RowKit

theorem blk_ne {w : World} {g h : Nat} {T U : TypeId} {c d : Array Value} (h1 : Blk w g T c) (h2 : Blk w h U d) (hT : T ≠ U) : g ≠ h := fun e => by
  subst e
  have := h1.symm.trans h2
  simp only [Option.some.injEq, Obj.cells.injEq] at this
  exact hT this.2.1
theorem Blk.keeps {G : Nat → Prop} {w w' : World} {g : Nat} {T : TypeId} {c : Array Value} (h : Blk w g T c) (hk : Keeps G w w') (hn : ¬ G g) : Blk w' g T c := (hk.block g h.lt hn).trans h
theorem keeps_grown {w w' : World} {q : Nat} (h : w.grownBy w' (some q)) : Keeps (fun j => j = q) w w' := ⟨h.os, h.tape, h.output, h.size, fun k hk hn => h.block k hk (fun e => hn (by injection e))⟩
/-- a list of sites in a block of sites -/
def RowS (w : World) (B : Nat) (p : Option Addr) (L : List Si) : Prop :=
  0 < L.length → ∃ b o cur, p = some ⟨b, o, none⟩ ∧ B ≤ b ∧ Blk w b 48 cur ∧ ∀ i (hi : i < L.length) j, j < 3 → w.cell? ⟨b, o + i * 3 + j, none⟩ = (l3 (siV L[i]))[j]?
theorem RowS.nil (w : World) (B : Nat) (p : Option Addr) : RowS w B p [] := fun h => absurd h (by simp)
theorem RowS.row3 {w : World} {B : Nat} {p : Option Addr} {L : List Si} (h : RowS w B p L) : Row3 w p (L.map siV) := fun h0 => by
  obtain ⟨b, o, cur, e, -, -, hc⟩ := h (by simpa using h0)
  exact ⟨b, o, e, fun i hi j hj => by rw [hc i (by simpa using hi) j hj]; simp⟩
theorem RowS.keeps {G : Nat → Prop} {w w' : World} {B : Nat} {p : Option Addr} {L : List Si} (h : RowS w B p L) (hk : Keeps G w w') (hG : ∀ j, G j → ∃ T c, Blk w j T c ∧ T ≠ 48) : RowS w' B p L := fun h0 => by
  obtain ⟨b, o, cur, e, hB, hb, hc⟩ := h h0
  have hn : ¬ G b := fun hg => by
    obtain ⟨T, c, h1, h2⟩ := hG b hg
    exact blk_ne h1 hb h2 rfl
  have hb' := hb.keeps hk hn
  refine ⟨b, o, cur, e, hB, hb', fun i hi j hj => ?_⟩
  rw [hb'.cell, ← hb.cell]
  exact hc i hi j hj
theorem RowS.below {w w' : World} {B : Nat} {p : Option Addr} {L : List Si} (h : RowS w B p L) (hb : Below w.heap.size w w') : RowS w' B p L :=
  h.keeps (Keeps.ofBelow (G := fun _ => False) hb) (fun _ h => h.elim)
theorem TOwn.rowS {w : World} {B : Nat} {v : Value} {L : List Si} (h : TOwn 48 w B v (L.map siV)) : ∃ p cap, v = .slice p L.length cap ∧ L.length ≤ cap ∧ cap ≤ maxLen ∧ RowS w B p L := by
  obtain ⟨p, cap, e, h1, h2, h3⟩ := h.shape
  rw [List.length_map] at e h1
  refine ⟨p, cap, e, h1, h2, fun h0 => ?_⟩
  rcases h.2 with ⟨hv, _⟩ | ⟨g, cap', cur, hv, hB, hb, -⟩
  · rw [e] at hv
    simp only [Value.slice.injEq] at hv
    omega
  · obtain ⟨g2, e2, -, -, h4⟩ := h3 (by rw [List.length_map]; exact h0)
    rw [e, e2] at hv
    simp only [Value.slice.injEq, Option.some.injEq, Addr.mk.injEq, and_true] at hv
    obtain ⟨rfl, -, -⟩ := hv
    exact ⟨g2, 0, cur, e2, hB, hb, fun i hi j hj => by rw [Nat.zero_add, h4 i (by rw [List.length_map]; exact hi) j hj]; simp⟩
/-- a patcher's cells -/
def patA (mq rq bq : Nat) (lp : Option Addr) (lc : Nat) (s : PS) : Array Value :=
  #[.pointer (some ⟨mq, 0, none⟩), .pointer (some ⟨rq, 0, none⟩), .pointer (some ⟨bq, 0, none⟩), .slice lp s.left.length lc, .bool s.up, .int .u8 s.ph, .int .i64 s.wr, .int .u8 s.nx, .int .i64 s.ct.si, .int .i64 s.ct.wr, .int .i64 s.ct.ro, .int .i64 s.ct.st, .int .i64 s.ct.wa]
structure PA (w : World) (B pq mq mg rq bq : Nat) (lp : Option Addr) (lc : Nat) (s : PS) : Prop where
  pat : Blk w pq 99 (patA mq rq bq lp lc s)
  row : RowS w B lp s.left
  lcl : s.left.length ≤ lc
  lcm : lc ≤ maxLen
  mem : Mem w B mq mg s.xs
  rnd : Rnd w rq s.fs s.n
  bat : Bat w bq s.bt
  gp : B ≤ pq
  gr : B ≤ rq
  gb : B ≤ bq
def GP (pq mg rq bq : Nat) (j : Nat) : Prop := j = pq ∨ j = mg ∨ j = rq ∨ j = bq
theorem Mem.blk2 {w : World} {B q g : Nat} {xs : List Int} (h : Mem w B q g xs) : Blk w q 93 #[.bool true, .slice (some ⟨g, 0, none⟩) xs.length xs.length] := h.blk
theorem Mem.blkg {w : World} {B q g : Nat} {xs : List Int} (h : Mem w B q g xs) : ∃ c, Blk w g 5 c := by
  obtain ⟨cur, _, h2, _⟩ := h.own.parts
  exact ⟨cur, h2⟩
theorem PA.below {w w' : World} {B pq mq mg rq bq : Nat} {lp : Option Addr} {lc : Nat} {s : PS} (h : PA w B pq mq mg rq bq lp lc s) (hb : Below w.heap.size w w') : PA w' B pq mq mg rq bq lp lc s :=
  ⟨h.pat.grow hb, h.row.below hb, h.lcl, h.lcm, h.mem.below hb, h.rnd.below hb, h.bat.below hb, h.gp, h.gr, h.gb⟩
theorem PA.keeps {G : Nat → Prop} {w w' : World} {B pq mq mg rq bq : Nat} {lp : Option Addr} {lc : Nat} {s : PS} (h : PA w B pq mq mg rq bq lp lc s) (hk : Keeps G w w') (hG : ∀ j, G j → j < B) : PA w' B pq mq mg rq bq lp lc s := by
  have hn : ∀ j, B ≤ j → ¬ G j := fun j hj hg => by have := hG j hg; omega
  obtain ⟨cur, a1, a2, a3, a4, a5, a6⟩ := h.mem.own.parts
  refine ⟨h.pat.keeps hk (hn _ h.gp), fun h0 => ?_, h.lcl, h.lcm, h.mem.keeps hk (hn _ h.mem.base) (hn _ a1), ⟨h.rnd.le, h.rnd.blk.keeps hk (hn _ h.gr)⟩, ⟨h.bat.le, h.bat.srt, h.bat.blk.keeps hk (hn _ h.gb)⟩, h.gp, h.gr, h.gb⟩
  obtain ⟨b, o, cur, e, hB, hb, hc⟩ := h.row h0
  have hb' := hb.keeps hk (hn _ hB)
  refine ⟨b, o, cur, e, hB, hb', fun i hi j hj => ?_⟩
  rw [hb'.cell, ← hb.cell]
  exact hc i hi j hj
/-- the patcher's own cells have turned -/
theorem PA.setP {w w' : World} {B pq mq mg rq bq : Nat} {lp lp' : Option Addr} {lc lc' : Nat} {s s' : PS} (h : PA w B pq mq mg rq bq lp lc s) (hb : Blk w' pq 99 (patA mq rq bq lp' lc' s')) (hg : w.grownBy w' (some pq)) (hr : RowS w B lp' s'.left) (hl : s'.left.length ≤ lc') (hm : lc' ≤ maxLen)
    (e1 : s'.xs = s.xs) (e2 : s'.fs = s.fs) (e3 : s'.n = s.n) (e4 : s'.bt = s.bt) : PA w' B pq mq mg rq bq lp' lc' s' := by
  have hk := keeps_grown hg
  obtain ⟨cg, hcg⟩ := h.mem.blkg
  refine ⟨hb, hr.keeps hk (fun j hj => ⟨99, _, hj ▸ h.pat, by decide⟩), hl, hm, ?_, ?_, ?_, h.gp, h.gr, h.gb⟩
  · rw [e1]; exact h.mem.keeps hk (blk_ne h.mem.blk2 h.pat (by decide)) (blk_ne hcg h.pat (by decide))
  · rw [e2, e3]; exact ⟨h.rnd.le, h.rnd.blk.keeps hk (blk_ne h.rnd.blk h.pat (by decide))⟩
  · rw [e4]; exact ⟨h.bat.le, h.bat.srt, h.bat.blk.keeps hk (blk_ne h.bat.blk h.pat (by decide))⟩
/-- the batch has turned -/
theorem PA.setB {w w' : World} {B pq mq mg rq bq : Nat} {lp : Option Addr} {lc : Nat} {s : PS} (h : PA w B pq mq mg rq bq lp lc s) {L : List Si} (hb : Bat w' bq L) (hg : w.grownBy w' (some bq)) : PA w' B pq mq mg rq bq lp lc { s with bt := L } := by
  have hk := keeps_grown hg
  obtain ⟨cg, hcg⟩ := h.mem.blkg
  exact ⟨h.pat.keeps hk (blk_ne h.pat h.bat.blk (by decide)), h.row.keeps hk (fun j hj => ⟨141, _, hj ▸ h.bat.blk, by decide⟩), h.lcl, h.lcm,
    h.mem.keeps hk (blk_ne h.mem.blk2 h.bat.blk (by decide)) (blk_ne hcg h.bat.blk (by decide)), ⟨h.rnd.le, h.rnd.blk.keeps hk (blk_ne h.rnd.blk h.bat.blk (by decide))⟩, hb, h.gp, h.gr, h.gb⟩
/-- the rounds have turned -/
theorem PA.setR {w w' : World} {B pq mq mg rq bq : Nat} {lp : Option Addr} {lc : Nat} {s : PS} (h : PA w B pq mq mg rq bq lp lc s) {fs : List Bool} {n : Int} (hb : Rnd w' rq fs n) (hg : w.grownBy w' (some rq)) : PA w' B pq mq mg rq bq lp lc { s with fs := fs, n := n } := by
  have hk := keeps_grown hg
  obtain ⟨cg, hcg⟩ := h.mem.blkg
  exact ⟨h.pat.keeps hk (blk_ne h.pat h.rnd.blk (by decide)), h.row.keeps hk (fun j hj => ⟨96, _, hj ▸ h.rnd.blk, by decide⟩), h.lcl, h.lcm,
    h.mem.keeps hk (blk_ne h.mem.blk2 h.rnd.blk (by decide)) (blk_ne hcg h.rnd.blk (by decide)), hb, ⟨h.bat.le, h.bat.srt, h.bat.blk.keeps hk (blk_ne h.bat.blk h.rnd.blk (by decide))⟩, h.gp, h.gr, h.gb⟩
/-- memory has turned -/
theorem PA.setM {w w' : World} {B pq mq mg rq bq : Nat} {lp : Option Addr} {lc : Nat} {s : PS} (h : PA w B pq mq mg rq bq lp lc s) {xs : List Int} (hb : Mem w' B mq mg xs) (hk : Keeps (fun j => j = mg) w w') : PA w' B pq mq mg rq bq lp lc { s with xs := xs } := by
  obtain ⟨cg, hcg⟩ := h.mem.blkg
  exact ⟨h.pat.keeps hk (blk_ne h.pat hcg (by decide)), h.row.keeps hk (fun j hj => ⟨5, _, hj ▸ hcg, by decide⟩), h.lcl, h.lcm, hb, ⟨h.rnd.le, h.rnd.blk.keeps hk (blk_ne h.rnd.blk hcg (by decide))⟩, ⟨h.bat.le, h.bat.srt, h.bat.blk.keeps hk (blk_ne h.bat.blk hcg (by decide))⟩, h.gp, h.gr, h.gb⟩
end Go.Proofs.Ytekggimgobeggaa
