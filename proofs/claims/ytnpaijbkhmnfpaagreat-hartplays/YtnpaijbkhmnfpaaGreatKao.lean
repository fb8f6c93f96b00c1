/- Texts put together: DoA, DoT, HrtE, Math, HrtP, HrtQ, HrtR. -/
import Derived.Test.YtnpaijbkhmnfpaaGreatKaj
import Derived.Test.YtnpaijbkhmnfpaaGreatKak
import Derived.Test.YtnpaijbkhmnfpaaGreatKbf
import Derived.Test.YtnpaijbkhmnfpaaGreatKbg
import Derived.Test.YtnpaijbkhmnfpaaGreatKal
import Derived.Test.YtnpaijbkhmnfpaaGreatKam
import Derived.Test.YtnpaijbkhmnfpaaGreatKan
import Derived.Test.YtnpaijbkhmnfpaaGreatKaa
import Derived.Deep.RegionHeld3
import Derived.Test.YtnpaijbkhmnfpaaGreatKah
import Derived.Test.YtnpaijbkhmnfpaaGreatKab
import Derived.Test.YtnpaijbkhmnfpaaGreatKai

/- exec.Do and switchyardref14.Do, for every instruction: both answer doL. -/
namespace Go.Proofs.YtnpaijbkhmnfpaaGreat
open Go.RowKit

theorem do_any (o a b : Nat) (n pc : Int) (R S D : List Int) (p q : Option Addr) (s c d dc : Nat) (w : World) (ho : o ≤ 255) (ha : a ≤ 255) (hb : b ≤ 255) (hpc : 0 ≤ pc ∧ pc ≤ 4294967295) (hn : -2147483648 ≤ n ∧ n ≤ 2147483647)
    (lR : R.length = 8) (hS : S.length = s) (hs : s * 4 ≤ 140737488355324) (hD : D.length = d) (hd : d ≤ 140737488355328) (hr : PRow w p S) (hrd : Row w q D) (hbd : Byt D) :
    Calls Tryz.prog 71 #[ins o a b n, .int .u32 pc, rgV R (.slice p s c), .slice q d dc] w fun e w' => (∃ v, e = .returned (.tuple #[rgV (doL o a b n pc R S D).1 v, .agg (effA (doL o a b n pc R S D).2.2)]) ∧ POwnV w' w.heap.size v (doL o a b n pc R S D).2.1) ∧ Below w.heap.size w w' := by
  by_cases hf : fltL o a b n s d = 0
  · have e : doL o a b n pc R S D = (doR o a b n R D, doS o pc S, doE o a n pc R S) := by simp [doL, hS, hD, hf]
    rw [e]
    have hR := flt_right hf
    have ho17 := (rightB_parts hR).1
    have o4 : o ≠ 4 := fun e => by subst e; simp [fltL, hR] at hf
    rcases (by omega : (o = 1 ∨ o = 2 ∨ o = 3 ∨ o = 5 ∨ o = 6) ∨ (o = 7 ∨ o = 8 ∨ o = 9) ∨ (o = 10 ∨ o = 11 ∨ o = 12 ∨ o = 13) ∨ (o = 14 ∨ o = 15 ∨ o = 16)) with h | h | h | h
    · exact do_okA o a b n pc R S D p q s c d dc w ho ha hb hpc hn lR hS hs hD hd hr hrd hbd hf h
    · exact do_okB o a b n pc R S D p q s c d dc w ho ha hb hpc hn lR hS hs hD hd hr hrd hbd hf h
    · exact do_okC o a b n pc R S D p q s c d dc w ho ha hb hpc hn lR hS hs hD hd hr hrd hbd hf h
    · exact do_okD o a b n pc R S D p q s c d dc w ho ha hb hpc hn lR hS hs hD hd hr hrd hbd hf h
  · have e : doL o a b n pc R S D = (R, S, { goE pc with fl := fltL o a b n s d }) := by simp [doL, hS, hD, hf]
    rw [e]
    exact do_bad o a b n pc R S p q s c d dc w ho ha hb lR hS hs hd hr hf

theorem rdo_any (o a b : Nat) (n pc : Int) (R S D : List Int) (p q : Option Addr) (s c d dc : Nat) (w : World) (ha : a ≤ 255) (hb : b ≤ 255) (hpc : 0 ≤ pc ∧ pc ≤ 4294967295) (hn : -2147483648 ≤ n ∧ n ≤ 2147483647)
    (lR : R.length = 8) (hS : S.length = s) (hs : s * 4 ≤ 140737488355324) (hD : D.length = d) (hd : d ≤ 140737488355328) (hr : PRow w p S) (hrd : Row w q D) (hbd : Byt D) :
    Calls Tryz.prog 58 #[ins o a b n, .int .u32 pc, rgV R (.slice p s c), .slice q d dc] w fun e w' => (∃ v, e = .returned (.tuple #[rgV (doL o a b n pc R S D).1 v, .agg (effA (doL o a b n pc R S D).2.2)]) ∧ POwnV w' w.heap.size v (doL o a b n pc R S D).2.1) ∧ Below w.heap.size w w' := by
  by_cases hf : fltL o a b n s d = 0
  · have e : doL o a b n pc R S D = (doR o a b n R D, doS o pc S, doE o a n pc R S) := by simp [doL, hS, hD, hf]
    rw [e]
    have hR := flt_right hf
    have ho17 := (rightB_parts hR).1
    have o4 : o ≠ 4 := fun e => by subst e; simp [fltL, hR] at hf
    rcases (by omega : (o = 1 ∨ o = 2 ∨ o = 3 ∨ o = 5 ∨ o = 6 ∨ o = 7 ∨ o = 8 ∨ o = 9) ∨ (o = 10 ∨ o = 11 ∨ o = 12 ∨ o = 13 ∨ o = 14 ∨ o = 15 ∨ o = 16)) with h | h
    · exact rdo_okA o a b n pc R S D p q s c d dc w ha hb hpc hn lR hS hs hD hd hr hrd hbd hf h
    · exact rdo_okB o a b n pc R S D p q s c d dc w ha hb hpc hn lR hS hs hD hd hr hrd hbd hf h
  · have e : doL o a b n pc R S D = (R, S, { goE pc with fl := fltL o a b n s d }) := by simp [doL, hS, hD, hf]
    rw [e]
    cases hR : rightB o a b n
    · rw [show fltL o a b n s d = 120 by simp [fltL, hR]]
      exact rdo_wrong o a b n pc R S p q s c d dc w ha hb hpc lR hS hs hr hR
    · by_cases h4 : o = 4
      · rw [show fltL o a b n s d = 120 by simp [fltL, h4]]
        exact rdo_brk o a b n pc R S p q s c d dc w ha hb hpc lR hS hs hr h4 hR
      · by_cases h12 : o = 12
        · by_cases h64 : 64 ≤ s
          · rw [show fltL o a b n s d = 3 by subst h12; simp [fltL, hR, h64]]
            exact rdo_call o a b n pc R S p q s c d dc w ha hb hpc lR hS hs hr h12 hR h64
          · exact absurd (show fltL o a b n s d = 0 by subst h12; simp [fltL, hR, h64]) hf
        · by_cases h14 : o = 14
          · by_cases hd4 : d < 4
            · rw [show fltL o a b n s d = 210 by subst h14; simp [fltL, hR, hd4]]
              exact rdo_load o a b n pc R S p q s c d dc w ha hb hpc lR hS hs hr h14 hR hd4
            · exact absurd (show fltL o a b n s d = 0 by subst h14; simp [fltL, hR, hd4]) hf
          · by_cases h15 : o = 15
            · by_cases hd4 : d < 4
              · rw [show fltL o a b n s d = 210 by subst h15; simp [fltL, hR, hd4]]
                exact rdo_store o a b n pc R S p q s c d dc w ha hb hpc lR hS hs hr h15 hR hd4
              · exact absurd (show fltL o a b n s d = 0 by subst h15; simp [fltL, hR, hd4]) hf
            · exact absurd (show fltL o a b n s d = 0 by simp [fltL, hR, h4, h12, h14, h15]) hf

end Go.Proofs.YtnpaijbkhmnfpaaGreat

/- What Do answers, in one word (shown in DoA); registers that are answered; small steps of the laws' walks. -/
namespace Go.Proofs.YtnpaijbkhmnfpaaGreat
open Go.RowKit

/-- function f answers doL -/
def DoIs (f : Nat) : Prop := ∀ (o a b : Nat) (n pc : Int) (R S D : List Int) (p q : Option Addr) (s c d dc : Nat) (w : World), o ≤ 255 → a ≤ 255 → b ≤ 255 → (0 ≤ pc ∧ pc ≤ 4294967295) → (-2147483648 ≤ n ∧ n ≤ 2147483647) →
    R.length = 8 → S.length = s → s * 4 ≤ 140737488355324 → D.length = d → d ≤ 140737488355328 → PRow w p S → Row w q D → Byt D →
    Calls Tryz.prog f #[ins o a b n, .int .u32 pc, rgV R (.slice p s c), .slice q d dc] w fun e w' => (∃ v, e = .returned (.tuple #[rgV (doL o a b n pc R S D).1 v, .agg (effA (doL o a b n pc R S D).2.2)]) ∧ POwnV w' w.heap.size v (doL o a b n pc R S D).2.1) ∧ Below w.heap.size w w'

/-- what is answered are registers again -/
theorem wds_set {R : List Int} (h : Wds R) (i : Nat) (x : Int) (hx : 0 ≤ x ∧ x ≤ 4294967295) : Wds (R.set i x) := fun y hy => by
  rcases List.mem_or_eq_of_mem_set hy with hy | rfl
  · exact h y hy
  · exact hx
theorem wds_getD {R : List Int} (h : Wds R) (i : Nat) : 0 ≤ R.getD i 0 ∧ R.getD i 0 ≤ 4294967295 := by
  by_cases hi : i < R.length
  · have := h R[i] (List.getElem_mem hi)
    simpa [List.getD, hi] using this
  · simp [List.getD, List.getElem?_eq_none (show R.length ≤ i by omega)]
theorem doL_regs (o a b : Nat) (n pc : Int) (R S D : List Int) (lR : R.length = 8) (hR : Wds R) (hD : Byt D) : (doL o a b n pc R S D).1.length = 8 ∧ Wds (doL o a b n pc R S D).1 := by
  have h4 := n4_bd hD 0
  have ha := wds_getD hR a
  have hb := wds_getD hR b
  unfold doL
  split
  · unfold doR
    (repeat' split) <;> simp only [List.length_set, lR, true_and] <;> first | exact hR | exact wds_set hR _ _ (by omega)
  · exact ⟨lR, hR⟩
theorem doL_stack (o a b : Nat) (n pc : Int) (R S D : List Int) : (doL o a b n pc R S D).2.1.length ≤ S.length + 1 := by
  unfold doL
  split
  · unfold doS
    (repeat' split) <;> simp <;> omega
  · simp

abbrev Z8 : List Int := [0, 0, 0, 0, 0, 0, 0, 0]
abbrev zA (v : Value) : Array Value := #[.int .u32 0, .int .u32 0, .int .u32 0, .int .u32 0, .int .u32 0, .int .u32 0, .int .u32 0, .int .u32 0, v]
theorem two_blk (w : World) (A E : Array Value) : Blk ((w.alloc (.cells A 47)).alloc (.cells E 134)) w.heap.size 47 A ∧ Blk ((w.alloc (.cells A 47)).alloc (.cells E 134)) (w.heap.size + 1) 134 E ∧ Below w.heap.size w ((w.alloc (.cells A 47)).alloc (.cells E 134)) := by
  refine ⟨(Blk.new w 47 A).grow (new_alloc _ _), ?_, below_alloc (new_alloc _ _) _⟩
  have := Blk.new (w.alloc (.cells A 47)) 134 E
  rw [size_one] at this
  exact this

/-- Do, its answer given -/
theorem do_at {f : Nat} (hdo : DoIs f) (o a b : Nat) (n pc : Int) (R S D R' S' : List Int) (E' : Eff) (p q : Option Addr) (s c d dc : Nat) (w : World) (hE : doL o a b n pc R S D = (R', S', E')) (ho : o ≤ 255) (ha : a ≤ 255) (hb : b ≤ 255) (hpc : 0 ≤ pc ∧ pc ≤ 4294967295) (hn : -2147483648 ≤ n ∧ n ≤ 2147483647)
    (lR : R.length = 8) (hS : S.length = s) (hs : s * 4 ≤ 140737488355324) (hD : D.length = d) (hd : d ≤ 140737488355328) (hr : PRow w p S) (hrd : Row w q D) (hbd : Byt D) :
    Calls Tryz.prog f #[ins o a b n, .int .u32 pc, rgV R (.slice p s c), .slice q d dc] w fun e w' => ∃ p' c', e = .returned (.tuple #[rgV R' (.slice p' S'.length c'), .agg (effA E')]) ∧ PRow w' p' S' ∧ POwnV w' w.heap.size (.slice p' S'.length c') S' ∧ Below w.heap.size w w' := by
  refine (hdo o a b n pc R S D p q s c d dc w ho ha hb hpc hn lR hS hs hD hd hr hrd hbd).mono ?_
  rw [hE]
  rintro e w' ⟨⟨v, rfl, hv⟩, hb'⟩
  have hv' := hv
  obtain ⟨p', c', rfl, hr', -⟩ := hv.slice
  exact ⟨p', c', rfl, hr', hv', hb'⟩
theorem row_nil (w : World) (p : Option Addr) : Row w p [] := fun h => absurd h (Nat.lt_irrefl 0)
theorem prow_nil (w : World) (p : Option Addr) : PRow w p [] := fun h => absurd h (Nat.lt_irrefl 0)
theorem prow_one (w : World) (x : Int) : PRow (w.alloc (.cells #[.int .u32 x] 31)) (some ⟨w.heap.size, 0, none⟩) [x] := fun _ => ⟨w.heap.size, 0, rfl, fun i hi => by
  have h0 : i = 0 := by simp at hi; omega
  subst h0
  exact (Blk.new w 31 #[.int .u32 x]).cell 0⟩


end Go.Proofs.YtnpaijbkhmnfpaaGreat

/- How a hart lies in memory; a step that fetches. -/
namespace Go.Proofs.YtnpaijbkhmnfpaaGreat
open Go.RowKit Go.Maps

/-- what stands not in G's blocks -/
def Off (G : Nat → Prop) (p : Option Addr) (n : Nat) : Prop := 0 < n → ∃ g o, p = some ⟨g, o, none⟩ ∧ ¬ G g
theorem Row.off {G : Nat → Prop} {w w' : World} {p : Option Addr} {xs : List Int} (h : Row w p xs) (ho : Off G p xs.length) (hk : Keeps G w w') : Row w' p xs := fun h0 => by
  obtain ⟨g, o, rfl, hc⟩ := h h0
  obtain ⟨g', o', e, hg⟩ := ho h0
  injection e with e; injection e with e1 e2; subst e1 e2
  refine ⟨g, o, rfl, fun i hi => ?_⟩
  have h1 := hc i hi
  have h2 := hk.block g (cell_lt h1) hg
  unfold World.cell? at h1 ⊢
  dsimp only at h1 ⊢
  rw [h2]; exact h1
theorem PRow.off {G : Nat → Prop} {w w' : World} {p : Option Addr} {xs : List Int} (h : PRow w p xs) (ho : Off G p xs.length) (hk : Keeps G w w') : PRow w' p xs := fun h0 => by
  obtain ⟨g, o, rfl, hc⟩ := h h0
  obtain ⟨g', o', e, hg⟩ := ho h0
  injection e with e; injection e with e1 e2; subst e1 e2
  refine ⟨g, o, rfl, fun i hi => ?_⟩
  have h1 := hc i hi
  have h2 := hk.block g (cell_lt h1) hg
  unfold World.cell? at h1 ⊢
  dsimp only at h1 ⊢
  rw [h2]; exact h1
theorem Off.own {G : Nat → Prop} {B g o n : Nat} (hG : ∀ j, G j → j < B) (hB : B ≤ g) : Off G (some ⟨g, o, none⟩) n := fun _ => ⟨g, o, rfl, fun e => by have := hG g e; omega⟩
theorem Off.zero (G : Nat → Prop) (p : Option Addr) : Off G p 0 := fun h => absurd h (Nat.lt_irrefl 0)

/-- a hart in block h, its lines in l, their map in b -/
structure HAt (w : World) (G : Nat → Prop) (B h l b : Nat) (id : Int) (H : Hs) : Prop where
  blk : ∃ pS cS pH cH, Blk w h 56 (hrA id H.st H.pc H.R (.slice pS H.S.length cS) (.slice pH H.hv.length cH) l) ∧ PRow w pS H.S ∧ Row w pH H.hv ∧ Off G pS H.S.length ∧ Off G pH H.hv.length
  lin : LinAt w B l b H.L
  gh : G h
  gb : G b
  gl : ¬ G l
  bh : B ≤ h
theorem HAt.ne {w : World} {G : Nat → Prop} {B h l b : Nat} {id : Int} {H : Hs} (k : HAt w G B h l b id H) : h ≠ b := fun e => by
  obtain ⟨pS, cS, pH, cH, hb, -⟩ := k.blk
  obtain ⟨es, c, hm⟩ := k.lin.isMap
  rw [← e, show w.heap[h]? = _ from hb] at hm
  cases hm
theorem HAt.below {w w' : World} {G : Nat → Prop} {B h l b : Nat} {id : Int} {H : Hs} (k : HAt w G B h l b id H) (hb : Below w.heap.size w w') : HAt w' G B h l b id H := by
  obtain ⟨pS, cS, pH, cH, h1, h2, h3, h4, h5⟩ := k.blk
  exact ⟨⟨pS, cS, pH, cH, h1.grow hb, h2.below hb, h3.below hb, h4, h5⟩, k.lin.below hb, k.gh, k.gb, k.gl, k.bh⟩
theorem HAt.keeps {w w' : World} {G G' : Nat → Prop} {B h l b : Nat} {id : Int} {H : Hs} (k : HAt w G B h l b id H) (hk : Keeps G' w w') (hG : ∀ j, G' j → G j) (h1 : ¬ G' h) (h2 : ¬ G' b) : HAt w' G B h l b id H := by
  obtain ⟨pS, cS, pH, cH, a1, a2, a3, a4, a5⟩ := k.blk
  have hk' := hk.wider hG
  exact ⟨⟨pS, cS, pH, cH, (hk.block h a1.lt h1).trans a1, a2.off a4 hk', a3.off a5 hk', a4, a5⟩, k.lin.keeps hk (fun e => k.gl (hG _ e)) h2, k.gh, k.gb, k.gl, k.bh⟩
theorem Mem.keepsG {G : Nat → Prop} {w w' : World} {B q g : Nat} {xs : List Int} (h : Mem w B q g xs) (hk : Keeps G w w') (h1 : ¬ G q) (h2 : ¬ G g) : Mem w' B q g xs := h.keeps hk h1 h2

theorem OwnV.off {G : Nat → Prop} {w : World} {B : Nat} {v : Value} {xs : List Int} (h : OwnV w B v xs) (hG : ∀ j, G j → j < B) : ∃ p c, v = .slice p xs.length c ∧ Row w p xs ∧ Off G p xs.length := by
  rcases h.shape with ⟨rfl, rfl⟩ | ⟨g, cap, rfl, ho⟩
  · exact ⟨none, 0, rfl, fun h => absurd h (Nat.lt_irrefl 0), Off.zero _ _⟩
  · exact ⟨_, _, rfl, ho.row, Off.own hG ho.base⟩
theorem POwnV.off {G : Nat → Prop} {w : World} {B : Nat} {v : Value} {xs : List Int} (h : POwnV w B v xs) (hG : ∀ j, G j → j < B) : ∃ p c, v = .slice p xs.length c ∧ PRow w p xs ∧ Off G p xs.length := by
  rcases h.shape with ⟨rfl, rfl⟩ | ⟨g, cap, rfl, ho⟩
  · exact ⟨none, 0, rfl, fun h => absurd h (Nat.lt_irrefl 0), Off.zero _ _⟩
  · exact ⟨_, _, rfl, ho.row, Off.own hG ho.base⟩
theorem movH_ok {id : Int} {h : Hs} {xs : List Int} {s : Fs} (h0 : s.e = 0) : movH id h xs s = ⟨{ h with hv := s.out, L := s.L }, xs, [⟨1, id, ((h.pc + h.hv.length : Nat) : Int), 0, if s.is = true then 1 else 0⟩]⟩ := if_pos h0
theorem movH_bad {id : Int} {h : Hs} {xs : List Int} {s : Fs} (h0 : ¬ s.e = 0) : movH id h xs s = fltH id h xs s.e := if_neg h0
theorem keeps_set {G : Nat → Prop} (w : World) (h i : Nat) (v : Value) (hg : G h) : Keeps G w (w.setCell ⟨h, i, none⟩ v) := (Keeps.refl G w).setCell h i v (.inl hg)

set_option maxHeartbeats 4000000 in
set_option maxRecDepth 8000 in
theorem more_any (B B' q mg h l b : Nat) (G : Nat → Prop) (id : Int) (H : Hs) (xs : List Int) (hold : Bool) (w : World) (hh : HAt w G B h l b id H) (hm : Mem w B' q mg xs) (hG : ∀ j, G j → j < w.heap.size) (gm : G mg) (gq : ¬ G q) (hlen : H.L.length ≤ 1000000) (hx6 : xs.length ≤ 65536) (hpc : H.pc ≤ 4294967295) (hn6 : H.hv.length ≤ 6) (hd : doneB H.hv = false) :
    Calls Tryz.prog 44 #[.pointer (some ⟨h, 0, none⟩), .pointer (some ⟨q, 0, none⟩), .bool hold] w fun e w' => ∃ v, e = .returned v ∧ EOwn 41 w' w.heap.size v (movH id H xs (stpR H.L xs H.pc H.hv hold)).ev ∧ HAt w' G B h l b id (movH id H xs (stpR H.L xs H.pc H.hv hold)).h ∧ Mem w' B' q mg xs ∧ Keeps (fun j => j = h ∨ j = b) w w' := by
  obtain ⟨st, pc, R, S, hv, L⟩ := H
  dsimp only at hlen hpc hn6 hd ⊢
  obtain ⟨pS, cS, pH, cH, hB, hPS, hRH, oS, oH⟩ := hh.blk
  dsimp only at hB hPS hRH oS oH
  have hlin := hh.lin
  dsimp only at hlin
  have HS := fun W (h1 : LinAt W B l b L) (h2 : Mem W B' q mg xs) (h3 : Row W pH hv) => step_any B B' q mg l b pc cH pH L xs hv hold W h1 h2 (by omega) hx6 hpc (by omega) h3
  have HOK : Hid ((stpR L xs pc hv hold).e = 0 → ((pc : Int) + hv.length) % 4294967296 = ((pc + hv.length : Nat) : Int)) := fun h0 => by
    unfold stpR at h0
    rw [if_neg (by rw [hd]; decide)] at h0
    by_cases hx : xs.length ≤ pc + hv.length
    · rw [if_pos hx] at h0; cases h0
    · omega
  have HEB : Hid (0 ≤ (stpR L xs pc hv hold).e ∧ (stpR L xs pc hv hold).e ≤ 4294967295) := by
    show _ ∧ _
    unfold stpR
    split
    · dsimp only; omega
    · split <;> dsimp only <;> omega
  have HLQ : Hid ((stpR L xs pc hv hold).e ≠ 0 → (stpR L xs pc hv hold).L = L) := fun h0 => by
    unfold stpR at h0 ⊢
    split
    · rfl
    · split
      · rfl
      · rename_i h1 h2; rw [if_neg h1, if_neg h2] at h0; exact absurd rfl h0
  have HH := Hid.in hh
  have HM := Hid.in hm
  have HBK := Hid.in hB
  have HPS := Hid.in hPS
  have HRH := Hid.in hRH
  have HOS := Hid.in oS
  have HOH := Hid.in oH
  have HLN := Hid.in hlin
  have c2 : w.cell? ⟨h, 2, none⟩ = some (.int .u32 pc) := hB.cell 2
  have c12 : w.cell? ⟨h, 12, none⟩ = some (.slice pH hv.length cH) := hB.cell 12
  have c13 : w.cell? ⟨h, 13, none⟩ = some (.pointer (some ⟨l, 0, none⟩)) := hB.cell 13
  have HHB : Hid (h ≠ b) := hh.ne
  have HHM : Hid (mg < w.heap.size) := hG _ gm
  have HMQ : Hid (∀ j, j = b → j ≠ q ∧ j ≠ mg) := fun j e => by
    subst e
    obtain ⟨es, cc, e1⟩ := hlin.isMap
    refine ⟨fun e => gq (e ▸ hh.gb), fun e => ?_⟩
    obtain ⟨cur, _, e2, _⟩ := hm.own.parts
    rw [← e, e1] at e2
    cases e2
  have HNQ : Hid (¬ G q) := gq
  have HNM : Hid (h ≠ mg) := fun e => by
    obtain ⟨cur, _, e2, _⟩ := hm.own.parts
    rw [← e, show w.heap[h]? = _ from hB] at e2
    simp at e2
  have HGB := Hid.in hh.gb
  have HGH := Hid.in hh.gh
  have HGL := Hid.in hh.gl
  have HBH := Hid.in hh.bh
  have HGG := Hid.in hG
  clear hh hm hB hPS hRH oS oH hlin hd hG gm gq
  generalize stpR L xs pc hv hold = s at *
  obtain ⟨so, sg, sis, se, sL⟩ := s
  dsimp only at HS HOK HEB HLQ ⊢
  go_enter Tryz.func44, Tryz.ntmps44
  go_upto_region 1 with fail
  go_quiet (fail)
  go_upto_region 2 with fail
  obtain ⟨pl, hpl⟩ : ∃ pl, ((pc : Int) + hv.length) % 4294967296 = pl := ⟨_, rfl⟩
  rw [hpl] at HOK ⊢
  have HPL : Hid (0 ≤ pl ∧ pl ≤ 4294967295) := by show _ ∧ _; omega
  clear hpl
  have HBD : Hid (Below w.heap.size w (w.drewN nq).drew) := (below_draws (below_self w) nq).drew
  have hS := HS (w.drewN nq).drew (HLN.out.below HBD.out) (HM.out.below HBD.out) (HRH.out.below HBD.out)
  have d2 : (w.drewN nq).cell? ⟨h, 2, none⟩ = some (.int .u32 pc) := c2
  have d12 : (w.drewN nq).cell? ⟨h, 12, none⟩ = some (.slice pH hv.length cH) := c12
  have d13 : (w.drewN nq).cell? ⟨h, 13, none⟩ = some (.pointer (some ⟨l, 0, none⟩)) := c13
  have HKK : Hid (∀ W, Keeps (fun j => j = b) (w.drewN nq).drew W → Keeps (fun j => j = b) w W) := fun W hk => ⟨hk.os, hk.tape, hk.output, hk.size, hk.block⟩
  have HSZ : Hid ((w.drewN nq).drew.heap.size = w.heap.size) := rfl
  clear HS c2 c12 c13 HBD
  generalize hw1 : w.drewN nq = w1 at *
  clear hw1
  rw [HSZ.out] at hS
  go_region_held3 (fun W => W.cell? ⟨h, 2, none⟩ = some (.int .u32 pc) ∧ W.cell? ⟨h, 12, none⟩ = some (.slice pH hv.length cH) ∧ W.cell? ⟨h, 13, none⟩ = some (.pointer (some ⟨l, 0, none⟩))) (first | (with_reducible exact hk1) | go_keep)
    (first
      | (go_at_call 78; (with_reducible refine hS.mono ?_); rintro e w2 ⟨v2, rfl, ho2, hl2, hk2⟩; have HK2 := Hid.in (HKK.out _ hk2); have HO2 := Hid.in ho2; have HL2 := Hid.in hl2; have HB2 : Hid (Blk w2 h 56 (hrA id st pc R (.slice pS S.length cS) (.slice pH hv.length cH) l)) := (HK2.out.block h HBK.out.lt HHB.out).trans HBK.out; have hk1 : w2.cell? ⟨h, 2, none⟩ = some (.int .u32 pc) ∧ w2.cell? ⟨h, 12, none⟩ = some (.slice pH hv.length cH) ∧ w2.cell? ⟨h, 13, none⟩ = some (.pointer (some ⟨l, 0, none⟩)) := ⟨HB2.out.cell 2, HB2.out.cell 12, HB2.out.cell 13⟩; clear ho2 hl2 hk2))
  clear hk1 hS d2 d12 d13
  have HM2 : Hid (Mem w2 B' q mg xs) := HM.out.keeps HK2.out (fun e => (HMQ.out q e).1 rfl) (fun e => (HMQ.out mg e).2 rfl)
  have HPS2 := Hid.in (HPS.out.off HOS.out (HK2.out.wider (fun j (e : j = b) => e ▸ HGB.out)))
  have HRH2 := Hid.in (HRH.out.off HOH.out (HK2.out.wider (fun j (e : j = b) => e ▸ HGB.out)))
  have HSZ2 := Hid.in HK2.out.size
  by_cases h0 : se = 0
  · have HW := HOK.out h0
    subst h0
    obtain ⟨p2, c2, e2, hr2, of2⟩ := HO2.out.off HGG.out
    subst e2
    have HR2 := Hid.in hr2
    have HF2 := Hid.in of2
    have HPW := Hid.in HW
    clear hr2 of2 HW HO2 HOK
    have f12 : w2.cell? ⟨h, 12, none⟩ = some (.slice pH hv.length cH) := HB2.out.cell 12
    have zf : w2.frozen? ⟨h, 12, none⟩ = false := HB2.out.free 12
    go_upto_region 6 with fail
    have HB3 : Hid (Blk (w2.setCell ⟨h, 12, none⟩ (.slice p2 so.length c2)) h 56 (hrA id st pc R (.slice pS S.length cS) (.slice p2 so.length c2) l)) := HB2.out.set 12 (.slice p2 so.length c2)
    have hk := keeps_set (G := fun j => j = h) w2 h 12 (.slice p2 so.length c2) rfl
    have hkG : Keeps G w2 _ := hk.wider (fun j (e : j = h) => e ▸ HGH.out)
    have HR3 := Hid.in (HR2.out.off HF2.out hkG)
    have HPS3 := Hid.in (HPS2.out.off HOS.out hkG)
    have HL3 := Hid.in (HL2.out.keeps hk (fun e => HGL.out (e ▸ HGH.out)) (fun e => HHB.out e.symm))
    have HM3 := Hid.in (HM2.out.keeps hk (fun e => HNQ.out (e ▸ HGH.out)) (fun e => HNM.out e.symm))
    have HK3 : Hid (Keeps (fun j => j = h ∨ j = b) w (w2.setCell ⟨h, 12, none⟩ (.slice p2 so.length c2))) := (HK2.out.wider (fun j e => .inr e)).trans' (hk.wider (fun j e => .inl e))
    clear hk hkG HB2 HM2 HPS2 HRH2 HR2 HL2 f12 zf
    generalize w2.setCell ⟨h, 12, none⟩ (.slice p2 so.length c2) = w3 at *
    have HE := fun n (hn : 0 ≤ n ∧ n ≤ 4294967295) => event_any h id 1 pl n w3 (HB3.out.cell 0) HPL.out hn
    cases sis
    all_goals
      go_wp2_with (go_at_call 80; refine Hid.out ?_)
      refine Lib.hid ?_
      (with_reducible refine (HE _ (by decide)).mono ?_)
      rintro e w4 ⟨rfl, hb4⟩
      simp only [evA]
      go_wp2_with fail
      go_ret
      rw [movH_ok rfl]
      refine ⟨_, rfl, ?_, ⟨⟨pS, cS, p2, c2, HB3.out.grow (below_alloc hb4 _), HPS3.out.below (below_alloc hb4 _), HR3.out.below (below_alloc hb4 _), HOS.out, HF2.out⟩, HL3.out.below (below_alloc hb4 _), HGH.out, HGB.out, HGL.out, HBH.out⟩, HM3.out.below (below_alloc hb4 _), HK3.out.thenB (below_alloc hb4 _)⟩
      rw [← HPW.out]
      exact (EOwn.one w4 _).lower (Nat.le_trans HK3.out.size hb4.size)
  · have g0 : (se != 0) = true := by simpa using h0
    have hF := hfault_any h l id st pc se R (.slice pS S.length cS) (.slice pH hv.length cH) w2 HB2.out (by omega) HEB.out
    go_wp2_with (go_at_call 79; refine Hid.out ?_)
    refine Lib.hid ?_
    (with_reducible refine hF.mono ?_)
    rintro e w3 ⟨g3, rfl, ho3, hb3, hk3⟩
    have HO3 := Hid.in ho3
    have HB3 := Hid.in hb3
    have HK3 := Hid.in hk3
    clear ho3 hb3 hk3 hF
    go_wp2_with fail
    go_ret
    rw [movH_bad h0]
    refine ⟨_, rfl, HO3.out.lower HSZ2.out, ⟨⟨pS, cS, pH, cH, HB3.out, HPS2.out.off HOS.out (HK3.out.wider (fun j (e : j = h) => e ▸ HGH.out)), HRH2.out.off HOH.out (HK3.out.wider (fun j (e : j = h) => e ▸ HGH.out)), HOS.out, HOH.out⟩, ?_, HGH.out, HGB.out, HGL.out, HBH.out⟩, HM2.out.keeps HK3.out (fun e => HNQ.out (e ▸ HGH.out)) (fun e => HNM.out e.symm), (HK2.out.wider (fun j e => .inr e)).trans' (HK3.out.wider (fun j e => .inl e))⟩
    have := HLQ.out h0
    subst this
    exact HL2.out.keeps HK3.out (fun e => HGL.out (e ▸ HGH.out)) (fun e => HHB.out e.symm)
end Go.Proofs.YtnpaijbkhmnfpaaGreat

/- Plain facts: what is encoded is decoded as it was, whatever stands behind it; what is decoded is right, and encoded just these bytes. -/
namespace Go.Proofs.YtnpaijbkhmnfpaaGreat
open Go.RowKit

theorem gC (cs : List Int) (r : Nat) (q a b n : Int) (ts : List Int) (i : Nat) (h : i < cs.length) : (encG cs r q a b n ++ ts).getD i 0 = cs.getD i 0 := by
  unfold encG
  rw [List.append_assoc, List.append_assoc, List.append_assoc, getD_left _ _ _ h]
theorem gA (cs : List Int) (r : Nat) (q a b n : Int) (ts : List Int) (h : 1 ≤ r) : (encG cs r q a b n ++ ts).getD cs.length 0 = a := by
  unfold encG
  rw [List.append_assoc, List.append_assoc, List.append_assoc, if_pos h]
  have := getD_right cs ([a] ++ ((if 2 ≤ r then [b] else []) ++ ((if q = 0 then [] else le4 n) ++ ts))) 0
  rw [Nat.add_zero] at this
  rw [this]
  rfl
theorem gB (cs : List Int) (r : Nat) (q a b n : Int) (ts : List Int) (h : 2 ≤ r) : (encG cs r q a b n ++ ts).getD (cs.length + 1) 0 = b := by
  unfold encG
  rw [List.append_assoc, List.append_assoc, List.append_assoc, if_pos (by omega), if_pos h, getD_right]
  rfl
theorem encG_num_split (cs : List Int) (r : Nat) (q a b n : Int) (ts : List Int) (h : r ≤ 2) (hq : q ≠ 0) : ∃ ys : List Int, ys.length = cs.length + r ∧ encG cs r q a b n ++ ts = ys ++ (le4 n ++ ts) := by
  refine ⟨cs ++ (if 1 ≤ r then [a] else []) ++ (if 2 ≤ r then [b] else []), ?_, ?_⟩
  · obtain rfl | rfl | rfl : r = 0 ∨ r = 1 ∨ r = 2 := by omega
    all_goals simp
  · unfold encG; rw [if_neg hq, List.append_assoc]
theorem gN (cs : List Int) (r : Nat) (q a b n : Int) (ts : List Int) (h : r ≤ 2) (hq : q ≠ 0) : n4 (encG cs r q a b n ++ ts) (cs.length + r) = n % 4294967296 := by
  obtain ⟨ys, hl, he⟩ := encG_num_split cs r q a b n ts h hq
  rw [he, ← hl]
  have e0 := getD_right ys (le4 n ++ ts) 0
  have e1 := getD_right ys (le4 n ++ ts) 1
  have e2 := getD_right ys (le4 n ++ ts) 2
  have e3 := getD_right ys (le4 n ++ ts) 3
  rw [Nat.add_zero] at e0
  simp only [n4, num4]
  rw [e0, e1, e2, e3]
  simp only [le4, List.cons_append, List.getD_cons_zero, List.getD_cons_succ]
  omega
theorem wrap_back (n : Int) (h : -2147483648 ≤ n ∧ n ≤ 2147483647) : wrap32 (n % 4294967296) = n := by unfold wrap32; omega

theorem rightB_partsM {o : Nat} {a b n : Int} (h : rightB o a b n = true) : (1 ≤ o ∧ o < 17) ∧ regB (decide (1 ≤ rg o)) a = true ∧ regB (decide (2 ≤ rg o)) b = true ∧ numB (kd o) n = true := by
  simp only [rightB, Bool.and_eq_true, decide_eq_true_eq] at h
  exact ⟨h.1, h.2.1.1, h.2.1.2, h.2.2⟩

theorem fA_enc {o : Nat} {a b n : Int} (h : rightB o a b n = true) (ts : List Int) : fA o (encL o a b n ++ ts) = a := by
  obtain ⟨_, ha, _, _⟩ := rightB_partsM h
  unfold fA fldA encL
  by_cases hr : 1 ≤ rg o
  · rw [if_pos hr, gA _ _ _ _ _ _ _ hr]
  · rw [if_neg hr]
    simp [regB, hr] at ha
    exact ha.symm
theorem fB_enc {o : Nat} {a b n : Int} (h : rightB o a b n = true) (ts : List Int) : fB o (encL o a b n ++ ts) = b := by
  obtain ⟨_, _, hb, _⟩ := rightB_partsM h
  unfold fB fldB encL
  by_cases hr : 2 ≤ rg o
  · rw [if_pos hr, gB _ _ _ _ _ _ _ hr]
  · rw [if_neg hr]
    simp [regB, hr] at hb
    exact hb.symm
theorem fN_enc {o : Nat} {a b n : Int} (h : rightB o a b n = true) (hn : -2147483648 ≤ n ∧ n ≤ 2147483647) (ts : List Int) : fN o (encL o a b n ++ ts) = n := by
  obtain ⟨ho, _, _, hm⟩ := rightB_partsM h
  unfold fN fldN encL
  by_cases hq : kd o = 0
  · rw [if_pos hq]
    simp [numB, hq] at hm
    exact hm.symm
  · rw [if_neg hq, gN _ _ _ _ _ _ _ (rg_le o ho.2) hq, wrap_back n hn]

theorem dec_enc {o : Nat} {a b n : Int} (h : rightB o a b n = true) (hn : -2147483648 ≤ n ∧ n ≤ 2147483647) (ts : List Int) : dec (encL o a b n ++ ts) = ⟨o, a, b, n, lenN o, 0⟩ := by
  obtain ⟨ho, _, _, _⟩ := rightB_partsM h
  have hl := encL_length o a b n ho.2
  have hp := cdL_pos o ho.1 ho.2
  have hi := lenN_in o ho.1 ho.2
  have hz : (encL o a b n ++ ts).getD 0 0 = fb o := gC _ _ _ _ _ _ _ _ hp
  have hlen : (encL o a b n ++ ts).length = lenN o + ts.length := by rw [List.length_append, hl]
  unfold dec
  rw [if_neg (by omega), hz, opN_fb o ho.1 ho.2, if_neg (by omega)]
  unfold decO
  rw [if_neg (by omega), fA_enc h, fB_enc h, fN_enc h hn, h]
  have hpre : preL (cdL o) (encL o a b n ++ ts) = true := decide_eq_true fun i hi => gC _ _ _ _ _ _ _ _ hi
  rw [hpre]
  rfl

theorem take_more (xs : List Int) (k : Nat) (h : k < xs.length) {ys : List Int} (hy : xs.take k = ys) : xs.take (k + 1) = ys ++ [xs.getD k 0] := by
  rw [take_getD xs k h, hy]
theorem le4_back {xs : List Int} (hb : Byt xs) (k : Nat) : le4 (wrap32 (n4 xs k)) = [xs.getD k 0, xs.getD (k + 1) 0, xs.getD (k + 2) 0, xs.getD (k + 3) 0] := by
  have b0 := hb k; have b1 := hb (k + 1); have b2 := hb (k + 2); have b3 := hb (k + 3)
  simp only [le4, wrap32, n4, num4]
  generalize xs.getD k 0 = z0 at *
  generalize xs.getD (k + 1) 0 = z1 at *
  generalize xs.getD (k + 2) 0 = z2 at *
  generalize xs.getD (k + 3) 0 = z3 at *
  refine List.cons_eq_cons.2 ⟨by omega, List.cons_eq_cons.2 ⟨by omega, List.cons_eq_cons.2 ⟨by omega, List.cons_eq_cons.2 ⟨by omega, rfl⟩⟩⟩⟩

theorem enc_back (cs : List Int) (r : Nat) (q : Int) (xs : List Int) (hb : Byt xs) (hr : r ≤ 2) (hp : xs.take cs.length = cs) (hl : (cs.length + r + if q = 0 then 0 else 4) ≤ xs.length) :
    encG cs r q (fldA cs.length r xs) (fldB cs.length r xs) (fldN cs.length r q xs) = xs.take (cs.length + r + if q = 0 then 0 else 4) := by
  have hA : xs.take (cs.length + r) = cs ++ (if 1 ≤ r then [fldA cs.length r xs] else []) ++ (if 2 ≤ r then [fldB cs.length r xs] else []) := by
    obtain rfl | rfl | rfl : r = 0 ∨ r = 1 ∨ r = 2 := by omega
    · simpa using hp
    · rw [take_more xs cs.length (by omega) hp]; simp [fldA]
    · have := take_more xs (cs.length + 1) (by omega) (take_more xs cs.length (by omega) hp)
      rw [show cs.length + 2 = cs.length + 1 + 1 by omega, this]; simp [fldA, fldB]
  unfold encG
  rw [← hA]
  by_cases hq : q = 0
  · simp [hq]
  · rw [if_neg hq] at hl
    rw [if_neg hq, if_neg hq]
    have h1 := take_more xs (cs.length + r) (by omega) rfl
    have h2 := take_more xs (cs.length + r + 1) (by omega) h1
    have h3 := take_more xs (cs.length + r + 2) (by omega) h2
    have h4 := take_more xs (cs.length + r + 3) (by omega) h3
    rw [show cs.length + r + 4 = cs.length + r + 3 + 1 by omega, h4]
    simp only [fldN, if_neg hq, le4_back hb, List.append_assoc, List.cons_append, List.nil_append]

/-- what is decoded, where there is no error -/
theorem dec_ok {xs : List Int} (hb : Byt xs) (h : (dec xs).e = 0) :
    ∃ o : Nat, (dec xs).o = o ∧ (dec xs).l = lenN o ∧ lenN o ≤ xs.length ∧ rightB o (dec xs).a (dec xs).b (dec xs).n = true ∧ encL o (dec xs).a (dec xs).b (dec xs).n = xs.take (lenN o) ∧
      (0 ≤ (dec xs).a ∧ (dec xs).a ≤ 255) ∧ (0 ≤ (dec xs).b ∧ (dec xs).b ≤ 255) := by
  unfold dec at h ⊢
  by_cases h0 : xs.length = 0
  · rw [if_pos h0] at h; simp at h
  · rw [if_neg h0] at h ⊢
    by_cases h1 : opN (xs.getD 0 0) = 0
    · rw [if_pos h1] at h; simp at h
    · rw [if_neg h1] at h ⊢
      generalize opN (xs.getD 0 0) = o at h h1 ⊢
      unfold decO at h ⊢
      by_cases hl : xs.length < lenN o
      · rw [if_pos hl] at h; simp at h
      · rw [if_neg hl] at h ⊢
        by_cases hk : (preL (cdL o) xs && rightB o (fA o xs) (fB o xs) (fN o xs)) = true
        · rw [if_pos hk]
          rw [Bool.and_eq_true] at hk
          obtain ⟨ho, _, _, _⟩ := rightB_partsM hk.2
          refine ⟨o, rfl, rfl, by omega, hk.2, ?_, fldA_in hb, fldB_in hb⟩
          have hp : xs.take (cdL o).length = cdL o := by
            have hpre := of_decide_eq_true hk.1
            have hle : (cdL o).length ≤ xs.length := by unfold lenN at hl; omega
            refine list_ext_getD (by simp; omega) fun i => ?_
            by_cases hi : i < (cdL o).length
            · rw [← hpre i hi]; simp [List.getD, hi]
            · rw [List.getD, List.getD, List.getElem?_eq_none (by simp; omega), List.getElem?_eq_none (by omega)]
          exact enc_back (cdL o) (rg o) (kd o) xs hb (rg_le o ho.2) hp (by unfold lenN at hl; omega)
        · rw [if_neg hk] at h; simp at h

theorem dec_bad {xs : List Int} (h : (dec xs).e ≠ 0) : (dec xs).o = 0 ∧ (dec xs).a = 0 ∧ (dec xs).b = 0 ∧ (dec xs).n = 0 ∧ (dec xs).l = 0 := by
  unfold dec at h ⊢
  split
  · simp
  · rename_i h0
    rw [if_neg h0] at h
    split
    · simp
    · rename_i h1
      rw [if_neg h1] at h
      unfold decO at h ⊢
      split
      · simp
      · rename_i h2
        rw [if_neg h2] at h
        split
        · rename_i h3
          rw [if_pos h3] at h
          exact absurd rfl h
        · simp
end Go.Proofs.YtnpaijbkhmnfpaaGreat

/- Bounds of what a step leaves. -/
namespace Go.Proofs.YtnpaijbkhmnfpaaGreat
open Go.RowKit Go.Maps

abbrev U32 (z : Int) : Prop := 0 ≤ z ∧ z ≤ 4294967295
theorem fltL_u32 (o a b : Nat) (n : Int) (s d : Nat) : U32 (fltL o a b n s d) := by
  unfold fltL U32
  (repeat' split) <;> decide
theorem behL_u32 (o : Nat) (pc : Int) : U32 (behL o pc) := by unfold behL U32; omega
theorem wayL_u32 (o : Nat) (n pc : Int) : U32 (wayL o n pc) := by unfold wayL U32; omega
theorem wds_u32 {R : List Int} (h : Wds R) (i : Nat) : U32 (R.getD i 0) := wds_getD h i
theorem doE_u32 (o a : Nat) (n pc : Int) (R S : List Int) (wR : Wds R) (wS : Wds S) : U32 (doE o a n pc R S).nx ∧ U32 (doE o a n pc R S).at_ ∧ U32 (doE o a n pc R S).va ∧ (doE o a n pc R S).fl = 0 ∧ ((doE o a n pc R S).st = true → o = 15 ∧ (doE o a n pc R S).at_ = n % 4294967296) := by
  have h1 := behL_u32 o pc
  have h2 := wayL_u32 o n pc
  have h3 := wds_u32 wR a
  have h4 := wds_u32 wS (S.length - 1)
  have h5 : U32 (n % 4294967296) := by unfold U32; omega
  have h0 : U32 0 := by decide
  unfold doE
  (repeat' split) <;> refine ⟨?_, ?_, ?_, rfl, ?_⟩ <;> first | exact h1 | exact h2 | exact h3 | exact h4 | exact h5 | exact h0 | (intro h; cases h; done) | (intro _; exact ⟨by assumption, rfl⟩)
theorem doS_wds (o : Nat) (pc : Int) (S : List Int) (wS : Wds S) : Wds (doS o pc S) := by
  unfold doS
  split
  · intro x hx
    rw [List.mem_append] at hx
    rcases hx with hx | hx
    · exact wS x hx
    · simp at hx; subst hx; exact behL_u32 o pc
  · split
    · exact fun x hx => wS x (List.dropLast_subset S hx)
    · exact wS
theorem doL_facts (o a b : Nat) (n pc : Int) (R S D : List Int) (hpc : U32 pc) (lR : R.length = 8) (wR : Wds R) (wS : Wds S) (lS : S.length ≤ 64) (bD : Byt D) :
    (doL o a b n pc R S D).1.length = 8 ∧ Wds (doL o a b n pc R S D).1 ∧ Wds (doL o a b n pc R S D).2.1 ∧ (doL o a b n pc R S D).2.1.length ≤ 64 ∧ U32 (doL o a b n pc R S D).2.2.nx ∧ U32 (doL o a b n pc R S D).2.2.at_ ∧ U32 (doL o a b n pc R S D).2.2.va ∧ U32 (doL o a b n pc R S D).2.2.fl ∧
      ((doL o a b n pc R S D).2.2.fl = 0 → (doL o a b n pc R S D).2.2.st = true → o = 15 ∧ (doL o a b n pc R S D).2.2.at_ = n % 4294967296 ∧ 4 ≤ D.length) := by
  obtain ⟨k1, k2⟩ := doL_regs o a b n pc R S D lR wR bD
  refine ⟨k1, k2, ?_⟩
  unfold doL
  by_cases hf : fltL o a b n S.length D.length = 0
  · rw [if_pos hf]
    obtain ⟨e1, e2, e3, e4, e5⟩ := doE_u32 o a n pc R S wR wS
    refine ⟨doS_wds o pc S wS, ?_, e1, e2, e3, by rw [e4]; decide, fun _ hs => ?_⟩
    · unfold doS
      split
      · rename_i h12
        subst h12
        have : ¬ 64 ≤ S.length := fun h => by
          unfold fltL at hf
          split at hf
          · cases hf
          · simp at hf
        rw [List.length_append]; simp; omega
      · split
        · dsimp only; rw [List.length_dropLast]; omega
        · exact lS
    · obtain ⟨h15, hat⟩ := e5 hs
      refine ⟨h15, hat, ?_⟩
      subst h15
      unfold fltL at hf
      split at hf
      · cases hf
      · simp at hf
        omega
  · rw [if_neg hf]
    exact ⟨wS, lS, hpc, (by decide : U32 0), (by decide : U32 0), fltL_u32 _ _ _ _ _ _, fun h => absurd h hf⟩
theorem dataL_byt {xs : List Int} (h : Byt xs) (o : Nat) (n : Int) : Byt (dataL xs o n) := by
  unfold dataL
  split
  · intro i
    by_cases hi : i < 4
    · have e : ((xs.drop n.toNat).take 4).getD i 0 = xs.getD (n.toNat + i) 0 := by simp only [List.getD, List.getElem?_take_of_lt hi, List.getElem?_drop]
      rw [e]; exact h _
    · have e : ((xs.drop n.toNat).take 4).getD i 0 = 0 := by simp only [List.getD, List.getElem?_eq_none (show ((xs.drop n.toNat).take 4).length ≤ i by rw [List.length_take]; omega), Option.getD_none]
      rw [e]; omega
  · exact byt_nil
/-- what is decoded well -/
theorem dec_bounds {xs : List Int} (hb : Byt xs) (he : (dec xs).e = 0) : (1 ≤ (dec xs).o ∧ (dec xs).o ≤ 16) ∧ (0 ≤ (dec xs).a ∧ (dec xs).a ≤ 255) ∧ (0 ≤ (dec xs).b ∧ (dec xs).b ≤ 255) ∧ (-2147483648 ≤ (dec xs).n ∧ (dec xs).n ≤ 2147483647) ∧ ((dec xs).o = 14 ∨ (dec xs).o = 15 → 0 ≤ (dec xs).n) := by
  obtain ⟨o, h1, h2, h3, h4, h5, h6, h7⟩ := dec_ok hb he
  obtain ⟨⟨r1, r2⟩, -, -, r5⟩ := rightB_parts h4
  refine ⟨by omega, h6, h7, ?_, fun h => ?_⟩
  · unfold dec at he ⊢
    by_cases h0 : xs.length = 0
    · rw [if_pos h0] at he; simp at he
    · rw [if_neg h0] at he ⊢
      by_cases h1 : opN (xs.getD 0 0) = 0
      · rw [if_pos h1] at he; simp at he
      · rw [if_neg h1] at he ⊢
        generalize opN (xs.getD 0 0) = o at he h1 ⊢
        unfold decO at he ⊢
        split
        · decide
        · split
          · unfold fN fldN
            dsimp only
            split
            · omega
            · unfold wrap32; omega
          · decide
  · have : o = 14 ∨ o = 15 := by omega
    rcases this with rfl | rfl
    · have : 0 ≤ (dec xs).n ∧ (dec xs).n < 65536 := by simpa [numB, kd] using r5
      exact this.1
    · have : 0 ≤ (dec xs).n ∧ (dec xs).n < 65536 := by simpa [numB, kd] using r5
      exact this.1

end Go.Proofs.YtnpaijbkhmnfpaaGreat

/- What is made in a region that draws: two variables, in whatever order. -/
namespace Go.Proofs.YtnpaijbkhmnfpaaGreat
open Go.RowKit Go.Maps

section
variable {w3 w5 : World} {gA gB B : Nat} {F FE zA zB : Array Value} {v : Value} {S9 : List Int}
theorem POwnV.ne {w : World} {B g : Nat} {v : Value} {xs : List Int} {E : Array Value} {T : TypeId} (h : POwnV w B v xs) (hb : Blk w g T E) (hT : T ≠ 31) : v.ownBlock ≠ some g := by
  rcases h.shape with ⟨rfl, _⟩ | ⟨g', cap, rfl, ho⟩
  · intro e; cases e
  · intro e
    have e' : some g' = some g := e
    injection e' with e'
    obtain ⟨cur, _, h2, _⟩ := ho.parts
    rw [e', show w.heap[g]? = _ from hb] at h2
    injection h2 with h2
    injection h2 with _ h2 _
    exact hT h2
theorem size_setCells (g : Nat) : ∀ (vs : List Value) (o : Nat) (w : World), (w.setCells g o vs).heap.size = w.heap.size
  | [], _, _ => rfl
  | v :: r, o, w => (size_setCells g r (o + 1) _).trans (by simp [World.setCell])
theorem fin_both (hA : Blk w5 gA 47 zA) (hB : Blk w5 gB 134 zB) (hne : gA ≠ gB) (ho : POwnV w5 B v S9) (hw : Below w3.heap.size w3 w5) (ha : w3.heap.size ≤ gA) (hb : w3.heap.size ≤ gB) (hF : F.size = zA.size) (hE : FE.size = zB.size) :
    Blk ((w5.setCells gA 0 F.toList).setCells gB 0 FE.toList) gA 47 F ∧ Blk ((w5.setCells gA 0 F.toList).setCells gB 0 FE.toList) gB 134 FE ∧ POwnV ((w5.setCells gA 0 F.toList).setCells gB 0 FE.toList) B v S9 ∧ Below w3.heap.size w3 ((w5.setCells gA 0 F.toList).setCells gB 0 FE.toList) ∧ w3.heap.size ≤ gA ∧ w3.heap.size ≤ gB := by
  have g1 := grown_setCells gA F.toList 0 w5
  have b1 := hA.setAll F hF
  have b2 := hB.kept g1 (by intro e; injection e with e; exact hne e.symm)
  have o1 := ho.kept g1 (ho.ne hA (by decide))
  have l1 := hw.grown g1 hw.size (fun k hk => by cases hk; exact ha)
  have g2 := grown_setCells gB FE.toList 0 (w5.setCells gA 0 F.toList)
  exact ⟨b1.kept g2 (by intro e; injection e with e; exact hne e), b2.setAll FE hE, o1.kept g2 (o1.ne b2 (by decide)), l1.grown g2 l1.size (fun k hk => by cases hk; exact hb), ha, hb⟩
theorem blk_new (w : World) (T : TypeId) (c : Array Value) {g : Nat} (hg : w.heap.size = g) : Blk (w.alloc (.cells c T)) g T c := by subst hg; exact Blk.new w T c
theorem blk_two (w : World) (T1 T2 : TypeId) (c1 c2 : Array Value) : Blk ((w.alloc (.cells c1 T1)).alloc (.cells c2 T2)) (w.heap.size + 1) T2 c2 := blk_new _ _ _ (size_one _ _)
theorem fin_A (hA : Blk w5 gA 47 zA) (ho : POwnV w5 B v S9) (hw : Below w3.heap.size w3 w5) (ha : w3.heap.size ≤ gA) (hF : F.size = zA.size) (hE : FE.size = zB.size) :
    Blk (((w5.alloc (.cells zB 134)).setCells gA 0 F.toList).setCells w5.heap.size 0 FE.toList) gA 47 F ∧ Blk (((w5.alloc (.cells zB 134)).setCells gA 0 F.toList).setCells w5.heap.size 0 FE.toList) w5.heap.size 134 FE ∧ POwnV (((w5.alloc (.cells zB 134)).setCells gA 0 F.toList).setCells w5.heap.size 0 FE.toList) B v S9 ∧ Below w3.heap.size w3 (((w5.alloc (.cells zB 134)).setCells gA 0 F.toList).setCells w5.heap.size 0 FE.toList) ∧ w3.heap.size ≤ gA ∧ w3.heap.size ≤ w5.heap.size :=
  fin_both (hA.grow (new_alloc _ _)) (Blk.new w5 134 zB) (Nat.ne_of_lt hA.lt) (ho.alloc _) (below_alloc hw _) ha hw.size hF hE
theorem fin_B (hB : Blk w5 gB 134 zB) (ho : POwnV w5 B v S9) (hw : Below w3.heap.size w3 w5) (hb : w3.heap.size ≤ gB) (hE : FE.size = zB.size) :
    Blk ((w5.alloc (.cells F 47)).setCells gB 0 FE.toList) w5.heap.size 47 F ∧ Blk ((w5.alloc (.cells F 47)).setCells gB 0 FE.toList) gB 134 FE ∧ POwnV ((w5.alloc (.cells F 47)).setCells gB 0 FE.toList) B v S9 ∧ Below w3.heap.size w3 ((w5.alloc (.cells F 47)).setCells gB 0 FE.toList) ∧ w3.heap.size ≤ w5.heap.size ∧ w3.heap.size ≤ gB := by
  have b0 := hB.grow (new_alloc w5 (.cells F 47))
  have o0 := ho.alloc (.cells F 47)
  have g1 := grown_setCells gB FE.toList 0 (w5.alloc (.cells F 47))
  have l0 := below_alloc hw (.cells F 47)
  exact ⟨(Blk.new w5 47 F).kept g1 (by intro e; injection e with e; have := hB.lt; omega), b0.setAll FE hE, o0.kept g1 (o0.ne b0 (by decide)), l0.grown g1 l0.size (fun k hk => by cases hk; exact hb), hw.size, hb⟩
theorem fin_0 (ho : POwnV w5 B v S9) (hw : Below w3.heap.size w3 w5) :
    Blk ((w5.alloc (.cells F 47)).alloc (.cells FE 134)) w5.heap.size 47 F ∧ Blk ((w5.alloc (.cells F 47)).alloc (.cells FE 134)) (w5.heap.size + 1) 134 FE ∧ POwnV ((w5.alloc (.cells F 47)).alloc (.cells FE 134)) B v S9 ∧ Below w3.heap.size w3 ((w5.alloc (.cells F 47)).alloc (.cells FE 134)) ∧ w3.heap.size ≤ w5.heap.size ∧ w3.heap.size ≤ w5.heap.size + 1 :=
  ⟨(Blk.new _ _ _).grow (new_alloc _ _), blk_new _ _ _ (size_one _ _), (ho.alloc _).alloc _, below_alloc (below_alloc hw _) _, hw.size, Nat.le_succ_of_le hw.size⟩
theorem fin_1 (ho : POwnV w5 B v S9) (hw : Below w3.heap.size w3 w5) :
    Blk ((w5.alloc (.cells FE 134)).alloc (.cells F 47)) (w5.heap.size + 1) 47 F ∧ Blk ((w5.alloc (.cells FE 134)).alloc (.cells F 47)) w5.heap.size 134 FE ∧ POwnV ((w5.alloc (.cells FE 134)).alloc (.cells F 47)) B v S9 ∧ Below w3.heap.size w3 ((w5.alloc (.cells FE 134)).alloc (.cells F 47)) ∧ w3.heap.size ≤ w5.heap.size + 1 ∧ w3.heap.size ≤ w5.heap.size :=
  ⟨blk_new _ _ _ (size_one _ _), (Blk.new _ _ _).grow (new_alloc _ _), (ho.alloc _).alloc _, below_alloc (below_alloc hw _) _, Nat.le_succ_of_le hw.size, hw.size⟩
end
end Go.Proofs.YtnpaijbkhmnfpaaGreat

/- How do stands behind what was done. -/
namespace Go.Proofs.YtnpaijbkhmnfpaaGreat
open Go.RowKit Go.Maps

/-- how do stands behind what was done: events, the new registers and the effect are made -/
structure DoU (w : World) (G : Nat → Prop) (B B' q mg h l b gr gx : Nat) (id st : Int) (pc : Nat) (R : List Int) (vS : Value) (L : List Ln) (xs : List Int) (F E : Array Value) (pR : Option Addr) (S9 : List Int) (v : Value) (ev : List Ev) (wx : World) : Prop where
  bh : Blk wx h 56 (hrA id st pc R vS (.slice none 0 0) l)
  br : Blk wx gr 47 F
  bx : Blk wx gx 134 E
  lin : LinAt wx B l b L
  mem : Mem wx B' q mg xs
  ow : EOwn 41 wx w.heap.size v ev
  rn : PRow wx pR S9
  of : Off G pR S9.length
  kp : Keeps (fun j => j = h ∨ j = mg) w wx
  gh : G h
  gb : G b
  gl : ¬ G l
  gq : ¬ G q
  gm : G mg
  le : B ≤ h
  nb : h ≠ b
  nm : h ≠ mg
  nbm : b ≠ mg
  lt : ∀ j, G j → j < w.heap.size
  ger : w.heap.size ≤ gr
  gex : w.heap.size ≤ gx
section
variable {w wx wy : World} {G : Nat → Prop} {B B' q mg h l b gr gx : Nat} {id st : Int} {pc : Nat} {R : List Int} {vS : Value} {L : List Ln} {xs : List Int} {F E : Array Value} {pR : Option Addr} {S9 : List Int} {v : Value} {ev : List Ev}
theorem EOwn.keeps {T : TypeId} {B : Nat} {v : Value} {L : List Ev} {G' : Nat → Prop} (h0 : EOwn T wx B v L) (hk : Keeps G' wx wy) (hG : ∀ j, G' j → j < B) : EOwn T wy B v L := by
  refine ⟨h0.1, h0.2.imp id ?_⟩
  rintro ⟨g, cap, cur, e1, e2, e3, e4⟩
  exact ⟨g, cap, cur, e1, e2, (hk.block g (Array.getElem?_eq_some_iff.1 e3).1 (fun e => by have := hG g e; omega)).trans e3, e4⟩
theorem Blk.keeps {g : Nat} {T : TypeId} {c : Array Value} {G' : Nat → Prop} (hb : Blk wx g T c) (hk : Keeps G' wx wy) (hG : ¬ G' g) : Blk wy g T c := (hk.block g hb.lt hG).trans hb
theorem DoU.put (k : DoU w G B B' q mg h l b gr gx id st pc R vS L xs F E pR S9 v ev wx) {ys : List Int} (hm : Mem wy B' q mg ys) (hk : Keeps (fun j => j = mg) wx wy) : DoU w G B B' q mg h l b gr gx id st pc R vS L ys F E pR S9 v ev wy :=
  have hmg := k.lt _ k.gm
  ⟨k.bh.keeps hk k.nm, k.br.keeps hk (fun e => by have := k.ger; omega), k.bx.keeps hk (fun e => by have := k.gex; omega), k.lin.keeps hk (fun e => k.gl (e ▸ k.gm)) k.nbm, hm, k.ow.keeps hk (fun j e => by omega),
    k.rn.off k.of (hk.wider (fun j (e : j = mg) => e ▸ k.gm)), k.of, k.kp.trans' (hk.wider (fun j e => .inr e)), k.gh, k.gb, k.gl, k.gq, k.gm, k.le, k.nb, k.nm, k.nbm, k.lt, k.ger, k.gex⟩
theorem DoU.stat (k : DoU w G B B' q mg h l b gr gx id st pc R vS L xs F E pR S9 v ev wx) {st' : Int} (hb : Blk wy h 56 (hrA id st' pc R vS (.slice none 0 0) l)) (hk : Keeps (fun j => j = h) wx wy) : DoU w G B B' q mg h l b gr gx id st' pc R vS L xs F E pR S9 v ev wy :=
  have hh := k.lt _ k.gh
  ⟨hb, k.br.keeps hk (fun e => by have := k.ger; omega), k.bx.keeps hk (fun e => by have := k.gex; omega), k.lin.keeps hk (fun e => k.gl (e ▸ k.gh)) (fun e => k.nb e.symm), k.mem.keeps hk (fun e => k.gq (e ▸ k.gh)) (fun e => k.nm e.symm), k.ow.keeps hk (fun j e => by omega),
    k.rn.off k.of (hk.wider (fun j (e : j = h) => e ▸ k.gh)), k.of, k.kp.trans' (hk.wider (fun j e => .inl e)), k.gh, k.gb, k.gl, k.gq, k.gm, k.le, k.nb, k.nm, k.nbm, k.lt, k.ger, k.gex⟩
theorem DoU.last (k : DoU w G B B' q mg h l b gr gx id st pc R vS L xs F E pR S9 v ev wx) {pc' cR : Nat} {R9 : List Int} (hb : Blk wy h 56 (hrA id st pc' R9 (.slice pR S9.length cR) (.slice none 0 0) l)) (hk : Keeps (fun j => j = h) wx wy) :
    EOwn 41 wy w.heap.size v ev ∧ HAt wy G B h l b id ⟨st, pc', R9, S9, [], L⟩ ∧ Mem wy B' q mg xs ∧ Keeps (fun j => j = h ∨ j = mg) w wy :=
  have hh := k.lt _ k.gh
  ⟨k.ow.keeps hk (fun j e => by omega), ⟨⟨pR, cR, none, 0, hb, k.rn.off k.of (hk.wider (fun j (e : j = h) => e ▸ k.gh)), fun h => absurd h (Nat.lt_irrefl 0), k.of, Off.zero _ _⟩, k.lin.keeps hk (fun e => k.gl (e ▸ k.gh)) (fun e => k.nb e.symm), k.gh, k.gb, k.gl, k.le⟩,
    k.mem.keeps hk (fun e => k.gq (e ▸ k.gh)) (fun e => k.nm e.symm), k.kp.trans' (hk.wider (fun j e => .inl e))⟩
theorem DoU.below (k : DoU w G B B' q mg h l b gr gx id st pc R vS L xs F E pR S9 v ev wx) (hb : Below wx.heap.size wx wy) : DoU w G B B' q mg h l b gr gx id st pc R vS L xs F E pR S9 v ev wy :=
  ⟨k.bh.grow hb, k.br.grow hb, k.bx.grow hb, k.lin.below hb, k.mem.below hb, k.ow.below hb, k.rn.below hb, k.of, k.kp.thenB hb, k.gh, k.gb, k.gl, k.gq, k.gm, k.le, k.nb, k.nm, k.nbm, k.lt, k.ger, k.gex⟩
end
theorem Blk.drew1 {w : World} {g : Nat} {T : TypeId} {c : Array Value} (h : Blk w g T c) : Blk w.drew g T c := h
theorem hrA_all (id st pc pc' : Int) (r0 r1 r2 r3 r4 r5 r6 r7 s0 s1 s2 s3 s4 s5 s6 s7 : Int) (vS vR vH : Value) (l : Nat) :
    (((((((((((hrA id st pc [r0, r1, r2, r3, r4, r5, r6, r7] vS vH l).setIfInBounds 3 (.int .u32 s0)).setIfInBounds 4 (.int .u32 s1)).setIfInBounds 5 (.int .u32 s2)).setIfInBounds 6 (.int .u32 s3)).setIfInBounds 7 (.int .u32 s4)).setIfInBounds 8 (.int .u32 s5)).setIfInBounds 9 (.int .u32 s6)).setIfInBounds 10 (.int .u32 s7)).setIfInBounds 11 vR).setIfInBounds 2 (.int .u32 pc')) = hrA id st pc' [s0, s1, s2, s3, s4, s5, s6, s7] vR vH l := by kernel_rfl

end Go.Proofs.YtnpaijbkhmnfpaaGreat
