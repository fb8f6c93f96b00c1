/- FetchPlays: the program's things and the document's, side by side. -/
import Derived.Test.YteeeedphhaphpaaRefS
import Derived.Test.YteeeedphhaphpaaOpenS
namespace Go.Proofs.Yteeeedphhaphpaa
open Go.RowKit Go.Maps

theorem LRow.lines {w w' : World} {p : Option Addr} {L : List Ln} {b : Nat} (h : LRow w p L) (hb : ∃ es c, w.heap[b]? = some (.map es c)) (hk : Keeps (fun j => j = b) w w') : LRow w' p L := fun h0 => by
  obtain ⟨g, o, rfl, hc⟩ := h h0
  obtain ⟨es, c, e⟩ := hb
  have e0 : w.cell? ⟨g, o + 0 * 5 + 0, none⟩ = some (.int .i64 L[0].g) := hc 0 h0 0 (by omega)
  have hg : g ≠ b := fun e1 => by
    rw [e1] at e0
    simp [World.cell?, e] at e0
  have hlt : g < w.heap.size := cell_lt e0
  refine ⟨g, o, rfl, fun i hi j hj => ?_⟩
  rw [← hc i hi j hj]
  unfold World.cell?
  dsimp only
  rw [hk.block g hlt hg]
theorem LRow.mem {w w' : World} {p : Option Addr} {L : List Ln} {B q mg : Nat} {xs : List Int} (h : LRow w p L) (hm : Mem w B q mg xs) (hk : Keeps (fun j => j = mg) w w') : LRow w' p L := fun h0 => by
  obtain ⟨g, o, rfl, hc⟩ := h h0
  have e0 : w.cell? ⟨g, o + 0 * 5 + 0, none⟩ = some (.int .i64 L[0].g) := hc 0 h0 0 (by omega)
  have hg : g ≠ mg := fun e1 => by
    have e := hm.own.block rfl
    rw [e1] at e0
    simp only [World.cell?, e] at e0
    simp only [Nat.zero_mul, Nat.add_zero, List.getElem?_toArray, List.getElem?_map] at e0
    cases hx : xs[o]? with
    | none => simp [hx] at e0
    | some z => simp [hx] at e0
  have hlt : g < w.heap.size := cell_lt e0
  refine ⟨g, o, rfl, fun i hi j hj => ?_⟩
  rw [← hc i hi j hj]
  unfold World.cell?
  dsimp only
  rw [hk.block g hlt hg]
theorem Own.lines {w w' : World} {B g cap b : Nat} {xs : List Int} (h : Own w B g cap xs) (hb : ∃ es c, w.heap[b]? = some (.map es c)) (hk : Keeps (fun j => j = b) w w') : Own w' B g cap xs := by
  obtain ⟨cur, a1, a2, a3, a4, a5, a6⟩ := h.parts
  obtain ⟨es, c, e⟩ := hb
  exact Own.mk a1 (by rw [hk.block g h.lt (fun e1 => by have e1 : g = b := e1; rw [e1, e] at a2; cases a2)]; exact a2) a3 a4 a5 a6

structure PSt (w0 w : World) (q mg l b : Nat) (L : List Ln) (xs hv : List Int) (pw p8 ph pq : Option Addr) (cq : Nat) : Prop where
  st : FSt w0 w q mg l b L xs
  rw : Row w pw xs
  fw : Far pw mg
  rl : LRow w p8 L
  rh : Row w ph hv
  fh : Far ph mg
  rq : Row w pq hv
  fq : Far pq mg
  nq : pq = none → cq = 0
section
variable {w0 w w' : World} {q mg l b cq : Nat} {L : List Ln} {xs hv : List Int} {pw p8 ph pq : Option Addr}
theorem PSt.below (h : PSt w0 w q mg l b L xs hv pw p8 ph pq cq) (hb : Below w.heap.size w w') : PSt w0 w' q mg l b L xs hv pw p8 ph pq cq :=
  ⟨h.st.below hb, h.rw.below hb, h.fw, h.rl.below hb, h.rh.below hb, h.fh, h.rq.below hb, h.fq, h.nq⟩
theorem PSt.drewN (h : PSt w0 w q mg l b L xs hv pw p8 ph pq cq) (n : Nat) : PSt w0 (w.drewN n) q mg l b L xs hv pw p8 ph pq cq :=
  ⟨h.st.drewN n, h.rw.drewN n, h.fw, h.rl, h.rh.drewN n, h.fh, h.rq.drewN n, h.fq, h.nq⟩
theorem PSt.nothing (h : PSt w0 w q mg l b L xs hv pw p8 ph pq cq) : PSt w0 w q mg l b L xs [] pw p8 none none 0 :=
  ⟨h.st, h.rw, h.fw, h.rl, fun h => absurd h (Nat.lt_irrefl 0), far_none _, fun h => absurd h (Nat.lt_irrefl 0), far_none _, fun _ => rfl⟩
theorem PSt.flushed (h : PSt w0 w q mg l b L xs hv pw p8 ph pq cq) (hl : LinAt w' w0.heap.size l b []) (hk : Keeps (fun j => j = b) w w') : PSt w0 w' q mg l b [] xs hv pw none ph pq cq :=
  ⟨h.st.swap hl hk, h.rw.lines h.st.lin.isMap hk, h.fw, fun h => absurd h (Nat.lt_irrefl 0), h.rh.lines h.st.lin.isMap hk, h.fh, h.rq.lines h.st.lin.isMap hk, h.fq, h.nq⟩
end
theorem stp_ok {L : List Ln} {xs : List Int} {pc : Nat} {hv : List Int} {hold : Bool} (h : LnW L) (hx : Byt xs) (hp : pc ≤ 4294967295) : LnW (stpR L xs pc hv hold).L ∧ (stpR L xs pc hv hold).L.length ≤ L.length + 1 ∧ (stpR L xs pc hv hold).out.length ≤ 6 := by
  unfold stpR
  by_cases hd : doneB hv = true
  · rw [if_pos hd]; exact ⟨h, Nat.le_succ _, Nat.zero_le _⟩
  · rw [if_neg hd]
    have hd : doneB hv = false := by simpa using hd
    by_cases hx' : xs.length ≤ pc + hv.length
    · rw [if_pos hx']; exact ⟨h, Nat.le_succ _, Nat.zero_le _⟩
    · rw [if_neg hx']
      have hn6 : hv.length ≤ 6 := by
        by_cases h0 : hv.length = 0
        · omega
        · have := lt_of_not_done hd (by omega)
          have := (lenB_in (hv.getD 0 0)).2
          omega
      obtain ⟨-, t2, t3⟩ := takR_ok (hold := hold) h hx (g := (((pc + hv.length) / 4 : Nat) : Int)) (by unfold i64W; omega)
      exact ⟨t2, t3, (outF_more hd _ (Nat.mod_lt _ (by decide))).2.2⟩
theorem Scr.below {W w' : World} {p : Option Addr} {L : List OpD} (h : Scr W p L) (hb : Below W.heap.size W w') : Scr w' p L := fun h0 => by
  obtain ⟨b, o, rfl, hc⟩ := h h0
  refine ⟨b, o, rfl, fun i x hx => ?_⟩
  obtain ⟨⟨g0, g1, g2, g3⟩, hW⟩ := hc i x hx
  exact ⟨⟨(hb.cell (p := ⟨b, _, none⟩) (cell_lt g0)).trans g0, (hb.cell (p := ⟨b, _, none⟩) (cell_lt g1)).trans g1, (hb.cell (p := ⟨b, _, none⟩) (cell_lt g2)).trans g2, (hb.cell (p := ⟨b, _, none⟩) (cell_lt g3)).trans g3⟩, hW.row.below hb, hW.byt, hW.len, hW.le, hW.dm, hW.pm⟩
theorem LnW.f8 {L : List Ln} (h : LnW L) : ∀ x ∈ L, F8 x.f := fun x hx => (h x hx).2
theorem LnW.g64 {L : List Ln} (h : LnW L) : ∀ x ∈ L, i64W x.g := fun x hx => (h x hx).1
theorem byt_putA {xs ys : List Int} {a : Nat} (hf : a + ys.length ≤ xs.length) (hx : Byt xs) (hy : Byt ys) : Byt (putA xs a ys) := fun i => by
  unfold putA
  have hl : (xs.take a).length = a := by rw [List.length_take]; omega
  by_cases h1 : i < a
  · have e : (xs.take a ++ (ys ++ xs.drop (a + ys.length))).getD i 0 = xs.getD i 0 := by simp only [List.getD, List.getElem?_append_left (show i < (xs.take a).length by omega), List.getElem?_take_of_lt h1]
    rw [e]; exact hx i
  · by_cases h2 : i < a + ys.length
    · have e : (xs.take a ++ (ys ++ xs.drop (a + ys.length))).getD i 0 = ys.getD (i - a) 0 := by simp only [List.getD, List.getElem?_append_right (show (xs.take a).length ≤ i by omega), hl, List.getElem?_append_left (show i - a < ys.length by omega)]
      rw [e]; exact hy _
    · have e : (xs.take a ++ (ys ++ xs.drop (a + ys.length))).getD i 0 = xs.getD (a + ys.length + (i - a - ys.length)) 0 := by simp only [List.getD, List.getElem?_append_right (show (xs.take a).length ≤ i by omega), hl, List.getElem?_append_right (show ys.length ≤ i - a by omega), List.getElem?_drop]
      rw [e]; exact hx _

end Go.Proofs.Yteeeedphhaphpaa
