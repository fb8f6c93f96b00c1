/- Texts put together: BndM, BndN, BndF, BndI. -/
import Derived.Test.YtekggimgobeggaaGp
import Derived.Test.YtekggimgobeggaaGc
import Derived.Test.YtekggimgobeggaaGd
import Derived.Test.YtekggimgobeggaaJmp

/- A switch over sites: each step of it. Lists alone. -/
namespace Go.Proofs.Ytekggimgobeggaa
open Go.RowKit
variable {b : List Int} {T : List Si} {up : Bool} {nR d : Nat} {s : PS}

theorem st_clr (h : Inv b T up nR d s) (hp : s.ph = 6 ∨ (s.ph = 1 ∧ s.left = [])) : StI b T up nR s (clrP s) := by
  have hw : s.wr = 0 := h.w0 (by rcases hp with e | ⟨e, -⟩ <;> omega)
  have hln := h.ln
  have hbt : s.ph = 1 → s.bt = [] := fun e => by
    rcases hp with e6 | ⟨_, hl⟩
    · omega
    · exact (h.p1 e).2 hl
  have hov : ovr s.fs = true := h.ov (by rcases hp with e | ⟨e, -⟩ <;> omega)
  have hwt : wtg s = true → False := fun e => by
    unfold wtg at e
    rw [hov] at e
    simp at e
  have hsig : ∀ j, j < T.length → sig d s.bt.length s.ph s.nx s.wr j = if j < d + s.bt.length then 3 else 0 := fun j hj => by
    unfold sig lowS
    rw [hw]
    rcases hp with e | ⟨e, hl⟩
    · rw [e]; simp; split <;> (try split) <;> (try split) <;> omega
    · have := hbt e
      rw [e, this]; simp; split <;> (try split) <;> omega
  unfold clrP
  by_cases hl : s.left.length = 0
  · have hl' : s.left = [] := List.eq_nil_of_length_eq_zero hl
    rw [if_pos hl]
    refine ⟨rfl, ⟨T.length, ⟨by show T.length + 0 + 0 = _; omega, by show [] = T.drop (T.length + 0); simp, rfl, ?_, h.up_, Nat.zero_le _, h.fl, fun _ => hov, (fun e => by cases e), fun _ => hw, by show s.wr ≤ 0; omega, Nat.zero_le _, (fun e => by cases e), fun _ => ⟨rfl, rfl⟩⟩⟩, fun _ => ⟨?_, ⟨fun _ => rfl, fun _ => rfl⟩, ?_, ?_, ?_⟩, fun e => (hwt e).elim⟩
    · refine h.mem.congr fun j hj => ?_
      rw [hsig j hj]
      show _ = sig T.length 0 0 s.nx s.wr j
      unfold sig
      rw [if_pos hj, if_pos (by omega)]
    · show remS 0 _ 0 _ 0 + 1 = remS s.ph s.nx s.bt.length s.wr s.left.length
      rcases hp with e | ⟨e, -⟩
      · rw [e, hl]; rfl
      · rw [e, hl]; rfl
    · show remW 0 _ 0 _ 0 + 0 = remW s.ph s.nx s.bt.length s.wr s.left.length
      rcases hp with e | ⟨e, -⟩
      · rw [e, hl]; rfl
      · rw [e, hl, hbt e]; rfl
    · show remR 0 _ 0 0 + 0 = remR s.ph s.nx s.bt.length s.left.length
      rcases hp with e | ⟨e, -⟩
      · rw [e, hl]; rfl
      · rw [e, hl]; rfl
    · show (⟨s.ct.si, s.ct.wr, s.ct.ro, s.ct.st + 1, s.ct.wa⟩ : Ct) = ⟨s.ct.si, s.ct.wr + (0 : Nat), s.ct.ro + (0 : Nat), s.ct.st + 1, s.ct.wa⟩
      simp
  · have e6 : s.ph = 6 := by
      rcases hp with e | ⟨e, hl2⟩
      · exact e
      · rw [hl2] at hl; exact absurd rfl hl
    rw [if_neg hl]
    refine ⟨rfl, ⟨d + s.bt.length, ⟨by show d + s.bt.length + 0 + s.left.length = _; omega, h.lf, rfl, ?_, h.up_, Nat.zero_le _, h.fl, fun _ => hov, fun _ => ⟨by show 0 < 4; omega, fun e => absurd (by rw [show s.left = [] from e]; rfl) hl⟩, fun _ => hw, by show s.wr ≤ 0; omega, by show 1 ≤ 6; omega, (fun e => by cases e), (fun e => by cases e)⟩⟩, fun _ => ⟨?_, ⟨fun e => (by cases e), fun e => (by cases e)⟩, ?_, ?_, ?_⟩, fun e => (hwt e).elim⟩
    · refine h.mem.congr fun j hj => ?_
      rw [hsig j hj]
      show _ = sig (d + s.bt.length) 0 1 s.nx s.wr j
      unfold sig lowS
      rw [hw]
      simp
      split <;> (try split) <;> omega
    · show remS 1 _ 0 _ s.left.length + 1 = remS s.ph s.nx s.bt.length s.wr s.left.length
      rw [e6]
      unfold remS aft
      simp
      rw [if_neg (by intro e; rw [e] at hl; exact hl rfl)]
      omega
    · show remW 1 _ 0 _ s.left.length + 0 = remW s.ph s.nx s.bt.length s.wr s.left.length
      rw [e6]
      simp [remW]
    · show remR 1 _ 0 s.left.length + 0 = remR s.ph s.nx s.bt.length s.left.length
      rw [e6]
      unfold remR
      simp
      rw [if_neg (by intro e; rw [e] at hl; exact hl rfl)]
      omega
    · show (⟨s.ct.si, s.ct.wr, s.ct.ro, s.ct.st + 1, s.ct.wa⟩ : Ct) = ⟨s.ct.si, s.ct.wr + (0 : Nat), s.ct.ro + (0 : Nat), s.ct.st + 1, s.ct.wa⟩
      simp
/-- a site behind all of a batch is added at its end -/
theorem add_end (hT : TOk b T) (h : Inv b T up nR d s) (m4 : s.bt.length < 4) (hj : d + s.bt.length < T.length) : addR s.bt T[d + s.bt.length].at_ T[d + s.bt.length].to_ up = s.bt ++ [bx up T[d + s.bt.length]] := by
  have h0 := hT.srt.lo _ hj
  have h1 := hT.srt.hi _ hj
  have h2 := hT.to_ _ hj
  have hgap : ∀ i (hi : i < s.bt.length), s.bt[i].at_ + 5 ≤ T[d + s.bt.length].at_ := fun i hi => by
    obtain ⟨hj2, e⟩ := h.at_ i hi
    rw [List.getElem?_eq_getElem hi] at e
    injection e with e
    rw [e]
    exact hT.srt.gap (d + i) (d + s.bt.length) hj (by omega)
  have hn : nearB s.bt T[d + s.bt.length].at_ = false := by
    cases hc : nearB s.bt T[d + s.bt.length].at_
    · rfl
    · obtain ⟨i, hi, e1, e2⟩ := (nearB_iff _ _).1 hc
      have := hgap i hi
      omega
  have hb : badB T[d + s.bt.length].at_ T[d + s.bt.length].to_ = false := by
    unfold badB
    exact decide_eq_false (by omega)
  have he : addE s.bt T[d + s.bt.length].at_ T[d + s.bt.length].to_ = 0 := by
    unfold addE
    rw [hb, hn, if_neg (by decide), if_neg (by decide), if_neg (by omega)]
  unfold addR
  rw [if_pos he]
  refine insL_end _ _ ?_
  cases hc : s.bt.any (fun y => decide ((⟨dirK up, T[d + s.bt.length].at_, T[d + s.bt.length].to_⟩ : Si).at_ < y.at_))
  · rfl
  · rw [List.any_eq_true] at hc
    obtain ⟨y, hy, e⟩ := hc
    obtain ⟨i, hi, rfl⟩ := List.getElem_of_mem hy
    have := hgap i hi
    have e2 : T[d + s.bt.length].at_ < s.bt[i].at_ := by simpa using e
    omega
theorem st_gat (hT : TOk b T) (h : Inv b T up nR d s) (hp : s.ph = 1) : StI b T up nR s (gatP s) := by
  unfold gatP
  have hln := h.ln
  have hlf := h.lf
  have hov : ovr s.fs = true := h.ov (by omega)
  have hwt : wtg s = true → False := fun e => by
    unfold wtg at e
    rw [hov] at e
    simp at e
  have hw : s.wr = 0 := h.w0 (by omega)
  have m4 := (h.p1 hp).1
  split
  · rename_i hl
    exact st_clr h (.inr ⟨hp, hl⟩)
  · rename_i x l hl
    have hll : s.left.length = l.length + 1 := by rw [hl]; rfl
    have hj : d + s.bt.length < T.length := by omega
    have hx : T[d + s.bt.length] = x ∧ l = T.drop (d + s.bt.length + 1) := by
      rw [List.drop_eq_getElem_cons hj, hl] at hlf
      injection hlf with e1 e2
      exact ⟨e1.symm, e2⟩
    have ha := add_end hT h m4 hj
    rw [hx.1, ← h.up_] at ha
    rw [h.up_] at ha
    have hlen : (addR s.bt x.at_ x.to_ s.up).length = s.bt.length + 1 := by rw [h.up_, ha]; simp
    have hph : ∀ q : Nat, q = (if (addR s.bt x.at_ x.to_ s.up).length = 4 ∨ l.length = 0 then 2 else 1) → (q = 2 ∧ (s.bt.length + 1 = 4 ∨ l.length = 0)) ∨ (q = 1 ∧ s.bt.length + 1 < 4 ∧ l.length ≠ 0) := fun q hq => by
      rw [hlen] at hq
      split at hq
      · exact .inl ⟨hq, by assumption⟩
      · exact .inr ⟨hq, by omega, by omega⟩
    generalize (if (addR s.bt x.at_ x.to_ s.up).length = 4 ∨ l.length = 0 then 2 else 1) = q at hph ⊢
    have hq := hph q rfl
    clear hph
    rw [h.up_, ha] at hlen ⊢
    refine ⟨rfl, ⟨d, ⟨?_, ?_, ?_, ?_, rfl, ?_, h.fl, fun _ => hov, ?_, fun _ => hw, ?_, ?_, ?_, fun e => absurd (show q = 0 from e) (by rcases hq with ⟨e, -⟩ | ⟨e, -⟩ <;> omega)⟩⟩, fun _ => ⟨?_, ?_, ?_, ?_, ?_⟩, fun e => (hwt e).elim⟩
    · show d + (s.bt ++ [bx up x]).length + l.length = _
      rw [hlen]; omega
    · show l = T.drop (d + (s.bt ++ [bx up x]).length)
      rw [hlen, hx.2]; congr 1
    · show s.bt ++ [bx up x] = ((T.drop d).take (s.bt ++ [bx up x]).length).map (bx up)
      rw [hlen, List.take_succ_eq_append_getElem (by rw [List.length_drop]; omega), List.map_append, ← h.bt]
      congr 1
      rw [List.getElem_drop]
      show [bx up x] = [bx up T[d + s.bt.length]]
      rw [hx.1]
    · refine h.mem.congr fun j hj => ?_
      show _ = sig d (s.bt ++ [bx up x]).length q s.nx s.wr j
      rw [hlen, hp]
      unfold sig lowS
      rcases hq with ⟨rfl, -⟩ | ⟨rfl, -⟩ <;> (rw [hw]; simp; split <;> (try split) <;> (try split) <;> (try split) <;> omega)
    · show (s.bt ++ [bx up x]).length ≤ 4
      rw [hlen]; omega
    · intro e
      have e' : q = 1 := e
      rcases hq with ⟨e2, -⟩ | ⟨-, h4, hl0⟩
      · omega
      · exact ⟨by show (s.bt ++ [bx up x]).length < 4; rw [hlen]; exact h4, fun e => absurd (by rw [show l = [] from e]; rfl) hl0⟩
    · show s.wr ≤ _
      omega
    · show q ≤ 6
      rcases hq with ⟨e, -⟩ | ⟨e, -⟩ <;> omega
    · intro e
      have e' : q = 5 := e
      rcases hq with ⟨e, -⟩ | ⟨e, -⟩ <;> omega
    · show remS q s.nx (s.bt ++ [bx up x]).length s.wr l.length + 1 = remS s.ph s.nx s.bt.length s.wr s.left.length
      rw [hlen, hp, hll, hw]
      rcases hq with ⟨rfl, h5⟩ | ⟨rfl, h4, hl0⟩
      · unfold remS aft
        simp
        omega
      · unfold remS aft
        simp
        rw [if_neg (by intro e; rw [e] at hl0; exact hl0 rfl)]
        omega
    · show (false = true ↔ q = 0)
      rcases hq with ⟨rfl, -⟩ | ⟨rfl, -⟩ <;> simp
    · show remW q s.nx (s.bt ++ [bx up x]).length s.wr l.length + 0 = remW s.ph s.nx s.bt.length s.wr s.left.length
      rw [hlen, hp, hll, hw]
      rcases hq with ⟨rfl, -⟩ | ⟨rfl, -⟩
      · unfold remW; simp; omega
      · unfold remW; simp; omega
    · show remR q s.nx (s.bt ++ [bx up x]).length l.length + 0 = remR s.ph s.nx s.bt.length s.left.length
      rw [hlen, hp, hll]
      rcases hq with ⟨rfl, h5⟩ | ⟨rfl, h4, hl0⟩
      · unfold remR
        simp
        omega
      · unfold remR
        simp
        rw [if_neg (by intro e; rw [e] at hl0; exact hl0 rfl)]
        omega
    · show (⟨s.ct.si, s.ct.wr, s.ct.ro, s.ct.st + 1, s.ct.wa⟩ : Ct) = ⟨s.ct.si, s.ct.wr + (0 : Nat), s.ct.ro + (0 : Nat), s.ct.st + 1, s.ct.wa⟩
      simp
theorem st_wai (h : Inv b T up nR d s) (hp : s.ph = 5) : StI b T up nR s (waiP s) := by
  have hw : s.wr = 0 := h.w0 (by omega)
  unfold waiP
  by_cases ho : ovr s.fs = true
  · rw [if_pos ho]
    have hwt : wtg s = true → False := fun e => by
      unfold wtg at e
      rw [ho] at e
      simp at e
    have hnx := h.nx hp
    refine ⟨rfl, ⟨d, ⟨h.ln, h.lf, h.bt, ?_, h.up_, h.m4, h.fl, fun _ => ho, ?_, fun _ => hw, h.wm, ?_, ?_, fun e => absurd (show s.nx = 0 from e) (by omega)⟩⟩, fun _ => ⟨?_, ?_, ?_, ?_, ?_⟩, fun e => (hwt e).elim⟩
    · refine h.mem.congr fun j hj => ?_
      show _ = sig d s.bt.length s.nx s.nx s.wr j
      unfold sig lowS
      rw [hp]
      rcases hnx with e | e | e <;> (rw [e]; simp)
    · intro e
      have e' : s.nx = 1 := e
      omega
    · show s.nx ≤ 6
      omega
    · intro e
      have e' : s.nx = 5 := e
      omega
    · show remS s.nx s.nx s.bt.length s.wr s.left.length + 1 = remS s.ph s.nx s.bt.length s.wr s.left.length
      rw [hp, hw]
      unfold remS
      rcases hnx with e | e | e <;> (rw [e]; simp; omega)
    · show (false = true ↔ s.nx = 0)
      rcases hnx with e | e | e <;> (rw [e]; simp)
    · show remW s.nx s.nx s.bt.length s.wr s.left.length + 0 = remW s.ph s.nx s.bt.length s.wr s.left.length
      rw [hp, hw]
      unfold remW
      rcases hnx with e | e | e <;> (rw [e]; simp; try omega)
    · show remR s.nx s.nx s.bt.length s.left.length + 0 = remR s.ph s.nx s.bt.length s.left.length
      rw [hp]
      unfold remR
      rcases hnx with e | e | e <;> (rw [e]; simp)
    · show (⟨s.ct.si, s.ct.wr, s.ct.ro, s.ct.st + 1, s.ct.wa⟩ : Ct) = ⟨s.ct.si, s.ct.wr + (0 : Nat), s.ct.ro + (0 : Nat), s.ct.st + 1, s.ct.wa⟩
      simp
  · rw [if_neg ho]
    have hwt : wtg s = false → False := fun e => by
      unfold wtg at e
      rw [hp] at e
      simp at e
      exact ho e
    exact ⟨rfl, ⟨d, ⟨h.ln, h.lf, h.bt, h.mem, h.up_, h.m4, h.fl, fun e => absurd hp e, fun e => h.p1 e, fun e => h.w0 e, h.wm, h.ph, h.nx, fun e => h.z0 e⟩⟩, fun e => (hwt e).elim, fun _ => rfl⟩
theorem st_wri (hT : TOk b T) (h : Inv b T up nR d s) (hp : s.ph = 2 ∨ s.ph = 3 ∨ s.ph = 4) (rs : List Bool) (hrs : rs.length = nR) : StI b T up nR s (wriP s rs) := by
  have hov : ovr s.fs = true := h.ov (by omega)
  have hwt : wtg s = true → False := fun e => by
    unfold wtg at e
    rw [hov] at e
    simp at e
  have hwm := h.wm
  unfold wriP
  by_cases hlt : s.wr < s.bt.length
  · obtain ⟨hj, e⟩ := h.at_ s.wr hlt
    rw [e]
    dsimp only
    have hlo := hT.srt.lo _ hj
    have hfit := hT.fit _ hj
    obtain ⟨p1, p2, p3, p4, p5⟩ := bw_step b (bx up T[d + s.wr]) s.ph hp hlo hfit
    rw [← h.mem.len] at p5
    rw [if_pos ⟨p4, p5⟩]
    have hlow : ∀ nx, lowS s.ph nx = lowS s.ph 0 := fun nx => by
      unfold lowS
      rcases hp with e | e | e <;> (rw [e]; rfl)
    have hs0 : sig d s.bt.length s.ph s.nx s.wr (d + s.wr) = lowS s.ph 0 := by
      unfold sig
      rw [if_neg (by omega), if_pos (by omega), if_neg (by omega), hlow s.nx]
      rfl
    have hm := h.mem.write hT (d + s.wr) hj (if s.ph = 3 then 1 else 0) (pieceP s.ph (bx up T[d + s.wr])).2 p2 (lowS s.ph 0 + 1) (by rw [hs0]; exact p3)
    refine ⟨rfl, ⟨d, ⟨h.ln, h.lf, h.bt, ?_, h.up_, h.m4, h.fl, fun _ => hov, fun e => ?_, fun e => absurd (show 2 ≤ s.ph ∧ s.ph ≤ 4 by omega) e, ?_, h.ph, fun e => ?_, fun e => absurd (show s.ph = 0 from e) (by omega)⟩⟩, fun _ => ⟨?_, ?_, ?_, ?_, ?_⟩, fun e => (hwt e).elim⟩
    · show MemS b T up (sig d s.bt.length s.ph s.nx (s.wr + 1)) (putA s.xs (pieceP s.ph (bx up T[d + s.wr])).1.toNat _)
      rw [p1]
      refine MemS.congr hm fun j hj => ?_
      unfold sig
      rw [hlow s.nx]
      by_cases ej : j = d + s.wr
      · subst ej
        rw [if_pos rfl, if_neg (by omega), if_pos (by omega), if_pos (by omega)]
      · rw [if_neg ej]
        split
        · rfl
        · split
          · congr 1
            by_cases hc : j < d + s.wr
            · rw [if_pos hc, if_pos (by omega)]
            · rw [if_neg hc, if_neg (by omega)]
          · rfl
    · have e' : s.ph = 1 := e
      omega
    · show s.wr + 1 ≤ s.bt.length
      omega
    · have e' : s.ph = 5 := e
      omega
    · show remS s.ph s.nx s.bt.length (s.wr + 1) s.left.length + 1 = remS s.ph s.nx s.bt.length s.wr s.left.length
      unfold remS
      rcases hp with e | e | e <;> (rw [e]; simp; omega)
    · show (false = true ↔ s.ph = 0)
      rcases hp with e | e | e <;> (rw [e]; simp)
    · show remW s.ph s.nx s.bt.length (s.wr + 1) s.left.length + 1 = remW s.ph s.nx s.bt.length s.wr s.left.length
      unfold remW
      rcases hp with e | e | e <;> (rw [e]; simp; omega)
    · rfl
    · show (⟨s.ct.si, s.ct.wr + 1, s.ct.ro, s.ct.st + 1, s.ct.wa⟩ : Ct) = ⟨s.ct.si, s.ct.wr + (1 : Nat), s.ct.ro + (0 : Nat), s.ct.st + 1, s.ct.wa⟩
      simp
  · have hwe : s.wr = s.bt.length := by omega
    rw [List.getElem?_eq_none (by omega)]
    dsimp only
    unfold sndP
    rw [if_pos ⟨by rw [hrs, h.fl], hov⟩]
    refine ⟨rfl, ⟨d, ⟨h.ln, h.lf, h.bt, ?_, h.up_, h.m4, hrs, fun e => absurd rfl e, fun e => ?_, fun _ => rfl, Nat.zero_le _, by show 5 ≤ 6; omega, fun _ => ?_, (fun e => by cases e)⟩⟩, fun _ => ⟨?_, ?_, ?_, ?_, ?_⟩, fun e => (hwt e).elim⟩
    · refine h.mem.congr fun j hj => ?_
      show _ = sig d s.bt.length 5 (nxP s.ph) 0 j
      rw [hwe]
      unfold sig lowS nxP
      rcases hp with e | e | e <;> (rw [e]; simp; split <;> (try split) <;> omega)
    · cases e
    · show nxP s.ph = 3 ∨ nxP s.ph = 4 ∨ nxP s.ph = 6
      unfold nxP
      rcases hp with e | e | e <;> (rw [e]; simp)
    · show remS 5 (nxP s.ph) s.bt.length 0 s.left.length + 1 = remS s.ph s.nx s.bt.length s.wr s.left.length
      rw [hwe]
      unfold remS nxP
      rcases hp with e | e | e <;> (rw [e]; simp; try omega)
    · show (false = true ↔ 5 = 0)
      simp
    · show remW 5 (nxP s.ph) s.bt.length 0 s.left.length + 0 = remW s.ph s.nx s.bt.length s.wr s.left.length
      rw [hwe]
      unfold remW nxP
      rcases hp with e | e | e <;> (rw [e]; simp; try omega)
    · show remR 5 (nxP s.ph) s.bt.length s.left.length + 1 = remR s.ph s.nx s.bt.length s.left.length
      unfold remR nxP
      rcases hp with e | e | e <;> (rw [e]; simp; try omega)
    · show (⟨s.ct.si, s.ct.wr, s.ct.ro + 1, s.ct.st + 1, s.ct.wa⟩ : Ct) = ⟨s.ct.si, s.ct.wr + (0 : Nat), s.ct.ro + (1 : Nat), s.ct.st + 1, s.ct.wa⟩
      simp
/-- a step in the midst of a switch -/
theorem st_any (hT : TOk b T) (h : Inv b T up nR d s) (h0 : s.ph ≠ 0) (rs : List Bool) (hrs : rs.length = nR) : StI b T up nR s (stpP s rs) := by
  have hp := h.ph
  unfold stpP
  rw [if_neg h0]
  by_cases h1 : s.ph = 1
  · rw [if_pos h1]; exact st_gat hT h h1
  · rw [if_neg h1]
    by_cases h5 : s.ph = 5
    · rw [if_pos h5]; exact st_wai h h5
    · rw [if_neg h5]
      by_cases h6 : s.ph = 6
      · rw [if_pos h6]; exact st_clr h (.inl h6)
      · rw [if_neg h6]; exact st_wri hT h (by omega) rs hrs
/-- harts take their syncs -/
theorem Inv.takes (h : Inv b T up nR d s) (fs : List Bool) (hl : fs.length = nR) (ho : ovr s.fs = true → ovr fs = true) : Inv b T up nR d { s with fs := fs } :=
  ⟨h.ln, h.lf, h.bt, h.mem, h.up_, h.m4, hl, fun e => ho (h.ov e), h.p1, h.w0, h.wm, h.ph, h.nx, h.z0⟩
end Go.Proofs.Ytekggimgobeggaa

/- A switch over sites: its beginning, its end, how long it takes. Lists alone. -/
namespace Go.Proofs.Ytekggimgobeggaa
open Go.RowKit
variable {b : List Int} {T : List Si} {up : Bool} {nR d : Nat} {s : PS}

theorem mayF_ok (hT : TOk b T) (hr : ∀ x ∈ T, x.to_ = x.at_ + 9) : ∀ k, k ≤ T.length → ∀ e : Int, (∀ h : k < T.length, e ≤ T[k].at_) → mayF b.length e (T.drop k) = true := by
  intro k hk
  induction hn : T.length - k generalizing k with
  | zero =>
    intro e _
    rw [List.drop_eq_nil_of_le (by omega)]; rfl
  | succ n ih =>
    intro e he
    have hkl : k < T.length := by omega
    have h1 := hT.fit k hkl
    have h2 := hT.to_ k hkl
    have h3 := hr _ (List.getElem_mem hkl)
    have h4 := he hkl
    rw [List.drop_eq_getElem_cons hkl, mayF, if_neg (by omega)]
    refine ih (k + 1) (by omega) (by omega) _ fun h => ?_
    exact hT.srt.gap k (k + 1) h (by omega)
/-- the state behind Start -/
def begP (s : PS) (T : List Si) (up : Bool) : PS := { s with left := T, up := up, ph := 1, ct := ⟨T.length, 0, 0, 1, 0⟩ }
theorem strP_ok (hT : TOk b T) (hr : ∀ x ∈ T, x.to_ = x.at_ + 9) (h0 : s.ph = 0) (hx : s.xs.length = b.length) : strP s T up = (begP s T up, 0) := by
  unfold strP
  have hm := mayF_ok hT hr 0 (Nat.zero_le _) 0 (fun h => hT.srt.lo 0 h)
  rw [List.drop_zero] at hm
  rw [if_neg (by omega), hx, if_pos hm]
  rfl
theorem inv_beg (hb : s.bt = []) (hf : s.fs.length = nR) (ho : ovr s.fs = true) (hw : s.wr = 0) : Inv s.xs T up nR 0 (begP s T up) := by
  have hbl : (begP s T up).bt.length = 0 := by show s.bt.length = 0; rw [hb]; rfl
  refine ⟨by rw [hbl]; show 0 + 0 + T.length = _; omega, by rw [hbl]; rfl, by show s.bt = _; rw [hbl, hb]; rfl, ?_, rfl, by rw [hbl]; decide, hf, fun _ => ho, fun _ => ⟨by rw [hbl]; decide, fun _ => hb⟩, fun _ => hw, by rw [hbl]; show s.wr ≤ 0; omega, by show 1 ≤ 6; decide, (fun e => by cases e), (fun e => by cases e)⟩
  rw [hbl]
  refine ⟨rfl, fun j hj t ht => ?_, fun i _ => rfl⟩
  show s.xs[_]? = (bw s.xs (sig 0 0 1 s.nx s.wr j) (bx up T[j]))[t]?
  have e : sig 0 0 1 s.nx s.wr j = 0 := by unfold sig; rw [if_neg (by omega), if_neg (by omega)]
  rw [e]
  show _ = ((s.xs.drop T[j].at_.toNat).take 5)[t]?
  rw [List.getElem?_take, if_pos ht, List.getElem?_drop]
theorem beg_rem (hb : s.bt = []) (hl : T.length ≤ 20) : remS' (begP s T up) ≤ 11 * T.length + 1 ∧ remS' (begP s T up) ≤ 221 ∧ remW' (begP s T up) = 3 * T.length ∧ remR' (begP s T up) = 3 * ((T.length + 3) / 4) := by
  have hbl : (begP s T up).bt.length = 0 := by show s.bt.length = 0; rw [hb]; rfl
  unfold remS' remW' remR'
  rw [hbl]
  show remS 1 _ 0 _ T.length ≤ _ ∧ remS 1 _ 0 _ T.length ≤ _ ∧ remW 1 _ 0 _ T.length = _ ∧ remR 1 _ 0 T.length = _
  by_cases e : T.length = 0
  · rw [e]; exact ⟨Nat.le_of_eq rfl, (by show 1 ≤ 221; decide), rfl, rfl⟩
  · obtain ⟨n, hn⟩ : ∃ n, T.length = n := ⟨_, rfl⟩
    rw [hn] at e hl ⊢
    have e1 : remS 1 s.nx 0 s.wr n = min 4 n + (3 * (0 + min 4 n) + 7) + aft (n - min 4 n) := by
      unfold remS
      rw [if_neg (by decide), if_pos rfl, if_neg e]
    have e2 : remR 1 s.nx 0 n = 3 + 3 * ((n - min 4 n + 3) / 4) := by
      unfold remR
      rw [if_neg (by decide), if_pos rfl, if_neg e]
    have e3 : remW 1 s.nx 0 s.wr n = 3 * (0 + n) := by
      unfold remW
      rw [if_neg (by decide), if_pos rfl]
    refine ⟨Nat.le_trans (Nat.le_of_eq e1) ?_, Nat.le_trans (Nat.le_of_eq e1) ?_, e3.trans (by omega), e2.trans ?_⟩
    · unfold aft; omega
    · unfold aft; omega
    · omega
theorem rem_pos (h : Inv b T up nR d s) (h0 : s.ph ≠ 0) : 1 ≤ remS' s := by
  have hp := h.ph
  unfold remS' remS
  rw [if_neg h0]
  split
  · split <;> omega
  · split
    · omega
    · split
      · omega
      · split
        · omega
        · split
          · split
            · omega
            · split <;> omega
          · omega
theorem rem_zero (h0 : s.ph = 0) : remS' s = 0 ∧ remW' s = 0 ∧ remR' s = 0 := by
  unfold remS' remW' remR' remS remW remR
  rw [h0]; simp
/-- what the place i holds in the end, by the first k sites -/
def wantF (b : List Int) (T : List Si) (up : Bool) (i : Nat) (k : Nat) : Int := (T.take k).foldl (fun acc x => if x.at_ ≤ (i : Int) ∧ (i : Int) < x.at_ + 5 then (newB (bx up x)).getD ((i : Int) - x.at_).toNat 0 else acc) (b.getD i 0)
theorem wantF_succ (k : Nat) (hk : k < T.length) (i : Nat) : wantF b T up i (k + 1) = if T[k].at_ ≤ (i : Int) ∧ (i : Int) < T[k].at_ + 5 then (newB (bx up T[k])).getD ((i : Int) - T[k].at_).toNat 0 else wantF b T up i k := by
  unfold wantF
  rw [List.take_succ_eq_append_getElem hk, List.foldl_append]
  rfl
theorem wantF_none (i : Nat) : ∀ k, k ≤ T.length → (∀ j (hj : j < T.length), j < k → ¬ (T[j].at_ ≤ (i : Int) ∧ (i : Int) < T[j].at_ + 5)) → wantF b T up i k = b.getD i 0
  | 0, _, _ => rfl
  | k + 1, hk, h => by
    rw [wantF_succ k (by omega), if_neg (h k (by omega) (by omega))]
    exact wantF_none i k (by omega) fun j hj hjk => h j hj (by omega)
theorem wantF_one (hT : TOk b T) (i j : Nat) (hj : j < T.length) (h : T[j].at_ ≤ (i : Int) ∧ (i : Int) < T[j].at_ + 5) : ∀ k, k ≤ T.length → j < k → wantF b T up i k = (newB (bx up T[j])).getD ((i : Int) - T[j].at_).toNat 0
  | 0, _, hk => absurd hk (by omega)
  | k + 1, hk, hjk => by
    rw [wantF_succ k (by omega)]
    by_cases e : j = k
    · subst e; rw [if_pos h]
    · have := hT.srt.gap j k (by omega) (by omega)
      rw [if_neg (by omega)]
      exact wantF_one hT i j hj h k (by omega) (by omega)
/-- memory in the end -/
theorem inv_end {b2 : List Int} (hT : TOk b T) (h : Inv b2 T up nR d s) (h0 : s.ph = 0) (hl : b2.length = b.length) (hoff : ∀ i, (∀ j (hj : j < T.length), i < T[j].at_.toNat ∨ T[j].at_.toNat + 5 ≤ i) → b2[i]? = b[i]?) :
    s.xs.length = b.length ∧ (∀ i, (∀ j (hj : j < T.length), i < T[j].at_.toNat ∨ T[j].at_.toNat + 5 ≤ i) → s.xs[i]? = b[i]?) ∧ ∀ i, i < b.length → s.xs[i]? = some (wantF b T up i T.length) := by
  obtain ⟨z1, z2⟩ := h.z0 h0
  have hd : d = T.length := by have := h.ln; rw [z1, z2] at this; simpa using this
  have hsig : ∀ j, j < T.length → sig d s.bt.length s.ph s.nx s.wr j = 3 := fun j hj => by unfold sig; rw [if_pos (by omega)]
  have hoff2 : ∀ i, (∀ j (hj : j < T.length), i < T[j].at_.toNat ∨ T[j].at_.toNat + 5 ≤ i) → s.xs[i]? = b[i]? := fun i hi => (h.mem.off i hi).trans (hoff i hi)
  refine ⟨by rw [h.mem.len, hl], hoff2, fun i hi => ?_⟩
  by_cases hex : ∃ j, ∃ hj : j < T.length, T[j].at_ ≤ (i : Int) ∧ (i : Int) < T[j].at_ + 5
  · obtain ⟨j, hj, hij⟩ := hex
    rw [wantF_one hT i j hj hij _ (Nat.le_refl _) hj]
    have h1 := h.mem.at_ j hj (i - T[j].at_.toNat) (by omega)
    rw [hsig j hj] at h1
    have e1 : T[j].at_.toNat + (i - T[j].at_.toNat) = i := by have := hT.srt.lo j hj; omega
    rw [e1] at h1
    have e2 : bw b2 3 (bx up T[j]) = newB (bx up T[j]) := rfl
    have e3 : ((i : Int) - T[j].at_).toNat = i - T[j].at_.toNat := by have := hT.srt.lo j hj; omega
    rw [h1, e2, e3, List.getD, List.getElem?_eq_getElem (by rw [nB_len]; omega)]
    rfl
  · have hno : ∀ j (hj : j < T.length), ¬ (T[j].at_ ≤ (i : Int) ∧ (i : Int) < T[j].at_ + 5) := fun j hj e => hex ⟨j, hj, e⟩
    rw [wantF_none i _ (Nat.le_refl _) fun j hj _ => hno j hj]
    rw [hoff2 i fun j hj => by have := hno j hj; have := hT.srt.lo j hj; omega]
    rw [List.getD, List.getElem?_eq_getElem hi]
    rfl
end Go.Proofs.Ytekggimgobeggaa

/- The law's new instruction of a site; the state of the walk; harts take their syncs. -/
namespace Go.Proofs.Ytekggimgobeggaa
open Go.RowKit

set_option maxHeartbeats 4000000 in
theorem fresh_any (x : Si) (up : Bool) (w : World) (h1 : 0 ≤ x.at_ ∧ x.at_ ≤ 65531) (h2 : 0 ≤ x.to_ ∧ x.to_ ≤ 65536) : Calls Try.prog 38 #[.agg #[.int .i64 x.key, .int .i64 x.at_, .int .i64 x.to_], .bool up] w fun e w' => ∃ g cap, e = .returned (.slice (some ⟨g, 0, none⟩) 5 cap) ∧ Own w' w.heap.size g cap (newB (bx up x)) ∧ Below w.heap.size w w' := by
  obtain ⟨sk, sa, st⟩ := x
  dsimp only at h1 h2
  have w1 : IntKind.i64.wrap (st - sa) = st - sa := by rw [IntKind.wrap_i64]; omega
  have w2 : IntKind.i64.wrap (st - sa - 5) = st - sa - 5 := by rw [IntKind.wrap_i64]; omega
  have w3 : IntKind.i32.wrap (st - sa - 5) = st - sa - 5 := by rw [IntKind.wrap_i32]; omega
  have HB0 := Hid.in (new_alloc w (.cells #[.int .i64 sk, .int .i64 sa, .int .i64 st] 48))
  have HA0 := Hid.in (Blk.new w 48 #[.int .i64 sk, .int .i64 sa, .int .i64 st])
  cases up with
  | true =>
    have HN : Hid (newB (bx true ⟨sk, sa, st⟩) = encL 11 0 0 (st - sa - 5)) := by
      show newB ⟨1, sa, st⟩ = _
      unfold newB
      rw [if_pos rfl]
      show encL 11 0 0 (st - (sa + 5)) = _
      congr 1; omega
    rw [HN.out]
    have HJ : Hid (∀ W : World, Calls Try.prog 75 #[.int .i32 (st - sa - 5)] W _) := fun W => jump_any _ W
    go_enter Try.func38, Try.ntmps38
    go_upto_region 1 with fail
    generalize w.alloc (.cells #[.int .i64 sk, .int .i64 sa, .int .i64 st] 48) = w0 at *
    have a1 : w0.cell? ⟨w.heap.size, 1, none⟩ = some (.int .i64 sa) := HA0.out.cell 1
    have a2 : w0.cell? ⟨w.heap.size, 2, none⟩ = some (.int .i64 st) := HA0.out.cell 2
    go_wp2_with (go_at_call 75; refine Hid.out ?_)
    refine Lib.hid ?_
    (with_reducible refine (HJ.out _).mono ?_)
    rintro e w5 ⟨g, cap, rfl, ho, hb⟩
    have HO := Hid.in (Own.lower ho HB0.out.size)
    have HB := Hid.in (below_step HB0.out hb)
    clear ho hb
    go_wp2_with fail
    go_ret
    exact ⟨g, cap, rfl, HO.out, HB.out⟩
  | false =>
    have HN : Hid (newB (bx false ⟨sk, sa, st⟩) = encL 3 0 0 0) := by
      show newB ⟨0, sa, st⟩ = _
      unfold newB
      rw [if_neg (show ¬ ((0 : Int) = 1) by decide)]
    rw [HN.out]
    have HJ : Hid (∀ W : World, Calls Try.prog 76 #[] W _) := fun W => quiet_any W
    go_enter Try.func38, Try.ntmps38
    go_upto_region 1 with fail
    generalize w.alloc (.cells #[.int .i64 sk, .int .i64 sa, .int .i64 st] 48) = w0 at *
    go_wp2_with (go_at_call 76; refine Hid.out ?_)
    refine Lib.hid ?_
    (with_reducible refine (HJ.out _).mono ?_)
    rintro e w5 ⟨g, cap, rfl, ho, hb⟩
    have HO := Hid.in (Own.lower ho HB0.out.size)
    have HB := Hid.in (below_step HB0.out hb)
    clear ho hb
    go_wp2_with fail
    go_ret
    exact ⟨g, cap, rfl, HO.out, HB.out⟩
/-- what stands while a switch goes on: the patcher, the law's struct of it, the list of the two ways -/
structure BS (w0 wr : World) (gw gl pq mq mg rq bq : Nat) (s : PS) : Prop where
  pa : ∃ lp lc, PA wr w0.heap.size pq mq mg rq bq lp lc s
  st : Blk wr gw 26 (wA mq rq pq)
  li : Blk wr gl 4 #[.bool true, .bool false]
  bl : Below w0.heap.size w0 wr
theorem GPge {w : World} {B pq mq mg rq bq : Nat} {lp : Option Addr} {lc : Nat} {s : PS} (h : PA w B pq mq mg rq bq lp lc s) : ∀ j, GP pq mg rq bq j → B ≤ j := fun j hj => by
  rcases hj with e | e | e | e
  · subst e; exact h.gp
  · subst e; exact h.mem.own.base
  · subst e; exact h.gr
  · subst e; exact h.gb
theorem PA.keepsT {w w' : World} {B pq mq mg rq bq : Nat} {lp : Option Addr} {lc : Nat} {s : PS} (h : PA w B pq mq mg rq bq lp lc s) {j : Nat} {T : TypeId} {c : Array Value} (hb : Blk w j T c) (hT : T ≠ 99 ∧ T ≠ 5 ∧ T ≠ 96 ∧ T ≠ 141) (hk : Keeps (GP pq mg rq bq) w w') : Blk w' j T c := hb.keeps hk (fun hj => by
  obtain ⟨cg, hcg⟩ := h.mem.blkg
  rcases hj with e | e | e | e
  · exact blk_ne hb h.pat hT.1 e
  · exact blk_ne hb hcg hT.2.1 e
  · exact blk_ne hb h.rnd.blk hT.2.2.1 e
  · exact blk_ne hb h.bat.blk hT.2.2.2 e)
section
variable {w0 wr w' : World} {gw gl pq mq mg rq bq : Nat} {s : PS}
theorem BS.below (h : BS w0 wr gw gl pq mq mg rq bq s) (hb : Below wr.heap.size wr w') : BS w0 w' gw gl pq mq mg rq bq s := by
  obtain ⟨lp, lc, hp⟩ := h.pa
  exact ⟨⟨lp, lc, hp.below hb⟩, h.st.grow hb, h.li.grow hb, below_step h.bl hb⟩
theorem BS.turn (h : BS w0 wr gw gl pq mq mg rq bq s) {s' : PS} {lp : Option Addr} {lc : Nat} (hp : PA w' w0.heap.size pq mq mg rq bq lp lc s') (hk : Keeps (GP pq mg rq bq) wr w') : BS w0 w' gw gl pq mq mg rq bq s' := by
  obtain ⟨lp0, lc0, hp0⟩ := h.pa
  exact ⟨⟨lp, lc, hp⟩, hp0.keepsT h.st (by decide) hk, hp0.keepsT h.li (by decide) hk, h.bl.trans (hk.below h.bl.size (GPge hp0))⟩
theorem BS.rnd (h : BS w0 wr gw gl pq mq mg rq bq s) {fs : List Bool} (hr : Rnd w' rq fs s.n) (hg : wr.grownBy w' (some rq)) : BS w0 w' gw gl pq mq mg rq bq { s with fs := fs } := by
  obtain ⟨lp0, lc0, hp0⟩ := h.pa
  exact h.turn (hp0.setR hr hg) ((keeps_grown hg).wider (fun _ e => .inr (.inr (.inl e))))
end
/-- the flags, the first j of them down -/
def dwn (fs : List Bool) (j : Nat) : List Bool := List.replicate (min j fs.length) false ++ fs.drop j
theorem dwn_zero (fs : List Bool) : dwn fs 0 = fs := by simp [dwn]
theorem dwn_len (fs : List Bool) (j : Nat) : (dwn fs j).length = fs.length := by unfold dwn; simp; omega
theorem dwn_succ (fs : List Bool) (j : Nat) (hj : j < fs.length) : drp (dwn fs j) (j : Int) = dwn fs (j + 1) := by
  unfold drp dwn
  rw [if_pos (by omega), Int.toNat_natCast]
  rw [show min j fs.length = j by omega, show min (j + 1) fs.length = j + 1 by omega, List.set_append_right _ _ (by simp), List.length_replicate, Nat.sub_self, List.drop_eq_getElem_cons hj, List.set_cons_zero, List.replicate_succ', List.append_assoc]
  rfl
theorem dwn_all (fs : List Bool) : ovr (dwn fs fs.length) = true := by
  unfold dwn ovr
  simp
theorem dwn_ovr (fs : List Bool) (j : Nat) (h : ovr fs = true) : ovr (dwn fs j) = true := by
  unfold dwn ovr at *
  rw [List.all_append, Bool.and_eq_true]
  refine ⟨by simp, ?_⟩
  rw [List.all_eq_true] at h ⊢
  exact fun x hx => h x (List.mem_of_mem_drop hx)
end Go.Proofs.Ytekggimgobeggaa

/- A switch over sites, round by round of the loop that drives it. Lists alone. -/
namespace Go.Proofs.Ytekggimgobeggaa
open Go.RowKit
variable {b b2 : List Int} {T : List Si} {up : Bool} {nR : Nat} {s : PS}

theorem TOk.len (h : TOk b T) (e : b2.length = b.length) : TOk b2 T := ⟨h.srt, fun j hj => by rw [e]; exact h.fit j hj, h.to_⟩
structure IN (b : List Int) (T : List Si) (up : Bool) (nR M0 k : Nat) (s : PS) (wN rN wa st : Nat) (bk : Bool) : Prop where
  ok : POk s ((M0 : Int) + k)
  bt : BtOk s.bt
  inv : ∃ d, Inv b T up nR d s
  back : bk = true ↔ s.ph = 0
  w3 : wN + remW' s = 3 * T.length
  r3 : rN + remR' s = 3 * ((T.length + 3) / 4)
  s3 : st + remS' s ≤ 11 * T.length + 2
  ct : s.ct = ⟨T.length, wN, rN, st, wa⟩
  kk : k / 5 + remS' s ≤ 221
  wk : wa ≤ k
theorem IN.beg {M0 : Nat} (hb : s.bt = []) (hf : s.fs.length = nR) (ho : ovr s.fs = true) (hw : s.wr = 0) (hk : POk s M0) (hl : T.length ≤ 20) : IN s.xs T up nR (M0 + 1) 0 (begP s T up) 0 0 0 1 false := by
  obtain ⟨h1, h2, h3, h4⟩ := beg_rem (up := up) (s := s) hb hl
  have hm := hk.mono (show (M0 : Int) ≤ ((M0 + 1 : Nat) : Int) + (0 : Nat) by omega)
  refine ⟨⟨by show 1 ≤ 6; decide, hk.nx, hk.w1, fun _ => hw, ⟨by show (0 : Int) ≤ 0; decide, by show (0 : Int) ≤ _; omega⟩, ⟨by show (0 : Int) ≤ 0; decide, by show (0 : Int) ≤ _; omega⟩, ⟨by show (0 : Int) ≤ 1; decide, by show (1 : Int) ≤ _; omega⟩, ⟨by show (0 : Int) ≤ 0; decide, by show (0 : Int) ≤ _; omega⟩, hm.n, hk.xl⟩, ?_, ⟨0, inv_beg hb hf ho hw⟩, ?_, by omega, by omega, by omega, rfl, by omega, Nat.le_refl _⟩
  · show BtOk s.bt
    rw [hb]; intro x hx; cases hx
  · constructor
    · intro e; cases e
    · intro e; cases e
theorem IN.next {M0 k : Nat} {wN rN wa st : Nat} {bk : Bool} (h : IN b T up nR M0 k s wN rN wa st bk) (hT : TOk b T) (hb : bk = false) (rs : List Bool) (hrs : rs.length = nR) (fs : List Bool) (hl : fs.length = nR) (ho : ovr s.fs = true → ovr fs = true) (h4 : k % 5 = 4 → ovr fs = true) :
    (stpP { s with fs := fs } rs).e = 0 ∧ IN b T up nR M0 (k + 1) (stpP { s with fs := fs } rs).s (wN + nWr (stpP { s with fs := fs } rs).ev) (rN + ((stpP { s with fs := fs } rs).ev.length - nWr (stpP { s with fs := fs } rs).ev)) (if wtg { s with fs := fs } then wa + 1 else wa) (if wtg { s with fs := fs } then st else st + 1) (stpP { s with fs := fs } rs).back := by
  have hph : s.ph ≠ 0 := fun e => by
    have := h.back.2 e
    rw [hb] at this
    cases this
  obtain ⟨d, hi⟩ := h.inv
  have hs := st_any hT (hi.takes fs hl ho) hph rs hrs
  have hok1 : POk { s with fs := fs } ((M0 : Int) + k) := ⟨h.ok.ph, h.ok.nx, h.ok.w1, h.ok.w2, h.ok.c1, h.ok.c2, h.ok.c3, h.ok.c4, h.ok.n, h.ok.xl⟩
  have hbt1 : BtOk ({ s with fs := fs } : PS).bt := h.bt
  obtain ⟨k1, k2⟩ := stp_ok (rs := rs) hok1 hbt1
  have w3 := h.w3
  have r3 := h.r3
  have s3 := h.s3
  have kk := h.kk
  have wk := h.wk
  have ct : ({ s with fs := fs } : PS).ct = _ := h.ct
  have e1 : remS' { s with fs := fs } = remS' s := rfl
  have e2 : remW' { s with fs := fs } = remW' s := rfl
  have e3 : remR' { s with fs := fs } = remR' s := rfl
  have hph5 : ({ s with fs := fs } : PS).ph = s.ph := rfl
  have hfs : ({ s with fs := fs } : PS).fs = fs := rfl
  refine ⟨hs.e, ?_⟩
  generalize ({ s with fs := fs } : PS) = s1 at *
  cases hw : wtg s1
  · obtain ⟨g1, g2, g3, g4, g5⟩ := hs.goes hw
    have hev : (stpP s1 rs).ev.length - nWr (stpP s1 rs).ev = (stpP s1 rs).ev.length - nWr (stpP s1 rs).ev := rfl
    rw [ct] at g5
    refine ⟨k1.mono (by omega), k2, hs.inv, g2, by omega, by omega, ?_, ?_, by omega, ?_⟩
    · show st + 1 + _ ≤ _
      omega
    · rw [g5]
      show (⟨_, _, _, _, _⟩ : Ct) = ⟨_, _, _, ((st + 1 : Nat) : Int), _⟩
      congr 1 <;> push_cast <;> rfl
    · show wa ≤ _
      omega
  · have hwa := hs.waits hw
    have hk5 : k % 5 ≠ 4 := fun e => by
      unfold wtg at hw
      rw [hfs, h4 e] at hw
      simp at hw
    have hp5 : s1.ph = 5 := by
      unfold wtg at hw
      rw [Bool.and_eq_true, decide_eq_true_eq] at hw
      exact hw.1
    have hin := hs.inv
    rw [hwa] at k1 k2 hin ⊢
    refine ⟨k1.mono (by omega), k2, hin, ?_, by show wN + 0 + remW' s1 = _; omega, by show rN + (0 - 0) + remR' s1 = _; omega, by show st + remS' s1 ≤ _; omega, ?_, by show (k + 1) / 5 + remS' s1 ≤ _; omega, ?_⟩
    · show false = true ↔ s1.ph = 0
      rw [hp5]; simp
    · show ({ s1.ct with wa := s1.ct.wa + 1 } : Ct) = _
      rw [ct]
      show (⟨_, _, _, _, _⟩ : Ct) = ⟨_, _, _, _, ((wa + 1 : Nat) : Int)⟩
      congr 1
    · show wa + 1 ≤ k + 1
      omega
theorem IN.ends {M0 k : Nat} {wN rN wa st : Nat} {bk : Bool} (h : IN b T up nR M0 k s wN rN wa st bk) (hk : k ≤ 2000) : k < 2000 := by
  have := h.kk
  omega
theorem IN.done {M0 k : Nat} {wN rN wa st : Nat} {bk : Bool} (h : IN b T up nR M0 k s wN rN wa st bk) (hb : bk = true) : s.ph = 0 ∧ wN = 3 * T.length ∧ rN = 3 * ((T.length + 3) / 4) ∧ st ≤ 11 * T.length + 2 ∧ s.bt = [] ∧ s.wr = 0 ∧ s.fs.length = nR ∧ ovr s.fs = true := by
  have h0 := h.back.1 hb
  obtain ⟨z1, z2, z3⟩ := rem_zero h0
  obtain ⟨d, hi⟩ := h.inv
  have w3 := h.w3
  have r3 := h.r3
  have s3 := h.s3
  exact ⟨h0, by omega, by omega, by omega, (hi.z0 h0).2, hi.w0 (by omega), hi.fl, hi.ov (by omega)⟩
theorem nWr_le (l : List Ev) : nWr l ≤ l.length := List.length_filter_le _ _
theorem nWr_succ (l : List Ev) (i : Nat) (hi : i < l.length) : nWr (l.take (i + 1)) = nWr (l.take i) + if l[i].k = 10 then 1 else 0 := by
  unfold nWr
  rw [List.take_succ_eq_append_getElem hi, List.filter_append, List.length_append, List.filter_cons, List.filter_nil]
  congr 1
  by_cases e : l[i].k = 10
  · rw [if_pos (by simpa using e), if_pos e]; rfl
  · rw [if_neg (by simpa using e), if_neg e]; rfl
end Go.Proofs.Ytekggimgobeggaa
