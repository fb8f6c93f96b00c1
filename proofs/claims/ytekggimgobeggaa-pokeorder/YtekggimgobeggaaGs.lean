/- Texts put together: BndM, BndN, BndF, BndI, OrdL, OrdS, OrdI, StdW. -/
import Derived.Test.YtekggimgobeggaaGr
import Derived.Test.YtekggimgobeggaaGc
import Derived.Test.YtekggimgobeggaaGd
import Derived.Test.YtekggimgobeggaaJmp
import Derived.Test.YtekggimgobeggaaSame

/- A switch over sites: each step of it. Lists alone. -/
namespace Go.Proofs.Ytekggimgobeggaa
open Go.RowKit
variable {b : List Int} {T : List Si} {up : Bool} {nR d : Nat} {s : PS}

theorem st_clr (h : Inv b T up nR d s) (hp : s.ph = 6 ∨ (s.ph = 1 ∧ s.left = [])) : StI b T up nR s (clrP s) := by
  have hw : s.wr = 0 := h.w0 (by rcases hp with e | ⟨e, -⟩ <;> omega)
  have hln := h.ln
  have hbt : s.ph = 1 → s.bt = [] := fun e => by
    rcases hp with e6 | ⟨_, hl⟩
    · omega
    · exact (h.p1 e).2 hl
  have hov : ovr s.fs = true := h.ov (by rcases hp with e | ⟨e, -⟩ <;> omega)
  have hwt : wtg s = true → False := fun e => by
    unfold wtg at e
    rw [hov] at e
    simp at e
  have hsig : ∀ j, j < T.length → sig d s.bt.length s.ph s.nx s.wr j = if j < d + s.bt.length then 3 else 0 := fun j hj => by
    unfold sig lowS
    rw [hw]
    rcases hp with e | ⟨e, hl⟩
    · rw [e]; simp; split <;> (try split) <;> (try split) <;> omega
    · have := hbt e
      rw [e, this]; simp; split <;> (try split) <;> omega
  unfold clrP
  by_cases hl : s.left.length = 0
  · have hl' : s.left = [] := List.eq_nil_of_length_eq_zero hl
    rw [if_pos hl]
    refine ⟨rfl, ⟨T.length, ⟨by show T.length + 0 + 0 = _; omega, by show [] = T.drop (T.length + 0); simp, rfl, ?_, h.up_, Nat.zero_le _, h.fl, fun _ => hov, (fun e => by cases e), fun _ => hw, by show s.wr ≤ 0; omega, Nat.zero_le _, (fun e => by cases e), fun _ => ⟨rfl, rfl⟩⟩⟩, fun _ => ⟨?_, ⟨fun _ => rfl, fun _ => rfl⟩, ?_, ?_, ?_⟩, fun e => (hwt e).elim⟩
    · refine h.mem.congr fun j hj => ?_
      rw [hsig j hj]
      show _ = sig T.length 0 0 s.nx s.wr j
      unfold sig
      rw [if_pos hj, if_pos (by omega)]
    · show remS 0 _ 0 _ 0 + 1 = remS s.ph s.nx s.bt.length s.wr s.left.length
      rcases hp with e | ⟨e, -⟩
      · rw [e, hl]; rfl
      · rw [e, hl]; rfl
    · show remW 0 _ 0 _ 0 + 0 = remW s.ph s.nx s.bt.length s.wr s.left.length
      rcases hp with e | ⟨e, -⟩
      · rw [e, hl]; rfl
      · rw [e, hl, hbt e]; rfl
    · show remR 0 _ 0 0 + 0 = remR s.ph s.nx s.bt.length s.left.length
      rcases hp with e | ⟨e, -⟩
      · rw [e, hl]; rfl
      · rw [e, hl]; rfl
    · show (⟨s.ct.si, s.ct.wr, s.ct.ro, s.ct.st + 1, s.ct.wa⟩ : Ct) = ⟨s.ct.si, s.ct.wr + (0 : Nat), s.ct.ro + (0 : Nat), s.ct.st + 1, s.ct.wa⟩
      simp
  · have e6 : s.ph = 6 := by
      rcases hp with e | ⟨e, hl2⟩
      · exact e
      · rw [hl2] at hl; exact absurd rfl hl
    rw [if_neg hl]
    refine ⟨rfl, ⟨d + s.bt.length, ⟨by show d + s.bt.length + 0 + s.left.length = _; omega, h.lf, rfl, ?_, h.up_, Nat.zero_le _, h.fl, fun _ => hov, fun _ => ⟨by show 0 < 4; omega, fun e => absurd (by rw [show s.left = [] from e]; rfl) hl⟩, fun _ => hw, by show s.wr ≤ 0; omega, by show 1 ≤ 6; omega, (fun e => by cases e), (fun e => by cases e)⟩⟩, fun _ => ⟨?_, ⟨fun e => (by cases e), fun e => (by cases e)⟩, ?_, ?_, ?_⟩, fun e => (hwt e).elim⟩
    · refine h.mem.congr fun j hj => ?_
      rw [hsig j hj]
      show _ = sig (d + s.bt.length) 0 1 s.nx s.wr j
      unfold sig lowS
      rw [hw]
      simp
      split <;> (try split) <;> omega
    · show remS 1 _ 0 _ s.left.length + 1 = remS s.ph s.nx s.bt.length s.wr s.left.length
      rw [e6]
      unfold remS aft
      simp
      rw [if_neg (by intro e; rw [e] at hl; exact hl rfl)]
      omega
    · show remW 1 _ 0 _ s.left.length + 0 = remW s.ph s.nx s.bt.length s.wr s.left.length
      rw [e6]
      simp [remW]
    · show remR 1 _ 0 s.left.length + 0 = remR s.ph s.nx s.bt.length s.left.length
      rw [e6]
      unfold remR
      simp
      rw [if_neg (by intro e; rw [e] at hl; exact hl rfl)]
      omega
    · show (⟨s.ct.si, s.ct.wr, s.ct.ro, s.ct.st + 1, s.ct.wa⟩ : Ct) = ⟨s.ct.si, s.ct.wr + (0 : Nat), s.ct.ro + (0 : Nat), s.ct.st + 1, s.ct.wa⟩
      simp
/-- a site behind all of a batch is added at its end -/
theorem add_end (hT : TOk b T) (h : Inv b T up nR d s) (m4 : s.bt.length < 4) (hj : d + s.bt.length < T.length) : addR s.bt T[d + s.bt.length].at_ T[d + s.bt.length].to_ up = s.bt ++ [bx up T[d + s.bt.length]] := by
  have h0 := hT.srt.lo _ hj
  have h1 := hT.srt.hi _ hj
  have h2 := hT.to_ _ hj
  have hgap : ∀ i (hi : i < s.bt.length), s.bt[i].at_ + 5 ≤ T[d + s.bt.length].at_ := fun i hi => by
    obtain ⟨hj2, e⟩ := h.at_ i hi
    rw [List.getElem?_eq_getElem hi] at e
    injection e with e
    rw [e]
    exact hT.srt.gap (d + i) (d + s.bt.length) hj (by omega)
  have hn : nearB s.bt T[d + s.bt.length].at_ = false := by
    cases hc : nearB s.bt T[d + s.bt.length].at_
    · rfl
    · obtain ⟨i, hi, e1, e2⟩ := (nearB_iff _ _).1 hc
      have := hgap i hi
      omega
  have hb : badB T[d + s.bt.length].at_ T[d + s.bt.length].to_ = false := by
    unfold badB
    exact decide_eq_false (by omega)
  have he : addE s.bt T[d + s.bt.length].at_ T[d + s.bt.length].to_ = 0 := by
    unfold addE
    rw [hb, hn, if_neg (by decide), if_neg (by decide), if_neg (by omega)]
  unfold addR
  rw [if_pos he]
  refine insL_end _ _ ?_
  cases hc : s.bt.any (fun y => decide ((⟨dirK up, T[d + s.bt.length].at_, T[d + s.bt.length].to_⟩ : Si).at_ < y.at_))
  · rfl
  · rw [List.any_eq_true] at hc
    obtain ⟨y, hy, e⟩ := hc
    obtain ⟨i, hi, rfl⟩ := List.getElem_of_mem hy
    have := hgap i hi
    have e2 : T[d + s.bt.length].at_ < s.bt[i].at_ := by simpa using e
    omega
theorem st_gat (hT : TOk b T) (h : Inv b T up nR d s) (hp : s.ph = 1) : StI b T up nR s (gatP s) := by
  unfold gatP
  have hln := h.ln
  have hlf := h.lf
  have hov : ovr s.fs = true := h.ov (by omega)
  have hwt : wtg s = true → False := fun e => by
    unfold wtg at e
    rw [hov] at e
    simp at e
  have hw : s.wr = 0 := h.w0 (by omega)
  have m4 := (h.p1 hp).1
  split
  · rename_i hl
    exact st_clr h (.inr ⟨hp, hl⟩)
  · rename_i x l hl
    have hll : s.left.length = l.length + 1 := by rw [hl]; rfl
    have hj : d + s.bt.length < T.length := by omega
    have hx : T[d + s.bt.length] = x ∧ l = T.drop (d + s.bt.length + 1) := by
      rw [List.drop_eq_getElem_cons hj, hl] at hlf
      injection hlf with e1 e2
      exact ⟨e1.symm, e2⟩
    have ha := add_end hT h m4 hj
    rw [hx.1, ← h.up_] at ha
    rw [h.up_] at ha
    have hlen : (addR s.bt x.at_ x.to_ s.up).length = s.bt.length + 1 := by rw [h.up_, ha]; simp
    have hph : ∀ q : Nat, q = (if (addR s.bt x.at_ x.to_ s.up).length = 4 ∨ l.length = 0 then 2 else 1) → (q = 2 ∧ (s.bt.length + 1 = 4 ∨ l.length = 0)) ∨ (q = 1 ∧ s.bt.length + 1 < 4 ∧ l.length ≠ 0) := fun q hq => by
      rw [hlen] at hq
      split at hq
      · exact .inl ⟨hq, by assumption⟩
      · exact .inr ⟨hq, by omega, by omega⟩
    generalize (if (addR s.bt x.at_ x.to_ s.up).length = 4 ∨ l.length = 0 then 2 else 1) = q at hph ⊢
    have hq := hph q rfl
    clear hph
    rw [h.up_, ha] at hlen ⊢
    refine ⟨rfl, ⟨d, ⟨?_, ?_, ?_, ?_, rfl, ?_, h.fl, fun _ => hov, ?_, fun _ => hw, ?_, ?_, ?_, fun e => absurd (show q = 0 from e) (by rcases hq with ⟨e, -⟩ | ⟨e, -⟩ <;> omega)⟩⟩, fun _ => ⟨?_, ?_, ?_, ?_, ?_⟩, fun e => (hwt e).elim⟩
    · show d + (s.bt ++ [bx up x]).length + l.length = _
      rw [hlen]; omega
    · show l = T.drop (d + (s.bt ++ [bx up x]).length)
      rw [hlen, hx.2]; congr 1
    · show s.bt ++ [bx up x] = ((T.drop d).take (s.bt ++ [bx up x]).length).map (bx up)
      rw [hlen, List.take_succ_eq_append_getElem (by rw [List.length_drop]; omega), List.map_append, ← h.bt]
      congr 1
      rw [List.getElem_drop]
      show [bx up x] = [bx up T[d + s.bt.length]]
      rw [hx.1]
    · refine h.mem.congr fun j hj => ?_
      show _ = sig d (s.bt ++ [bx up x]).length q s.nx s.wr j
      rw [hlen, hp]
      unfold sig lowS
      rcases hq with ⟨rfl, -⟩ | ⟨rfl, -⟩ <;> (rw [hw]; simp; split <;> (try split) <;> (try split) <;> (try split) <;> omega)
    · show (s.bt ++ [bx up x]).length ≤ 4
      rw [hlen]; omega
    · intro e
      have e' : q = 1 := e
      rcases hq with ⟨e2, -⟩ | ⟨-, h4, hl0⟩
      · omega
      · exact ⟨by show (s.bt ++ [bx up x]).length < 4; rw [hlen]; exact h4, fun e => absurd (by rw [show l = [] from e]; rfl) hl0⟩
    · show s.wr ≤ _
      omega
    · show q ≤ 6
      rcases hq with ⟨e, -⟩ | ⟨e, -⟩ <;> omega
    · intro e
      have e' : q = 5 := e
      rcases hq with ⟨e, -⟩ | ⟨e, -⟩ <;> omega
    · show remS q s.nx (s.bt ++ [bx up x]).length s.wr l.length + 1 = remS s.ph s.nx s.bt.length s.wr s.left.length
      rw [hlen, hp, hll, hw]
      rcases hq with ⟨rfl, h5⟩ | ⟨rfl, h4, hl0⟩
      · unfold remS aft
        simp
        omega
      · unfold remS aft
        simp
        rw [if_neg (by intro e; rw [e] at hl0; exact hl0 rfl)]
        omega
    · show (false = true ↔ q = 0)
      rcases hq with ⟨rfl, -⟩ | ⟨rfl, -⟩ <;> simp
    · show remW q s.nx (s.bt ++ [bx up x]).length s.wr l.length + 0 = remW s.ph s.nx s.bt.length s.wr s.left.length
      rw [hlen, hp, hll, hw]
      rcases hq with ⟨rfl, -⟩ | ⟨rfl, -⟩
      · unfold remW; simp; omega
      · unfold remW; simp; omega
    · show remR q s.nx (s.bt ++ [bx up x]).length l.length + 0 = remR s.ph s.nx s.bt.length s.left.length
      rw [hlen, hp, hll]
      rcases hq with ⟨rfl, h5⟩ | ⟨rfl, h4, hl0⟩
      · unfold remR
        simp
        omega
      · unfold remR
        simp
        rw [if_neg (by intro e; rw [e] at hl0; exact hl0 rfl)]
        omega
    · show (⟨s.ct.si, s.ct.wr, s.ct.ro, s.ct.st + 1, s.ct.wa⟩ : Ct) = ⟨s.ct.si, s.ct.wr + (0 : Nat), s.ct.ro + (0 : Nat), s.ct.st + 1, s.ct.wa⟩
      simp
theorem st_wai (h : Inv b T up nR d s) (hp : s.ph = 5) : StI b T up nR s (waiP s) := by
  have hw : s.wr = 0 := h.w0 (by omega)
  unfold waiP
  by_cases ho : ovr s.fs = true
  · rw [if_pos ho]
    have hwt : wtg s = true → False := fun e => by
      unfold wtg at e
      rw [ho] at e
      simp at e
    have hnx := h.nx hp
    refine ⟨rfl, ⟨d, ⟨h.ln, h.lf, h.bt, ?_, h.up_, h.m4, h.fl, fun _ => ho, ?_, fun _ => hw, h.wm, ?_, ?_, fun e => absurd (show s.nx = 0 from e) (by omega)⟩⟩, fun _ => ⟨?_, ?_, ?_, ?_, ?_⟩, fun e => (hwt e).elim⟩
    · refine h.mem.congr fun j hj => ?_
      show _ = sig d s.bt.length s.nx s.nx s.wr j
      unfold sig lowS
      rw [hp]
      rcases hnx with e | e | e <;> (rw [e]; simp)
    · intro e
      have e' : s.nx = 1 := e
      omega
    · show s.nx ≤ 6
      omega
    · intro e
      have e' : s.nx = 5 := e
      omega
    · show remS s.nx s.nx s.bt.length s.wr s.left.length + 1 = remS s.ph s.nx s.bt.length s.wr s.left.length
      rw [hp, hw]
      unfold remS
      rcases hnx with e | e | e <;> (rw [e]; simp; omega)
    · show (false = true ↔ s.nx = 0)
      rcases hnx with e | e | e <;> (rw [e]; simp)
    · show remW s.nx s.nx s.bt.length s.wr s.left.length + 0 = remW s.ph s.nx s.bt.length s.wr s.left.length
      rw [hp, hw]
      unfold remW
      rcases hnx with e | e | e <;> (rw [e]; simp; try omega)
    · show remR s.nx s.nx s.bt.length s.left.length + 0 = remR s.ph s.nx s.bt.length s.left.length
      rw [hp]
      unfold remR
      rcases hnx with e | e | e <;> (rw [e]; simp)
    · show (⟨s.ct.si, s.ct.wr, s.ct.ro, s.ct.st + 1, s.ct.wa⟩ : Ct) = ⟨s.ct.si, s.ct.wr + (0 : Nat), s.ct.ro + (0 : Nat), s.ct.st + 1, s.ct.wa⟩
      simp
  · rw [if_neg ho]
    have hwt : wtg s = false → False := fun e => by
      unfold wtg at e
      rw [hp] at e
      simp at e
      exact ho e
    exact ⟨rfl, ⟨d, ⟨h.ln, h.lf, h.bt, h.mem, h.up_, h.m4, h.fl, fun e => absurd hp e, fun e => h.p1 e, fun e => h.w0 e, h.wm, h.ph, h.nx, fun e => h.z0 e⟩⟩, fun e => (hwt e).elim, fun _ => rfl⟩
theorem st_wri (hT : TOk b T) (h : Inv b T up nR d s) (hp : s.ph = 2 ∨ s.ph = 3 ∨ s.ph = 4) (rs : List Bool) (hrs : rs.length = nR) : StI b T up nR s (wriP s rs) := by
  have hov : ovr s.fs = true := h.ov (by omega)
  have hwt : wtg s = true → False := fun e => by
    unfold wtg at e
    rw [hov] at e
    simp at e
  have hwm := h.wm
  unfold wriP
  by_cases hlt : s.wr < s.bt.length
  · obtain ⟨hj, e⟩ := h.at_ s.wr hlt
    rw [e]
    dsimp only
    have hlo := hT.srt.lo _ hj
    have hfit := hT.fit _ hj
    obtain ⟨p1, p2, p3, p4, p5⟩ := bw_step b (bx up T[d + s.wr]) s.ph hp hlo hfit
    rw [← h.mem.len] at p5
    rw [if_pos ⟨p4, p5⟩]
    have hlow : ∀ nx, lowS s.ph nx = lowS s.ph 0 := fun nx => by
      unfold lowS
      rcases hp with e | e | e <;> (rw [e]; rfl)
    have hs0 : sig d s.bt.length s.ph s.nx s.wr (d + s.wr) = lowS s.ph 0 := by
      unfold sig
      rw [if_neg (by omega), if_pos (by omega), if_neg (by omega), hlow s.nx]
      rfl
    have hm := h.mem.write hT (d + s.wr) hj (if s.ph = 3 then 1 else 0) (pieceP s.ph (bx up T[d + s.wr])).2 p2 (lowS s.ph 0 + 1) (by rw [hs0]; exact p3)
    refine ⟨rfl, ⟨d, ⟨h.ln, h.lf, h.bt, ?_, h.up_, h.m4, h.fl, fun _ => hov, fun e => ?_, fun e => absurd (show 2 ≤ s.ph ∧ s.ph ≤ 4 by omega) e, ?_, h.ph, fun e => ?_, fun e => absurd (show s.ph = 0 from e) (by omega)⟩⟩, fun _ => ⟨?_, ?_, ?_, ?_, ?_⟩, fun e => (hwt e).elim⟩
    · show MemS b T up (sig d s.bt.length s.ph s.nx (s.wr + 1)) (putA s.xs (pieceP s.ph (bx up T[d + s.wr])).1.toNat _)
      rw [p1]
      refine MemS.congr hm fun j hj => ?_
      unfold sig
      rw [hlow s.nx]
      by_cases ej : j = d + s.wr
      · subst ej
        rw [if_pos rfl, if_neg (by omega), if_pos (by omega), if_pos (by omega)]
      · rw [if_neg ej]
        split
        · rfl
        · split
          · congr 1
            by_cases hc : j < d + s.wr
            · rw [if_pos hc, if_pos (by omega)]
            · rw [if_neg hc, if_neg (by omega)]
          · rfl
    · have e' : s.ph = 1 := e
      omega
    · show s.wr + 1 ≤ s.bt.length
      omega
    · have e' : s.ph = 5 := e
      omega
    · show remS s.ph s.nx s.bt.length (s.wr + 1) s.left.length + 1 = remS s.ph s.nx s.bt.length s.wr s.left.length
      unfold remS
      rcases hp with e | e | e <;> (rw [e]; simp; omega)
    · show (false = true ↔ s.ph = 0)
      rcases hp with e | e | e <;> (rw [e]; simp)
    · show remW s.ph s.nx s.bt.length (s.wr + 1) s.left.length + 1 = remW s.ph s.nx s.bt.length s.wr s.left.length
      unfold remW
      rcases hp with e | e | e <;> (rw [e]; simp; omega)
    · rfl
    · show (⟨s.ct.si, s.ct.wr + 1, s.ct.ro, s.ct.st + 1, s.ct.wa⟩ : Ct) = ⟨s.ct.si, s.ct.wr + (1 : Nat), s.ct.ro + (0 : Nat), s.ct.st + 1, s.ct.wa⟩
      simp
  · have hwe : s.wr = s.bt.length := by omega
    rw [List.getElem?_eq_none (by omega)]
    dsimp only
    unfold sndP
    rw [if_pos ⟨by rw [hrs, h.fl], hov⟩]
    refine ⟨rfl, ⟨d, ⟨h.ln, h.lf, h.bt, ?_, h.up_, h.m4, hrs, fun e => absurd rfl e, fun e => ?_, fun _ => rfl, Nat.zero_le _, by show 5 ≤ 6; omega, fun _ => ?_, (fun e => by cases e)⟩⟩, fun _ => ⟨?_, ?_, ?_, ?_, ?_⟩, fun e => (hwt e).elim⟩
    · refine h.mem.congr fun j hj => ?_
      show _ = sig d s.bt.length 5 (nxP s.ph) 0 j
      rw [hwe]
      unfold sig lowS nxP
      rcases hp with e | e | e <;> (rw [e]; simp; split <;> (try split) <;> omega)
    · cases e
    · show nxP s.ph = 3 ∨ nxP s.ph = 4 ∨ nxP s.ph = 6
      unfold nxP
      rcases hp with e | e | e <;> (rw [e]; simp)
    · show remS 5 (nxP s.ph) s.bt.length 0 s.left.length + 1 = remS s.ph s.nx s.bt.length s.wr s.left.length
      rw [hwe]
      unfold remS nxP
      rcases hp with e | e | e <;> (rw [e]; simp; try omega)
    · show (false = true ↔ 5 = 0)
      simp
    · show remW 5 (nxP s.ph) s.bt.length 0 s.left.length + 0 = remW s.ph s.nx s.bt.length s.wr s.left.length
      rw [hwe]
      unfold remW nxP
      rcases hp with e | e | e <;> (rw [e]; simp; try omega)
    · show remR 5 (nxP s.ph) s.bt.length s.left.length + 1 = remR s.ph s.nx s.bt.length s.left.length
      unfold remR nxP
      rcases hp with e | e | e <;> (rw [e]; simp; try omega)
    · show (⟨s.ct.si, s.ct.wr, s.ct.ro + 1, s.ct.st + 1, s.ct.wa⟩ : Ct) = ⟨s.ct.si, s.ct.wr + (0 : Nat), s.ct.ro + (1 : Nat), s.ct.st + 1, s.ct.wa⟩
      simp
/-- a step in the midst of a switch -/
theorem st_any (hT : TOk b T) (h : Inv b T up nR d s) (h0 : s.ph ≠ 0) (rs : List Bool) (hrs : rs.length = nR) : StI b T up nR s (stpP s rs) := by
  have hp := h.ph
  unfold stpP
  rw [if_neg h0]
  by_cases h1 : s.ph = 1
  · rw [if_pos h1]; exact st_gat hT h h1
  · rw [if_neg h1]
    by_cases h5 : s.ph = 5
    · rw [if_pos h5]; exact st_wai h h5
    · rw [if_neg h5]
      by_cases h6 : s.ph = 6
      · rw [if_pos h6]; exact st_clr h (.inl h6)
      · rw [if_neg h6]; exact st_wri hT h (by omega) rs hrs
/-- harts take their syncs -/
theorem Inv.takes (h : Inv b T up nR d s) (fs : List Bool) (hl : fs.length = nR) (ho : ovr s.fs = true → ovr fs = true) : Inv b T up nR d { s with fs := fs } :=
  ⟨h.ln, h.lf, h.bt, h.mem, h.up_, h.m4, hl, fun e => ho (h.ov e), h.p1, h.w0, h.wm, h.ph, h.nx, h.z0⟩
end Go.Proofs.Ytekggimgobeggaa

/- A switch over sites: its beginning, its end, how long it takes. Lists alone. -/
namespace Go.Proofs.Ytekggimgobeggaa
open Go.RowKit
variable {b : List Int} {T : List Si} {up : Bool} {nR d : Nat} {s : PS}

theorem mayF_ok (hT : TOk b T) (hr : ∀ x ∈ T, x.to_ = x.at_ + 9) : ∀ k, k ≤ T.length → ∀ e : Int, (∀ h : k < T.length, e ≤ T[k].at_) → mayF b.length e (T.drop k) = true := by
  intro k hk
  induction hn : T.length - k generalizing k with
  | zero =>
    intro e _
    rw [List.drop_eq_nil_of_le (by omega)]; rfl
  | succ n ih =>
    intro e he
    have hkl : k < T.length := by omega
    have h1 := hT.fit k hkl
    have h2 := hT.to_ k hkl
    have h3 := hr _ (List.getElem_mem hkl)
    have h4 := he hkl
    rw [List.drop_eq_getElem_cons hkl, mayF, if_neg (by omega)]
    refine ih (k + 1) (by omega) (by omega) _ fun h => ?_
    exact hT.srt.gap k (k + 1) h (by omega)
/-- the state behind Start -/
def begP (s : PS) (T : List Si) (up : Bool) : PS := { s with left := T, up := up, ph := 1, ct := ⟨T.length, 0, 0, 1, 0⟩ }
theorem strP_ok (hT : TOk b T) (hr : ∀ x ∈ T, x.to_ = x.at_ + 9) (h0 : s.ph = 0) (hx : s.xs.length = b.length) : strP s T up = (begP s T up, 0) := by
  unfold strP
  have hm := mayF_ok hT hr 0 (Nat.zero_le _) 0 (fun h => hT.srt.lo 0 h)
  rw [List.drop_zero] at hm
  rw [if_neg (by omega), hx, if_pos hm]
  rfl
theorem inv_beg (hb : s.bt = []) (hf : s.fs.length = nR) (ho : ovr s.fs = true) (hw : s.wr = 0) : Inv s.xs T up nR 0 (begP s T up) := by
  have hbl : (begP s T up).bt.length = 0 := by show s.bt.length = 0; rw [hb]; rfl
  refine ⟨by rw [hbl]; show 0 + 0 + T.length = _; omega, by rw [hbl]; rfl, by show s.bt = _; rw [hbl, hb]; rfl, ?_, rfl, by rw [hbl]; decide, hf, fun _ => ho, fun _ => ⟨by rw [hbl]; decide, fun _ => hb⟩, fun _ => hw, by rw [hbl]; show s.wr ≤ 0; omega, by show 1 ≤ 6; decide, (fun e => by cases e), (fun e => by cases e)⟩
  rw [hbl]
  refine ⟨rfl, fun j hj t ht => ?_, fun i _ => rfl⟩
  show s.xs[_]? = (bw s.xs (sig 0 0 1 s.nx s.wr j) (bx up T[j]))[t]?
  have e : sig 0 0 1 s.nx s.wr j = 0 := by unfold sig; rw [if_neg (by omega), if_neg (by omega)]
  rw [e]
  show _ = ((s.xs.drop T[j].at_.toNat).take 5)[t]?
  rw [List.getElem?_take, if_pos ht, List.getElem?_drop]
theorem beg_rem (hb : s.bt = []) (hl : T.length ≤ 20) : remS' (begP s T up) ≤ 11 * T.length + 1 ∧ remS' (begP s T up) ≤ 221 ∧ remW' (begP s T up) = 3 * T.length ∧ remR' (begP s T up) = 3 * ((T.length + 3) / 4) := by
  have hbl : (begP s T up).bt.length = 0 := by show s.bt.length = 0; rw [hb]; rfl
  unfold remS' remW' remR'
  rw [hbl]
  show remS 1 _ 0 _ T.length ≤ _ ∧ remS 1 _ 0 _ T.length ≤ _ ∧ remW 1 _ 0 _ T.length = _ ∧ remR 1 _ 0 T.length = _
  by_cases e : T.length = 0
  · rw [e]; exact ⟨Nat.le_of_eq rfl, (by show 1 ≤ 221; decide), rfl, rfl⟩
  · obtain ⟨n, hn⟩ : ∃ n, T.length = n := ⟨_, rfl⟩
    rw [hn] at e hl ⊢
    have e1 : remS 1 s.nx 0 s.wr n = min 4 n + (3 * (0 + min 4 n) + 7) + aft (n - min 4 n) := by
      unfold remS
      rw [if_neg (by decide), if_pos rfl, if_neg e]
    have e2 : remR 1 s.nx 0 n = 3 + 3 * ((n - min 4 n + 3) / 4) := by
      unfold remR
      rw [if_neg (by decide), if_pos rfl, if_neg e]
    have e3 : remW 1 s.nx 0 s.wr n = 3 * (0 + n) := by
      unfold remW
      rw [if_neg (by decide), if_pos rfl]
    refine ⟨Nat.le_trans (Nat.le_of_eq e1) ?_, Nat.le_trans (Nat.le_of_eq e1) ?_, e3.trans (by omega), e2.trans ?_⟩
    · unfold aft; omega
    · unfold aft; omega
    · omega
theorem rem_pos (h : Inv b T up nR d s) (h0 : s.ph ≠ 0) : 1 ≤ remS' s := by
  have hp := h.ph
  unfold remS' remS
  rw [if_neg h0]
  split
  · split <;> omega
  · split
    · omega
    · split
      · omega
      · split
        · omega
        · split
          · split
            · omega
            · split <;> omega
          · omega
theorem rem_zero (h0 : s.ph = 0) : remS' s = 0 ∧ remW' s = 0 ∧ remR' s = 0 := by
  unfold remS' remW' remR' remS remW remR
  rw [h0]; simp
/-- what the place i holds in the end, by the first k sites -/
def wantF (b : List Int) (T : List Si) (up : Bool) (i : Nat) (k : Nat) : Int := (T.take k).foldl (fun acc x => if x.at_ ≤ (i : Int) ∧ (i : Int) < x.at_ + 5 then (newB (bx up x)).getD ((i : Int) - x.at_).toNat 0 else acc) (b.getD i 0)
theorem wantF_succ (k : Nat) (hk : k < T.length) (i : Nat) : wantF b T up i (k + 1) = if T[k].at_ ≤ (i : Int) ∧ (i : Int) < T[k].at_ + 5 then (newB (bx up T[k])).getD ((i : Int) - T[k].at_).toNat 0 else wantF b T up i k := by
  unfold wantF
  rw [List.take_succ_eq_append_getElem hk, List.foldl_append]
  rfl
theorem wantF_none (i : Nat) : ∀ k, k ≤ T.length → (∀ j (hj : j < T.length), j < k → ¬ (T[j].at_ ≤ (i : Int) ∧ (i : Int) < T[j].at_ + 5)) → wantF b T up i k = b.getD i 0
  | 0, _, _ => rfl
  | k + 1, hk, h => by
    rw [wantF_succ k (by omega), if_neg (h k (by omega) (by omega))]
    exact wantF_none i k (by omega) fun j hj hjk => h j hj (by omega)
theorem wantF_one (hT : TOk b T) (i j : Nat) (hj : j < T.length) (h : T[j].at_ ≤ (i : Int) ∧ (i : Int) < T[j].at_ + 5) : ∀ k, k ≤ T.length → j < k → wantF b T up i k = (newB (bx up T[j])).getD ((i : Int) - T[j].at_).toNat 0
  | 0, _, hk => absurd hk (by omega)
  | k + 1, hk, hjk => by
    rw [wantF_succ k (by omega)]
    by_cases e : j = k
    · subst e; rw [if_pos h]
    · have := hT.srt.gap j k (by omega) (by omega)
      rw [if_neg (by omega)]
      exact wantF_one hT i j hj h k (by omega) (by omega)
/-- memory in the end -/
theorem inv_end {b2 : List Int} (hT : TOk b T) (h : Inv b2 T up nR d s) (h0 : s.ph = 0) (hl : b2.length = b.length) (hoff : ∀ i, (∀ j (hj : j < T.length), i < T[j].at_.toNat ∨ T[j].at_.toNat + 5 ≤ i) → b2[i]? = b[i]?) :
    s.xs.length = b.length ∧ (∀ i, (∀ j (hj : j < T.length), i < T[j].at_.toNat ∨ T[j].at_.toNat + 5 ≤ i) → s.xs[i]? = b[i]?) ∧ ∀ i, i < b.length → s.xs[i]? = some (wantF b T up i T.length) := by
  obtain ⟨z1, z2⟩ := h.z0 h0
  have hd : d = T.length := by have := h.ln; rw [z1, z2] at this; simpa using this
  have hsig : ∀ j, j < T.length → sig d s.bt.length s.ph s.nx s.wr j = 3 := fun j hj => by unfold sig; rw [if_pos (by omega)]
  have hoff2 : ∀ i, (∀ j (hj : j < T.length), i < T[j].at_.toNat ∨ T[j].at_.toNat + 5 ≤ i) → s.xs[i]? = b[i]? := fun i hi => (h.mem.off i hi).trans (hoff i hi)
  refine ⟨by rw [h.mem.len, hl], hoff2, fun i hi => ?_⟩
  by_cases hex : ∃ j, ∃ hj : j < T.length, T[j].at_ ≤ (i : Int) ∧ (i : Int) < T[j].at_ + 5
  · obtain ⟨j, hj, hij⟩ := hex
    rw [wantF_one hT i j hj hij _ (Nat.le_refl _) hj]
    have h1 := h.mem.at_ j hj (i - T[j].at_.toNat) (by omega)
    rw [hsig j hj] at h1
    have e1 : T[j].at_.toNat + (i - T[j].at_.toNat) = i := by have := hT.srt.lo j hj; omega
    rw [e1] at h1
    have e2 : bw b2 3 (bx up T[j]) = newB (bx up T[j]) := rfl
    have e3 : ((i : Int) - T[j].at_).toNat = i - T[j].at_.toNat := by have := hT.srt.lo j hj; omega
    rw [h1, e2, e3, List.getD, List.getElem?_eq_getElem (by rw [nB_len]; omega)]
    rfl
  · have hno : ∀ j (hj : j < T.length), ¬ (T[j].at_ ≤ (i : Int) ∧ (i : Int) < T[j].at_ + 5) := fun j hj e => hex ⟨j, hj, e⟩
    rw [wantF_none i _ (Nat.le_refl _) fun j hj _ => hno j hj]
    rw [hoff2 i fun j hj => by have := hno j hj; have := hT.srt.lo j hj; omega]
    rw [List.getD, List.getElem?_eq_getElem hi]
    rfl
end Go.Proofs.Ytekggimgobeggaa

/- The law's new instruction of a site; the state of the walk; harts take their syncs. -/
namespace Go.Proofs.Ytekggimgobeggaa
open Go.RowKit

set_option maxHeartbeats 4000000 in
theorem fresh_any (x : Si) (up : Bool) (w : World) (h1 : 0 ≤ x.at_ ∧ x.at_ ≤ 65531) (h2 : 0 ≤ x.to_ ∧ x.to_ ≤ 65536) : Calls Try.prog 38 #[.agg #[.int .i64 x.key, .int .i64 x.at_, .int .i64 x.to_], .bool up] w fun e w' => ∃ g cap, e = .returned (.slice (some ⟨g, 0, none⟩) 5 cap) ∧ Own w' w.heap.size g cap (newB (bx up x)) ∧ Below w.heap.size w w' := by
  obtain ⟨sk, sa, st⟩ := x
  dsimp only at h1 h2
  have w1 : IntKind.i64.wrap (st - sa) = st - sa := by rw [IntKind.wrap_i64]; omega
  have w2 : IntKind.i64.wrap (st - sa - 5) = st - sa - 5 := by rw [IntKind.wrap_i64]; omega
  have w3 : IntKind.i32.wrap (st - sa - 5) = st - sa - 5 := by rw [IntKind.wrap_i32]; omega
  have HB0 := Hid.in (new_alloc w (.cells #[.int .i64 sk, .int .i64 sa, .int .i64 st] 48))
  have HA0 := Hid.in (Blk.new w 48 #[.int .i64 sk, .int .i64 sa, .int .i64 st])
  cases up with
  | true =>
    have HN : Hid (newB (bx true ⟨sk, sa, st⟩) = encL 11 0 0 (st - sa - 5)) := by
      show newB ⟨1, sa, st⟩ = _
      unfold newB
      rw [if_pos rfl]
      show encL 11 0 0 (st - (sa + 5)) = _
      congr 1; omega
    rw [HN.out]
    have HJ : Hid (∀ W : World, Calls Try.prog 75 #[.int .i32 (st - sa - 5)] W _) := fun W => jump_any _ W
    go_enter Try.func38, Try.ntmps38
    go_upto_region 1 with fail
    generalize w.alloc (.cells #[.int .i64 sk, .int .i64 sa, .int .i64 st] 48) = w0 at *
    have a1 : w0.cell? ⟨w.heap.size, 1, none⟩ = some (.int .i64 sa) := HA0.out.cell 1
    have a2 : w0.cell? ⟨w.heap.size, 2, none⟩ = some (.int .i64 st) := HA0.out.cell 2
    go_wp2_with (go_at_call 75; refine Hid.out ?_)
    refine Lib.hid ?_
    (with_reducible refine (HJ.out _).mono ?_)
    rintro e w5 ⟨g, cap, rfl, ho, hb⟩
    have HO := Hid.in (Own.lower ho HB0.out.size)
    have HB := Hid.in (below_step HB0.out hb)
    clear ho hb
    go_wp2_with fail
    go_ret
    exact ⟨g, cap, rfl, HO.out, HB.out⟩
  | false =>
    have HN : Hid (newB (bx false ⟨sk, sa, st⟩) = encL 3 0 0 0) := by
      show newB ⟨0, sa, st⟩ = _
      unfold newB
      rw [if_neg (show ¬ ((0 : Int) = 1) by decide)]
    rw [HN.out]
    have HJ : Hid (∀ W : World, Calls Try.prog 76 #[] W _) := fun W => quiet_any W
    go_enter Try.func38, Try.ntmps38
    go_upto_region 1 with fail
    generalize w.alloc (.cells #[.int .i64 sk, .int .i64 sa, .int .i64 st] 48) = w0 at *
    go_wp2_with (go_at_call 76; refine Hid.out ?_)
    refine Lib.hid ?_
    (with_reducible refine (HJ.out _).mono ?_)
    rintro e w5 ⟨g, cap, rfl, ho, hb⟩
    have HO := Hid.in (Own.lower ho HB0.out.size)
    have HB := Hid.in (below_step HB0.out hb)
    clear ho hb
    go_wp2_with fail
    go_ret
    exact ⟨g, cap, rfl, HO.out, HB.out⟩
/-- what stands while a switch goes on: the patcher, the law's struct of it, the list of the two ways -/
structure BS (w0 wr : World) (gw gl pq mq mg rq bq : Nat) (s : PS) : Prop where
  pa : ∃ lp lc, PA wr w0.heap.size pq mq mg rq bq lp lc s
  st : Blk wr gw 26 (wA mq rq pq)
  li : Blk wr gl 4 #[.bool true, .bool false]
  bl : Below w0.heap.size w0 wr
theorem GPge {w : World} {B pq mq mg rq bq : Nat} {lp : Option Addr} {lc : Nat} {s : PS} (h : PA w B pq mq mg rq bq lp lc s) : ∀ j, GP pq mg rq bq j → B ≤ j := fun j hj => by
  rcases hj with e | e | e | e
  · subst e; exact h.gp
  · subst e; exact h.mem.own.base
  · subst e; exact h.gr
  · subst e; exact h.gb
theorem PA.keepsT {w w' : World} {B pq mq mg rq bq : Nat} {lp : Option Addr} {lc : Nat} {s : PS} (h : PA w B pq mq mg rq bq lp lc s) {j : Nat} {T : TypeId} {c : Array Value} (hb : Blk w j T c) (hT : T ≠ 99 ∧ T ≠ 5 ∧ T ≠ 96 ∧ T ≠ 141) (hk : Keeps (GP pq mg rq bq) w w') : Blk w' j T c := hb.keeps hk (fun hj => by
  obtain ⟨cg, hcg⟩ := h.mem.blkg
  rcases hj with e | e | e | e
  · exact blk_ne hb h.pat hT.1 e
  · exact blk_ne hb hcg hT.2.1 e
  · exact blk_ne hb h.rnd.blk hT.2.2.1 e
  · exact blk_ne hb h.bat.blk hT.2.2.2 e)
section
variable {w0 wr w' : World} {gw gl pq mq mg rq bq : Nat} {s : PS}
theorem BS.below (h : BS w0 wr gw gl pq mq mg rq bq s) (hb : Below wr.heap.size wr w') : BS w0 w' gw gl pq mq mg rq bq s := by
  obtain ⟨lp, lc, hp⟩ := h.pa
  exact ⟨⟨lp, lc, hp.below hb⟩, h.st.grow hb, h.li.grow hb, below_step h.bl hb⟩
theorem BS.turn (h : BS w0 wr gw gl pq mq mg rq bq s) {s' : PS} {lp : Option Addr} {lc : Nat} (hp : PA w' w0.heap.size pq mq mg rq bq lp lc s') (hk : Keeps (GP pq mg rq bq) wr w') : BS w0 w' gw gl pq mq mg rq bq s' := by
  obtain ⟨lp0, lc0, hp0⟩ := h.pa
  exact ⟨⟨lp, lc, hp⟩, hp0.keepsT h.st (by decide) hk, hp0.keepsT h.li (by decide) hk, h.bl.trans (hk.below h.bl.size (GPge hp0))⟩
theorem BS.rnd (h : BS w0 wr gw gl pq mq mg rq bq s) {fs : List Bool} (hr : Rnd w' rq fs s.n) (hg : wr.grownBy w' (some rq)) : BS w0 w' gw gl pq mq mg rq bq { s with fs := fs } := by
  obtain ⟨lp0, lc0, hp0⟩ := h.pa
  exact h.turn (hp0.setR hr hg) ((keeps_grown hg).wider (fun _ e => .inr (.inr (.inl e))))
end
/-- the flags, the first j of them down -/
def dwn (fs : List Bool) (j : Nat) : List Bool := List.replicate (min j fs.length) false ++ fs.drop j
theorem dwn_zero (fs : List Bool) : dwn fs 0 = fs := by simp [dwn]
theorem dwn_len (fs : List Bool) (j : Nat) : (dwn fs j).length = fs.length := by unfold dwn; simp; omega
theorem dwn_succ (fs : List Bool) (j : Nat) (hj : j < fs.length) : drp (dwn fs j) (j : Int) = dwn fs (j + 1) := by
  unfold drp dwn
  rw [if_pos (by omega), Int.toNat_natCast]
  rw [show min j fs.length = j by omega, show min (j + 1) fs.length = j + 1 by omega, List.set_append_right _ _ (by simp), List.length_replicate, Nat.sub_self, List.drop_eq_getElem_cons hj, List.set_cons_zero, List.replicate_succ', List.append_assoc]
  rfl
theorem dwn_all (fs : List Bool) : ovr (dwn fs fs.length) = true := by
  unfold dwn ovr
  simp
theorem dwn_ovr (fs : List Bool) (j : Nat) (h : ovr fs = true) : ovr (dwn fs j) = true := by
  unfold dwn ovr at *
  rw [List.all_append, Bool.and_eq_true]
  refine ⟨by simp, ?_⟩
  rw [List.all_eq_true] at h ⊢
  exact fun x hx => h x (List.mem_of_mem_drop hx)
end Go.Proofs.Ytekggimgobeggaa

/- A switch over sites, round by round of the loop that drives it. Lists alone. -/
namespace Go.Proofs.Ytekggimgobeggaa
open Go.RowKit
variable {b b2 : List Int} {T : List Si} {up : Bool} {nR : Nat} {s : PS}

theorem TOk.len (h : TOk b T) (e : b2.length = b.length) : TOk b2 T := ⟨h.srt, fun j hj => by rw [e]; exact h.fit j hj, h.to_⟩
structure IN (b : List Int) (T : List Si) (up : Bool) (nR M0 k : Nat) (s : PS) (wN rN wa st : Nat) (bk : Bool) : Prop where
  ok : POk s ((M0 : Int) + k)
  bt : BtOk s.bt
  inv : ∃ d, Inv b T up nR d s
  back : bk = true ↔ s.ph = 0
  w3 : wN + remW' s = 3 * T.length
  r3 : rN + remR' s = 3 * ((T.length + 3) / 4)
  s3 : st + remS' s ≤ 11 * T.length + 2
  ct : s.ct = ⟨T.length, wN, rN, st, wa⟩
  kk : k / 5 + remS' s ≤ 221
  wk : wa ≤ k
theorem IN.beg {M0 : Nat} (hb : s.bt = []) (hf : s.fs.length = nR) (ho : ovr s.fs = true) (hw : s.wr = 0) (hk : POk s M0) (hl : T.length ≤ 20) : IN s.xs T up nR (M0 + 1) 0 (begP s T up) 0 0 0 1 false := by
  obtain ⟨h1, h2, h3, h4⟩ := beg_rem (up := up) (s := s) hb hl
  have hm := hk.mono (show (M0 : Int) ≤ ((M0 + 1 : Nat) : Int) + (0 : Nat) by omega)
  refine ⟨⟨by show 1 ≤ 6; decide, hk.nx, hk.w1, fun _ => hw, ⟨by show (0 : Int) ≤ 0; decide, by show (0 : Int) ≤ _; omega⟩, ⟨by show (0 : Int) ≤ 0; decide, by show (0 : Int) ≤ _; omega⟩, ⟨by show (0 : Int) ≤ 1; decide, by show (1 : Int) ≤ _; omega⟩, ⟨by show (0 : Int) ≤ 0; decide, by show (0 : Int) ≤ _; omega⟩, hm.n, hk.xl⟩, ?_, ⟨0, inv_beg hb hf ho hw⟩, ?_, by omega, by omega, by omega, rfl, by omega, Nat.le_refl _⟩
  · show BtOk s.bt
    rw [hb]; intro x hx; cases hx
  · constructor
    · intro e; cases e
    · intro e; cases e
theorem IN.next {M0 k : Nat} {wN rN wa st : Nat} {bk : Bool} (h : IN b T up nR M0 k s wN rN wa st bk) (hT : TOk b T) (hb : bk = false) (rs : List Bool) (hrs : rs.length = nR) (fs : List Bool) (hl : fs.length = nR) (ho : ovr s.fs = true → ovr fs = true) (h4 : k % 5 = 4 → ovr fs = true) :
    (stpP { s with fs := fs } rs).e = 0 ∧ IN b T up nR M0 (k + 1) (stpP { s with fs := fs } rs).s (wN + nWr (stpP { s with fs := fs } rs).ev) (rN + ((stpP { s with fs := fs } rs).ev.length - nWr (stpP { s with fs := fs } rs).ev)) (if wtg { s with fs := fs } then wa + 1 else wa) (if wtg { s with fs := fs } then st else st + 1) (stpP { s with fs := fs } rs).back := by
  have hph : s.ph ≠ 0 := fun e => by
    have := h.back.2 e
    rw [hb] at this
    cases this
  obtain ⟨d, hi⟩ := h.inv
  have hs := st_any hT (hi.takes fs hl ho) hph rs hrs
  have hok1 : POk { s with fs := fs } ((M0 : Int) + k) := ⟨h.ok.ph, h.ok.nx, h.ok.w1, h.ok.w2, h.ok.c1, h.ok.c2, h.ok.c3, h.ok.c4, h.ok.n, h.ok.xl⟩
  have hbt1 : BtOk ({ s with fs := fs } : PS).bt := h.bt
  obtain ⟨k1, k2⟩ := stp_ok (rs := rs) hok1 hbt1
  have w3 := h.w3
  have r3 := h.r3
  have s3 := h.s3
  have kk := h.kk
  have wk := h.wk
  have ct : ({ s with fs := fs } : PS).ct = _ := h.ct
  have e1 : remS' { s with fs := fs } = remS' s := rfl
  have e2 : remW' { s with fs := fs } = remW' s := rfl
  have e3 : remR' { s with fs := fs } = remR' s := rfl
  have hph5 : ({ s with fs := fs } : PS).ph = s.ph := rfl
  have hfs : ({ s with fs := fs } : PS).fs = fs := rfl
  refine ⟨hs.e, ?_⟩
  generalize ({ s with fs := fs } : PS) = s1 at *
  cases hw : wtg s1
  · obtain ⟨g1, g2, g3, g4, g5⟩ := hs.goes hw
    have hev : (stpP s1 rs).ev.length - nWr (stpP s1 rs).ev = (stpP s1 rs).ev.length - nWr (stpP s1 rs).ev := rfl
    rw [ct] at g5
    refine ⟨k1.mono (by omega), k2, hs.inv, g2, by omega, by omega, ?_, ?_, by omega, ?_⟩
    · show st + 1 + _ ≤ _
      omega
    · rw [g5]
      show (⟨_, _, _, _, _⟩ : Ct) = ⟨_, _, _, ((st + 1 : Nat) : Int), _⟩
      congr 1 <;> push_cast <;> rfl
    · show wa ≤ _
      omega
  · have hwa := hs.waits hw
    have hk5 : k % 5 ≠ 4 := fun e => by
      unfold wtg at hw
      rw [hfs, h4 e] at hw
      simp at hw
    have hp5 : s1.ph = 5 := by
      unfold wtg at hw
      rw [Bool.and_eq_true, decide_eq_true_eq] at hw
      exact hw.1
    have hin := hs.inv
    rw [hwa] at k1 k2 hin ⊢
    refine ⟨k1.mono (by omega), k2, hin, ?_, by show wN + 0 + remW' s1 = _; omega, by show rN + (0 - 0) + remR' s1 = _; omega, by show st + remS' s1 ≤ _; omega, ?_, by show (k + 1) / 5 + remS' s1 ≤ _; omega, ?_⟩
    · show false = true ↔ s1.ph = 0
      rw [hp5]; simp
    · show ({ s1.ct with wa := s1.ct.wa + 1 } : Ct) = _
      rw [ct]
      show (⟨_, _, _, _, _⟩ : Ct) = ⟨_, _, _, _, ((wa + 1 : Nat) : Int)⟩
      congr 1
    · show wa + 1 ≤ k + 1
      omega
theorem IN.ends {M0 k : Nat} {wN rN wa st : Nat} {bk : Bool} (h : IN b T up nR M0 k s wN rN wa st bk) (hk : k ≤ 2000) : k < 2000 := by
  have := h.kk
  omega
theorem IN.done {M0 k : Nat} {wN rN wa st : Nat} {bk : Bool} (h : IN b T up nR M0 k s wN rN wa st bk) (hb : bk = true) : s.ph = 0 ∧ wN = 3 * T.length ∧ rN = 3 * ((T.length + 3) / 4) ∧ st ≤ 11 * T.length + 2 ∧ s.bt = [] ∧ s.wr = 0 ∧ s.fs.length = nR ∧ ovr s.fs = true := by
  have h0 := h.back.1 hb
  obtain ⟨z1, z2, z3⟩ := rem_zero h0
  obtain ⟨d, hi⟩ := h.inv
  have w3 := h.w3
  have r3 := h.r3
  have s3 := h.s3
  exact ⟨h0, by omega, by omega, by omega, (hi.z0 h0).2, hi.w0 (by omega), hi.fl, hi.ov (by omega)⟩
theorem nWr_le (l : List Ev) : nWr l ≤ l.length := List.length_filter_le _ _
theorem nWr_succ (l : List Ev) (i : Nat) (hi : i < l.length) : nWr (l.take (i + 1)) = nWr (l.take i) + if l[i].k = 10 then 1 else 0 := by
  unfold nWr
  rw [List.take_succ_eq_append_getElem hi, List.filter_append, List.length_append, List.filter_cons, List.filter_nil]
  congr 1
  by_cases e : l[i].k = 10
  · rw [if_pos (by simpa using e), if_pos e]; rfl
  · rw [if_neg (by simpa using e), if_neg e]; rfl
end Go.Proofs.Ytekggimgobeggaa

/- A switch over sites: at each step a site stands as before or further on; memory stays but for a write. Lists alone. -/
namespace Go.Proofs.Ytekggimgobeggaa
open Go.RowKit
variable {b : List Int} {T : List Si} {up : Bool} {nR d : Nat} {s : PS}

/-- sites that are done: told by the state -/
def dnS (T : List Si) (s : PS) : Nat := T.length - s.bt.length - s.left.length
theorem Inv.dn (h : Inv b T up nR d s) : d = dnS T s := by
  have := h.ln
  unfold dnS
  omega
/-- how the site j stands in the state s -/
def sgS (T : List Si) (s : PS) (j : Nat) : Nat := sig (dnS T s) s.bt.length s.ph s.nx s.wr j
theorem Inv.memS (h : Inv b T up nR d s) : MemS b T up (sgS T s) s.xs := by
  have := h.mem
  rw [h.dn] at this
  exact this
theorem clr_sg (h : Inv b T up nR d s) (hp : s.ph = 6 ∨ (s.ph = 1 ∧ s.left = [])) (j : Nat) (hj : j < T.length) : sgS T s j ≤ sgS T (clrP s).s j := by
  have hw : s.wr = 0 := h.w0 (by rcases hp with e | ⟨e, -⟩ <;> omega)
  have hln := h.ln
  have hd := h.dn
  have hbt : s.ph = 1 → s.bt = [] := fun e => by
    rcases hp with e6 | ⟨_, hl⟩
    · omega
    · exact (h.p1 e).2 hl
  have h1 : sgS T s j = if j < d + s.bt.length then 3 else 0 := by
    unfold sgS sig lowS
    rw [← hd, hw]
    rcases hp with e | ⟨e, hl⟩
    · rw [e]; simp; split <;> (try split) <;> (try split) <;> omega
    · have := hbt e
      rw [e, this]; simp; split <;> (try split) <;> omega
  rw [h1]
  unfold clrP
  by_cases hl : s.left.length = 0
  · rw [if_pos hl]
    have e : dnS T ({ s.step with ph := 0, bt := [], left := [] } : PS) = T.length := by unfold dnS; simp
    show _ ≤ sgS T { s.step with ph := 0, bt := [], left := [] } j
    unfold sgS sig
    rw [e, if_pos hj]
    split <;> omega
  · rw [if_neg hl]
    split
    · rename_i hjd
      have e : d + s.bt.length ≤ dnS T ({ s.step with ph := 1, bt := [] } : PS) := by
        unfold dnS
        show _ ≤ T.length - 0 - s.left.length
        omega
      show _ ≤ sgS T { s.step with ph := 1, bt := [] } j
      unfold sgS sig
      rw [if_pos (by omega)]
      omega
    · exact Nat.zero_le _
theorem lowS_le (ph nx : Nat) : lowS ph nx ≤ 3 := by
  unfold lowS
  split
  · omega
  · split
    · omega
    · split
      · split
        · omega
        · split <;> omega
      · split <;> omega
theorem gat_sg (hT : TOk b T) (h : Inv b T up nR d s) (hp : s.ph = 1) (j : Nat) (hj : j < T.length) : sgS T s j ≤ sgS T (gatP s).s j := by
  unfold gatP
  have hln := h.ln
  have hlf := h.lf
  have hw : s.wr = 0 := h.w0 (by omega)
  have m4 := (h.p1 hp).1
  split
  · rename_i hl
    exact clr_sg h (.inr ⟨hp, hl⟩) j hj
  · rename_i x l hl
    have hll : s.left.length = l.length + 1 := by rw [hl]; rfl
    have hj2 : d + s.bt.length < T.length := by omega
    have hx : T[d + s.bt.length] = x := by
      rw [List.drop_eq_getElem_cons hj2, hl] at hlf
      injection hlf with e1 e2
      exact e1.symm
    have ha := add_end hT h m4 hj2
    rw [hx, ← h.up_] at ha
    have hlen : (addR s.bt x.at_ x.to_ s.up).length = s.bt.length + 1 := by rw [ha]; simp
    generalize (if (addR s.bt x.at_ x.to_ s.up).length = 4 ∨ l.length = 0 then 2 else 1) = q
    have hs : sgS T s j = if j < d then 3 else 0 := by
      unfold sgS sig lowS
      rw [← h.dn, hw, hp]
      simp; split <;> (try split) <;> omega
    have e : dnS T (PS.step { s with bt := addR s.bt x.at_ x.to_ s.up, left := l, ph := q }) = d := by
      unfold dnS
      show T.length - (addR s.bt x.at_ x.to_ s.up).length - l.length = d
      rw [hlen]; omega
    rw [hs]
    split
    · rename_i hjd
      show _ ≤ sgS T (PS.step { s with bt := addR s.bt x.at_ x.to_ s.up, left := l, ph := q }) j
      unfold sgS sig
      rw [e, if_pos hjd]
      exact Nat.le_refl _
    · exact Nat.zero_le _
theorem wai_sg (h : Inv b T up nR d s) (hp : s.ph = 5) (j : Nat) : sgS T s j ≤ sgS T (waiP s).s j := by
  have hw : s.wr = 0 := h.w0 (by omega)
  have hnx := h.nx hp
  unfold waiP
  by_cases ho : ovr s.fs = true
  · rw [if_pos ho]
    show sig (dnS T s) s.bt.length s.ph s.nx s.wr j ≤ sig (dnS T s) s.bt.length s.nx s.nx s.wr j
    unfold sig lowS
    rw [hp]
    rcases hnx with e | e | e <;> (rw [e]; simp)
  · rw [if_neg ho]
    exact Nat.le_refl _
theorem wri_sg (h : Inv b T up nR d s) (hp : s.ph = 2 ∨ s.ph = 3 ∨ s.ph = 4) (rs : List Bool) (j : Nat) : sgS T s j ≤ sgS T (wriP s rs).s j := by
  have hwm := h.wm
  unfold wriP
  split
  · rename_i hn
    have hge : s.bt.length ≤ s.wr := by rw [List.getElem?_eq_none_iff] at hn; exact hn
    have hwe : s.wr = s.bt.length := by omega
    unfold sndP
    split
    · show sig (dnS T s) s.bt.length s.ph s.nx s.wr j ≤ sig (dnS T s) s.bt.length 5 (nxP s.ph) 0 j
      rw [hwe]
      unfold sig lowS nxP
      rcases hp with e | e | e <;> (rw [e]; simp; split <;> (try split) <;> omega)
    · exact Nat.le_refl _
  · split
    · show sig (dnS T s) s.bt.length s.ph s.nx s.wr j ≤ sig (dnS T s) s.bt.length s.ph s.nx (s.wr + 1) j
      unfold sig
      split
      · exact Nat.le_refl _
      · split
        · split <;> split <;> omega
        · exact Nat.le_refl _
    · exact Nat.le_refl _
/-- at each step each site stands as before or further on -/
theorem stp_sg (hT : TOk b T) (h : Inv b T up nR d s) (rs : List Bool) (j : Nat) (hj : j < T.length) : sgS T s j ≤ sgS T (stpP s rs).s j := by
  have hp := h.ph
  unfold stpP
  by_cases h0 : s.ph = 0
  · rw [if_pos h0]; exact Nat.le_refl _
  · rw [if_neg h0]
    by_cases h1 : s.ph = 1
    · rw [if_pos h1]; exact gat_sg hT h h1 j hj
    · rw [if_neg h1]
      by_cases h5 : s.ph = 5
      · rw [if_pos h5]; exact wai_sg h h5 j
      · rw [if_neg h5]
        by_cases h6 : s.ph = 6
        · rw [if_pos h6]; exact clr_sg h (.inl h6) j hj
        · rw [if_neg h6]; exact wri_sg h (by omega) rs j
/-- memory stays but for a write -/
theorem stp_xs (s : PS) (rs : List Bool) (hp : s.ph = 0 ∨ s.ph = 1 ∨ s.ph = 5 ∨ s.ph = 6) : (stpP s rs).s.xs = s.xs := by
  unfold stpP
  rcases hp with e | e | e | e
  · rw [if_pos e]
  · rw [if_neg (by omega), if_pos e]
    unfold gatP
    split
    · unfold clrP
      split <;> rfl
    · rfl
  · rw [if_neg (by omega), if_neg (by omega), if_pos e]
    unfold waiP
    split <;> rfl
  · rw [if_neg (by omega), if_neg (by omega), if_neg (by omega), if_pos e]
    unfold clrP
    split <;> rfl
/-- with a round open, the phase is the one that waits -/
theorem Inv.open5 (h : Inv b T up nR d s) (ho : ovr s.fs = false) : s.ph = 5 := by
  by_cases e : s.ph = 5
  · exact e
  · rw [h.ov e] at ho; cases ho
/-- a site that stands at a breakpoint is in the batch -/
theorem Inv.inbt (h : Inv b T up nR d s) (j : Nat) (_hj : j < T.length) (h1 : sgS T s j = 1 ∨ sgS T s j = 2) : d ≤ j ∧ j < d + s.bt.length := by
  unfold sgS sig at h1
  rw [← h.dn] at h1
  split at h1
  · omega
  · split at h1
    · omega
    · omega
end Go.Proofs.Ytekggimgobeggaa

/- How the law tells where a site stands: lists alone. -/
namespace Go.Proofs.Ytekggimgobeggaa
open Go.RowKit
variable {b : List Int} {T : List Si} {up : Bool} {nR d : Nat} {s : PS}

theorem newB_up (x : Si) : ∃ t, newB (bx true x) = 233 :: t := by
  unfold newB
  rw [if_pos (show (bx true x).key = 1 from rfl)]
  exact ⟨_, rfl⟩
theorem newB_down (x : Si) : newB (bx false x) = quietL := by
  unfold newB
  rw [if_neg (show ¬ (bx false x).key = 1 by show ¬ (dirK false) = 1; decide)]
  rfl
theorem newB_head (up : Bool) (x : Si) : ∃ h t, newB (bx up x) = h :: t ∧ h ≠ 204 := by
  cases up
  · rw [newB_down]; exact ⟨15, _, rfl, by decide⟩
  · obtain ⟨t, e⟩ := newB_up x; exact ⟨233, t, e, by decide⟩
/-- a site's bytes ahead of a switch: no breakpoint, and not the new ones -/
def Bef (b : List Int) (T : List Si) (up : Bool) : Prop := ∀ j (hj : j < T.length), (∃ h t, (b.drop T[j].at_.toNat).take 5 = h :: t ∧ h ≠ 204) ∧ (b.drop T[j].at_.toNat).take 5 ≠ newB (bx up T[j])
theorem bef_up (h : ∀ j (hj : j < T.length), (b.drop T[j].at_.toNat).take 5 = quietL) : Bef b T true := fun j hj => by
  rw [h j hj]
  refine ⟨⟨15, _, rfl, by decide⟩, fun e => ?_⟩
  obtain ⟨t, e2⟩ := newB_up T[j]
  rw [e2] at e
  injection e with e1 _
  exact absurd e1 (by decide)
theorem bef_down (h : ∀ j (hj : j < T.length), (b.drop T[j].at_.toNat).take 5 = newB (bx true T[j])) : Bef b T false := fun j hj => by
  rw [h j hj, newB_down]
  obtain ⟨t, e2⟩ := newB_up T[j]
  rw [e2]
  refine ⟨⟨233, t, rfl, by decide⟩, fun e => ?_⟩
  injection e with e1 _
  exact absurd e1 (by decide)
/-- what the law answers of five bytes -/
def stdF (now fr bef : List Int) : Int :=
  if now = fr ∧ now ≠ bef then 2 else if now = bef then 0 else if now.getD 0 0 = 204 then 1 else -1
def atS (st : Nat) : Int := if st = 0 then 0 else if st = 3 then 2 else 1
theorem atS_mono {x y : Nat} (h : x ≤ y) (h3 : y ≤ 3) : atS x ≤ atS y := by
  unfold atS
  split <;> split <;> (try split) <;> (try split) <;> omega
theorem stdF_of (hB : Bef b T up) (j : Nat) (hj : j < T.length) (st : Nat) (h3 : st ≤ 3) : stdF (bw b st (bx up T[j])) (newB (bx up T[j])) ((b.drop T[j].at_.toNat).take 5) = atS st := by
  obtain ⟨⟨h0, t0, e0, n0⟩, hne⟩ := hB j hj
  obtain ⟨h1, t1, e1, n1⟩ := newB_head up T[j]
  rcases (by omega : st = 0 ∨ st = 1 ∨ st = 2 ∨ st = 3) with rfl | rfl | rfl | rfl
  · show stdF ((b.drop T[j].at_.toNat).take 5) _ _ = 0
    unfold stdF
    rw [if_neg (fun e => e.2 rfl), if_pos rfl]
  · show stdF (204 :: _) _ _ = 1
    unfold stdF
    rw [if_neg (fun e => by rw [e1] at e; have := e.1; injection this with x _; exact n1 x.symm), if_neg (fun e => by rw [e0] at e; injection e with x _; exact n0 x.symm)]
    rfl
  · show stdF (204 :: _) _ _ = 1
    unfold stdF
    rw [if_neg (fun e => by rw [e1] at e; have := e.1; injection this with x _; exact n1 x.symm), if_neg (fun e => by rw [e0] at e; injection e with x _; exact n0 x.symm)]
    rfl
  · show stdF (newB (bx up T[j])) _ _ = 2
    unfold stdF
    rw [if_pos ⟨rfl, fun e => hne e.symm⟩]
theorem sgS_le (T : List Si) (s : PS) (j : Nat) (h : Inv b T up nR d s) : sgS T s j ≤ 3 := by
  have hw0 := h.w0
  have hd := h.dn
  unfold sgS sig lowS
  split
  · omega
  · split
    · by_cases e2 : s.ph = 3
      · rw [if_pos e2]; split <;> omega
      · rw [if_neg e2]
        by_cases e3 : s.ph = 4
        · rw [if_pos e3]; split <;> omega
        · rw [if_neg e3]
          by_cases e4 : s.ph = 5
          · rw [if_pos e4]
            have hw := hw0 (by omega)
            have e0 : (if j < dnS T s + s.wr then 1 else 0) = 0 := if_neg (by omega)
            rw [e0]
            split
            · omega
            · split <;> omega
          · rw [if_neg e4]
            by_cases e5 : s.ph = 6
            · rw [if_pos e5]
              have hw := hw0 (by omega)
              have e0 : (if j < dnS T s + s.wr then 1 else 0) = 0 := if_neg (by omega)
              rw [e0]
              omega
            · rw [if_neg e5]; split <;> omega
    · omega
/-- the five bytes of a site -/
theorem site5 (hT : TOk b T) (h : Inv b T up nR d s) (j : Nat) (hj : j < T.length) : (s.xs.drop T[j].at_.toNat).take 5 = bw b (sgS T s j) (bx up T[j]) := by
  have hm := h.memS
  have hf := hT.fit j hj
  have h0 := hT.srt.lo j hj
  have hl := hm.len
  have hbl : (bw b (sgS T s j) (bx up T[j])).length = 5 := by
    have hN := nB_len (bx up T[j])
    have hat : (bx up T[j]).at_ = T[j].at_ := rfl
    unfold bw
    rw [hat]
    split
    · rw [List.length_take, List.length_drop]; omega
    · split
      · rw [List.length_cons, List.length_take, List.length_drop]; omega
      · split
        · rw [List.length_cons, List.length_drop, hN]
        · exact hN
  apply List.ext_getElem?
  intro t
  by_cases ht : t < 5
  · rw [List.getElem?_take, if_pos ht, List.getElem?_drop]
    exact hm.at_ j hj t ht
  · rw [List.getElem?_take, if_neg ht, List.getElem?_eq_none (by rw [hbl]; omega)]
end Go.Proofs.Ytekggimgobeggaa

/- PokeOrder's loops, as lists. -/
namespace Go.Proofs.Ytekggimgobeggaa
open Go.RowKit
variable {b : List Int} {T : List Si} {up : Bool} {nR M0 k : Nat} {s : PS}

/-- the first switch: all harts take their syncs ahead of each step -/
structure IF (b : List Int) (T : List Si) (up : Bool) (nR M0 k : Nat) (s : PS) : Prop where
  ok : POk s ((M0 : Int) + k)
  bt : BtOk s.bt
  inv : ∃ d, Inv b T up nR d s
  kk : k + remS' s ≤ 221
theorem IF.beg (hb : s.bt = []) (hf : s.fs.length = nR) (ho : ovr s.fs = true) (hw : s.wr = 0) (hk : POk s M0) (hl : T.length ≤ 20) : IF s.xs T up nR (M0 + 1) 0 (begP s T up) := by
  have h := IN.beg (up := up) hb hf ho hw hk hl
  exact ⟨h.ok, h.bt, h.inv, by have := h.kk; omega⟩
theorem pok_flags {M : Int} (h : POk s M) (fs : List Bool) : POk { s with fs := fs } M := ⟨h.ph, h.nx, h.w1, h.w2, h.c1, h.c2, h.c3, h.c4, h.n, h.xl⟩
theorem IF.next (h : IF b T up nR M0 k s) (hT : TOk b T) (h0 : s.ph ≠ 0) (rs : List Bool) (hrs : rs.length = nR) (fs : List Bool) (hl : fs.length = nR) (ho : ovr fs = true) : IF b T up nR M0 (k + 1) (stpP { s with fs := fs } rs).s := by
  obtain ⟨d, hi⟩ := h.inv
  have hs := st_any hT (hi.takes fs hl (fun _ => ho)) h0 rs hrs
  obtain ⟨k1, k2⟩ := stp_ok (rs := rs) (pok_flags h.ok fs) (show BtOk ({ s with fs := fs } : PS).bt from h.bt)
  have hw : wtg { s with fs := fs } = false := by
    show (decide (s.ph = 5) && !ovr fs) = false
    rw [ho]; simp
  obtain ⟨g1, -, -, -, -⟩ := hs.goes hw
  have e1 : remS' { s with fs := fs } = remS' s := rfl
  have kk := h.kk
  exact ⟨k1.mono (by omega), k2, hs.inv, by omega⟩
theorem IF.ends (h : IF b T up nR M0 k s) (hk : 222 ≤ k) : False := by
  have := h.kk
  omega
/-- behind the first switch -/
theorem IF.done (h : IF b T true nR M0 k s) (hT : TOk b T) (h0 : s.ph = 0) : s.bt = [] ∧ s.wr = 0 ∧ s.fs.length = nR ∧ ovr s.fs = true ∧ s.xs.length = b.length ∧ Bef s.xs T false := by
  obtain ⟨d, hi⟩ := h.inv
  obtain ⟨z1, z2⟩ := hi.z0 h0
  refine ⟨z2, hi.w0 (by omega), hi.fl, hi.ov (by omega), hi.mem.len, bef_down fun j hj => ?_⟩
  rw [site5 hT hi j hj]
  have hd : dnS T s = T.length := by unfold dnS; rw [z1, z2]; rfl
  have e : sgS T s j = 3 := by unfold sgS sig; rw [hd, if_pos hj]
  rw [e]
  rfl
/-- the second switch: a hart takes its sync now and then -/
structure IO (b : List Int) (T : List Si) (up : Bool) (nR M0 k : Nat) (s : PS) (last : Nat → Int) : Prop where
  ok : POk s ((M0 : Int) + k)
  bt : BtOk s.bt
  inv : ∃ d, Inv b T up nR d s
  at_ : ∀ j, j < T.length → last j = atS (sgS T s j)
theorem IO.beg (hb : s.bt = []) (hf : s.fs.length = nR) (ho : ovr s.fs = true) (hw : s.wr = 0) (hk : POk s M0) (hl : T.length ≤ 20) : IO s.xs T up nR (M0 + 1) 0 (begP s T up) (fun _ => 0) := by
  have h := IN.beg (up := up) hb hf ho hw hk hl
  refine ⟨h.ok, h.bt, h.inv, fun j hj => ?_⟩
  have e : sgS T (begP s T up) j = 0 := by
    unfold sgS sig
    have hd : dnS T (begP s T up) = 0 := by
      unfold dnS
      show T.length - s.bt.length - T.length = 0
      omega
    have hbl : (begP s T up).bt.length = 0 := by show s.bt.length = 0; rw [hb]; rfl
    rw [hd, hbl, if_neg (by omega), if_neg (by omega)]
  rw [e]
  rfl
theorem sgS_flags (T : List Si) (s : PS) (fs : List Bool) (j : Nat) : sgS T { s with fs := fs } j = sgS T s j := rfl
/-- what a round asks, of lists: the new state, memory that stays, each site that does not fall back -/
theorem IO.next {last : Nat → Int} (h : IO b T up nR M0 k s last) (hT : TOk b T) (h0 : s.ph ≠ 0) (rs : List Bool) (hrs : rs.length = nR) (fs : List Bool) (hl : fs.length = nR) (ho : ovr s.fs = true → ovr fs = true) :
    IO b T up nR M0 (k + 1) (stpP { s with fs := fs } rs).s (fun j => atS (sgS T (stpP { s with fs := fs } rs).s j)) ∧
      ((s.ph = 5 ∨ s.ph = 1 ∨ s.ph = 6 ∨ ovr fs = false) → (stpP { s with fs := fs } rs).s.xs = s.xs) ∧
      ∀ j, j < T.length → last j ≤ atS (sgS T (stpP { s with fs := fs } rs).s j) := by
  obtain ⟨d, hi⟩ := h.inv
  have hi1 := hi.takes fs hl ho
  have hs := st_any hT hi1 h0 rs hrs
  obtain ⟨k1, k2⟩ := stp_ok (rs := rs) (pok_flags h.ok fs) (show BtOk ({ s with fs := fs } : PS).bt from h.bt)
  obtain ⟨d2, hi2⟩ := hs.inv
  refine ⟨⟨k1.mono (by omega), k2, ⟨d2, hi2⟩, fun _ _ => rfl⟩, fun hp => ?_, fun j hj => ?_⟩
  · have hp2 : s.ph = 0 ∨ s.ph = 1 ∨ s.ph = 5 ∨ s.ph = 6 := by
      rcases hp with e | e | e | e
      · exact .inr (.inr (.inl e))
      · exact .inr (.inl e)
      · exact .inr (.inr (.inr e))
      · exact .inr (.inr (.inl (hi1.open5 e)))
    exact stp_xs { s with fs := fs } rs hp2
  · rw [h.at_ j hj]
    have h1 := stp_sg hT hi1 rs j hj
    rw [sgS_flags] at h1
    exact atS_mono h1 (sgS_le T _ j hi2)
theorem Inv.get {d : Nat} (h : Inv b T up nR d s) (i : Nat) (hi : i < s.bt.length) : ∃ hj : d + i < T.length, s.bt[i] = bx up T[d + i] := by
  obtain ⟨hj, e⟩ := h.at_ i hi
  rw [List.getElem?_eq_getElem hi] at e
  injection e with e
  exact ⟨hj, e⟩
theorem at_inj (hT : TOk b T) (i j : Nat) (hi : i < T.length) (hj : j < T.length) (e : T[i].at_ = T[j].at_) : i = j := by
  rcases Nat.lt_trichotomy i j with h | h | h
  · have := hT.srt.gap i j hj h; omega
  · exact h
  · have := hT.srt.gap j i hi h; omega
/-- Find: a site at a breakpoint is found; one that is found leads where the new instruction leads -/
theorem find_site {d : Nat} (hT : TOk b T) (h : Inv b T up nR d s) (j : Nat) (hj : j < T.length) :
    (atS (sgS T s j) = 1 → (fndP s.bt T[j].at_).2 = true) ∧ ((fndP s.bt T[j].at_).2 = true → (fndP s.bt T[j].at_).1 = if up = true then T[j].to_ else T[j].at_ + 5) := by
  refine ⟨fun h1 => ?_, fun h2 => ?_⟩
  · have h3 := sgS_le T s j h
    have hs : sgS T s j = 1 ∨ sgS T s j = 2 := by
      unfold atS at h1
      split at h1
      · cases h1
      · split at h1
        · cases h1
        · omega
    obtain ⟨g1, g2⟩ := h.inbt j hj hs
    have hi : j - d < s.bt.length := by omega
    obtain ⟨hj2, e⟩ := h.get (j - d) hi
    have hb : fndB s.bt T[j].at_ = true := (fndB_iff _ _).2 ⟨j - d, hi, by
      rw [e]
      show T[d + (j - d)].at_ = T[j].at_
      congr 2; omega⟩
    unfold fndP
    rw [if_pos hb]
  · have hb : fndB s.bt T[j].at_ = true := by
      cases hc : fndB s.bt T[j].at_
      · unfold fndP at h2
        rw [hc] at h2
        cases h2
      · rfl
    obtain ⟨i, hi, e⟩ := (fndB_iff _ _).1 hb
    obtain ⟨hj2, e2⟩ := h.get i hi
    rw [e2] at e
    have hij := at_inj hT (d + i) j hj2 hj e
    obtain ⟨-, hfi⟩ := fnd_first (L := s.bt) (a := T[j].at_) hi (by rw [e2]; exact e) (fun m hm e3 => by
      obtain ⟨hm2, e4⟩ := h.get m (by omega)
      rw [e4] at e3
      have := at_inj hT (d + m) j hm2 hj e3
      omega)
    unfold fndP
    rw [if_pos hb, hfi, List.getD, List.getElem?_eq_getElem hi]
    show leadS s.bt[i] = _
    rw [e2]
    subst hij
    unfold leadS
    cases up
    · rw [if_neg (show ¬ (bx false T[d + i]).key = 1 by show ¬ dirK false = 1; decide)]
      rfl
    · rw [if_pos (show (bx true T[d + i]).key = 1 from rfl)]
      rfl
end Go.Proofs.Ytekggimgobeggaa

/- The law's 'stands' walked: how a site stands. -/
namespace Go.Proofs.Ytekggimgobeggaa
open Go.RowKit

theorem Row.part {w : World} {g : Nat} {xs : List Int} (h : Row w (some ⟨g, 0, none⟩) xs) (a : Nat) (ha : a + 5 ≤ xs.length) : Row w (some ⟨g, a, none⟩) ((xs.drop a).take 5) := fun _ => by
  obtain ⟨b, o, e, hc⟩ := h (by omega)
  injection e with e
  injection e with e1 e2
  subst e1 e2
  refine ⟨g, a, rfl, fun i hi => ?_⟩
  rw [List.length_take, List.length_drop] at hi
  have := hc (a + i) (by omega)
  rw [Nat.zero_add] at this
  rw [this]
  congr 2
  simp only [List.getD_eq_getElem?_getD, List.getElem?_take, List.getElem?_drop]
  rw [if_pos (by omega)]
set_option maxRecDepth 20000 in
set_option maxHeartbeats 4000000 in
theorem stands_any (p q n a : Nat) (sk st : Int) (xs ys : List Int) (up : Bool) (w : World) (hx : xs.length = n) (hy : ys.length = n) (hn : n ≤ 65536) (ha : a + 5 ≤ n) (ht : 0 ≤ st ∧ st ≤ 65536) (h1 : Row w (some ⟨p, 0, none⟩) xs) (h2 : Row w (some ⟨q, 0, none⟩) ys) :
    Calls Try.prog 39 #[.slice (some ⟨p, 0, none⟩) n n, .slice (some ⟨q, 0, none⟩) n n, .agg #[.int .i64 sk, .int .i64 (a : Nat), .int .i64 st], .bool up] w fun e w' => e = .returned (.int .i64 (stdF ((xs.drop a).take 5) (newB (bx up ⟨sk, (a : Nat), st⟩)) ((ys.drop a).take 5))) ∧ Below w.heap.size w w' := by
  have HB0 := Hid.in (new_alloc w (.cells #[.int .i64 sk, .int .i64 (a : Nat), .int .i64 st] 48))
  have HA0 := Hid.in (Blk.new w 48 #[.int .i64 sk, .int .i64 (a : Nat), .int .i64 st])
  have HX := Hid.in (h1.part a (by omega))
  have HY := Hid.in (h2.part a (by omega))
  have HXL : Hid (((xs.drop a).take 5).length = 5) := by show _ = 5; rw [List.length_take, List.length_drop]; omega
  have HYL : Hid (((ys.drop a).take 5).length = 5) := by show _ = 5; rw [List.length_take, List.length_drop]; omega
  have HFR : Hid (∀ W : World, Calls Try.prog 38 #[.agg #[.int .i64 sk, .int .i64 (a : Nat), .int .i64 st], .bool up] W _) := fun W => fresh_any ⟨sk, (a : Nat), st⟩ up W ⟨by show (0 : Int) ≤ (a : Nat); omega, by show ((a : Nat) : Int) ≤ 65531; omega⟩ ht
  have HFL : Hid ((newB (bx up ⟨sk, (a : Nat), st⟩)).length = 5) := nB_len _
  clear h1 h2 hx hy
  generalize (xs.drop a).take 5 = X at *
  generalize (ys.drop a).take 5 = Y at *
  generalize newB (bx up ⟨sk, (a : Nat), st⟩) = F at *
  have w5 : IntKind.i64.wrap ((a : Int) + 5) = (a : Int) + 5 := by rw [IntKind.wrap_i64]; omega
  have g1 : (0 : Int) ≤ (a : Int) := by omega
  have g2 : (a : Int) ≤ (a : Int) + 5 := by omega
  have g3 : (a : Int) + 5 ≤ (n : Int) := by omega
  go_enter Try.func39, Try.ntmps39
  go_upto_region 1 with fail
  generalize w.alloc (.cells #[.int .i64 sk, .int .i64 (a : Nat), .int .i64 st] 48) = w0 at *
  have a0 : w0.cell? ⟨w.heap.size, 0, none⟩ = some (.int .i64 sk) := HA0.out.cell 0
  have a1 : w0.cell? ⟨w.heap.size, 1, none⟩ = some (.int .i64 (a : Nat)) := HA0.out.cell 1
  have a2 : w0.cell? ⟨w.heap.size, 2, none⟩ = some (.int .i64 st) := HA0.out.cell 2
  go_wp2_with (go_at_call 38; refine Hid.out ?_)
  refine Lib.hid ?_
  (with_reducible refine (HFR.out _).mono ?_)
  rintro e w1 ⟨g, cap, rfl, ho, hb⟩
  have HF1 := Hid.in ho.row
  have HB1 := Hid.in (below_step HB0.out hb)
  have HX1 := Hid.in (HX.out.below HB1.out)
  have HY1 := Hid.in (HY.out.below HB1.out)
  have HA1 := Hid.in (HA0.out.grow hb)
  clear ho hb a0 a1 a2 HB0 HA0 HFR
  have a1 : w1.cell? ⟨w.heap.size, 1, none⟩ = some (.int .i64 (a : Nat)) := HA1.out.cell 1
  go_wp2_with (go_at_call 33; refine Hid.out ?_)
  refine Lib.hid ?_
  refine (sameBytes_any (some ⟨p, a, none⟩) (some ⟨g, 0, none⟩) 5 (n - a) 5 cap X F w1 HXL.out HFL.out (by decide) HX1.out HF1.out).mono ?_
  rintro e w2 ⟨rfl, m2, rfl⟩
  have HB2 := Hid.in (below_draws HB1.out m2)
  have HA2 := Hid.in (HA1.out.grow (below_draws (below_self w1) m2))
  have HX2 := Hid.in (HX.out.below HB2.out)
  have HSY : Hid (∀ W, Below w.heap.size w W → Calls Try.prog 33 #[.slice (some ⟨p, a, none⟩) 5 (n - a), .slice (some ⟨q, a, none⟩) 5 (n - a)] W _) := fun W hB => sameBytes_any (some ⟨p, a, none⟩) (some ⟨q, a, none⟩) 5 (n - a) 5 (n - a) X Y W HXL.out HYL.out (by decide) (HX.out.below hB) (HY.out.below hB)
  clear HB1 HA1 HX1 HY1 HF1 a1 HX HY
  generalize w1.drewN m2 = w2 at *
  have a1 : w2.cell? ⟨w.heap.size, 1, none⟩ = some (.int .i64 (a : Nat)) := HA2.out.cell 1
  by_cases eF : X = F
  · rw [sameB_yes eF]
    go_wp2_with (go_at_call 33; refine Hid.out ?_)
    refine Lib.hid ?_
    refine (HSY.out _ HB2.out).mono ?_
    rintro e w3 ⟨rfl, m3, rfl⟩
    have HB3 := Hid.in (below_draws HB2.out m3)
    have HA3 := Hid.in (HA2.out.grow (below_draws (below_self w2) m3))
    clear HB2 HA2 HX2 a1
    generalize w2.drewN m3 = w3 at *
    have a1 : w3.cell? ⟨w.heap.size, 1, none⟩ = some (.int .i64 (a : Nat)) := HA3.out.cell 1
    by_cases eY : X = Y
    · have HR : Hid (stdF X F Y = 0) := by show stdF X F Y = 0; unfold stdF; rw [if_neg (fun e => e.2 eY), if_pos eY]
      rw [sameB_yes eY] at HSY ⊢
      clear eF eY
      go_wp2_with (go_at_call 33; refine Hid.out ?_)
      refine Lib.hid ?_
      refine (HSY.out _ HB3.out).mono ?_
      rintro e w4 ⟨rfl, m4, rfl⟩
      have HB4 := Hid.in (below_draws HB3.out m4)
      clear a1
      generalize w3.drewN m4 = w4 at *
      go_wp2_with fail
      go_ret
      exact ⟨by rw [HR.out]; rfl, HB4.out⟩
    · have HR : Hid (stdF X F Y = 2) := by show stdF X F Y = 2; unfold stdF; rw [if_pos ⟨eF, eY⟩]
      rw [sameB_no eY]
      clear eF eY
      go_wp2_with fail
      go_ret
      exact ⟨by rw [HR.out]; rfl, HB3.out⟩
  · rw [sameB_no eF]
    have HEF := Hid.in eF
    clear eF
    go_wp2_with (go_at_call 33; refine Hid.out ?_)
    refine Lib.hid ?_
    refine (HSY.out _ HB2.out).mono ?_
    rintro e w3 ⟨rfl, m3, rfl⟩
    have HB3 := Hid.in (below_draws HB2.out m3)
    have HX3 := Hid.in (HX2.out.below (below_draws (below_self w2) m3))
    clear HB2 HA2 HX2 a1
    generalize w2.drewN m3 = w3 at *
    by_cases eY : X = Y
    · have HR : Hid (stdF X F Y = 0) := by show stdF X F Y = 0; unfold stdF; rw [if_neg (fun e => e.2 eY), if_pos eY]
      rw [sameB_yes eY]
      clear eY
      go_wp2_with fail
      go_ret
      exact ⟨by rw [HR.out]; rfl, HB3.out⟩
    · rw [sameB_no eY]
      obtain ⟨b0, o0, e0, hc⟩ := HX3.out (by rw [HXL.out]; decide)
      injection e0 with e0
      injection e0 with e1 e2
      subst e1 e2
      have c0 := hc 0 (by rw [HXL.out]; decide)
      rw [Nat.add_zero] at c0
      have HR : Hid (stdF X F Y = if X.getD 0 0 = 204 then 1 else -1) := by show stdF X F Y = _; unfold stdF; rw [if_neg (fun e => HEF.out e.1), if_neg eY]
      clear eY hc
      generalize X.getD 0 0 = x0 at *
      by_cases h2 : x0 = 204
      · have q1 : (x0 == 204) = true := by simpa using h2
        rw [if_pos h2] at HR
        go_wp2_with fail
        go_ret
        exact ⟨by rw [HR.out]; rfl, HB3.out⟩
      · have q1 : (x0 == 204) = false := by simpa using h2
        rw [if_neg h2] at HR
        go_wp2_with fail
        go_ret
        exact ⟨by rw [HR.out]; rfl, HB3.out⟩
end Go.Proofs.Ytekggimgobeggaa
