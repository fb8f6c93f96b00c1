/-
  Proved here: the law SitesHolds (switchyardlaw08) answers true for every input, and each argument reads afterwards as it read before. No condition of ours: the row's own reach alone (each slice and text takes at most 2^47 - 4096 bytes).
-/
import Derived.Test.YtckpgpgmaccepaaGreatTq
import Derived.Test.YtckpgpgmaccepaaGreatCpyL
import Derived.Test.YtckpgpgmaccepaaGreatResW
import Derived.BigQuiet
import Derived.Lib.QuietBelow
import Derived.Deep.DeepCutAuto
import Derived.Test.YtckpgpgmaccepaaGreatOpenU

/- SitesHolds: what is seen of the table, and where all lies. -/
namespace Go.Proofs.YtckpgpgmaccepaaGreat
open Go.RowKit Go.Maps Go.WideMaps

theorem GOwn.of_bools {w w' : World} {B n : Nat} (h : w'.ownsRow B 4 1 (.slice (some ⟨w.heap.size, 0, none⟩) n n) n (madeCells #[Value.bool false] (n * 1)).toList) : GOwn 4 w' B w.heap.size n ((List.replicate n false).map Value.bool) := by
  have e : (madeCells #[Value.bool false] (n * 1)).toList = (List.replicate n false).map Value.bool := by
    simp [madeCells]
    rw [List.eq_replicate_iff]
    refine ⟨by simp, fun b hb => ?_⟩
    obtain ⟨x, -, rfl⟩ := List.mem_map.1 hb
    simp [Nat.mod_one]
  rw [e] at h
  unfold GOwn
  simpa using h

/-- where the table, its keys, the beginnings and what is seen lie -/
structure HldAt (xs : List Ob) (w0 w : World) (p1 p2 p3 : Option Addr) (c1 c2 c3 : Nat) (T : List Si) (ks : List ByteArray) (gS : Nat) (S : List Bool) : Prop where
  t : TOwn 34 w w0.heap.size (.slice p1 T.length c1) (T.map siV)
  k : GOwnV 9 w w0.heap.size (.slice p2 ks.length c2) (ks.map Value.string)
  s : GOwnV 3 w w0.heap.size (.slice p3 xs.length c3) (startsV (begs 0 xs))
  n : GOwn 4 w w0.heap.size gS S.length (S.map Value.bool)
  bel : Below w0.heap.size w0 w
theorem HldAt.below {xs : List Ob} {w0 w w' : World} {p1 p2 p3 : Option Addr} {c1 c2 c3 : Nat} {T : List Si} {ks : List ByteArray} {gS : Nat} {S : List Bool} (h : HldAt xs w0 w p1 p2 p3 c1 c2 c3 T ks gS S) (hb : Below w.heap.size w w') : HldAt xs w0 w' p1 p2 p3 c1 c2 c3 T ks gS S :=
  ⟨h.t.below hb, h.k.below hb, h.s.below hb, h.n.below hb, below_step h.bel hb⟩
theorem HldAt.drewN {xs : List Ob} {w0 w : World} {p1 p2 p3 : Option Addr} {c1 c2 c3 : Nat} {T : List Si} {ks : List ByteArray} {gS : Nat} {S : List Bool} (h : HldAt xs w0 w p1 p2 p3 c1 c2 c3 T ks gS S) (n : Nat) : HldAt xs w0 (w.drewN n) p1 p2 p3 c1 c2 c3 T ks gS S :=
  ⟨h.t.drewN n, h.k.drewN n, h.s.drewN n, h.n.drewN n, below_draws h.bel n⟩
theorem HldAt.set {xs : List Ob} {w0 w : World} {p1 p2 p3 : Option Addr} {c1 c2 c3 : Nat} {T : List Si} {ks : List ByteArray} {gS : Nat} {S : List Bool} (h : HldAt xs w0 w p1 p2 p3 c1 c2 c3 T ks gS S) (i : Nat) : HldAt xs w0 (w.setCell ⟨gS, i, none⟩ (.bool true)) p1 p2 p3 c1 c2 c3 T ks gS (S.set i true) := by
  have hg := grown_setCell w gS i (.bool true)
  obtain ⟨cur, hB, hblk, -⟩ := h.n.parts
  have hk : Keeps (fun j => j = gS) w (w.setCell ⟨gS, i, none⟩ (.bool true)) := (Keeps.refl _ _).grown hg (fun j e => by injection e with e; exact .inl e.symm)
  have hno : ∀ j cur' e fr, w.heap[j]? = some (.cells cur' e fr) → e ≠ 4 → ¬ j = gS := fun j cur' e fr hj he ej => cells_ne hj hblk he ej
  refine ⟨h.t.keeps hk (fun g hg' => ?_), h.k.keeps hk (fun g hg' => ?_), h.s.keeps hk (fun g hg' => ?_), ?_, ?_⟩
  · rcases h.t.block with e | ⟨g', cur', e1, _, e3⟩
    · rw [e] at hg'; cases hg'
    · rw [e1] at hg'; injection hg' with hg'; subst hg'
      exact hno _ _ _ _ e3 (by decide)
  · rcases h.k.block with e | ⟨g', cur', e1, _, e3⟩
    · rw [e] at hg'; cases hg'
    · rw [e1] at hg'; injection hg' with hg'; subst hg'
      exact hno _ _ _ _ e3 (by decide)
  · rcases h.s.block with e | ⟨g', cur', e1, _, e3⟩
    · rw [e] at hg'; cases hg'
    · rw [e1] at hg'; injection hg' with hg'; subst hg'
      exact hno _ _ _ _ e3 (by decide)
  · have h1 := h.n.store i (.bool true)
    rw [List.length_set]
    have e : (S.map Value.bool).set i (.bool true) = (S.set i true).map Value.bool := by rw [List.map_set]
    rw [e] at h1
    exact h1
  · have hs := h.bel.size
    have hk' := hk.below (B := w0.heap.size) hs (fun j hj => by have e : j = gS := hj; omega)
    exact ⟨hk'.os.trans h.bel.os, hk'.tape.trans h.bel.tape, hk'.output.trans h.bel.output, Nat.le_trans hs hk'.size, fun j hj => (hk'.block j hj).trans (h.bel.block j hj)⟩

/-- the sites of the marks up to here are seen -/
def SeenS (xs : List Ob) (T : List Si) (i j : Nat) (S : List Bool) : Prop :=
  S.length = T.length ∧ (∀ u, u < i → ∀ (hu : u < xs.length), ∀ m ∈ xs[u].mk_, ∀ k, atS T (((nextS (endAt 0 xs u) : Nat) : Int) + m.at_) = some k → S[k]? = some true) ∧ (∀ (hi : i < xs.length), ∀ m ∈ xs[i].mk_.take j, ∀ k, atS T (((nextS (endAt 0 xs i) : Nat) : Int) + m.at_) = some k → S[k]? = some true)
theorem SeenS.start (xs : List Ob) (T : List Si) : SeenS xs T 0 0 (List.replicate T.length false) := ⟨by simp, fun u hu => absurd hu (Nat.not_lt_zero _), fun hi m hm => by simp at hm⟩
theorem SeenS.unit {xs : List Ob} {T : List Si} {i j : Nat} {S : List Bool} (h : SeenS xs T i j S) (hi : i < xs.length) (hj : xs[i].mk_.length ≤ j) : SeenS xs T (i + 1) 0 S :=
  ⟨h.1, fun u hu hux m hm => by
    by_cases e : u = i
    · subst e
      exact h.2.2 hux m (by rw [List.take_of_length_le hj]; exact hm)
    · exact h.2.1 u (by omega) hux m hm, fun hi m hm => by simp at hm⟩
theorem SeenS.mark {xs : List Ob} {T : List Si} {i j k : Nat} {S : List Bool} (h : SeenS xs T i j S) (hi : i < xs.length) (hj : j < xs[i].mk_.length) (hk : k < T.length) (ha : atS T (((nextS (endAt 0 xs i) : Nat) : Int) + xs[i].mk_[j].at_) = some k) : SeenS xs T i (j + 1) (S.set k true) := by
  have hset : ∀ q, S[q]? = some true → (S.set k true)[q]? = some true := fun q hq => by
    by_cases e : k = q
    · subst e
      rw [List.getElem?_set_self (by rw [h.1]; exact hk)]
    · rw [List.getElem?_set_ne e]; exact hq
  refine ⟨by rw [List.length_set]; exact h.1, fun u hu hux m hm q hq => hset q (h.2.1 u hu hux m hm q hq), fun hi' m hm q hq => ?_⟩
  rw [List.take_succ_eq_append_getElem hj] at hm
  rcases List.mem_append.1 hm with hm | hm
  · exact hset q (h.2.2 hi m hm q hq)
  · rw [List.mem_singleton] at hm
    subst hm
    rw [ha] at hq
    injection hq with hq
    subst hq
    rw [List.getElem?_set_self (by rw [h.1]; exact hk)]
/-- all sites are seen -/
theorem SeenS.all {xs : List Ob} {S : List Bool} (he : (mergeL xs).e = 0) (h : SeenS xs (mergeL xs).si xs.length 0 S) {k : Nat} (hk : k < S.length) : S[k]? = some true := by
  obtain ⟨j, hj, m, hm, ha⟩ := merge_site he (k := k) (by rw [← h.1]; exact hk)
  exact h.2.1 j hj hj m hm k ha

end Go.Proofs.YtckpgpgmaccepaaGreat

/- SitesHolds: what is merged is a right table, with each mark's site, and no other one. -/
namespace Go.Proofs.YtckpgpgmaccepaaGreat
open Go.RowKit Go.Maps Go.WideMaps

set_option maxRecDepth 20000 in
set_option maxHeartbeats 1000000 in
theorem holds_bad (p : Option Addr) (n c : Nat) (xs : List Ob) (w : World) (hn : xs.length = n) (hn96 : n * 96 ≤ 140737488351232) (hx : Units w p xs) (hW : ∀ x ∈ xs, ObW x) (he : (mergeL xs).e ≠ 0) :
    Calls Tryz.prog 5 #[.slice p n c] w fun E w' => E = .returned (.bool true) ∧ Below w.heap.size w w' := by
  have hcp := copyObjects_any p n c xs w hn hn96 hx hW
  have HN := Hid.in hn
  have HMB := Hid.in (merge_bad he)
  clear hn hx hW
  go_enter Tryz.func5, Tryz.ntmps5
  go_wp2_with (go_at_call 6; refine Hid.out ?_)
  refine Lib.hid ?_
  refine hcp.mono ?_
  rintro E w1 ⟨v1, rfl, ho1, hb1⟩
  obtain ⟨p1, c1, rfl, -, -, hu1⟩ := ho1.slice
  rw [HN.out]
  have hmg := merge_any p1 n c1 xs w1 HN.out (by omega) hu1
  unfold MrgIs at hmg
  rw [HMB.out.1, HMB.out.2] at hmg
  have HB1 := Hid.in hb1
  clear ho1 hu1 hb1 hcp
  generalize (mergeL xs).e = me at *
  generalize (mergeL xs).u = mu at *
  go_wp2_with (go_at_call 7; refine Hid.out ?_)
  refine Lib.hid ?_
  refine hmg.mono ?_
  rintro E w2 ⟨v2, v3, rfl, ho2, ho3, hb2⟩
  obtain ⟨p2, c2, rfl, -, -, -⟩ := ho2.shape
  obtain ⟨p3, c3, rfl, -, -, -⟩ := ho3.slice
  have HB2 := Hid.in (below_step HB1.out hb2)
  clear ho2 ho3 hb2 hmg HB1
  dsimp only [List.map_nil, List.length_nil]
  have hd : decide (me = 0) = false := decide_eq_false he
  go_wp2_with (go_at_call 14; refine Hid.out ?_)
  refine Lib.hid ?_
  refine (awake_any w2).mono ?_
  rintro E w3 ⟨rfl, hb3⟩
  have HB3 := Hid.in (below_step HB2.out hb3)
  clear hb3 HB2
  go_wp2_with fail
  go_ret
  exact ⟨rfl, HB3.out⟩

theorem stB_len (xs : List Ob) : (startsV (begs 0 xs)).length = xs.length := by unfold startsV; rw [List.length_map, begs_len]
theorem stB_at {xs : List Ob} {i : Nat} (hi : i < xs.length) : (startsV (begs 0 xs))[i]? = some (.int .i64 (nextS (endAt 0 xs i) : Nat)) := by
  unfold startsV
  rw [List.getElem?_map, List.getElem?_eq_getElem (by rw [begs_len]; exact hi), begs_at xs 0 i hi]
  rfl

set_option maxRecDepth 20000 in
set_option maxHeartbeats 2000000 in
theorem holds_good (p : Option Addr) (n c : Nat) (xs : List Ob) (w : World) (hn : xs.length = n) (hn96 : n * 96 ≤ 140737488351232) (hx : Units w p xs) (hW : ∀ x ∈ xs, ObW x) (he : (mergeL xs).e = 0) :
    Calls Tryz.prog 5 #[.slice p n c] w fun E w' => E = .returned (.bool true) ∧ Below w.heap.size w w' := by
  obtain ⟨htab, -, hmo⟩ := merge_ok he
  have hright := merge_right he
  obtain ⟨h16, ht, hok, hend, -⟩ := tab_good htab
  have HCP : Hid (∀ W, Below w.heap.size w W → Calls Tryz.prog 6 #[.slice p n c] W fun E w' => ∃ v, E = .returned v ∧ UOwn w' W.heap.size v xs ∧ Below W.heap.size W w') := fun W hW' => copyObjects_any p n c xs W hn hn96 (hx.below hW') hW
  have HX : Hid (∀ W, Below w.heap.size w W → Units W p xs) := fun W hW' => hx.below hW'
  have HN := Hid.in hn
  have HE := Hid.in he
  have HTB := Hid.in htab
  have HOK := Hid.in hok
  have HEND := Hid.in hend
  have hu0 : (mergeL xs).u = 0 := by rw [hmo]
  have HMM : Hid (∀ {j : Nat} (hj : j < xs.length) {m : Mk}, m ∈ xs[j].mk_ → (resL xs j m.to_).2 = 0 ∧ ∃ k, ∃ hk : k < (mergeL xs).si.length, atS (mergeL xs).si (((nextS (endAt 0 xs j) : Nat) : Int) + m.at_) = some k ∧ (mergeL xs).si[k].to_ = (resL xs j m.to_).1 ∧ ∃ q : Nat, ∃ hq : q < (mergeL xs).ks.length, (mergeL xs).si[k].key = q ∧ (mergeL xs).ks[q] = m.key) := fun hj _ hm => merge_mark he hj hm
  have HSA : Hid (∀ {S : List Bool}, SeenS xs (mergeL xs).si xs.length 0 S → ∀ {k : Nat}, k < S.length → S[k]? = some true) := fun h _ hk => SeenS.all he h hk
  obtain ⟨hT256, hK64⟩ : (mergeL xs).si.length ≤ 256 ∧ (mergeL xs).ks.length ≤ 64 := by
    obtain ⟨-, -, -, h1, h2, -⟩ := right_byKey hright
    exact ⟨h2, by omega⟩
  have hn16 : n ≤ 16 := by omega
  clear hx hW hn hok hend hmo
  have hcp := HCP.out w (below_self w)
  go_enter Tryz.func5, Tryz.ntmps5
  go_wp2_with (go_at_call 6; refine Hid.out ?_)
  refine Lib.hid ?_
  refine hcp.mono ?_
  rintro E w1 ⟨v1, rfl, ho1, hb1⟩
  obtain ⟨p1, c1, rfl, -, -, hu1⟩ := ho1.slice
  rw [HN.out]
  have hmg := merge_any p1 n c1 xs w1 HN.out (by omega) hu1
  unfold MrgIs at hmg
  rw [he, hu0] at hmg
  have HB1 := Hid.in hb1
  clear ho1 hu1 hb1 hcp he hu0
  generalize (mergeL xs).si = T at *
  generalize (mergeL xs).ks = ks at *
  go_wp2_with (go_at_call 7; refine Hid.out ?_)
  refine Lib.hid ?_
  refine hmg.mono ?_
  rintro E w2 ⟨v2, v3, rfl, ho2, ho3, hb2⟩
  obtain ⟨p2, c2, rfl, -, -, -⟩ := ho2.shape
  obtain ⟨p3, c3, rfl, -, -, -⟩ := ho3.slice
  rw [List.length_map] at ho2 ⊢
  rw [List.length_map] at ho3 ⊢
  have hsz1 := HB1.out.size
  have HO2 := Hid.in (ho2.lower hsz1)
  have HO3 := Hid.in (ho3.lowerV hsz1)
  have HB2 := Hid.in (below_step HB1.out hb2)
  clear ho2 ho3 hb2 hmg HB1 hsz1
  have hcp := HCP.out w2 HB2.out
  go_wp2_with (go_at_call 6; refine Hid.out ?_)
  refine Lib.hid ?_
  refine hcp.mono ?_
  rintro E w3 ⟨v4, rfl, ho4, hb3⟩
  obtain ⟨p4, c4, rfl, -, -, hu4⟩ := ho4.slice
  rw [HN.out]
  have hta := table_any p4 n c4 xs w3 HN.out (by omega) hu4
  unfold TabIs at hta
  rw [ht] at hta
  dsimp only at hta
  have HO23 := Hid.in (HO2.out.below hb3)
  have HO33 := Hid.in (HO3.out.below hb3)
  have HB3 := Hid.in (below_step HB2.out hb3)
  clear ho4 hu4 hb3 hcp HO2 HO3 HB2 ht
  go_wp2_with (go_at_call 23; refine Hid.out ?_)
  refine Lib.hid ?_
  refine hta.mono ?_
  rintro E w4 ⟨v5, v6, rfl, ho5, ho6, hb4⟩
  obtain ⟨p5, c5, rfl, -, -, -⟩ := ho5.slice
  obtain ⟨p6, c6, rfl, -, -, -⟩ := ho6.shape
  rw [stB_len, HN.out] at ho5 ⊢
  have hsz3 := HB3.out.size
  have HO54 := Hid.in (ho5.lowerV hsz3)
  have HO24 := Hid.in (HO23.out.below hb4)
  have HO34 := Hid.in (HO33.out.below hb4)
  have HB4 := Hid.in (below_step HB3.out hb4)
  clear ho5 ho6 hb4 hta HO23 HO33 HB3 hsz3
  obtain ⟨q2, d2, e2, -, -, hr2⟩ := HO24.out.row3
  have e2' : q2 = p2 := by injection e2 with e; exact e.symm
  clear e2
  subst e2'
  have hri := sright_any q2 T.length c2 T (ks.length : Nat) w4 rfl (by omega) hr2
  rw [hright] at hri
  clear hr2 hright
  have g1 : (n != n) = false := by simp
  go_wp2_with (go_at_call 21; refine Hid.out ?_)
  refine Lib.hid ?_
  refine hri.mono ?_
  rintro E w5 ⟨rfl, hb5⟩
  have HO25 := Hid.in (HO24.out.below hb5)
  have HO35 := Hid.in (HO34.out.below hb5)
  have HO55 := Hid.in (HO54.out.below hb5)
  have HB5 := Hid.in (below_step HB4.out hb5)
  clear hb5 hri HO24 HO34 HO54 HB4
  obtain ⟨i0, hi, hz0, hz1, hz2⟩ := info_parts (show (Tryz.prog.info? 4).map (fun i => (i.zero, i.size, i.bytes)) = some (some (.bool false), 1, 1) by kernel_rfl)
  go_upto_region 8 with (at_make; refine wpList_make_full _ rfl _ _ 51 rfl w.heap.size 4 i0 (.bool false) 1 Tryz.underlying51 hi hz0 hz1 _ _ _ _ T.length rfl rfl rfl rfl (by rw [hz2]; omega) (by unfold maxLen; omega) HB5.out.size ?_; intro w6 hown hgrow; have HB6 := Hid.in ((Below.refl w5.heap.size w5).grown hgrow (Nat.le_refl _) (by simp)); have HS6 := Hid.in (GOwn.of_bools hown); clear hown hgrow)
  have HH6 : Hid (HldAt xs w w6 q2 p3 p5 c2 c3 c5 T ks w5.heap.size (List.replicate T.length false)) := by
    have hb := HB6.out
    refine ⟨HO25.out.below hb, HO35.out.below hb, ?_, ?_, below_step HB5.out hb⟩
    · rw [HN.out]; exact HO55.out.below hb
    · rw [List.length_replicate]; exact HS6.out
  clear HO25 HO35 HO55 HB5 HB6 HS6 hi hz0 hz1 hz2
  generalize w5.heap.size = gS at *
  go_wp2_with fail
  go_loopw [12] (fun vi wr => ∃ (i : Nat) (S : List Bool), vi = .int .i64 i ∧ i ≤ n ∧ HldAt xs w wr q2 p3 p5 c2 c3 c5 T ks gS S ∧ SeenS xs T i 0 S) (fun vi _ => n - (intOf vi).toNat)
  case atStart => exact ⟨0, _, rfl, Nat.zero_le _, HH6.out, SeenS.start xs T⟩
  case round =>
    obtain ⟨i, S, rfl, hi, hH, hS⟩ := hrel
    have HH := Hid.in hH
    have HS := Hid.in hS
    clear hH hS HH6
    by_cases hlt : i < n
    · have hiX : i < xs.length := by rw [HN.out]; exact hlt
      obtain ⟨b, o, rfl, hcc⟩ := (HX.out w (below_self w)) (by omega)
      obtain ⟨pb, ps, pf, pm, cb, cs, cf, cm, ⟨-, -, -, k3⟩, hI⟩ := hcc i hiX
      have c3x := (HH.out.bel.cell (cell_lt k3)).trans k3
      have HIW : Hid (∀ W, Below w.heap.size w W → Row3 W pm (xs[i].mk_.map mkV)) := fun W hW => hI.rm.below hW
      have HMR : Hid (xs[i].mk_.length ≤ 4096) := ok_few (HOK.out _ (List.getElem_mem hiX))
      have HMK : Hid (∀ x ∈ xs[i].mk_, x.key.size ≤ 16 ∧ x.to_.size ≤ 16 ∧ 0 ≤ x.at_ ∧ x.at_ ≤ 65536) := fun x hx => ok_mk (HOK.out _ (List.getElem_mem hiX)) hx
      have HBS : Hid (nextS (endAt 0 xs i) ≤ 65536) := by
        have h1 := HEND.out (i + 1) hiX
        rw [endAt_succ xs 0 i hiX] at h1
        have h2 : nextS (endAt 0 xs i) ≤ 65536 := by omega
        exact h2
      have HST : Hid (∀ W S', HldAt xs w W q2 p3 p5 c2 c3 c5 T ks gS S' → ∃ b2 o2, p5 = some ⟨b2, o2, none⟩ ∧ W.cell? ⟨b2, o2 + i, none⟩ = some (.int .i64 (nextS (endAt 0 xs i) : Nat))) := fun W S' h => by
        obtain ⟨pz, cz, e1, hr, -, -⟩ := h.s.slice
        have e2 : pz = p5 := by injection e1 with e; exact e.symm
        rw [e2] at hr
        obtain ⟨b2, o2, e3, hc⟩ := hr (by rw [stB_len]; omega)
        exact ⟨b2, o2, e3, (hc i (by rw [stB_len]; exact hiX)).trans (stB_at hiX)⟩
      clear hcc hI k3
      go_wp2_with fail
      go_loopw [80] (fun vj ws => ∃ (j : Nat) (S' : List Bool), vj = .int .i64 j ∧ j ≤ xs[i].mk_.length ∧ HldAt xs w ws q2 p3 p5 c2 c3 c5 T ks gS S' ∧ SeenS xs T i j S') (fun vj _ => xs[i].mk_.length - (intOf vj).toNat)
      case atStart => exact ⟨0, S, rfl, Nat.zero_le _, HH.out, HS.out⟩
      case round =>
        obtain ⟨j, S', rfl, hj, hH7, hS7⟩ := hrel
        have HH7 := Hid.in hH7
        have HS7 := Hid.in hS7
        clear hH7 hS7 HH HS c3x
        by_cases hlj : j < xs[i].mk_.length
        · obtain ⟨b3, o3, rfl, hc3⟩ := (HIW.out _ HH7.out.bel) (by rw [List.length_map]; omega)
          obtain ⟨e0, e1, e2⟩ := cells3 hc3 j (by rw [List.length_map]; exact hlj)
          simp only [List.getElem_map, mkV] at e0 e1 e2
          clear hc3
          obtain ⟨hk1, hk2, hk3⟩ := HMK.out _ (List.getElem_mem hlj)
          obtain ⟨hres, k, hkT, hat, hto, q, hq, hkey, hks⟩ := HMM.out hiX (List.getElem_mem hlj)
          have HSM := Hid.in (HS7.out.mark hiX hlj hkT hat)
          obtain ⟨m0, m1, m2, hx⟩ : ∃ m0 m1 m2, xs[i].mk_[j] = ⟨m0, m1, m2⟩ := ⟨_, _, _, rfl⟩
          rw [hx] at e0 e1 e2 hk1 hk2 hk3 hres hat hto hks
          clear hx
          have HLJ : Hid (j + 1 ≤ xs[i].mk_.length) := hlj
          dsimp only at e0 e1 e2 hk1 hk2 hk3 hres hat hto hks
          obtain ⟨tk, ta, tt, hTk⟩ : ∃ tk ta tt, T[k] = ⟨tk, ta, tt⟩ := ⟨_, _, _, rfl⟩
          rw [hTk] at hto hkey
          dsimp only at hto hkey
          have HTC : Hid (∀ W S', HldAt xs w W q2 p3 p5 c2 c3 c5 T ks gS S' → ∃ b4 o4, q2 = some ⟨b4, o4, none⟩ ∧ W.cell? ⟨b4, o4 + k * 3, none⟩ = some (.int .i64 (q : Nat)) ∧ W.cell? ⟨b4, o4 + k * 3 + 2, none⟩ = some (.int .i64 (resL xs i m2).1)) := fun W S' h => by
            obtain ⟨pz, cz, e1, -, -, hr⟩ := h.t.row3
            have e2 : pz = q2 := by injection e1 with e; exact e.symm
            rw [e2] at hr
            obtain ⟨b4, o4, e3, hc⟩ := hr.at3 (by omega)
            obtain ⟨u1, -, u3⟩ := hc k hkT
            rw [hTk] at u1 u3
            dsimp only at u1 u3
            rw [hkey] at u1
            rw [hto] at u3
            exact ⟨b4, o4, e3, u1, u3⟩
          have HKC : Hid (∀ W S', HldAt xs w W q2 p3 p5 c2 c3 c5 T ks gS S' → ∃ b6 o6, p3 = some ⟨b6, o6, none⟩ ∧ W.cell? ⟨b6, o6 + q, none⟩ = some (.string m1)) := fun W S' h => by
            obtain ⟨pz, cz, e1, hr, -, -⟩ := h.k.slice
            have e2 : pz = p3 := by injection e1 with e; exact e.symm
            rw [e2] at hr
            obtain ⟨b6, o6, e3, hc⟩ := hr (by rw [List.length_map]; omega)
            refine ⟨b6, o6, e3, (hc q (by rw [List.length_map]; exact hq)).trans ?_⟩
            rw [List.getElem?_map, List.getElem?_eq_getElem hq, hks]
            rfl
          obtain ⟨tg, hto2⟩ : ∃ tg, (resL xs i m2).1 = tg := ⟨_, rfl⟩
          rw [hto2] at HTC
          clear hto hkey hks hTk
          have HAT := Hid.in hat
          have HRS : Hid (resL xs i m2 = (tg, 0)) := Prod.ext hto2 hres
          clear hat hres hto2
          have HW8 := Hid.in (new_alloc wr (.cells #[.int .i64 m0, .string m1, .string m2] 58))
          have HH8 := Hid.in (HH7.out.below HW8.out)
          have HX8 := Hid.in (Blk.new wr 58 #[.int .i64 m0, .string m1, .string m2])
          have hbs := HBS.out
          go_upto_region 14 with fail
          generalize wr.alloc (.cells #[.int .i64 m0, .string m1, .string m2] 58) = w8 at *
          generalize wr.heap.size = g8 at *
          clear e0 e1 e2 HH7 HW8
          obtain ⟨b2, o2, e5, y0⟩ := HST.out w8 _ HH8.out
          subst e5
          have x0 : w8.cell? ⟨g8, 0, none⟩ = some (.int .i64 m0) := HX8.out.cell 0
          have hwr : IntKind.i64.wrap (((nextS (endAt 0 xs i) : Nat) : Int) + m0) = ((nextS (endAt 0 xs i) : Nat) : Int) + m0 := by rw [IntKind.wrap_i64]; omega
          obtain ⟨pz, cz, e1, -, -, hrz⟩ := HH8.out.t.row3
          have e2 : pz = q2 := by injection e1 with e; exact e.symm
          clear e1
          subst e2
          have hcat := at_any pz T.length c2 T (((nextS (endAt 0 xs i) : Nat) : Int) + m0) w8.drew rfl (by omega) hrz
          rw [HAT.out, show atR (some k) = .tuple #[.int .i64 (k : Nat), .bool true] from rfl] at hcat
          clear hrz
          generalize nextS (endAt 0 xs i) = bi at *
          go_cut [15, 16] (fun v1 v2 wx => v1 = .int .i64 (k : Nat) ∧ v2 = .bool true ∧ Below w8.heap.size w8 wx)
          case first =>
            go_region_with (go_at_call 18; refine hcat.mono ?_; rintro e w9 ⟨rfl, hb9⟩; have HB9 : Hid (Below w8.heap.size w8 w9) := below_step (below_draws (below_self w8) 1) hb9; clear hb9 hcat)
            all_goals
              go_wp2_with fail
              go_meet
              case rel => exact ⟨rfl, rfl, HB9.out⟩
          case rest =>
            obtain ⟨rfl, rfl, hbc⟩ := hcut
            have HHc := Hid.in (HH8.out.below hbc)
            have HXc := Hid.in (HX8.out.grow hbc)
            clear y0 x0 hwr hcat hbc HH8 HX8
            generalize wc = w9 at *
            have hbd := below_draws (below_self w9) 1
            have hcp := HCP.out w9.drew (below_step HHc.out.bel hbd)
            have x2 : w9.cell? ⟨g8, 2, none⟩ = some (.string m2) := HXc.out.cell 2
            have HBD := Hid.in hbd
            clear hbd
            go_upto_region 15 with fail
            go_cut [17, 18] (fun v1 v2 wx => v1 = .int .i64 tg ∧ v2 = .int .i64 0 ∧ Below w9.heap.size w9 wx)
            case first =>
              go_region_with (first
                | (go_at_call 6; refine hcp.mono ?_; rintro e w10 ⟨v10, rfl, ho10, hb10⟩; obtain ⟨p10, c10, rfl, -, -, hu10⟩ := ho10.slice; rw [HN.out]; have HB10 := Hid.in (below_step HBD.out hb10); have x2' : w10.cell? ⟨g8, 2, none⟩ = some (.string m2) := (HXc.out.grow HB10.out).cell 2; have hrs := resolve_any p10 n c10 xs i m2 w10 HN.out (by omega) hu10; rw [HRS.out] at hrs; clear ho10 hb10 hu10 hcp)
                | (go_at_call 24; refine hrs.mono ?_; rintro e w11 ⟨rfl, hb11⟩; have HB11 := Hid.in (below_step HB10.out hb11); clear hb11 hrs))
              all_goals
                go_wp2_with fail
                go_meet
                case rel => exact ⟨rfl, rfl, HB11.out⟩
            case rest =>
              obtain ⟨rfl, rfl, hbc⟩ := hcut
              have HHd := Hid.in (HHc.out.below hbc)
              have HXd := Hid.in (HXc.out.grow hbc)
              clear x2 hcp hbc HHc HXc HBD
              generalize wc = w10 at *
              obtain ⟨b4, o4, e4, u0, u2⟩ := HTC.out w10 _ HHd.out
              obtain ⟨b6, o6, e6, u6⟩ := HKC.out w10 _ HHd.out
              subst e4 e6
              have x1 : w10.cell? ⟨g8, 1, none⟩ = some (.string m1) := HXd.out.cell 1
              have g2 : (tg != tg) = false := by simp
              have g3 : (m1.toList != m1.toList) = false := by simp
              go_upto_region 16 with fail
              go_quiet (fail)
              have HHe := Hid.in (HHd.out.drewN nq)
              clear u0 u2 u6 x1 HHd HXd
              generalize w10.drewN nq = w11 at *
              have hlS : S'.length = T.length := HS7.out.1
              have hkS : k < (S'.map Value.bool).length := by rw [List.length_map, hlS]; exact hkT
              have z0 := HHe.out.n.cell k hkS
              rw [List.getElem?_eq_getElem hkS] at z0
              have z1 := HHe.out.n.free k
              have HHf := Hid.in (HHe.out.set k)
              generalize (S'.map Value.bool)[k] = zv at *
              clear hkS hlS
              have hmr := HMR.out
              go_wp2_with fail
              go_roundw
              case rel =>
                have h1 := HLJ.out
                have h2 := HMR.out
                exact ⟨j + 1, _, by go_num, h1, HHf.out, HSM.out⟩
              case measure =>
                have h1 := HLJ.out
                have h2 := HMR.out
                simp [intOf]
                omega
        · have HU := Hid.in (HS7.out.unit hiX (by omega))
          go_wp2_with fail
          go_roundw
          case rel => exact ⟨i + 1, S', by go_num, by omega, HH7.out, HU.out⟩
          case measure => simp [intOf]; omega
    · have HAL : Hid (∀ k, k < T.length → S[k]? = some true) := fun k hk => by
        have hin : i = xs.length := by rw [HN.out]; omega
        have hs := HS.out
        rw [hin] at hs
        exact HSA.out hs (by rw [hs.1]; exact hk)
      have HSL := Hid.in HS.out.1
      clear HS
      go_wp2_with fail
      go_loopw [19] (fun vk ws => ∃ k : Nat, vk = .int .i64 k ∧ k ≤ T.length ∧ ws = wr) (fun vk _ => T.length - (intOf vk).toNat)
      case atStart => exact ⟨0, rfl, Nat.zero_le _, rfl⟩
      case round =>
        obtain ⟨k, rfl, hk, rfl⟩ := hrel
        by_cases hlk : k < T.length
        · have z0 : wr.cell? ⟨gS, k, none⟩ = some (.bool true) := by
            have h1 := HH.out.n.cell k (by rw [List.length_map, HSL.out]; exact hlk)
            rw [List.getElem?_map, HAL.out k hlk] at h1
            exact h1
          go_wp2_with fail
          go_roundw
          case rel => exact ⟨k + 1, by go_num, by omega, trivial⟩
          case measure => simp [intOf]; omega
        · have HBZ := Hid.in HH.out.bel
          go_wp2_with (go_at_call 14; refine Hid.out ?_)
          refine Lib.hid ?_
          refine (awake_any wr).mono ?_
          rintro E wz ⟨rfl, hbz⟩
          have HBY := Hid.in (below_step HBZ.out hbz)
          clear hbz HBZ
          go_wp2_with fail
          go_ret
          exact ⟨rfl, HBY.out⟩

theorem holds_walk (p : Option Addr) (n c : Nat) (xs : List Ob) (w : World) (hn : xs.length = n) (hn96 : n * 96 ≤ 140737488351232) (hx : Units w p xs) (hW : ∀ x ∈ xs, ObW x) :
    Calls Tryz.prog 5 #[.slice p n c] w fun E w' => E = .returned (.bool true) ∧ Below w.heap.size w w' := by
  by_cases he : (mergeL xs).e = 0
  · exact holds_good p n c xs w hn hn96 hx hW he
  · exact holds_bad p n c xs w hn hn96 hx hW he

end Go.Proofs.YtckpgpgmaccepaaGreat

namespace Go.Proofs.YtckpgpgmaccepaaGreat
open Go.ChangeShapes Go.WideShapes Go.ChangeAt Go.RowKit
open Go.ChangeMaps (open_string shut_string)

set_option maxRecDepth 100000 in
theorem sitesHolds_lifted (os : Os) (started : os.Started) (H : Type) (enc : TypeId × Value → H) :
    ReturnsInHanded {} Tryz.checked os 5 .any (Rows.sitesHoldsSpec.pre6 enc Tryz.prog Tryz.f5 Rows.sitesHoldsRow.domain false) (Rows.sitesHoldsSpec.post enc Tryz.prog Tryz.f5 false true false false) := by
  refine returnsInHanded_of_change_sized (C := Tryz.checked) Tryz.own started (by kernel_rfl) Tryz.func5
    (ChangeSpec.witness6 (enc := enc) (C := Tryz.checked) false ⟨#[], #[.slice none 0 0], []⟩ 8 (by kernel_rfl) (by kernel_rfl) (by kernel_rfl) (by kernel_rfl)) ?_
  intro W base args ds gs before hval0 hW hcnd hsz0 _
  have hW' := hW
  obtain ⟨p, q, hA0, hV, rfl, hfz, hnd⟩ := hW
  have hA : DataW.TrodAll enc Tryz.prog W 0 (fun _ => true) true Tryz.f5.params.toList args.toList ds p := hA0
  have hval : ∀ (j : Nat) t v, Tryz.f5.params[j]? = some t → args[j]? = some v → Value.okWide Tryz.prog W .any base t v := hval0
  have hsz : (DataW.weightsEach Tryz.prog (Tryz.f5.params.toList ++ Rows.sitesHoldsSpec.plain.varTypes Tryz.prog) (ds ++ gs)).all (· ≤ reachBytes) = true := hsz0
  rw [Tryz.params5] at hA hval hsz
  obtain ⟨v0, vs0, d0, ds0, p0, q0_, hargs, rfl, rfl, h0, r0⟩ := trodAll_cons hA
  obtain ⟨rfl, rfl, rfl⟩ := trodAll_nil r0
  obtain rfl : args = #[v0] := by cases args; simp_all
  obtain ⟨rfl, rfl⟩ := trodVars_none hV
  have k0 := h0
  have lt0 : ∀ x ∈ p0, x.block < W.heap.size := by obtain ⟨m, hm⟩ := k0; exact DataW.trod_lt m _ _ _ hm
  obtain ⟨qq0, ee0, L0, rfl, hl0, hm0, hb0, hu0, hw0⟩ := open_units_val (hval 0 22 v0 rfl rfl) h0 hsz (j := 0) rfl rfl
  refine (holds_walk qq0 L0.length ee0 L0 W rfl (by simp only [reachBytes] at hb0; omega) hu0 hw0).mono fun e W' ⟨he, bel⟩ => ?_
  subst he
  exact ⟨_, rfl, _, _, _, [], _, [], hW', trodAll_mk1 (shut_bool Tryz.underlying4 _), (trodAll_cons_mk (Below.trod Tryz.laidOut (by kernel_rfl) (of_decide_eq_true (by kernel_rfl)) k0 bel lt0) trodAll_mk0), rfl, bel.frame _, fun h => by cases h⟩

theorem sitesHolds_holds : Rows.SitesHoldsSaid :=
  OpenClaim.holds_of_wide 5 Tryz.f5 rfl rfl rfl rfl rfl rfl rfl ⟨rfl, rfl, rfl, rfl, rfl⟩ rfl rfl rfl rfl rfl (by kernel_rfl) Tryz.func5 (by kernel_rfl)
    (of_decide_eq_true (by kernel_rfl)) (by unfold Func.isWrapper; first | (rw [if_pos (by decide +kernel)]; kernel_rfl) | (rw [if_neg (by decide +kernel)]; exact ⟨rfl, rfl⟩))
    (fun os started H enc _ => sitesHolds_lifted os started H enc)
#print axioms sitesHolds_holds

end Go.Proofs.YtckpgpgmaccepaaGreat
