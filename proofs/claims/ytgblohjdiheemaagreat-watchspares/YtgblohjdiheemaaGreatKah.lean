/- Texts put together: SitG, SitH, SitI, SitJ, SitK, OfW, WatB. -/
import Derived.Test.YtgblohjdiheemaaGreatKag
import Derived.Test.YtgblohjdiheemaaGreatKac

/- What marks make, one by one (lists alone): each mark has its site, each site a mark; keys by their numbers. -/
namespace Go.Proofs.YtgblohjdiheemaaGreat
open Go.RowKit

theorem idxK_lt {ks : List ByteArray} {s : ByteArray} (h : s ∈ ks) : idxK ks s < ks.length := by
  unfold idxK
  exact List.findIdx_lt_length_of_exists ⟨s, h, by simp⟩
theorem idxK_get {ks : List ByteArray} {s : ByteArray} (h : s ∈ ks) : ks[idxK ks s]'(idxK_lt h) = s := by
  have h2 := List.findIdx_getElem (xs := ks) (p := fun k => decide (k = s)) (w := idxK_lt h)
  exact of_decide_eq_true h2
theorem idxK_app {ks more : List ByteArray} {s : ByteArray} (h : s ∈ ks) : idxK (ks ++ more) s = idxK ks s := by
  unfold idxK
  rw [List.findIdx_append, if_pos (List.findIdx_lt_length_of_exists ⟨s, h, by simp⟩)]
theorem addK_mem (ks : List ByteArray) (s : ByteArray) : s ∈ addK ks s := by
  unfold addK
  by_cases h : inB s ks = true
  · rw [if_pos h]; exact (inB_iff _ _).1 h
  · rw [if_neg h]; simp
theorem addK_pre (ks : List ByteArray) (s : ByteArray) : ∃ more, addK ks s = ks ++ more := by
  unfold addK
  by_cases h : inB s ks = true
  · rw [if_pos h]; exact ⟨[], by simp⟩
  · rw [if_neg h]; exact ⟨[s], rfl⟩
theorem addK_nodup {ks : List ByteArray} (h : ks.Nodup) (s : ByteArray) : (addK ks s).Nodup := by
  unfold addK
  by_cases hb : inB s ks = true
  · rw [if_pos hb]; exact h
  · rw [if_neg hb, List.nodup_append]
    refine ⟨h, by simp, fun a ha b hbm hab => ?_⟩
    rw [List.mem_singleton.1 hbm] at hab
    subst hab
    exact hb ((inB_iff _ _).2 ha)
theorem addK_len {ks : List ByteArray} (hn : ks.length ≤ 64) (s : ByteArray) (h : ¬ 64 ≤ idxK (addK ks s) s) : (addK ks s).length ≤ 64 := by
  unfold addK at h ⊢
  by_cases hb : inB s ks = true
  · rw [if_pos hb]; exact hn
  · rw [if_neg hb] at h ⊢
    have hns : s ∉ ks := fun hm => hb ((inB_iff _ _).2 hm)
    have hi : idxK (ks ++ [s]) s = ks.length := by
      unfold idxK
      rw [List.findIdx_append, if_neg]
      · simp
      · intro hlt
        have := List.findIdx_getElem (xs := ks) (p := fun k => decide (k = s)) (w := hlt)
        exact hns (by have e : ks[ks.findIdx fun k => decide (k = s)] = s := by simpa using this
                      exact e ▸ List.getElem_mem hlt)
    rw [hi] at h
    rw [List.length_append]
    show ks.length + 1 ≤ 64
    omega

/-- what holds of sites and keys, mark by mark -/
structure GoodS (T : List Si) (ks : List ByteArray) : Prop where
  dis : T.Pairwise fun a b => a.at_ ≠ b.at_
  near : ∀ s ∈ T, farS s = false
  key : ∀ s ∈ T, 0 ≤ s.key ∧ s.key < ks.length
  few : T.length ≤ 256
  kn : ks.Nodup
  kl : ks.length ≤ 64
theorem GoodS.nil : GoodS [] [] := ⟨List.Pairwise.nil, fun _ h => (nomatch h), fun _ h => (nomatch h), Nat.zero_le _, List.nodup_nil, Nat.zero_le _⟩
/-- the site of a mark -/
def siteOf (res : ByteArray → Int × Int) (b : Nat) (ks : List ByteArray) (m : Mk) : Si := ⟨(idxK ks m.key : Nat), (b : Int) + m.at_, (res m.to_).1⟩

theorem stepM_good {res : ByteArray → Int × Int} {b : Nat} {T : List Si} {ks : List ByteArray} {m : Mk} (hg : GoodS T ks) (he : (stepM res b T ks m).e = 0) :
    (stepM res b T ks m).ks = addK ks m.key ∧ GoodS (stepM res b T ks m).si (addK ks m.key) ∧ (∃ more, (stepM res b T ks m).si = T ++ more) ∧ siteOf res b (addK ks m.key) m ∈ (stepM res b T ks m).si ∧ (∀ t ∈ (stepM res b T ks m).si, t ∈ T ∨ t = siteOf res b (addK ks m.key) m) ∧ (res m.to_).2 = 0 := by
  unfold stepM at he ⊢
  by_cases h1 : 64 ≤ idxK (addK ks m.key) m.key
  · rw [if_pos h1] at he; cases he
  rw [if_neg h1] at he ⊢
  by_cases h2 : (res m.to_).2 ≠ 0
  · rw [if_pos h2] at he; exact absurd he h2
  rw [if_neg h2] at he ⊢
  have h2' : (res m.to_).2 = 0 := by simpa using h2
  have hkl := addK_len hg.kl m.key h1
  have hkn := addK_nodup hg.kn m.key
  obtain ⟨mk, hmk⟩ := addK_pre ks m.key
  have hkey : ∀ s ∈ T, 0 ≤ s.key ∧ s.key < ((addK ks m.key).length : Int) := fun s hs => by
    have := hg.key s hs
    rw [hmk, List.length_append]
    omega
  have hown : (0 : Int) ≤ ((idxK (addK ks m.key) m.key : Nat) : Int) ∧ ((idxK (addK ks m.key) m.key : Nat) : Int) < ((addK ks m.key).length : Int) := by
    have := idxK_lt (addK_mem ks m.key)
    omega
  change (stepS (siteOf res b (addK ks m.key) m) (addK ks m.key) T).e = 0 at he
  change (stepS (siteOf res b (addK ks m.key) m) (addK ks m.key) T).ks = _ ∧ GoodS (stepS (siteOf res b (addK ks m.key) m) (addK ks m.key) T).si _ ∧ (∃ more, (stepS (siteOf res b (addK ks m.key) m) (addK ks m.key) T).si = T ++ more) ∧ siteOf res b (addK ks m.key) m ∈ (stepS (siteOf res b (addK ks m.key) m) (addK ks m.key) T).si ∧ (∀ t ∈ (stepS (siteOf res b (addK ks m.key) m) (addK ks m.key) T).si, t ∈ T ∨ t = siteOf res b (addK ks m.key) m) ∧ _
  have hs0 : 0 ≤ (siteOf res b (addK ks m.key) m).key ∧ (siteOf res b (addK ks m.key) m).key < ((addK ks m.key).length : Int) := hown
  generalize siteOf res b (addK ks m.key) m = s at *
  unfold stepS at he ⊢
  cases hf : T.find? fun t => decide (t.at_ = s.at_) with
  | some t =>
    rw [hf] at he
    simp only at he ⊢
    by_cases hts : t = s
    · rw [if_pos hts]
      subst hts
      exact ⟨rfl, ⟨hg.dis, hg.near, hkey, hg.few, hkn, hkl⟩, ⟨[], by simp⟩, List.mem_of_find?_eq_some hf, fun u hu => .inl hu, h2'⟩
    · rw [if_neg hts] at he; cases he
  | none =>
    rw [hf] at he
    simp only at he ⊢
    by_cases hfar : farS s = true
    · rw [if_pos hfar] at he; cases he
    rw [if_neg hfar] at he ⊢
    by_cases hlen : T.length = 256
    · rw [if_pos hlen] at he; cases he
    rw [if_neg hlen]
    have hnone : ∀ t ∈ T, ¬ t.at_ = s.at_ := fun t ht => by
      have := List.find?_eq_none.1 hf t ht
      simpa using this
    refine ⟨rfl, ⟨?_, ?_, ?_, ?_, hkn, hkl⟩, ⟨[s], rfl⟩, by simp, fun u hu => ?_, h2'⟩
    · rw [List.pairwise_append]
      exact ⟨hg.dis, by simp, fun a ha c hc => by rw [List.mem_singleton.1 hc]; exact hnone a ha⟩
    · intro t ht
      rcases List.mem_append.1 ht with ht | ht
      · exact hg.near t ht
      · rw [List.mem_singleton.1 ht]; simpa using hfar
    · intro t ht
      rcases List.mem_append.1 ht with ht | ht
      · exact hkey t ht
      · rw [List.mem_singleton.1 ht]; exact hs0
    · have := hg.few
      rw [List.length_append]
      show T.length + 1 ≤ 256
      omega
    · rcases List.mem_append.1 hu with hu | hu
      · exact .inl hu
      · exact .inr (List.mem_singleton.1 hu)

theorem siteOf_more {res : ByteArray → Int × Int} {b : Nat} {ks more : List ByteArray} {m : Mk} (h : m.key ∈ ks) : siteOf res b (ks ++ more) m = siteOf res b ks m := by
  unfold siteOf
  rw [idxK_app h]
theorem marksS_good {res : ByteArray → Int × Int} {b : Nat} : ∀ (M : List Mk) (T : List Si) (ks : List ByteArray), GoodS T ks → (marksS res b T ks M).e = 0 →
    (marksS res b T ks M).ks = keysM ks M ∧ GoodS (marksS res b T ks M).si (keysM ks M) ∧ (∃ more, (marksS res b T ks M).si = T ++ more) ∧ (∃ more, keysM ks M = ks ++ more) ∧ (∀ m ∈ M, m.key ∈ keysM ks M ∧ siteOf res b (keysM ks M) m ∈ (marksS res b T ks M).si ∧ (res m.to_).2 = 0) ∧ ∀ t ∈ (marksS res b T ks M).si, t ∈ T ∨ ∃ m ∈ M, t = siteOf res b (keysM ks M) m
  | [], T, ks, hg, _ => ⟨rfl, hg, ⟨[], by simp [marksS]⟩, ⟨[], by simp [keysM]⟩, fun _ h => (by cases h), fun t ht => .inl ht⟩
  | m :: M, T, ks, hg, he => by
    unfold marksS at he ⊢
    by_cases h1 : (stepM res b T ks m).e ≠ 0
    · rw [if_pos h1] at he; exact absurd he h1
    rw [if_neg h1] at he ⊢
    obtain ⟨s1, s2, ⟨s3, s3e⟩, s4, s5, s6⟩ := stepM_good hg (by simpa using h1)
    rw [s1] at he ⊢
    obtain ⟨i1, i2, ⟨i3, i3e⟩, ⟨i4, i4e⟩, i5, i6⟩ := marksS_good M _ _ s2 he
    have hk : keysM ks (m :: M) = keysM (addK ks m.key) M := rfl
    rw [hk]
    obtain ⟨a1, a1e⟩ := addK_pre ks m.key
    have hmk := addK_mem ks m.key
    refine ⟨i1, i2, ⟨s3 ++ i3, by rw [i3e, s3e, List.append_assoc]⟩, ⟨a1 ++ i4, by rw [i4e, a1e, List.append_assoc]⟩, fun x hx => ?_, fun t ht => ?_⟩
    · rcases List.mem_cons.1 hx with rfl | hx
      · refine ⟨by rw [i4e]; exact List.mem_append_left _ hmk, ?_, s6⟩
        rw [i4e, siteOf_more hmk, i3e]
        exact List.mem_append_left _ s4
      · exact i5 x hx
    · rcases i6 t ht with h | ⟨x, hx, h⟩
      · rcases s5 t h with h | h
        · exact .inl h
        · exact .inr ⟨m, by simp, by rw [h, i4e, siteOf_more hmk]⟩
      · exact .inr ⟨x, by simp [hx], h⟩

end Go.Proofs.YtgblohjdiheemaaGreat

/- What is merged is a right table (lists alone): P8.5. -/
namespace Go.Proofs.YtgblohjdiheemaaGreat
open Go.RowKit

def keysU (ks : List ByteArray) (os : List Ob) : List ByteArray := os.foldl (fun a o => keysM a o.mk_) ks
/-- the site of a mark of the unit at i -/
def siteU (xs : List Ob) (i : Nat) (ks : List ByteArray) (m : Mk) : Si := siteOf (resL xs i) ((tabL xs).ss.getD i 0) ks m
theorem siteU_more {xs : List Ob} {i : Nat} {ks more : List ByteArray} {m : Mk} (h : m.key ∈ ks) : siteU xs i (ks ++ more) m = siteU xs i ks m := siteOf_more h
theorem unitsS_good (xs : List Ob) : ∀ (os : List Ob) (i : Nat) (T : List Si) (ks : List ByteArray), GoodS T ks → (unitsS xs i T ks os).e = 0 →
    (unitsS xs i T ks os).ks = keysU ks os ∧ GoodS (unitsS xs i T ks os).si (keysU ks os) ∧ (∃ more, keysU ks os = ks ++ more) ∧ (∃ more, (unitsS xs i T ks os).si = T ++ more)
    ∧ (∀ j (hj : j < os.length), ∀ m ∈ os[j].mk_, m.key ∈ keysU ks os ∧ siteU xs (i + j) (keysU ks os) m ∈ (unitsS xs i T ks os).si ∧ (resL xs ((i + j : Nat) : Int) m.to_).2 = 0)
    ∧ ∀ t ∈ (unitsS xs i T ks os).si, t ∈ T ∨ ∃ j, ∃ hj : j < os.length, ∃ m ∈ os[j].mk_, t = siteU xs (i + j) (keysU ks os) m
  | [], i, T, ks, hg, _ => ⟨rfl, hg, ⟨[], by simp [keysU]⟩, ⟨[], by simp [unitsS]⟩, fun j hj => absurd hj (by simp), fun t ht => .inl ht⟩
  | o :: os, i, T, ks, hg, he => by
    unfold unitsS at he ⊢
    by_cases h1 : (marksS (resL xs i) ((tabL xs).ss.getD i 0) T ks o.mk_).e ≠ 0
    · rw [if_pos h1] at he; exact absurd he h1
    rw [if_neg h1] at he ⊢
    have h1' : (marksS (resL xs i) ((tabL xs).ss.getD i 0) T ks o.mk_).e = 0 := Classical.not_not.1 h1
    obtain ⟨s1, s2, ⟨s3, s3e⟩, ⟨s4, s4e⟩, s5, s6⟩ := marksS_good o.mk_ T ks hg h1'
    rw [s1] at he ⊢
    obtain ⟨i1, i2, ⟨i3, i3e⟩, ⟨i4, i4e⟩, i5, i6⟩ := unitsS_good xs os (i + 1) _ _ s2 he
    have hk : keysU ks (o :: os) = keysU (keysM ks o.mk_) os := rfl
    rw [hk]
    refine ⟨i1, i2, ⟨s4 ++ i3, by rw [i3e, s4e, List.append_assoc]⟩, ⟨s3 ++ i4, by rw [i4e, s3e, List.append_assoc]⟩, fun j hj m hm => ?_, fun t ht => ?_⟩
    · cases j with
      | zero =>
        obtain ⟨k1, k2, k3⟩ := s5 m hm
        refine ⟨by rw [i3e]; exact List.mem_append_left _ k1, ?_, k3⟩
        rw [i3e, siteU_more k1, i4e]
        exact List.mem_append_left _ k2
      | succ j =>
        have := i5 j (by simpa using hj) m hm
        rw [show i + (j + 1) = i + 1 + j by omega]
        exact this
    · rcases i6 t ht with h | ⟨j, hj, m, hm, h⟩
      · rcases s6 t h with h | ⟨m, hm, h⟩
        · exact .inl h
        · refine .inr ⟨0, by simp, m, hm, ?_⟩
          rw [h, i3e, siteU_more (s5 m hm).1]
          rfl
      · refine .inr ⟨j + 1, by simpa using hj, m, hm, ?_⟩
        rw [h, show i + (j + 1) = i + 1 + j by omega]

/-- a mark of a right unit: the no-op stands there -/
theorem rm_quiet (bs : List Int) (fs : List Fx) : ∀ (M : List Mk) (least : Int), rmL bs fs least M = true → ∀ m ∈ M, stB bs m.at_ quiet = true
  | [], _, _, m, hm => by cases hm
  | x :: M, least, h, m, hm => by
    unfold rmL at h
    rw [Bool.and_eq_true] at h
    rcases List.mem_cons.1 hm with rfl | hm
    · have h1 := h.1
      unfold mrkB at h1
      simp only [Bool.and_eq_true] at h1
      exact h1.1.2
    · exact rm_quiet bs fs M _ h.2 m hm
theorem ok_mark {o : Ob} (h : okO o = true) {m : Mk} (hm : m ∈ o.mk_) : stB o.bs m.at_ quiet = true := by
  unfold okO at h
  rw [Bool.and_eq_true] at h
  exact rm_quiet _ _ _ _ h.2 m hm
theorem st_in {bs : List Int} {a : Int} (h : stB bs a quiet = true) : 0 ≤ a ∧ a + 5 ≤ bs.length ∧ ∀ d, d < 5 → bs[a.toNat + d]? = quiet[d]? := by
  unfold stB at h
  simp only [decide_eq_true_eq] at h
  obtain ⟨h1, h2, h3⟩ := h
  have hq : quiet.length = 5 := rfl
  rw [hq] at h2 h3
  refine ⟨h1, by omega, fun d hd => ?_⟩
  rw [← h3, List.getElem?_take_of_lt hd, List.getElem?_drop]
theorem quiet_apart {bs : List Int} {a b : Int} (ha : stB bs a quiet = true) (hb : stB bs b quiet = true) (hlt : a < b) : a + 5 ≤ b := by
  obtain ⟨a0, -, aq⟩ := st_in ha
  obtain ⟨b0, -, bq⟩ := st_in hb
  refine Classical.byContradiction fun hn => ?_
  have h0 := bq 0 (by decide)
  obtain ⟨d, hd, hd1⟩ : ∃ d : Nat, b.toNat + 0 = a.toNat + d ∧ 1 ≤ d ∧ d < 5 := ⟨b.toNat - a.toNat, by omega, by omega⟩
  rw [hd, aq d hd1.2] at h0
  match d, hd1 with
  | 1, _ => simp [quiet] at h0
  | 2, _ => simp [quiet] at h0
  | 3, _ => simp [quiet] at h0
  | 4, _ => simp [quiet] at h0
theorem endAt_mono {xs : List Ob} : ∀ {i j : Nat}, i ≤ j → j ≤ xs.length → endAt 0 xs i ≤ endAt 0 xs j := by
  intro i j hij hj
  induction hij with
  | refl => exact Nat.le_refl _
  | step h ih =>
    rename_i k
    have hk : k < xs.length := hj
    have h1 := ih (Nat.le_of_lt hk)
    have h2 := endAt_succ xs 0 k hk
    have h3 := (nextS_le (endAt 0 xs k)).1
    rw [h2]
    omega
theorem ss_at {xs : List Ob} (h : (tabL xs).e = 0) {i : Nat} (hi : i < xs.length) : (tabL xs).ss.getD i 0 = nextS (endAt 0 xs i) := by
  obtain ⟨-, ht, -⟩ := tab_good h
  rw [ht]
  show (begs 0 xs).getD i 0 = _
  rw [List.getD_eq_getElem?_getD, List.getElem?_eq_getElem (by rw [begs_len]; exact hi), Option.getD_some, begs_at xs 0 i hi]
/-- a label that is found lies in memory -/
theorem labs_in {xs : List Ob} (h : (tabL xs).e = 0) {x : Sy} (hx : x ∈ labs 0 xs) : 0 ≤ x.at_ ∧ x.at_ ≤ 65536 := by
  obtain ⟨-, -, hok, hend, -⟩ := tab_good h
  obtain ⟨k, hk, rfl⟩ := List.getElem_of_mem hx
  have key : ∀ (i : Nat), i ≤ xs.length → k < cntAt xs i → 0 ≤ (labs 0 xs)[k].at_ ∧ (labs 0 xs)[k].at_ ≤ 65536 := by
    intro i
    induction i with
    | zero => intro _ h; rw [cntAt_zero] at h; omega
    | succ i ih =>
      intro hi hlt
      by_cases hk2 : k < cntAt xs i
      · exact ih (by omega) hk2
      · have hil : i < xs.length := hi
        rw [cntAt_succ xs i hil] at hlt
        obtain ⟨j, hj⟩ : ∃ j, k = cntAt xs i + j := ⟨k - cntAt xs i, by omega⟩
        have hjl : j < xs[i].sy.length := by omega
        have hl := labs_at xs 0 i j hil hjl
        rw [← hj, List.getElem?_eq_getElem hk] at hl
        have e := Option.some.inj hl
        rw [e]
        have hoki := hok _ (List.getElem_mem hil)
        unfold okO at hoki
        simp only [Bool.and_eq_true, decide_eq_true_eq] at hoki
        obtain ⟨⟨⟨⟨-, -, -, -⟩, h3⟩, -⟩, -⟩ := hoki
        obtain ⟨g1, g2, -⟩ := rs_good _ _ _ _ h3 _ (List.getElem_mem hjl)
        have h5 := hend (i + 1) hi
        rw [endAt_succ xs 0 i hil] at h5
        show 0 ≤ ((nextS (endAt 0 xs i) : Nat) : Int) + xs[i].sy[j].at_ ∧ ((nextS (endAt 0 xs i) : Nat) : Int) + xs[i].sy[j].at_ ≤ 65536
        omega
  exact key xs.length (Nat.le_refl _) (by rw [← labs_len xs 0]; exact hk)
theorem findG_mem {L : List Sy} {s : ByteArray} {a : Int} (h : findG L s = some a) : ∃ x ∈ L, x.at_ = a := by
  unfold findG at h
  cases hf : L.find? (fun x => x.g && decide (x.name = s)) with
  | none => rw [hf] at h; cases h
  | some y =>
    rw [hf] at h
    exact ⟨y, List.mem_of_find?_eq_some hf, by simpa using h⟩
theorem findN_mem {L : List Sy} {s : ByteArray} {a : Int} (h : findN L s = some a) : ∃ x ∈ L, x.at_ = a := by
  unfold findN at h
  cases hf : L.find? (fun x => decide (x.name = s)) with
  | none => rw [hf] at h; cases h
  | some y =>
    rw [hf] at h
    exact ⟨y, List.mem_of_find?_eq_some hf, by simpa using h⟩
theorem res_in {xs : List Ob} (h : (tabL xs).e = 0) {u : Int} {s : ByteArray} (hr : (resL xs u s).2 = 0) : 0 ≤ (resL xs u s).1 ∧ (resL xs u s).1 ≤ 65536 := by
  obtain ⟨-, ht, hok, hend, -⟩ := tab_good h
  unfold resL at hr ⊢
  rw [if_neg (by simpa using h)] at hr ⊢
  by_cases hu : 0 ≤ u ∧ u < xs.length
  · rw [dif_pos hu] at hr ⊢
    have hul : u.toNat < xs.length := by omega
    cases hf : findN xs[u.toNat].sy s with
    | some a =>
      simp only
      rw [ss_at h hul]
      obtain ⟨x, hx, rfl⟩ := findN_mem hf
      have := labs_in h (labs_mem (e := 0) hul hx)
      exact this
    | none =>
      rw [hf] at hr
      simp only at hr ⊢
      cases hg : findG (tabL xs).ts s with
      | some a =>
        simp only
        rw [ht] at hg
        obtain ⟨x, hx, rfl⟩ := findG_mem hg
        exact labs_in h hx
      | none => rw [hg] at hr; exact absurd hr (by decide)
  · rw [dif_neg hu] at hr; exact absurd hr (by decide)

end Go.Proofs.YtgblohjdiheemaaGreat

/- The merged table: right, with each mark's site and no other (lists alone): P8.5. -/
namespace Go.Proofs.YtgblohjdiheemaaGreat
open Go.RowKit

theorem marksS_bad {res : ByteArray → Int × Int} {b : Nat} : ∀ (M : List Mk) (T : List Si) (ks : List ByteArray), (marksS res b T ks M).e ≠ 0 → (marksS res b T ks M).si = [] ∧ (marksS res b T ks M).ks = []
  | [], T, ks, h => absurd rfl h
  | m :: M, T, ks, h => by
    unfold marksS at h ⊢
    by_cases h1 : (stepM res b T ks m).e ≠ 0
    · rw [if_pos h1]
      unfold stepM at h1 ⊢
      by_cases h2 : 64 ≤ idxK (addK ks m.key) m.key
      · rw [if_pos h2]; exact ⟨rfl, rfl⟩
      rw [if_neg h2] at h1 ⊢
      by_cases h3 : (res m.to_).2 ≠ 0
      · rw [if_pos h3]; exact ⟨rfl, rfl⟩
      rw [if_neg h3] at h1 ⊢
      unfold stepS at h1 ⊢
      cases hf : T.find? fun t => decide (t.at_ = (b : Int) + m.at_) with
      | some t =>
        simp only [hf] at h1 ⊢
        split
        · rename_i hts; rw [if_pos hts] at h1; exact absurd rfl h1
        · exact ⟨rfl, rfl⟩
      | none =>
        simp only [hf] at h1 ⊢
        split
        · exact ⟨rfl, rfl⟩
        · rename_i hfar
          rw [if_neg hfar] at h1
          split
          · exact ⟨rfl, rfl⟩
          · rename_i hl; rw [if_neg hl] at h1; exact absurd rfl h1
    · rw [if_neg h1] at h ⊢
      exact marksS_bad M _ _ h
theorem unitsS_bad (xs : List Ob) : ∀ (os : List Ob) (i : Nat) (T : List Si) (ks : List ByteArray), (unitsS xs i T ks os).e ≠ 0 → (unitsS xs i T ks os).si = [] ∧ (unitsS xs i T ks os).ks = []
  | [], i, T, ks, h => absurd rfl h
  | o :: os, i, T, ks, h => by
    unfold unitsS at h ⊢
    by_cases h1 : (marksS (resL xs i) ((tabL xs).ss.getD i 0) T ks o.mk_).e ≠ 0
    · rw [if_pos h1]; exact ⟨rfl, rfl⟩
    · rw [if_neg h1] at h ⊢
      exact unitsS_bad xs os _ _ _ h
theorem merge_bad {xs : List Ob} (h : (mergeL xs).e ≠ 0) : (mergeL xs).si = [] ∧ (mergeL xs).ks = [] := by
  unfold mergeL at h ⊢
  by_cases h1 : (tabL xs).e ≠ 0
  · rw [if_pos h1]; exact ⟨rfl, rfl⟩
  rw [if_neg h1] at h ⊢
  by_cases h2 : (unitsS xs 0 [] [] xs).e ≠ 0
  · rw [if_pos h2]; exact unitsS_bad xs xs 0 [] [] h2
  · rw [if_neg h2] at h; exact absurd rfl h
theorem merge_ok {xs : List Ob} (h : (mergeL xs).e = 0) : (tabL xs).e = 0 ∧ (unitsS xs 0 [] [] xs).e = 0 ∧ mergeL xs = ⟨sortS (unitsS xs 0 [] [] xs).si, keysL xs, 0, 0⟩ := by
  unfold mergeL at h ⊢
  by_cases h1 : (tabL xs).e ≠ 0
  · rw [if_pos h1] at h; exact absurd h h1
  rw [if_neg h1] at h ⊢
  by_cases h2 : (unitsS xs 0 [] [] xs).e ≠ 0
  · rw [if_pos h2] at h; exact absurd h h2
  rw [if_neg h2]
  have h2' := Classical.not_not.1 h2
  refine ⟨Classical.not_not.1 h1, h2', ?_⟩
  rw [(unitsS_good xs xs 0 [] [] GoodS.nil h2').1]
  rfl

theorem site_in {xs : List Ob} (h : (tabL xs).e = 0) {i : Nat} (hi : i < xs.length) {m : Mk} (hm : m ∈ xs[i].mk_) (ks : List ByteArray) : ((nextS (endAt 0 xs i) : Nat) : Int) ≤ (siteU xs i ks m).at_ ∧ (siteU xs i ks m).at_ + 5 ≤ (endAt 0 xs (i + 1) : Nat) := by
  obtain ⟨-, -, hok, -, -⟩ := tab_good h
  obtain ⟨q1, q2, -⟩ := st_in (ok_mark (hok _ (List.getElem_mem hi)) hm)
  have e := endAt_succ xs 0 i hi
  show _ ≤ (((tabL xs).ss.getD i 0 : Nat) : Int) + m.at_ ∧ (((tabL xs).ss.getD i 0 : Nat) : Int) + m.at_ + 5 ≤ _
  rw [ss_at h hi, e]
  omega
theorem site_apart {xs : List Ob} (h : (tabL xs).e = 0) {ks : List ByteArray} {i j : Nat} (hi : i < xs.length) (hj : j < xs.length) {m m' : Mk} (hm : m ∈ xs[i].mk_) (hm' : m' ∈ xs[j].mk_) (hne : (siteU xs i ks m).at_ ≠ (siteU xs j ks m').at_) : ¬ ((siteU xs j ks m').at_ - (siteU xs i ks m).at_ < 5 ∧ (siteU xs i ks m).at_ - (siteU xs j ks m').at_ < 5) := by
  obtain ⟨-, -, hok, -, -⟩ := tab_good h
  have key : ∀ {i j : Nat} (hi : i < xs.length) (hj : j < xs.length) {m m' : Mk}, m ∈ xs[i].mk_ → m' ∈ xs[j].mk_ → i < j → (siteU xs i ks m).at_ + 5 ≤ (siteU xs j ks m').at_ := by
    intro i j hi hj m m' hm hm' hij
    have a1 := (site_in h hi hm ks).2
    have a2 := (site_in h hj hm' ks).1
    have a3 := endAt_mono (xs := xs) (show i + 1 ≤ j from hij) (by omega)
    have a4 := (nextS_le (endAt 0 xs j)).1
    omega
  rcases Nat.lt_trichotomy i j with hij | hij | hij
  · have := key hi hj hm hm' hij; omega
  · subst hij
    have b1 := ok_mark (hok _ (List.getElem_mem hi)) hm
    have b2 := ok_mark (hok _ (List.getElem_mem hi)) hm'
    have e1 : (siteU xs i ks m).at_ = (((tabL xs).ss.getD i 0 : Nat) : Int) + m.at_ := rfl
    have e2 : (siteU xs i ks m').at_ = (((tabL xs).ss.getD i 0 : Nat) : Int) + m'.at_ := rfl
    rw [e1, e2] at hne ⊢
    rcases Int.lt_trichotomy m.at_ m'.at_ with hlt | heq | hlt
    · have := quiet_apart b1 b2 hlt; omega
    · exact absurd (by rw [heq]) hne
    · have := quiet_apart b2 b1 hlt; omega
  · have := key hj hi hm' hm hij; omega

theorem merge_right {xs : List Ob} (h : (mergeL xs).e = 0) : rightS (mergeL xs).si ((mergeL xs).ks.length : Nat) = true := by
  obtain ⟨ht, hu, hm⟩ := merge_ok h
  obtain ⟨u1, u2, -, -, -, u6⟩ := unitsS_good xs xs 0 [] [] GoodS.nil hu
  rw [hm]
  show rightS (sortS (unitsS xs 0 [] [] xs).si) ((keysL xs).length : Nat) = true
  have hk : keysL xs = keysU [] xs := rfl
  have hperm := sortS_perm (unitsS xs 0 [] [] xs).si
  have hend := (tab_good ht).2.2.2.1
  have hof : ∀ t ∈ (unitsS xs 0 [] [] xs).si, ∃ j, ∃ hj : j < xs.length, ∃ m ∈ xs[j].mk_, t = siteU xs j (keysU [] xs) m := fun t htm => by
    rcases u6 t htm with h | ⟨j, hj, m, hmm, e⟩
    · cases h
    · rw [Nat.zero_add] at e; exact ⟨j, hj, m, hmm, e⟩
  unfold rightS
  simp only [Bool.and_eq_true, decide_eq_true_eq, List.all_eq_true]
  refine ⟨⟨⟨⟨by omega, ?_, ?_⟩, fun t htm => ?_⟩, sortS_sorted _ u2.dis⟩, ?_⟩
  · have := u2.kl; rw [hk]; omega
  · rw [hperm.length_eq]; exact u2.few
  · have htm' := hperm.mem_iff.1 htm
    obtain ⟨j, hj, m, hmm, e⟩ := hof t htm'
    have k1 := u2.key t htm'
    have k2 := u2.near t htm'
    have k3 := site_in ht hj hmm (keysU [] xs)
    have k4 := hend (j + 1) hj
    obtain ⟨-, -, -, -, u5, -⟩ := unitsS_good xs xs 0 [] [] GoodS.nil hu
    have k5 := (u5 j hj m hmm).2.2
    rw [Nat.zero_add] at k5
    have k6 := res_in ht k5
    unfold siteB
    simp only [Bool.and_eq_true, decide_eq_true_eq, Bool.not_eq_true']
    rw [hk]
    refine ⟨⟨k1.1, k1.2, ?_, ?_, ?_, ?_⟩, k2⟩
    · rw [e]; omega
    · rw [e]; omega
    · rw [e]; exact k6.1
    · rw [e]; exact k6.2
  · refine (hperm.pairwise_iff (fun {a b} hab => by omega)).2 ?_
    refine List.Pairwise.imp_of_mem ?_ u2.dis
    intro a b ha hb hne
    obtain ⟨i, hi, m, hmm, ea⟩ := hof a ha
    obtain ⟨j, hj, m', hmm', eb⟩ := hof b hb
    subst ea eb
    exact site_apart ht hi hj hmm hmm' hne

end Go.Proofs.YtgblohjdiheemaaGreat

/- Looking up in tables of sites (lists alone): P8.3, P8.5; halving. -/
namespace Go.Proofs.YtgblohjdiheemaaGreat
open Go.RowKit

theorem at_of : ∀ {T : List Si}, T.Pairwise (fun a b => a.at_ ≠ b.at_) → ∀ {s : Si}, s ∈ T → ∃ k, ∃ hk : k < T.length, atS T s.at_ = some k ∧ T[k] = s
  | t :: T, hd, s, hs => by
    rw [List.pairwise_cons] at hd
    unfold atS
    rw [List.findIdx?_cons]
    by_cases h : t.at_ = s.at_
    · rw [if_pos (by simpa using h)]
      rcases List.mem_cons.1 hs with rfl | hs
      · exact ⟨0, by simp, rfl, rfl⟩
      · exact absurd h (hd.1 s hs)
    · rw [if_neg (by simpa using h)]
      rcases List.mem_cons.1 hs with rfl | hs
      · exact absurd rfl h
      · obtain ⟨k, hk, e1, e2⟩ := at_of hd.2 hs
        refine ⟨k + 1, by simpa using hk, ?_, e2⟩
        unfold atS at e1
        rw [e1]
        rfl
theorem pair_idx {T : List Si} (hd : T.Pairwise fun a b => a.at_ ≠ b.at_) {i j : Nat} (hi : i < T.length) (hj : j < T.length) (h : T[i] = T[j]) : i = j := by
  rw [List.pairwise_iff_getElem] at hd
  rcases Nat.lt_trichotomy i j with hij | hij | hij
  · exact absurd (by rw [h]) (hd i j hi hj hij)
  · exact hij
  · exact absurd (by rw [h]) (hd j i hj hi hij)
theorem at_self {T : List Si} (hd : T.Pairwise fun a b => a.at_ ≠ b.at_) {k : Nat} (hk : k < T.length) : atS T T[k].at_ = some k := by
  obtain ⟨k', hk', e1, e2⟩ := at_of hd (List.getElem_mem hk)
  rw [e1, pair_idx hd hk' hk e2]
theorem right_dis {T : List Si} {n : Int} (h : rightS T n = true) : T.Pairwise fun a b => a.at_ ≠ b.at_ := by
  unfold rightS at h
  simp only [Bool.and_eq_true, decide_eq_true_eq] at h
  exact h.2.imp fun hab e => hab (by omega)
/-- each mark has its site -/
theorem merge_mark {xs : List Ob} (h : (mergeL xs).e = 0) {j : Nat} (hj : j < xs.length) {m : Mk} (hm : m ∈ xs[j].mk_) :
    (resL xs j m.to_).2 = 0 ∧ ∃ k, ∃ hk : k < (mergeL xs).si.length, atS (mergeL xs).si (((nextS (endAt 0 xs j) : Nat) : Int) + m.at_) = some k ∧ (mergeL xs).si[k].to_ = (resL xs j m.to_).1 ∧ ∃ q : Nat, ∃ hq : q < (mergeL xs).ks.length, (mergeL xs).si[k].key = q ∧ (mergeL xs).ks[q] = m.key := by
  have hd := right_dis (merge_right h)
  obtain ⟨ht, hu, hme⟩ := merge_ok h
  obtain ⟨-, -, -, -, u5, -⟩ := unitsS_good xs xs 0 [] [] GoodS.nil hu
  obtain ⟨k1, k2, k3⟩ := u5 j hj m hm
  rw [Nat.zero_add] at k2 k3
  have hmem : siteU xs j (keysL xs) m ∈ (mergeL xs).si := by
    rw [hme]
    exact (sortS_perm _).mem_iff.2 k2
  obtain ⟨k, hk, e1, e2⟩ := at_of hd hmem
  have ea : (siteU xs j (keysL xs) m).at_ = ((nextS (endAt 0 xs j) : Nat) : Int) + m.at_ := by
    show (((tabL xs).ss.getD j 0 : Nat) : Int) + m.at_ = _
    rw [ss_at ht hj]
  rw [ea] at e1
  have hks : (mergeL xs).ks = keysL xs := by rw [hme]
  refine ⟨k3, k, hk, e1, by rw [e2]; rfl, idxK (keysL xs) m.key, ?_, by rw [e2]; rfl, ?_⟩
  · rw [hks]; exact idxK_lt k1
  · have := idxK_get k1
    simp only [hks]
    exact this
/-- no site is of no mark -/
theorem merge_site {xs : List Ob} (h : (mergeL xs).e = 0) {k : Nat} (hk : k < (mergeL xs).si.length) :
    ∃ j, ∃ hj : j < xs.length, ∃ m ∈ xs[j].mk_, atS (mergeL xs).si (((nextS (endAt 0 xs j) : Nat) : Int) + m.at_) = some k := by
  have hd := right_dis (merge_right h)
  obtain ⟨ht, hu, hme⟩ := merge_ok h
  obtain ⟨-, -, -, -, -, u6⟩ := unitsS_good xs xs 0 [] [] GoodS.nil hu
  have hmem : (mergeL xs).si[k] ∈ (unitsS xs 0 [] [] xs).si := by
    have h1 := List.getElem_mem hk
    have h2 : (mergeL xs).si = sortS (unitsS xs 0 [] [] xs).si := by rw [hme]
    exact (sortS_perm _).mem_iff.1 (h2 ▸ h1)
  rcases u6 _ hmem with hc | ⟨j, hj, m, hm, e⟩
  · cases hc
  · rw [Nat.zero_add] at e
    refine ⟨j, hj, m, hm, ?_⟩
    have ea : (mergeL xs).si[k].at_ = ((nextS (endAt 0 xs j) : Nat) : Int) + m.at_ := by
      rw [e]
      show (((tabL xs).ss.getD j 0 : Nat) : Int) + m.at_ = _
      rw [ss_at ht hj]
    rw [← ea]
    exact at_self hd hk

/-- halving, as sort.Search does -/
def bs (p : Nat → Bool) (i j : Nat) : Nat := if h : i < j then (if p ((i + j) / 2) = true then bs p i ((i + j) / 2) else bs p ((i + j) / 2 + 1) j) else i
termination_by j - i
decreasing_by all_goals omega
theorem bs_in (p : Nat → Bool) : ∀ (i j : Nat), i ≤ j → i ≤ bs p i j ∧ bs p i j ≤ j := by
  intro i j
  induction i, j using bs.induct (p := p) with
  | case1 i j h hp ih =>
    intro hij
    unfold bs
    rw [dif_pos h, if_pos hp]
    have := ih (by omega)
    omega
  | case2 i j h hp ih =>
    intro hij
    unfold bs
    rw [dif_pos h, if_neg hp]
    have := ih (by omega)
    omega
  | case3 i j h =>
    intro hij
    unfold bs
    rw [dif_neg h]
    omega
/-- of a test that turns once -/
theorem bs_mono (p : Nat → Bool) (n : Nat) (hm : ∀ a b, a ≤ b → b < n → p a = true → p b = true) : ∀ (i j : Nat), i ≤ j → j ≤ n → (∀ a, a < i → p a = false) → (∀ a, j ≤ a → a < n → p a = true) → (∀ a, a < bs p i j → p a = false) ∧ ∀ a, bs p i j ≤ a → a < n → p a = true := by
  intro i j
  induction i, j using bs.induct (p := p) with
  | case1 i j h hp ih =>
    intro hij hjn h1 h2
    unfold bs
    rw [dif_pos h, if_pos hp]
    exact ih (by omega) (by omega) h1 fun a ha han => hm _ a ha han hp
  | case2 i j h hp ih =>
    intro hij hjn h1 h2
    unfold bs
    rw [dif_pos h, if_neg hp]
    refine ih (by omega) hjn (fun a ha => ?_) h2
    cases hpa : p a with
    | false => rfl
    | true => exact absurd (hm a _ (by omega) (by omega) hpa) hp
  | case3 i j h =>
    intro hij hjn h1 h2
    unfold bs
    rw [dif_neg h]
    exact ⟨h1, fun a ha han => h2 a (by omega) han⟩
/-- of two tests, one of which says yes wherever the other does -/
theorem bs_le (p q : Nat → Bool) (hpq : ∀ a, q a = true → p a = true) : ∀ (i j : Nat), i ≤ j → bs p i j ≤ bs q i j := by
  intro i j
  induction i, j using bs.induct (p := p) with
  | case1 i j h hp ih =>
    intro hij
    conv => lhs; unfold bs
    rw [dif_pos h, if_pos hp]
    conv => rhs; unfold bs
    rw [dif_pos h]
    by_cases hq : q ((i + j) / 2) = true
    · rw [if_pos hq]; exact ih (by omega)
    · rw [if_neg hq]
      have h1 := bs_in p i ((i + j) / 2) (by omega)
      have h2 := bs_in q ((i + j) / 2 + 1) j (by omega)
      omega
  | case2 i j h hp ih =>
    intro hij
    conv => lhs; unfold bs
    rw [dif_pos h, if_neg hp]
    conv => rhs; unfold bs
    rw [dif_pos h, if_neg (fun hq => hp (hpq _ hq))]
    exact ih (by omega)
  | case3 i j h =>
    intro hij
    conv => lhs; unfold bs
    rw [dif_neg h]
    conv => rhs; unfold bs
    rw [dif_neg h]
    exact Nat.le_refl _

end Go.Proofs.YtgblohjdiheemaaGreat

/- A key's range in a table (lists alone): P8.3, P8.5. -/
namespace Go.Proofs.YtgblohjdiheemaaGreat
open Go.RowKit

/-- is the site at i of that key, or one above it? -/
def gK (T : List Si) (k : Int) (i : Nat) : Bool := match T[i]? with
  | some s => decide (k ≤ s.key)
  | none => true
theorem gK_at {T : List Si} {k : Int} {i : Nat} (h : i < T.length) : gK T k i = decide (k ≤ T[i].key) := by
  unfold gK; rw [List.getElem?_eq_getElem h]
/-- where the sites of key k and above begin, by halving -/
def cutK (T : List Si) (k : Int) : Nat := bs (gK T k) 0 T.length
theorem cutK_le (T : List Si) (k : Int) : cutK T k ≤ T.length := (bs_in _ 0 _ (Nat.zero_le _)).2
theorem cutK_mono (T : List Si) {k l : Int} (h : k ≤ l) : cutK T k ≤ cutK T l := by
  refine bs_le _ _ (fun a ha => ?_) 0 _ (Nat.zero_le _)
  unfold gK at *
  cases hT : T[a]? with
  | none => rfl
  | some s =>
    rw [hT] at ha
    simp only [decide_eq_true_eq] at ha ⊢
    omega
def byKey (T : List Si) : Prop := T.Pairwise fun a b => a.key ≤ b.key
theorem cutK_sorted {T : List Si} (hs : byKey T) (k : Int) : (∀ a (h : a < T.length), a < cutK T k → T[a].key < k) ∧ ∀ a (h : a < T.length), cutK T k ≤ a → k ≤ T[a].key := by
  have hs' := List.pairwise_iff_getElem.1 hs
  obtain ⟨h1, h2⟩ := bs_mono (gK T k) T.length (fun a b hab hb hp => by
    rw [gK_at (by omega)] at hp
    rw [gK_at hb]
    simp only [decide_eq_true_eq] at hp ⊢
    rcases Nat.lt_or_ge a b with hlt | hge
    · have := hs' a b (by omega) hb hlt; omega
    · have : a = b := by omega
      subst this; exact hp) 0 T.length (Nat.zero_le _) (Nat.le_refl _) (fun a ha => absurd ha (Nat.not_lt_zero a)) (fun a ha han => by omega)
  refine ⟨fun a h hl => ?_, fun a h hl => ?_⟩
  · have := h1 a hl
    rw [gK_at h] at this
    simp only [decide_eq_false_iff_not] at this
    omega
  · have := h2 a hl h
    rw [gK_at h] at this
    simpa using this
/-- .. and there is but one such place -/
theorem cutK_only {T : List Si} (hs : byKey T) (k : Int) {c : Nat} (hc : c ≤ T.length) (h1 : ∀ a (h : a < T.length), a < c → T[a].key < k) (h2 : ∀ a (h : a < T.length), c ≤ a → k ≤ T[a].key) : cutK T k = c := by
  obtain ⟨k1, k2⟩ := cutK_sorted hs k
  have hle := cutK_le T k
  rcases Nat.lt_trichotomy (cutK T k) c with hlt | he | hlt
  · have a1 := k2 (cutK T k) (by omega) (Nat.le_refl _)
    have a2 := h1 (cutK T k) (by omega) hlt
    omega
  · exact he
  · have a1 := h2 c (by omega) (Nat.le_refl _)
    have a2 := k1 c (by omega) hlt
    omega
theorem right_byKey {T : List Si} {n : Int} (h : rightS T n = true) : byKey T ∧ (T.Pairwise fun a b => ltS a b = true) ∧ 0 ≤ n ∧ n ≤ 64 ∧ T.length ≤ 256 ∧ ∀ s ∈ T, siteB n s = true := by
  unfold rightS at h
  simp only [Bool.and_eq_true, decide_eq_true_eq, List.all_eq_true] at h
  obtain ⟨⟨⟨⟨h1, h2, h3⟩, h4⟩, h5⟩, -⟩ := h
  refine ⟨h5.imp fun hab => ?_, h5, h1, h2, h3, h4⟩
  unfold ltS at hab
  simp only [decide_eq_true_eq] at hab
  omega
theorem siteB_key {n : Int} {s : Si} (h : siteB n s = true) : 0 ≤ s.key ∧ s.key < n := by
  unfold siteB at h
  simp only [Bool.and_eq_true, decide_eq_true_eq] at h
  exact ⟨h.1.1, h.1.2.1⟩
/-- the ranges of a right table's keys, one behind the other, are the whole table -/
theorem cut_first {T : List Si} {n : Int} (h : rightS T n = true) : cutK T 0 = 0 := by
  obtain ⟨h1, -, -, -, -, h6⟩ := right_byKey h
  exact cutK_only h1 0 (Nat.zero_le _) (fun a _ hl => absurd hl (Nat.not_lt_zero a)) fun a ha _ => (siteB_key (h6 _ (List.getElem_mem ha))).1
theorem cut_last {T : List Si} {n : Int} (h : rightS T n = true) : cutK T n = T.length := by
  obtain ⟨h1, -, -, -, -, h6⟩ := right_byKey h
  exact cutK_only h1 n (Nat.le_refl _) (fun a ha _ => (siteB_key (h6 _ (List.getElem_mem ha))).2) fun a ha hl => by omega
theorem cut_key {T : List Si} {n : Int} (h : rightS T n = true) {k : Int} {i : Nat} (hi : i < T.length) (h1 : cutK T k ≤ i) (h2 : i < cutK T (k + 1)) : T[i].key = k := by
  obtain ⟨hb, -⟩ := right_byKey h
  have a1 := (cutK_sorted hb k).2 i hi h1
  have a2 := (cutK_sorted hb (k + 1)).1 i hi h2
  omega
theorem cut_at {T : List Si} {n : Int} (h : rightS T n = true) {k : Int} {i : Nat} (hi : i + 1 < T.length) (h1 : cutK T k ≤ i) (h2 : i + 1 < cutK T (k + 1)) : T[i].at_ < T[i + 1].at_ := by
  obtain ⟨-, hlt, -⟩ := right_byKey h
  have e1 := cut_key h (show i < T.length by omega) h1 (by omega)
  have e2 := cut_key h hi (by omega) h2
  have := List.pairwise_iff_getElem.1 hlt i (i + 1) (by omega) hi (by omega)
  unfold ltS at this
  simp only [decide_eq_true_eq] at this
  omega

end Go.Proofs.YtgblohjdiheemaaGreat

/- sites.Of: a key's range by halving. -/
namespace Go.Proofs.YtgblohjdiheemaaGreat
open Go.RowKit

def siV (s : Si) : V3 := (.int .i64 s.key, .int .i64 s.at_, .int .i64 s.to_)

theorem Row3.at3 {w : World} {p : Option Addr} {T : List Si} (h : Row3 w p (T.map siV)) (h0 : 0 < T.length) : ∃ b o, p = some ⟨b, o, none⟩ ∧ ∀ i (hi : i < T.length), w.cell? ⟨b, o + i * 3, none⟩ = some (.int .i64 T[i].key) ∧ w.cell? ⟨b, o + i * 3 + 1, none⟩ = some (.int .i64 T[i].at_) ∧ w.cell? ⟨b, o + i * 3 + 2, none⟩ = some (.int .i64 T[i].to_) := by
  obtain ⟨b, o, e, hc⟩ := h (by simpa using h0)
  refine ⟨b, o, e, fun i hi => ?_⟩
  have h0 := hc i (by simpa using hi) 0 (by decide)
  have h1 := hc i (by simpa using hi) 1 (by decide)
  have h2 := hc i (by simpa using hi) 2 (by decide)
  rw [List.getElem_map] at h0 h1 h2
  exact ⟨h0, h1, h2⟩

end Go.Proofs.YtgblohjdiheemaaGreat

/- Ours: watch's maps: sitesByPlaces, lastCalls. -/
namespace Go.Proofs.YtgblohjdiheemaaGreat
open Go.RowKit Go.Maps

/-- the places of the first j sites -/
noncomputable def sitM (si : List Si) : Nat → Int → Option Int
  | 0 => fun _ => none
  | j + 1 => upd (sitM si j) (si.getD j default).at_ (j : Int)
theorem run_makeMap71 (w : World) (n : Int) : (Instr.makeMap 71 (some (.int .i64 n))).run Tryz.prog w = .ok (.map (some w.heap.size)) (w.alloc (.map #[] 0)) := by
  simp [Instr.makeMap, run_underlying Tryz.und71, asInt, newObj]
  rfl
set_option maxRecDepth 4000 in
set_option maxHeartbeats 2000000 in
theorem sitesBy_any (p : Option Addr) (n c : Nat) (si : List Si) (w : World) (hn : si.length = n) (hn2 : n ≤ 1048576) (hr : Row3 w p (si.map siV)) (hw : ∀ s ∈ si, i64P s.at_) :
    Calls Tryz.prog 32 #[.slice p n c] w fun e w' => ∃ g, e = .returned (.map (some g)) ∧ w.heap.size ≤ g ∧ MapK mP w' g n (sitM si n) ∧ Below w.heap.size w w' := by
  have HN := Hid.in hn
  have HR := Hid.in hr
  have HW := Hid.in hw
  clear hn hr hw
  have hmm := run_makeMap71 w n
  go_enter Tryz.func32, Tryz.ntmps32
  go_upto_region 2 with fail
  have HM0 := Hid.in (MapK.made mP w)
  have HB0 := Hid.in (new_alloc w (.map #[] 0))
  clear hmm
  generalize w.alloc (.map #[] 0) = w0 at *
  go_wp2_with fail
  go_loopw [11] (fun vi wr => ∃ j : Nat, vi = .int .i64 j ∧ j ≤ n ∧ MapK mP wr w.heap.size j (sitM si j) ∧ Below w.heap.size w wr) (fun vi _ => n - (intOf vi).toNat)
  case atStart => exact ⟨0, rfl, Nat.zero_le _, HM0.out, HB0.out⟩
  case round =>
    obtain ⟨j, rfl, hj, hM, hB⟩ := hrel
    have HM := Hid.in hM
    have HB := Hid.in hB
    clear hM hB HM0 HB0
    by_cases hlt : j < n
    · have hjL : j < si.length := by rw [HN.out]; exact hlt
      have HRr : Hid (Row3 wr p (si.map siV)) := HR.out.below HB.out
      obtain ⟨b, o, rfl, hc⟩ := HRr.out.at3 (by omega)
      obtain ⟨c0, c1, c2⟩ := hc j hjL
      have hok : i64P si[j].at_ := HW.out _ (List.getElem_mem hjL)
      have e : si.getD j default = si[j] := by simp [List.getD, hjL]
      generalize si[j] = s at *
      obtain ⟨sk, sa, st⟩ := s
      dsimp only at *
      clear hc
      have g1 : decide ((j : Int) < (n : Int)) = true := decide_eq_true (by omega)
      have hM1 := HM.out.below (new_alloc wr (.cells #[.int .i64 sk, .int .i64 sa, .int .i64 st] 68))
      obtain ⟨w', hrun, hM2, hg⟩ := hM1.put sa hok (j : Int) (by omega)
      have hrun' : (Instr.mapUpdate 71 (.map (some w.heap.size)) (.int .i64 sa) (.int .i64 j)).run Tryz.prog (wr.alloc (.cells #[.int .i64 sk, .int .i64 sa, .int .i64 st] 68)) = .ok () w' := hrun
      have HB2 := Hid.in ((below_alloc HB.out (.cells #[.int .i64 sk, .int .i64 sa, .int .i64 st] 68)).grown hg (by have := HB.out.size; simp; omega) (fun k ek => by cases ek; exact Nat.le_refl _))
      have HM2 := Hid.in hM2
      clear hM1 hM2 hrun hg
      go_wp2_with fail
      go_roundw
      case rel =>
        refine ⟨j + 1, by go_num, by omega, ?_, HB2.out⟩
        have : sitM si (j + 1) = upd (sitM si j) sa (j : Int) := by show upd _ _ _ = _; rw [e]
        rw [this]
        exact HM2.out
      case measure => simp [intOf]; omega
    · obtain rfl : j = n := by omega
      go_wp2_with fail
      go_ret
      exact ⟨_, rfl, Nat.le_refl _, HM.out, HB.out⟩
/-- numbers that Go's types hold -/
structure FvOk (x : Fv) : Prop where
  h : i64P x.h
  p : i64P x.p
  ky : i64P x.ky
  n : i64P x.n
theorem MapK.congrAll {κ β : Type} {M : Km κ β} {w : World} {b n : Nat} {f g : κ → Option β} (h : MapK M w b n f) (e : f = g) : MapK M w b n g := e ▸ h
theorem callL_put (l : List Fv) (x : Fv) (hx : x.k = 8) : upd (callL l) x.ky x.n = callL (l ++ [x]) := by
  funext key
  rw [callL_snoc]
  by_cases e : key = x.ky
  · subst e
    rw [upd_same, if_pos ⟨hx, rfl⟩]
  · rw [upd_other _ _ e, if_neg (by simp [Ne.symm e])]
theorem callL_skip (l : List Fv) (x : Fv) (hx : ¬ x.k = 8) : callL l = callL (l ++ [x]) := by
  funext key
  rw [callL_snoc, if_neg (by simp [hx])]
theorem take_snoc {α : Type} (L : List α) (j : Nat) (h : j < L.length) : L.take (j + 1) = L.take j ++ [L[j]] := by
  rw [List.take_succ_eq_append_getElem h]
set_option maxRecDepth 4000 in
set_option maxHeartbeats 2000000 in
theorem lastCalls_any (p : Option Addr) (n c : Nat) (L : List Fv) (w : World) (hn : L.length = n) (hn2 : n ≤ 1048576) (hr : KRow fE w p L) (hw : ∀ x ∈ L, FvOk x) :
    Calls Tryz.prog 33 #[.slice p n c] w fun e w' => ∃ g m, e = .returned (.map (some g)) ∧ w.heap.size ≤ g ∧ MapK mC w' g m (callL L) ∧ Below w.heap.size w w' := by
  have HN := Hid.in hn
  have HR := Hid.in hr
  have HW := Hid.in hw
  clear hn hr hw
  have hmm := @run_makeMap Tryz.prog
  go_enter Tryz.func33, Tryz.ntmps33
  go_upto_region 2 with fail
  have HM0 : Hid (MapK mC (w.alloc (.map #[] 0)) w.heap.size 0 (callL [])) := (MapK.made mC w).congrAll (by funext key; rfl)
  have HB0 := Hid.in (new_alloc w (.map #[] 0))
  clear hmm
  generalize w.alloc (.map #[] 0) = w0 at *
  go_wp2_with fail
  go_loopw [9] (fun vi wr => ∃ j : Nat, vi = .int .i64 j ∧ j ≤ n ∧ (∃ m, m ≤ j ∧ MapK mC wr w.heap.size m (callL (L.take j))) ∧ Below w.heap.size w wr) (fun vi _ => n - (intOf vi).toNat)
  case atStart => exact ⟨0, rfl, Nat.zero_le _, ⟨0, Nat.le_refl _, HM0.out⟩, HB0.out⟩
  case round =>
    obtain ⟨j, rfl, hj, ⟨m, hmj, hM⟩, hB⟩ := hrel
    have HM := Hid.in hM
    have HB := Hid.in hB
    clear hM hB HM0 HB0
    by_cases hlt : j < n
    · have hjL : j < L.length := by rw [HN.out]; exact hlt
      have HRr : Hid (KRow fE wr p L) := HR.out.below HB.out
      obtain ⟨b, o, rfl, hc⟩ := ev7 HRr.out (by omega)
      obtain ⟨c0, c1, c2, c3, c4, c5, c6⟩ := hc j hjL
      have hok := HW.out _ (List.getElem_mem hjL)
      have HT := Hid.in (take_snoc L j hjL)
      generalize L[j] = x at *
      have g1 : decide ((j : Int) < (n : Int)) = true := decide_eq_true (by omega)
      have hM1 := HM.out.below (new_alloc wr (.cells (evA x) 34))
      have HB1 := Hid.in (below_alloc HB.out (.cells (evA x) 34))
      by_cases h8 : x.k = 8
      · have hput := hM1.put x.ky hok.ky x.n (by omega)
        rw [callL_put _ x h8, ← HT.out] at hput
        obtain ⟨w', hrun, hM2, hg⟩ := hput
        have hrun' : (Instr.mapUpdate 73 (.map (some w.heap.size)) (.int .i64 x.ky) (.int .i64 x.n)).run Tryz.prog (wr.alloc (.cells (evA x) 34)) = .ok () w' := hrun
        have HB2 := Hid.in (HB1.out.grown hg (by have := HB1.out.size; exact this) (fun k ek => by cases ek; exact Nat.le_refl _))
        have HM2 := Hid.in hM2
        clear hM1 hM2 hrun hg hc hok
        obtain ⟨xk, xst, xh, xp, xo, xky, xn⟩ := x
        dsimp only at *
        subst h8
        go_wp2_with fail
        go_roundw
        case rel => exact ⟨j + 1, by go_num, by omega, ⟨m + 1, by omega, HM2.out⟩, HB2.out⟩
        case measure => simp [intOf]; omega
      · have e8 : (x.k == 8) = false := by simpa using h8
        rw [callL_skip _ x h8, ← HT.out] at hM1
        have HM2 := Hid.in hM1
        clear hM1 hc hok h8
        obtain ⟨xk, xst, xh, xp, xo, xky, xn⟩ := x
        dsimp only at *
        go_wp2_with fail
        go_roundw
        case rel => exact ⟨j + 1, by go_num, by omega, ⟨m, by omega, HM2.out⟩, HB1.out⟩
        case measure => simp [intOf]; omega
    · obtain rfl : j = n := by omega
      have HL : Hid (callL (L.take j) = callL L) := by show _ = _; rw [List.take_of_length_le (by rw [HN.out]; exact Nat.le_refl _)]
      go_wp2_with fail
      go_ret
      exact ⟨_, m, rfl, Nat.le_refl _, by rw [← HL.out]; exact HM.out, HB.out⟩
end Go.Proofs.YtgblohjdiheemaaGreat
