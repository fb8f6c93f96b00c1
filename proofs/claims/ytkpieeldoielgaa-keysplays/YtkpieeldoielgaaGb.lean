/- Texts put together: SitG, SitH, SitI, SitJ, SitK, OfW, AtW, CmpW, SrtL, SrtW, ApaW. -/
import Derived.Test.YtkpieeldoielgaaSitL
import Derived.Test.YtkpieeldoielgaaFndW
import Derived.Sort.Grow
import Derived.Test.YtkpieeldoielgaaShelfB

/- What marks make, one by one (lists alone): each mark has its site, each site a mark; keys by their numbers. -/
namespace Go.Proofs.Ytkpieeldoielgaa
open Go.RowKit

theorem idxK_lt {ks : List ByteArray} {s : ByteArray} (h : s ∈ ks) : idxK ks s < ks.length := by
  unfold idxK
  exact List.findIdx_lt_length_of_exists ⟨s, h, by simp⟩
theorem idxK_get {ks : List ByteArray} {s : ByteArray} (h : s ∈ ks) : ks[idxK ks s]'(idxK_lt h) = s := by
  have h2 := List.findIdx_getElem (xs := ks) (p := fun k => decide (k = s)) (w := idxK_lt h)
  exact of_decide_eq_true h2
theorem idxK_app {ks more : List ByteArray} {s : ByteArray} (h : s ∈ ks) : idxK (ks ++ more) s = idxK ks s := by
  unfold idxK
  rw [List.findIdx_append, if_pos (List.findIdx_lt_length_of_exists ⟨s, h, by simp⟩)]
theorem addK_mem (ks : List ByteArray) (s : ByteArray) : s ∈ addK ks s := by
  unfold addK
  by_cases h : inB s ks = true
  · rw [if_pos h]; exact (inB_iff _ _).1 h
  · rw [if_neg h]; simp
theorem addK_pre (ks : List ByteArray) (s : ByteArray) : ∃ more, addK ks s = ks ++ more := by
  unfold addK
  by_cases h : inB s ks = true
  · rw [if_pos h]; exact ⟨[], by simp⟩
  · rw [if_neg h]; exact ⟨[s], rfl⟩
theorem addK_nodup {ks : List ByteArray} (h : ks.Nodup) (s : ByteArray) : (addK ks s).Nodup := by
  unfold addK
  by_cases hb : inB s ks = true
  · rw [if_pos hb]; exact h
  · rw [if_neg hb, List.nodup_append]
    refine ⟨h, by simp, fun a ha b hbm hab => ?_⟩
    rw [List.mem_singleton.1 hbm] at hab
    subst hab
    exact hb ((inB_iff _ _).2 ha)
theorem addK_len {ks : List ByteArray} (hn : ks.length ≤ 64) (s : ByteArray) (h : ¬ 64 ≤ idxK (addK ks s) s) : (addK ks s).length ≤ 64 := by
  unfold addK at h ⊢
  by_cases hb : inB s ks = true
  · rw [if_pos hb]; exact hn
  · rw [if_neg hb] at h ⊢
    have hns : s ∉ ks := fun hm => hb ((inB_iff _ _).2 hm)
    have hi : idxK (ks ++ [s]) s = ks.length := by
      unfold idxK
      rw [List.findIdx_append, if_neg]
      · simp
      · intro hlt
        have := List.findIdx_getElem (xs := ks) (p := fun k => decide (k = s)) (w := hlt)
        exact hns (by have e : ks[ks.findIdx fun k => decide (k = s)] = s := by simpa using this
                      exact e ▸ List.getElem_mem hlt)
    rw [hi] at h
    rw [List.length_append]
    show ks.length + 1 ≤ 64
    omega

/-- what holds of sites and keys, mark by mark -/
structure GoodS (T : List Si) (ks : List ByteArray) : Prop where
  dis : T.Pairwise fun a b => a.at_ ≠ b.at_
  near : ∀ s ∈ T, farS s = false
  key : ∀ s ∈ T, 0 ≤ s.key ∧ s.key < ks.length
  few : T.length ≤ 256
  kn : ks.Nodup
  kl : ks.length ≤ 64
theorem GoodS.nil : GoodS [] [] := ⟨List.Pairwise.nil, fun _ h => (nomatch h), fun _ h => (nomatch h), Nat.zero_le _, List.nodup_nil, Nat.zero_le _⟩
/-- the site of a mark -/
def siteOf (res : ByteArray → Int × Int) (b : Nat) (ks : List ByteArray) (m : Mk) : Si := ⟨(idxK ks m.key : Nat), (b : Int) + m.at_, (res m.to_).1⟩

theorem stepM_good {res : ByteArray → Int × Int} {b : Nat} {T : List Si} {ks : List ByteArray} {m : Mk} (hg : GoodS T ks) (he : (stepM res b T ks m).e = 0) :
    (stepM res b T ks m).ks = addK ks m.key ∧ GoodS (stepM res b T ks m).si (addK ks m.key) ∧ (∃ more, (stepM res b T ks m).si = T ++ more) ∧ siteOf res b (addK ks m.key) m ∈ (stepM res b T ks m).si ∧ (∀ t ∈ (stepM res b T ks m).si, t ∈ T ∨ t = siteOf res b (addK ks m.key) m) ∧ (res m.to_).2 = 0 := by
  unfold stepM at he ⊢
  by_cases h1 : 64 ≤ idxK (addK ks m.key) m.key
  · rw [if_pos h1] at he; cases he
  rw [if_neg h1] at he ⊢
  by_cases h2 : (res m.to_).2 ≠ 0
  · rw [if_pos h2] at he; exact absurd he h2
  rw [if_neg h2] at he ⊢
  have h2' : (res m.to_).2 = 0 := by simpa using h2
  have hkl := addK_len hg.kl m.key h1
  have hkn := addK_nodup hg.kn m.key
  obtain ⟨mk, hmk⟩ := addK_pre ks m.key
  have hkey : ∀ s ∈ T, 0 ≤ s.key ∧ s.key < ((addK ks m.key).length : Int) := fun s hs => by
    have := hg.key s hs
    rw [hmk, List.length_append]
    omega
  have hown : (0 : Int) ≤ ((idxK (addK ks m.key) m.key : Nat) : Int) ∧ ((idxK (addK ks m.key) m.key : Nat) : Int) < ((addK ks m.key).length : Int) := by
    have := idxK_lt (addK_mem ks m.key)
    omega
  change (stepS (siteOf res b (addK ks m.key) m) (addK ks m.key) T).e = 0 at he
  change (stepS (siteOf res b (addK ks m.key) m) (addK ks m.key) T).ks = _ ∧ GoodS (stepS (siteOf res b (addK ks m.key) m) (addK ks m.key) T).si _ ∧ (∃ more, (stepS (siteOf res b (addK ks m.key) m) (addK ks m.key) T).si = T ++ more) ∧ siteOf res b (addK ks m.key) m ∈ (stepS (siteOf res b (addK ks m.key) m) (addK ks m.key) T).si ∧ (∀ t ∈ (stepS (siteOf res b (addK ks m.key) m) (addK ks m.key) T).si, t ∈ T ∨ t = siteOf res b (addK ks m.key) m) ∧ _
  have hs0 : 0 ≤ (siteOf res b (addK ks m.key) m).key ∧ (siteOf res b (addK ks m.key) m).key < ((addK ks m.key).length : Int) := hown
  generalize siteOf res b (addK ks m.key) m = s at *
  unfold stepS at he ⊢
  cases hf : T.find? fun t => decide (t.at_ = s.at_) with
  | some t =>
    rw [hf] at he
    simp only at he ⊢
    by_cases hts : t = s
    · rw [if_pos hts]
      subst hts
      exact ⟨rfl, ⟨hg.dis, hg.near, hkey, hg.few, hkn, hkl⟩, ⟨[], by simp⟩, List.mem_of_find?_eq_some hf, fun u hu => .inl hu, h2'⟩
    · rw [if_neg hts] at he; cases he
  | none =>
    rw [hf] at he
    simp only at he ⊢
    by_cases hfar : farS s = true
    · rw [if_pos hfar] at he; cases he
    rw [if_neg hfar] at he ⊢
    by_cases hlen : T.length = 256
    · rw [if_pos hlen] at he; cases he
    rw [if_neg hlen]
    have hnone : ∀ t ∈ T, ¬ t.at_ = s.at_ := fun t ht => by
      have := List.find?_eq_none.1 hf t ht
      simpa using this
    refine ⟨rfl, ⟨?_, ?_, ?_, ?_, hkn, hkl⟩, ⟨[s], rfl⟩, by simp, fun u hu => ?_, h2'⟩
    · rw [List.pairwise_append]
      exact ⟨hg.dis, by simp, fun a ha c hc => by rw [List.mem_singleton.1 hc]; exact hnone a ha⟩
    · intro t ht
      rcases List.mem_append.1 ht with ht | ht
      · exact hg.near t ht
      · rw [List.mem_singleton.1 ht]; simpa using hfar
    · intro t ht
      rcases List.mem_append.1 ht with ht | ht
      · exact hkey t ht
      · rw [List.mem_singleton.1 ht]; exact hs0
    · have := hg.few
      rw [List.length_append]
      show T.length + 1 ≤ 256
      omega
    · rcases List.mem_append.1 hu with hu | hu
      · exact .inl hu
      · exact .inr (List.mem_singleton.1 hu)

theorem siteOf_more {res : ByteArray → Int × Int} {b : Nat} {ks more : List ByteArray} {m : Mk} (h : m.key ∈ ks) : siteOf res b (ks ++ more) m = siteOf res b ks m := by
  unfold siteOf
  rw [idxK_app h]
theorem marksS_good {res : ByteArray → Int × Int} {b : Nat} : ∀ (M : List Mk) (T : List Si) (ks : List ByteArray), GoodS T ks → (marksS res b T ks M).e = 0 →
    (marksS res b T ks M).ks = keysM ks M ∧ GoodS (marksS res b T ks M).si (keysM ks M) ∧ (∃ more, (marksS res b T ks M).si = T ++ more) ∧ (∃ more, keysM ks M = ks ++ more) ∧ (∀ m ∈ M, m.key ∈ keysM ks M ∧ siteOf res b (keysM ks M) m ∈ (marksS res b T ks M).si ∧ (res m.to_).2 = 0) ∧ ∀ t ∈ (marksS res b T ks M).si, t ∈ T ∨ ∃ m ∈ M, t = siteOf res b (keysM ks M) m
  | [], T, ks, hg, _ => ⟨rfl, hg, ⟨[], by simp [marksS]⟩, ⟨[], by simp [keysM]⟩, fun _ h => (by cases h), fun t ht => .inl ht⟩
  | m :: M, T, ks, hg, he => by
    unfold marksS at he ⊢
    by_cases h1 : (stepM res b T ks m).e ≠ 0
    · rw [if_pos h1] at he; exact absurd he h1
    rw [if_neg h1] at he ⊢
    obtain ⟨s1, s2, ⟨s3, s3e⟩, s4, s5, s6⟩ := stepM_good hg (by simpa using h1)
    rw [s1] at he ⊢
    obtain ⟨i1, i2, ⟨i3, i3e⟩, ⟨i4, i4e⟩, i5, i6⟩ := marksS_good M _ _ s2 he
    have hk : keysM ks (m :: M) = keysM (addK ks m.key) M := rfl
    rw [hk]
    obtain ⟨a1, a1e⟩ := addK_pre ks m.key
    have hmk := addK_mem ks m.key
    refine ⟨i1, i2, ⟨s3 ++ i3, by rw [i3e, s3e, List.append_assoc]⟩, ⟨a1 ++ i4, by rw [i4e, a1e, List.append_assoc]⟩, fun x hx => ?_, fun t ht => ?_⟩
    · rcases List.mem_cons.1 hx with rfl | hx
      · refine ⟨by rw [i4e]; exact List.mem_append_left _ hmk, ?_, s6⟩
        rw [i4e, siteOf_more hmk, i3e]
        exact List.mem_append_left _ s4
      · exact i5 x hx
    · rcases i6 t ht with h | ⟨x, hx, h⟩
      · rcases s5 t h with h | h
        · exact .inl h
        · exact .inr ⟨m, by simp, by rw [h, i4e, siteOf_more hmk]⟩
      · exact .inr ⟨x, by simp [hx], h⟩

end Go.Proofs.Ytkpieeldoielgaa

/- What is merged is a right table (lists alone): P8.5. -/
namespace Go.Proofs.Ytkpieeldoielgaa
open Go.RowKit

def keysU (ks : List ByteArray) (os : List Ob) : List ByteArray := os.foldl (fun a o => keysM a o.mk_) ks
/-- the site of a mark of the unit at i -/
def siteU (xs : List Ob) (i : Nat) (ks : List ByteArray) (m : Mk) : Si := siteOf (resL xs i) ((tabL xs).ss.getD i 0) ks m
theorem siteU_more {xs : List Ob} {i : Nat} {ks more : List ByteArray} {m : Mk} (h : m.key ∈ ks) : siteU xs i (ks ++ more) m = siteU xs i ks m := siteOf_more h
theorem unitsS_good (xs : List Ob) : ∀ (os : List Ob) (i : Nat) (T : List Si) (ks : List ByteArray), GoodS T ks → (unitsS xs i T ks os).e = 0 →
    (unitsS xs i T ks os).ks = keysU ks os ∧ GoodS (unitsS xs i T ks os).si (keysU ks os) ∧ (∃ more, keysU ks os = ks ++ more) ∧ (∃ more, (unitsS xs i T ks os).si = T ++ more)
    ∧ (∀ j (hj : j < os.length), ∀ m ∈ os[j].mk_, m.key ∈ keysU ks os ∧ siteU xs (i + j) (keysU ks os) m ∈ (unitsS xs i T ks os).si ∧ (resL xs ((i + j : Nat) : Int) m.to_).2 = 0)
    ∧ ∀ t ∈ (unitsS xs i T ks os).si, t ∈ T ∨ ∃ j, ∃ hj : j < os.length, ∃ m ∈ os[j].mk_, t = siteU xs (i + j) (keysU ks os) m
  | [], i, T, ks, hg, _ => ⟨rfl, hg, ⟨[], by simp [keysU]⟩, ⟨[], by simp [unitsS]⟩, fun j hj => absurd hj (by simp), fun t ht => .inl ht⟩
  | o :: os, i, T, ks, hg, he => by
    unfold unitsS at he ⊢
    by_cases h1 : (marksS (resL xs i) ((tabL xs).ss.getD i 0) T ks o.mk_).e ≠ 0
    · rw [if_pos h1] at he; exact absurd he h1
    rw [if_neg h1] at he ⊢
    have h1' : (marksS (resL xs i) ((tabL xs).ss.getD i 0) T ks o.mk_).e = 0 := Classical.not_not.1 h1
    obtain ⟨s1, s2, ⟨s3, s3e⟩, ⟨s4, s4e⟩, s5, s6⟩ := marksS_good o.mk_ T ks hg h1'
    rw [s1] at he ⊢
    obtain ⟨i1, i2, ⟨i3, i3e⟩, ⟨i4, i4e⟩, i5, i6⟩ := unitsS_good xs os (i + 1) _ _ s2 he
    have hk : keysU ks (o :: os) = keysU (keysM ks o.mk_) os := rfl
    rw [hk]
    refine ⟨i1, i2, ⟨s4 ++ i3, by rw [i3e, s4e, List.append_assoc]⟩, ⟨s3 ++ i4, by rw [i4e, s3e, List.append_assoc]⟩, fun j hj m hm => ?_, fun t ht => ?_⟩
    · cases j with
      | zero =>
        obtain ⟨k1, k2, k3⟩ := s5 m hm
        refine ⟨by rw [i3e]; exact List.mem_append_left _ k1, ?_, k3⟩
        rw [i3e, siteU_more k1, i4e]
        exact List.mem_append_left _ k2
      | succ j =>
        have := i5 j (by simpa using hj) m hm
        rw [show i + (j + 1) = i + 1 + j by omega]
        exact this
    · rcases i6 t ht with h | ⟨j, hj, m, hm, h⟩
      · rcases s6 t h with h | ⟨m, hm, h⟩
        · exact .inl h
        · refine .inr ⟨0, by simp, m, hm, ?_⟩
          rw [h, i3e, siteU_more (s5 m hm).1]
          rfl
      · refine .inr ⟨j + 1, by simpa using hj, m, hm, ?_⟩
        rw [h, show i + (j + 1) = i + 1 + j by omega]

/-- a mark of a right unit: the no-op stands there -/
theorem rm_quiet (bs : List Int) (fs : List Fx) : ∀ (M : List Mk) (least : Int), rmL bs fs least M = true → ∀ m ∈ M, stB bs m.at_ quiet = true
  | [], _, _, m, hm => by cases hm
  | x :: M, least, h, m, hm => by
    unfold rmL at h
    rw [Bool.and_eq_true] at h
    rcases List.mem_cons.1 hm with rfl | hm
    · have h1 := h.1
      unfold mrkB at h1
      simp only [Bool.and_eq_true] at h1
      exact h1.1.2
    · exact rm_quiet bs fs M _ h.2 m hm
theorem ok_mark {o : Ob} (h : okO o = true) {m : Mk} (hm : m ∈ o.mk_) : stB o.bs m.at_ quiet = true := by
  unfold okO at h
  rw [Bool.and_eq_true] at h
  exact rm_quiet _ _ _ _ h.2 m hm
theorem st_in {bs : List Int} {a : Int} (h : stB bs a quiet = true) : 0 ≤ a ∧ a + 5 ≤ bs.length ∧ ∀ d, d < 5 → bs[a.toNat + d]? = quiet[d]? := by
  unfold stB at h
  simp only [decide_eq_true_eq] at h
  obtain ⟨h1, h2, h3⟩ := h
  have hq : quiet.length = 5 := rfl
  rw [hq] at h2 h3
  refine ⟨h1, by omega, fun d hd => ?_⟩
  rw [← h3, List.getElem?_take_of_lt hd, List.getElem?_drop]
theorem quiet_apart {bs : List Int} {a b : Int} (ha : stB bs a quiet = true) (hb : stB bs b quiet = true) (hlt : a < b) : a + 5 ≤ b := by
  obtain ⟨a0, -, aq⟩ := st_in ha
  obtain ⟨b0, -, bq⟩ := st_in hb
  refine Classical.byContradiction fun hn => ?_
  have h0 := bq 0 (by decide)
  obtain ⟨d, hd, hd1⟩ : ∃ d : Nat, b.toNat + 0 = a.toNat + d ∧ 1 ≤ d ∧ d < 5 := ⟨b.toNat - a.toNat, by omega, by omega⟩
  rw [hd, aq d hd1.2] at h0
  match d, hd1 with
  | 1, _ => simp [quiet] at h0
  | 2, _ => simp [quiet] at h0
  | 3, _ => simp [quiet] at h0
  | 4, _ => simp [quiet] at h0
theorem endAt_mono {xs : List Ob} : ∀ {i j : Nat}, i ≤ j → j ≤ xs.length → endAt 0 xs i ≤ endAt 0 xs j := by
  intro i j hij hj
  induction hij with
  | refl => exact Nat.le_refl _
  | step h ih =>
    rename_i k
    have hk : k < xs.length := hj
    have h1 := ih (Nat.le_of_lt hk)
    have h2 := endAt_succ xs 0 k hk
    have h3 := (nextS_le (endAt 0 xs k)).1
    rw [h2]
    omega
theorem ss_at {xs : List Ob} (h : (tabL xs).e = 0) {i : Nat} (hi : i < xs.length) : (tabL xs).ss.getD i 0 = nextS (endAt 0 xs i) := by
  obtain ⟨-, ht, -⟩ := tab_good h
  rw [ht]
  show (begs 0 xs).getD i 0 = _
  rw [List.getD_eq_getElem?_getD, List.getElem?_eq_getElem (by rw [begs_len]; exact hi), Option.getD_some, begs_at xs 0 i hi]
/-- a label that is found lies in memory -/
theorem labs_in {xs : List Ob} (h : (tabL xs).e = 0) {x : Sy} (hx : x ∈ labs 0 xs) : 0 ≤ x.at_ ∧ x.at_ ≤ 65536 := by
  obtain ⟨-, -, hok, hend, -⟩ := tab_good h
  obtain ⟨k, hk, rfl⟩ := List.getElem_of_mem hx
  have key : ∀ (i : Nat), i ≤ xs.length → k < cntAt xs i → 0 ≤ (labs 0 xs)[k].at_ ∧ (labs 0 xs)[k].at_ ≤ 65536 := by
    intro i
    induction i with
    | zero => intro _ h; rw [cntAt_zero] at h; omega
    | succ i ih =>
      intro hi hlt
      by_cases hk2 : k < cntAt xs i
      · exact ih (by omega) hk2
      · have hil : i < xs.length := hi
        rw [cntAt_succ xs i hil] at hlt
        obtain ⟨j, hj⟩ : ∃ j, k = cntAt xs i + j := ⟨k - cntAt xs i, by omega⟩
        have hjl : j < xs[i].sy.length := by omega
        have hl := labs_at xs 0 i j hil hjl
        rw [← hj, List.getElem?_eq_getElem hk] at hl
        have e := Option.some.inj hl
        rw [e]
        have hoki := hok _ (List.getElem_mem hil)
        unfold okO at hoki
        simp only [Bool.and_eq_true, decide_eq_true_eq] at hoki
        obtain ⟨⟨⟨⟨-, -, -, -⟩, h3⟩, -⟩, -⟩ := hoki
        obtain ⟨g1, g2, -⟩ := rs_good _ _ _ _ h3 _ (List.getElem_mem hjl)
        have h5 := hend (i + 1) hi
        rw [endAt_succ xs 0 i hil] at h5
        show 0 ≤ ((nextS (endAt 0 xs i) : Nat) : Int) + xs[i].sy[j].at_ ∧ ((nextS (endAt 0 xs i) : Nat) : Int) + xs[i].sy[j].at_ ≤ 65536
        omega
  exact key xs.length (Nat.le_refl _) (by rw [← labs_len xs 0]; exact hk)
theorem findG_mem {L : List Sy} {s : ByteArray} {a : Int} (h : findG L s = some a) : ∃ x ∈ L, x.at_ = a := by
  unfold findG at h
  cases hf : L.find? (fun x => x.g && decide (x.name = s)) with
  | none => rw [hf] at h; cases h
  | some y =>
    rw [hf] at h
    exact ⟨y, List.mem_of_find?_eq_some hf, by simpa using h⟩
theorem findN_mem {L : List Sy} {s : ByteArray} {a : Int} (h : findN L s = some a) : ∃ x ∈ L, x.at_ = a := by
  unfold findN at h
  cases hf : L.find? (fun x => decide (x.name = s)) with
  | none => rw [hf] at h; cases h
  | some y =>
    rw [hf] at h
    exact ⟨y, List.mem_of_find?_eq_some hf, by simpa using h⟩
theorem res_in {xs : List Ob} (h : (tabL xs).e = 0) {u : Int} {s : ByteArray} (hr : (resL xs u s).2 = 0) : 0 ≤ (resL xs u s).1 ∧ (resL xs u s).1 ≤ 65536 := by
  obtain ⟨-, ht, hok, hend, -⟩ := tab_good h
  unfold resL at hr ⊢
  rw [if_neg (by simpa using h)] at hr ⊢
  by_cases hu : 0 ≤ u ∧ u < xs.length
  · rw [dif_pos hu] at hr ⊢
    have hul : u.toNat < xs.length := by omega
    cases hf : findN xs[u.toNat].sy s with
    | some a =>
      simp only
      rw [ss_at h hul]
      obtain ⟨x, hx, rfl⟩ := findN_mem hf
      have := labs_in h (labs_mem (e := 0) hul hx)
      exact this
    | none =>
      rw [hf] at hr
      simp only at hr ⊢
      cases hg : findG (tabL xs).ts s with
      | some a =>
        simp only
        rw [ht] at hg
        obtain ⟨x, hx, rfl⟩ := findG_mem hg
        exact labs_in h hx
      | none => rw [hg] at hr; exact absurd hr (by decide)
  · rw [dif_neg hu] at hr; exact absurd hr (by decide)

end Go.Proofs.Ytkpieeldoielgaa

/- The merged table: right, with each mark's site and no other (lists alone): P8.5. -/
namespace Go.Proofs.Ytkpieeldoielgaa
open Go.RowKit

theorem marksS_bad {res : ByteArray → Int × Int} {b : Nat} : ∀ (M : List Mk) (T : List Si) (ks : List ByteArray), (marksS res b T ks M).e ≠ 0 → (marksS res b T ks M).si = [] ∧ (marksS res b T ks M).ks = []
  | [], T, ks, h => absurd rfl h
  | m :: M, T, ks, h => by
    unfold marksS at h ⊢
    by_cases h1 : (stepM res b T ks m).e ≠ 0
    · rw [if_pos h1]
      unfold stepM at h1 ⊢
      by_cases h2 : 64 ≤ idxK (addK ks m.key) m.key
      · rw [if_pos h2]; exact ⟨rfl, rfl⟩
      rw [if_neg h2] at h1 ⊢
      by_cases h3 : (res m.to_).2 ≠ 0
      · rw [if_pos h3]; exact ⟨rfl, rfl⟩
      rw [if_neg h3] at h1 ⊢
      unfold stepS at h1 ⊢
      cases hf : T.find? fun t => decide (t.at_ = (b : Int) + m.at_) with
      | some t =>
        simp only [hf] at h1 ⊢
        split
        · rename_i hts; rw [if_pos hts] at h1; exact absurd rfl h1
        · exact ⟨rfl, rfl⟩
      | none =>
        simp only [hf] at h1 ⊢
        split
        · exact ⟨rfl, rfl⟩
        · rename_i hfar
          rw [if_neg hfar] at h1
          split
          · exact ⟨rfl, rfl⟩
          · rename_i hl; rw [if_neg hl] at h1; exact absurd rfl h1
    · rw [if_neg h1] at h ⊢
      exact marksS_bad M _ _ h
theorem unitsS_bad (xs : List Ob) : ∀ (os : List Ob) (i : Nat) (T : List Si) (ks : List ByteArray), (unitsS xs i T ks os).e ≠ 0 → (unitsS xs i T ks os).si = [] ∧ (unitsS xs i T ks os).ks = []
  | [], i, T, ks, h => absurd rfl h
  | o :: os, i, T, ks, h => by
    unfold unitsS at h ⊢
    by_cases h1 : (marksS (resL xs i) ((tabL xs).ss.getD i 0) T ks o.mk_).e ≠ 0
    · rw [if_pos h1]; exact ⟨rfl, rfl⟩
    · rw [if_neg h1] at h ⊢
      exact unitsS_bad xs os _ _ _ h
theorem merge_bad {xs : List Ob} (h : (mergeL xs).e ≠ 0) : (mergeL xs).si = [] ∧ (mergeL xs).ks = [] := by
  unfold mergeL at h ⊢
  by_cases h1 : (tabL xs).e ≠ 0
  · rw [if_pos h1]; exact ⟨rfl, rfl⟩
  rw [if_neg h1] at h ⊢
  by_cases h2 : (unitsS xs 0 [] [] xs).e ≠ 0
  · rw [if_pos h2]; exact unitsS_bad xs xs 0 [] [] h2
  · rw [if_neg h2] at h; exact absurd rfl h
theorem merge_ok {xs : List Ob} (h : (mergeL xs).e = 0) : (tabL xs).e = 0 ∧ (unitsS xs 0 [] [] xs).e = 0 ∧ mergeL xs = ⟨sortS (unitsS xs 0 [] [] xs).si, keysL xs, 0, 0⟩ := by
  unfold mergeL at h ⊢
  by_cases h1 : (tabL xs).e ≠ 0
  · rw [if_pos h1] at h; exact absurd h h1
  rw [if_neg h1] at h ⊢
  by_cases h2 : (unitsS xs 0 [] [] xs).e ≠ 0
  · rw [if_pos h2] at h; exact absurd h h2
  rw [if_neg h2]
  have h2' := Classical.not_not.1 h2
  refine ⟨Classical.not_not.1 h1, h2', ?_⟩
  rw [(unitsS_good xs xs 0 [] [] GoodS.nil h2').1]
  rfl

theorem site_in {xs : List Ob} (h : (tabL xs).e = 0) {i : Nat} (hi : i < xs.length) {m : Mk} (hm : m ∈ xs[i].mk_) (ks : List ByteArray) : ((nextS (endAt 0 xs i) : Nat) : Int) ≤ (siteU xs i ks m).at_ ∧ (siteU xs i ks m).at_ + 5 ≤ (endAt 0 xs (i + 1) : Nat) := by
  obtain ⟨-, -, hok, -, -⟩ := tab_good h
  obtain ⟨q1, q2, -⟩ := st_in (ok_mark (hok _ (List.getElem_mem hi)) hm)
  have e := endAt_succ xs 0 i hi
  show _ ≤ (((tabL xs).ss.getD i 0 : Nat) : Int) + m.at_ ∧ (((tabL xs).ss.getD i 0 : Nat) : Int) + m.at_ + 5 ≤ _
  rw [ss_at h hi, e]
  omega
theorem site_apart {xs : List Ob} (h : (tabL xs).e = 0) {ks : List ByteArray} {i j : Nat} (hi : i < xs.length) (hj : j < xs.length) {m m' : Mk} (hm : m ∈ xs[i].mk_) (hm' : m' ∈ xs[j].mk_) (hne : (siteU xs i ks m).at_ ≠ (siteU xs j ks m').at_) : ¬ ((siteU xs j ks m').at_ - (siteU xs i ks m).at_ < 5 ∧ (siteU xs i ks m).at_ - (siteU xs j ks m').at_ < 5) := by
  obtain ⟨-, -, hok, -, -⟩ := tab_good h
  have key : ∀ {i j : Nat} (hi : i < xs.length) (hj : j < xs.length) {m m' : Mk}, m ∈ xs[i].mk_ → m' ∈ xs[j].mk_ → i < j → (siteU xs i ks m).at_ + 5 ≤ (siteU xs j ks m').at_ := by
    intro i j hi hj m m' hm hm' hij
    have a1 := (site_in h hi hm ks).2
    have a2 := (site_in h hj hm' ks).1
    have a3 := endAt_mono (xs := xs) (show i + 1 ≤ j from hij) (by omega)
    have a4 := (nextS_le (endAt 0 xs j)).1
    omega
  rcases Nat.lt_trichotomy i j with hij | hij | hij
  · have := key hi hj hm hm' hij; omega
  · subst hij
    have b1 := ok_mark (hok _ (List.getElem_mem hi)) hm
    have b2 := ok_mark (hok _ (List.getElem_mem hi)) hm'
    have e1 : (siteU xs i ks m).at_ = (((tabL xs).ss.getD i 0 : Nat) : Int) + m.at_ := rfl
    have e2 : (siteU xs i ks m').at_ = (((tabL xs).ss.getD i 0 : Nat) : Int) + m'.at_ := rfl
    rw [e1, e2] at hne ⊢
    rcases Int.lt_trichotomy m.at_ m'.at_ with hlt | heq | hlt
    · have := quiet_apart b1 b2 hlt; omega
    · exact absurd (by rw [heq]) hne
    · have := quiet_apart b2 b1 hlt; omega
  · have := key hj hi hm' hm hij; omega

theorem merge_right {xs : List Ob} (h : (mergeL xs).e = 0) : rightS (mergeL xs).si ((mergeL xs).ks.length : Nat) = true := by
  obtain ⟨ht, hu, hm⟩ := merge_ok h
  obtain ⟨u1, u2, -, -, -, u6⟩ := unitsS_good xs xs 0 [] [] GoodS.nil hu
  rw [hm]
  show rightS (sortS (unitsS xs 0 [] [] xs).si) ((keysL xs).length : Nat) = true
  have hk : keysL xs = keysU [] xs := rfl
  have hperm := sortS_perm (unitsS xs 0 [] [] xs).si
  have hend := (tab_good ht).2.2.2.1
  have hof : ∀ t ∈ (unitsS xs 0 [] [] xs).si, ∃ j, ∃ hj : j < xs.length, ∃ m ∈ xs[j].mk_, t = siteU xs j (keysU [] xs) m := fun t htm => by
    rcases u6 t htm with h | ⟨j, hj, m, hmm, e⟩
    · cases h
    · rw [Nat.zero_add] at e; exact ⟨j, hj, m, hmm, e⟩
  unfold rightS
  simp only [Bool.and_eq_true, decide_eq_true_eq, List.all_eq_true]
  refine ⟨⟨⟨⟨by omega, ?_, ?_⟩, fun t htm => ?_⟩, sortS_sorted _ u2.dis⟩, ?_⟩
  · have := u2.kl; rw [hk]; omega
  · rw [hperm.length_eq]; exact u2.few
  · have htm' := hperm.mem_iff.1 htm
    obtain ⟨j, hj, m, hmm, e⟩ := hof t htm'
    have k1 := u2.key t htm'
    have k2 := u2.near t htm'
    have k3 := site_in ht hj hmm (keysU [] xs)
    have k4 := hend (j + 1) hj
    obtain ⟨-, -, -, -, u5, -⟩ := unitsS_good xs xs 0 [] [] GoodS.nil hu
    have k5 := (u5 j hj m hmm).2.2
    rw [Nat.zero_add] at k5
    have k6 := res_in ht k5
    unfold siteB
    simp only [Bool.and_eq_true, decide_eq_true_eq, Bool.not_eq_true']
    rw [hk]
    refine ⟨⟨k1.1, k1.2, ?_, ?_, ?_, ?_⟩, k2⟩
    · rw [e]; omega
    · rw [e]; omega
    · rw [e]; exact k6.1
    · rw [e]; exact k6.2
  · refine (hperm.pairwise_iff (fun {a b} hab => by omega)).2 ?_
    refine List.Pairwise.imp_of_mem ?_ u2.dis
    intro a b ha hb hne
    obtain ⟨i, hi, m, hmm, ea⟩ := hof a ha
    obtain ⟨j, hj, m', hmm', eb⟩ := hof b hb
    subst ea eb
    exact site_apart ht hi hj hmm hmm' hne

end Go.Proofs.Ytkpieeldoielgaa

/- Looking up in tables of sites (lists alone): P8.3, P8.5; halving. -/
namespace Go.Proofs.Ytkpieeldoielgaa
open Go.RowKit

theorem at_of : ∀ {T : List Si}, T.Pairwise (fun a b => a.at_ ≠ b.at_) → ∀ {s : Si}, s ∈ T → ∃ k, ∃ hk : k < T.length, atS T s.at_ = some k ∧ T[k] = s
  | t :: T, hd, s, hs => by
    rw [List.pairwise_cons] at hd
    unfold atS
    rw [List.findIdx?_cons]
    by_cases h : t.at_ = s.at_
    · rw [if_pos (by simpa using h)]
      rcases List.mem_cons.1 hs with rfl | hs
      · exact ⟨0, by simp, rfl, rfl⟩
      · exact absurd h (hd.1 s hs)
    · rw [if_neg (by simpa using h)]
      rcases List.mem_cons.1 hs with rfl | hs
      · exact absurd rfl h
      · obtain ⟨k, hk, e1, e2⟩ := at_of hd.2 hs
        refine ⟨k + 1, by simpa using hk, ?_, e2⟩
        unfold atS at e1
        rw [e1]
        rfl
theorem pair_idx {T : List Si} (hd : T.Pairwise fun a b => a.at_ ≠ b.at_) {i j : Nat} (hi : i < T.length) (hj : j < T.length) (h : T[i] = T[j]) : i = j := by
  rw [List.pairwise_iff_getElem] at hd
  rcases Nat.lt_trichotomy i j with hij | hij | hij
  · exact absurd (by rw [h]) (hd i j hi hj hij)
  · exact hij
  · exact absurd (by rw [h]) (hd j i hj hi hij)
theorem at_self {T : List Si} (hd : T.Pairwise fun a b => a.at_ ≠ b.at_) {k : Nat} (hk : k < T.length) : atS T T[k].at_ = some k := by
  obtain ⟨k', hk', e1, e2⟩ := at_of hd (List.getElem_mem hk)
  rw [e1, pair_idx hd hk' hk e2]
theorem right_dis {T : List Si} {n : Int} (h : rightS T n = true) : T.Pairwise fun a b => a.at_ ≠ b.at_ := by
  unfold rightS at h
  simp only [Bool.and_eq_true, decide_eq_true_eq] at h
  exact h.2.imp fun hab e => hab (by omega)
/-- each mark has its site -/
theorem merge_mark {xs : List Ob} (h : (mergeL xs).e = 0) {j : Nat} (hj : j < xs.length) {m : Mk} (hm : m ∈ xs[j].mk_) :
    (resL xs j m.to_).2 = 0 ∧ ∃ k, ∃ hk : k < (mergeL xs).si.length, atS (mergeL xs).si (((nextS (endAt 0 xs j) : Nat) : Int) + m.at_) = some k ∧ (mergeL xs).si[k].to_ = (resL xs j m.to_).1 ∧ ∃ q : Nat, ∃ hq : q < (mergeL xs).ks.length, (mergeL xs).si[k].key = q ∧ (mergeL xs).ks[q] = m.key := by
  have hd := right_dis (merge_right h)
  obtain ⟨ht, hu, hme⟩ := merge_ok h
  obtain ⟨-, -, -, -, u5, -⟩ := unitsS_good xs xs 0 [] [] GoodS.nil hu
  obtain ⟨k1, k2, k3⟩ := u5 j hj m hm
  rw [Nat.zero_add] at k2 k3
  have hmem : siteU xs j (keysL xs) m ∈ (mergeL xs).si := by
    rw [hme]
    exact (sortS_perm _).mem_iff.2 k2
  obtain ⟨k, hk, e1, e2⟩ := at_of hd hmem
  have ea : (siteU xs j (keysL xs) m).at_ = ((nextS (endAt 0 xs j) : Nat) : Int) + m.at_ := by
    show (((tabL xs).ss.getD j 0 : Nat) : Int) + m.at_ = _
    rw [ss_at ht hj]
  rw [ea] at e1
  have hks : (mergeL xs).ks = keysL xs := by rw [hme]
  refine ⟨k3, k, hk, e1, by rw [e2]; rfl, idxK (keysL xs) m.key, ?_, by rw [e2]; rfl, ?_⟩
  · rw [hks]; exact idxK_lt k1
  · have := idxK_get k1
    simp only [hks]
    exact this
/-- no site is of no mark -/
theorem merge_site {xs : List Ob} (h : (mergeL xs).e = 0) {k : Nat} (hk : k < (mergeL xs).si.length) :
    ∃ j, ∃ hj : j < xs.length, ∃ m ∈ xs[j].mk_, atS (mergeL xs).si (((nextS (endAt 0 xs j) : Nat) : Int) + m.at_) = some k := by
  have hd := right_dis (merge_right h)
  obtain ⟨ht, hu, hme⟩ := merge_ok h
  obtain ⟨-, -, -, -, -, u6⟩ := unitsS_good xs xs 0 [] [] GoodS.nil hu
  have hmem : (mergeL xs).si[k] ∈ (unitsS xs 0 [] [] xs).si := by
    have h1 := List.getElem_mem hk
    have h2 : (mergeL xs).si = sortS (unitsS xs 0 [] [] xs).si := by rw [hme]
    exact (sortS_perm _).mem_iff.1 (h2 ▸ h1)
  rcases u6 _ hmem with hc | ⟨j, hj, m, hm, e⟩
  · cases hc
  · rw [Nat.zero_add] at e
    refine ⟨j, hj, m, hm, ?_⟩
    have ea : (mergeL xs).si[k].at_ = ((nextS (endAt 0 xs j) : Nat) : Int) + m.at_ := by
      rw [e]
      show (((tabL xs).ss.getD j 0 : Nat) : Int) + m.at_ = _
      rw [ss_at ht hj]
    rw [← ea]
    exact at_self hd hk

/-- halving, as sort.Search does -/
def bs (p : Nat → Bool) (i j : Nat) : Nat := if h : i < j then (if p ((i + j) / 2) = true then bs p i ((i + j) / 2) else bs p ((i + j) / 2 + 1) j) else i
termination_by j - i
decreasing_by all_goals omega
theorem bs_in (p : Nat → Bool) : ∀ (i j : Nat), i ≤ j → i ≤ bs p i j ∧ bs p i j ≤ j := by
  intro i j
  induction i, j using bs.induct (p := p) with
  | case1 i j h hp ih =>
    intro hij
    unfold bs
    rw [dif_pos h, if_pos hp]
    have := ih (by omega)
    omega
  | case2 i j h hp ih =>
    intro hij
    unfold bs
    rw [dif_pos h, if_neg hp]
    have := ih (by omega)
    omega
  | case3 i j h =>
    intro hij
    unfold bs
    rw [dif_neg h]
    omega
/-- of a test that turns once -/
theorem bs_mono (p : Nat → Bool) (n : Nat) (hm : ∀ a b, a ≤ b → b < n → p a = true → p b = true) : ∀ (i j : Nat), i ≤ j → j ≤ n → (∀ a, a < i → p a = false) → (∀ a, j ≤ a → a < n → p a = true) → (∀ a, a < bs p i j → p a = false) ∧ ∀ a, bs p i j ≤ a → a < n → p a = true := by
  intro i j
  induction i, j using bs.induct (p := p) with
  | case1 i j h hp ih =>
    intro hij hjn h1 h2
    unfold bs
    rw [dif_pos h, if_pos hp]
    exact ih (by omega) (by omega) h1 fun a ha han => hm _ a ha han hp
  | case2 i j h hp ih =>
    intro hij hjn h1 h2
    unfold bs
    rw [dif_pos h, if_neg hp]
    refine ih (by omega) hjn (fun a ha => ?_) h2
    cases hpa : p a with
    | false => rfl
    | true => exact absurd (hm a _ (by omega) (by omega) hpa) hp
  | case3 i j h =>
    intro hij hjn h1 h2
    unfold bs
    rw [dif_neg h]
    exact ⟨h1, fun a ha han => h2 a (by omega) han⟩
/-- of two tests, one of which says yes wherever the other does -/
theorem bs_le (p q : Nat → Bool) (hpq : ∀ a, q a = true → p a = true) : ∀ (i j : Nat), i ≤ j → bs p i j ≤ bs q i j := by
  intro i j
  induction i, j using bs.induct (p := p) with
  | case1 i j h hp ih =>
    intro hij
    conv => lhs; unfold bs
    rw [dif_pos h, if_pos hp]
    conv => rhs; unfold bs
    rw [dif_pos h]
    by_cases hq : q ((i + j) / 2) = true
    · rw [if_pos hq]; exact ih (by omega)
    · rw [if_neg hq]
      have h1 := bs_in p i ((i + j) / 2) (by omega)
      have h2 := bs_in q ((i + j) / 2 + 1) j (by omega)
      omega
  | case2 i j h hp ih =>
    intro hij
    conv => lhs; unfold bs
    rw [dif_pos h, if_neg hp]
    conv => rhs; unfold bs
    rw [dif_pos h, if_neg (fun hq => hp (hpq _ hq))]
    exact ih (by omega)
  | case3 i j h =>
    intro hij
    conv => lhs; unfold bs
    rw [dif_neg h]
    conv => rhs; unfold bs
    rw [dif_neg h]
    exact Nat.le_refl _

end Go.Proofs.Ytkpieeldoielgaa

/- A key's range in a table (lists alone): P8.3, P8.5. -/
namespace Go.Proofs.Ytkpieeldoielgaa
open Go.RowKit

/-- is the site at i of that key, or one above it? -/
def gK (T : List Si) (k : Int) (i : Nat) : Bool := match T[i]? with
  | some s => decide (k ≤ s.key)
  | none => true
theorem gK_at {T : List Si} {k : Int} {i : Nat} (h : i < T.length) : gK T k i = decide (k ≤ T[i].key) := by
  unfold gK; rw [List.getElem?_eq_getElem h]
/-- where the sites of key k and above begin, by halving -/
def cutK (T : List Si) (k : Int) : Nat := bs (gK T k) 0 T.length
theorem cutK_le (T : List Si) (k : Int) : cutK T k ≤ T.length := (bs_in _ 0 _ (Nat.zero_le _)).2
theorem cutK_mono (T : List Si) {k l : Int} (h : k ≤ l) : cutK T k ≤ cutK T l := by
  refine bs_le _ _ (fun a ha => ?_) 0 _ (Nat.zero_le _)
  unfold gK at *
  cases hT : T[a]? with
  | none => rfl
  | some s =>
    rw [hT] at ha
    simp only [decide_eq_true_eq] at ha ⊢
    omega
def byKey (T : List Si) : Prop := T.Pairwise fun a b => a.key ≤ b.key
theorem cutK_sorted {T : List Si} (hs : byKey T) (k : Int) : (∀ a (h : a < T.length), a < cutK T k → T[a].key < k) ∧ ∀ a (h : a < T.length), cutK T k ≤ a → k ≤ T[a].key := by
  have hs' := List.pairwise_iff_getElem.1 hs
  obtain ⟨h1, h2⟩ := bs_mono (gK T k) T.length (fun a b hab hb hp => by
    rw [gK_at (by omega)] at hp
    rw [gK_at hb]
    simp only [decide_eq_true_eq] at hp ⊢
    rcases Nat.lt_or_ge a b with hlt | hge
    · have := hs' a b (by omega) hb hlt; omega
    · have : a = b := by omega
      subst this; exact hp) 0 T.length (Nat.zero_le _) (Nat.le_refl _) (fun a ha => absurd ha (Nat.not_lt_zero a)) (fun a ha han => by omega)
  refine ⟨fun a h hl => ?_, fun a h hl => ?_⟩
  · have := h1 a hl
    rw [gK_at h] at this
    simp only [decide_eq_false_iff_not] at this
    omega
  · have := h2 a hl h
    rw [gK_at h] at this
    simpa using this
/-- .. and there is but one such place -/
theorem cutK_only {T : List Si} (hs : byKey T) (k : Int) {c : Nat} (hc : c ≤ T.length) (h1 : ∀ a (h : a < T.length), a < c → T[a].key < k) (h2 : ∀ a (h : a < T.length), c ≤ a → k ≤ T[a].key) : cutK T k = c := by
  obtain ⟨k1, k2⟩ := cutK_sorted hs k
  have hle := cutK_le T k
  rcases Nat.lt_trichotomy (cutK T k) c with hlt | he | hlt
  · have a1 := k2 (cutK T k) (by omega) (Nat.le_refl _)
    have a2 := h1 (cutK T k) (by omega) hlt
    omega
  · exact he
  · have a1 := h2 c (by omega) (Nat.le_refl _)
    have a2 := k1 c (by omega) hlt
    omega
theorem right_byKey {T : List Si} {n : Int} (h : rightS T n = true) : byKey T ∧ (T.Pairwise fun a b => ltS a b = true) ∧ 0 ≤ n ∧ n ≤ 64 ∧ T.length ≤ 256 ∧ ∀ s ∈ T, siteB n s = true := by
  unfold rightS at h
  simp only [Bool.and_eq_true, decide_eq_true_eq, List.all_eq_true] at h
  obtain ⟨⟨⟨⟨h1, h2, h3⟩, h4⟩, h5⟩, -⟩ := h
  refine ⟨h5.imp fun hab => ?_, h5, h1, h2, h3, h4⟩
  unfold ltS at hab
  simp only [decide_eq_true_eq] at hab
  omega
theorem siteB_key {n : Int} {s : Si} (h : siteB n s = true) : 0 ≤ s.key ∧ s.key < n := by
  unfold siteB at h
  simp only [Bool.and_eq_true, decide_eq_true_eq] at h
  exact ⟨h.1.1, h.1.2.1⟩
/-- the ranges of a right table's keys, one behind the other, are the whole table -/
theorem cut_first {T : List Si} {n : Int} (h : rightS T n = true) : cutK T 0 = 0 := by
  obtain ⟨h1, -, -, -, -, h6⟩ := right_byKey h
  exact cutK_only h1 0 (Nat.zero_le _) (fun a _ hl => absurd hl (Nat.not_lt_zero a)) fun a ha _ => (siteB_key (h6 _ (List.getElem_mem ha))).1
theorem cut_last {T : List Si} {n : Int} (h : rightS T n = true) : cutK T n = T.length := by
  obtain ⟨h1, -, -, -, -, h6⟩ := right_byKey h
  exact cutK_only h1 n (Nat.le_refl _) (fun a ha _ => (siteB_key (h6 _ (List.getElem_mem ha))).2) fun a ha hl => by omega
theorem cut_key {T : List Si} {n : Int} (h : rightS T n = true) {k : Int} {i : Nat} (hi : i < T.length) (h1 : cutK T k ≤ i) (h2 : i < cutK T (k + 1)) : T[i].key = k := by
  obtain ⟨hb, -⟩ := right_byKey h
  have a1 := (cutK_sorted hb k).2 i hi h1
  have a2 := (cutK_sorted hb (k + 1)).1 i hi h2
  omega
theorem cut_at {T : List Si} {n : Int} (h : rightS T n = true) {k : Int} {i : Nat} (hi : i + 1 < T.length) (h1 : cutK T k ≤ i) (h2 : i + 1 < cutK T (k + 1)) : T[i].at_ < T[i + 1].at_ := by
  obtain ⟨-, hlt, -⟩ := right_byKey h
  have e1 := cut_key h (show i < T.length by omega) h1 (by omega)
  have e2 := cut_key h hi (by omega) h2
  have := List.pairwise_iff_getElem.1 hlt i (i + 1) (by omega) hi (by omega)
  unfold ltS at this
  simp only [decide_eq_true_eq] at this
  omega

end Go.Proofs.Ytkpieeldoielgaa

/- sites.Of: a key's range by halving. -/
namespace Go.Proofs.Ytkpieeldoielgaa
open Go.RowKit

def siV (s : Si) : V3 := (.int .i64 s.key, .int .i64 s.at_, .int .i64 s.to_)

theorem Row3.at3 {w : World} {p : Option Addr} {T : List Si} (h : Row3 w p (T.map siV)) (h0 : 0 < T.length) : ∃ b o, p = some ⟨b, o, none⟩ ∧ ∀ i (hi : i < T.length), w.cell? ⟨b, o + i * 3, none⟩ = some (.int .i64 T[i].key) ∧ w.cell? ⟨b, o + i * 3 + 1, none⟩ = some (.int .i64 T[i].at_) ∧ w.cell? ⟨b, o + i * 3 + 2, none⟩ = some (.int .i64 T[i].to_) := by
  obtain ⟨b, o, e, hc⟩ := h (by simpa using h0)
  refine ⟨b, o, e, fun i hi => ?_⟩
  have h0 := hc i (by simpa using hi) 0 (by decide)
  have h1 := hc i (by simpa using hi) 1 (by decide)
  have h2 := hc i (by simpa using hi) 2 (by decide)
  rw [List.getElem_map] at h0 h1 h2
  exact ⟨h0, h1, h2⟩

set_option maxHeartbeats 1000000 in
theorem clos43 (b o n c gt gk i : Nat) (k x : Int) (w : World) (hi : i < n) (ht : w.cell? ⟨gt, 0, none⟩ = some (.slice (some ⟨b, o, none⟩) n c)) (hk : w.cell? ⟨gk, 0, none⟩ = some (.int .i64 k)) (hx : w.cell? ⟨b, o + i * 3, none⟩ = some (.int .i64 x)) :
    Calls Try.prog 62 #[.int .i64 i, .pointer (some ⟨gt, 0, none⟩), .pointer (some ⟨gk, 0, none⟩)] w fun e w' => e = .returned (.bool (decide (k ≤ x))) ∧ ∃ m, w' = w.drewN m := by
  go_enter Try.func62, Try.ntmps62
  go_wp2
  go_quiet (fail)
  go_wp2
  go_ret
  exact ⟨rfl, _, rfl⟩

set_option maxHeartbeats 1000000 in
theorem clos44 (b o n c gt gk i : Nat) (k x : Int) (w : World) (hi : i < n) (ht : w.cell? ⟨gt, 0, none⟩ = some (.slice (some ⟨b, o, none⟩) n c)) (hk : w.cell? ⟨gk, 0, none⟩ = some (.int .i64 k)) (hx : w.cell? ⟨b, o + i * 3, none⟩ = some (.int .i64 x)) :
    Calls Try.prog 63 #[.int .i64 i, .pointer (some ⟨gt, 0, none⟩), .pointer (some ⟨gk, 0, none⟩)] w fun e w' => e = .returned (.bool (decide (k < x))) ∧ ∃ m, w' = w.drewN m := by
  go_enter Try.func63, Try.ntmps63
  go_wp2
  go_quiet (fail)
  go_wp2
  go_ret
  exact ⟨rfl, _, rfl⟩

set_option maxRecDepth 4000 in
set_option maxHeartbeats 2000000 in
theorem search43 (q : Option Addr) (c gt gk : Nat) (k : Int) (T : List Si) (w : World) (hn : T.length ≤ 140737488355328) (hr : Row3 w q (T.map siV)) (ht : w.cell? ⟨gt, 0, none⟩ = some (.slice q T.length c)) (hk : w.cell? ⟨gk, 0, none⟩ = some (.int .i64 k)) :
    Calls Try.prog 61 #[.int .i64 T.length, .func (Fn.func 62) #[] #[.pointer (some ⟨gt, 0, none⟩), .pointer (some ⟨gk, 0, none⟩)]] w fun e w' => e = .returned (.int .i64 (cutK T (k) : Nat)) ∧ ∃ m, w' = w.drewN m := by
  have HP : Hid (∀ i (hi : i < T.length), gK T (k) i = decide (k ≤ T[i].key)) := fun i hi => gK_at hi
  have HCL : Hid (∀ (i : Nat) (hi : i < T.length) (m : Nat), Calls Try.prog 62 #[.int .i64 i, .pointer (some ⟨gt, 0, none⟩), .pointer (some ⟨gk, 0, none⟩)] (w.drewN m) fun e w' => e = .returned (.bool (gK T (k) i)) ∧ ∃ m', w' = w.drewN m') := by
    intro i hi m
    obtain ⟨b, o, rfl, hc⟩ := hr.at3 (by omega)
    rw [HP.out i hi]
    exact (clos43 b o T.length c gt gk i k T[i].key (w.drewN m) hi ht hk (hc i hi).1).mono fun e w' ⟨h1, m', h2⟩ => ⟨h1, m + m', by rw [h2]; exact World.drewN_drewN ..⟩
  obtain ⟨r, hrr⟩ : ∃ r, cutK T (k) = r := ⟨_, rfl⟩
  rw [hrr]
  have HRR := Hid.in hrr
  clear hrr hr ht hk
  obtain ⟨n, hnn⟩ : ∃ n, T.length = n := ⟨_, rfl⟩
  have HN := Hid.in hnn
  rw [hnn] at hn ⊢
  clear hnn
  go_enter Try.func61, Try.ntmps61
  go_wp2_with fail
  go_loopw [5, 6] (fun vi vj wr => ∃ a b m : Nat, vi = .int .i64 a ∧ vj = .int .i64 b ∧ a ≤ b ∧ b ≤ n ∧ bs (gK T (k)) a b = r ∧ wr = w.drewN m) (fun vi vj _ => (intOf vj).toNat - (intOf vi).toNat)
  case atStart => exact ⟨0, n, 0, rfl, rfl, Nat.zero_le _, Nat.le_refl _, by rw [← HRR.out, ← HN.out]; rfl, rfl⟩
  case round =>
    obtain ⟨a, b, m, rfl, rfl, hab, hbn, hbs, rfl⟩ := hrel
    have HBS := Hid.in hbs
    clear hbs
    by_cases hlt : a < b
    · have hcl : Calls Try.prog 62 #[.int .i64 (((a : Int) + b) / 2), .pointer (some ⟨gt, 0, none⟩), .pointer (some ⟨gk, 0, none⟩)] (w.drewN m) fun e w' => e = .returned (.bool (gK T (k) ((a + b) / 2))) ∧ ∃ m', w' = w.drewN m' := by
        have h := HCL.out ((a + b) / 2) (by rw [HN.out]; omega) m
        have e : (((a + b) / 2 : Nat) : Int) = ((a : Int) + b) / 2 := by omega
        rw [e] at h
        exact h
      have hst := HBS.out
      rw [bs, dif_pos hlt] at hst
      clear HBS
      cases hg : gK T (k) ((a + b) / 2) with
      | true =>
        rw [hg] at hcl
        rw [hg, if_pos rfl] at hst
        have HST := Hid.in hst
        clear hst hg
        go_wp2_with (go_at_call 62; refine hcl.mono ?_; rintro e w1 ⟨rfl, m', rfl⟩)
        go_roundw
        case rel => exact ⟨a, (a + b) / 2, m', rfl, by simp, by omega, by omega, HST.out, rfl⟩
        case measure => simp [intOf]; omega
      | false =>
        rw [hg] at hcl
        rw [hg, if_neg (by decide)] at hst
        have HST := Hid.in hst
        clear hst hg
        go_wp2_with (go_at_call 62; refine hcl.mono ?_; rintro e w1 ⟨rfl, m', rfl⟩)
        go_roundw
        case rel => exact ⟨(a + b) / 2 + 1, b, m', by simp, rfl, by omega, by omega, HST.out, rfl⟩
        case measure => simp [intOf]; omega
    · have hE : a = b := by omega
      subst hE
      go_wp2_with fail
      go_ret
      exact ⟨by rw [← HBS.out, bs]; simp, m, rfl⟩

set_option maxRecDepth 4000 in
set_option maxHeartbeats 2000000 in
theorem search44 (q : Option Addr) (c gt gk : Nat) (k : Int) (T : List Si) (w : World) (hn : T.length ≤ 140737488355328) (hr : Row3 w q (T.map siV)) (ht : w.cell? ⟨gt, 0, none⟩ = some (.slice q T.length c)) (hk : w.cell? ⟨gk, 0, none⟩ = some (.int .i64 k)) :
    Calls Try.prog 61 #[.int .i64 T.length, .func (Fn.func 63) #[] #[.pointer (some ⟨gt, 0, none⟩), .pointer (some ⟨gk, 0, none⟩)]] w fun e w' => e = .returned (.int .i64 (cutK T (k + 1) : Nat)) ∧ ∃ m, w' = w.drewN m := by
  have HP : Hid (∀ i (hi : i < T.length), gK T (k + 1) i = decide (k < T[i].key)) := fun i hi => (gK_at hi).trans (decide_eq_decide.2 (by omega))
  have HCL : Hid (∀ (i : Nat) (hi : i < T.length) (m : Nat), Calls Try.prog 63 #[.int .i64 i, .pointer (some ⟨gt, 0, none⟩), .pointer (some ⟨gk, 0, none⟩)] (w.drewN m) fun e w' => e = .returned (.bool (gK T (k + 1) i)) ∧ ∃ m', w' = w.drewN m') := by
    intro i hi m
    obtain ⟨b, o, rfl, hc⟩ := hr.at3 (by omega)
    rw [HP.out i hi]
    exact (clos44 b o T.length c gt gk i k T[i].key (w.drewN m) hi ht hk (hc i hi).1).mono fun e w' ⟨h1, m', h2⟩ => ⟨h1, m + m', by rw [h2]; exact World.drewN_drewN ..⟩
  obtain ⟨r, hrr⟩ : ∃ r, cutK T (k + 1) = r := ⟨_, rfl⟩
  rw [hrr]
  have HRR := Hid.in hrr
  clear hrr hr ht hk
  obtain ⟨n, hnn⟩ : ∃ n, T.length = n := ⟨_, rfl⟩
  have HN := Hid.in hnn
  rw [hnn] at hn ⊢
  clear hnn
  go_enter Try.func61, Try.ntmps61
  go_wp2_with fail
  go_loopw [5, 6] (fun vi vj wr => ∃ a b m : Nat, vi = .int .i64 a ∧ vj = .int .i64 b ∧ a ≤ b ∧ b ≤ n ∧ bs (gK T (k + 1)) a b = r ∧ wr = w.drewN m) (fun vi vj _ => (intOf vj).toNat - (intOf vi).toNat)
  case atStart => exact ⟨0, n, 0, rfl, rfl, Nat.zero_le _, Nat.le_refl _, by rw [← HRR.out, ← HN.out]; rfl, rfl⟩
  case round =>
    obtain ⟨a, b, m, rfl, rfl, hab, hbn, hbs, rfl⟩ := hrel
    have HBS := Hid.in hbs
    clear hbs
    by_cases hlt : a < b
    · have hcl : Calls Try.prog 63 #[.int .i64 (((a : Int) + b) / 2), .pointer (some ⟨gt, 0, none⟩), .pointer (some ⟨gk, 0, none⟩)] (w.drewN m) fun e w' => e = .returned (.bool (gK T (k + 1) ((a + b) / 2))) ∧ ∃ m', w' = w.drewN m' := by
        have h := HCL.out ((a + b) / 2) (by rw [HN.out]; omega) m
        have e : (((a + b) / 2 : Nat) : Int) = ((a : Int) + b) / 2 := by omega
        rw [e] at h
        exact h
      have hst := HBS.out
      rw [bs, dif_pos hlt] at hst
      clear HBS
      cases hg : gK T (k + 1) ((a + b) / 2) with
      | true =>
        rw [hg] at hcl
        rw [hg, if_pos rfl] at hst
        have HST := Hid.in hst
        clear hst hg
        go_wp2_with (go_at_call 63; refine hcl.mono ?_; rintro e w1 ⟨rfl, m', rfl⟩)
        go_roundw
        case rel => exact ⟨a, (a + b) / 2, m', rfl, by simp, by omega, by omega, HST.out, rfl⟩
        case measure => simp [intOf]; omega
      | false =>
        rw [hg] at hcl
        rw [hg, if_neg (by decide)] at hst
        have HST := Hid.in hst
        clear hst hg
        go_wp2_with (go_at_call 63; refine hcl.mono ?_; rintro e w1 ⟨rfl, m', rfl⟩)
        go_roundw
        case rel => exact ⟨(a + b) / 2 + 1, b, m', by simp, rfl, by omega, by omega, HST.out, rfl⟩
        case measure => simp [intOf]; omega
    · have hE : a = b := by omega
      subst hE
      go_wp2_with fail
      go_ret
      exact ⟨by rw [← HBS.out, bs]; simp, m, rfl⟩

end Go.Proofs.Ytkpieeldoielgaa

/- sites.Of and At, and the reference's Of, At and Sorted. -/
namespace Go.Proofs.Ytkpieeldoielgaa
open Go.RowKit

set_option maxHeartbeats 1000000 in
theorem of_any (p : Option Addr) (n c : Nat) (k : Int) (T : List Si) (w : World) (hl : T.length = n) (hn : n ≤ 140737488355328) (hr : Row3 w p (T.map siV)) :
    Calls Try.prog 52 #[.slice p n c, .int .i64 k] w fun e w' => e = .returned (.tuple #[.int .i64 (cutK T k : Nat), .int .i64 (cutK T (k + 1) : Nat)]) ∧ Below w.heap.size w w' := by
  subst hl
  have hb1 := new_alloc w (.cells #[.slice p T.length c] 28)
  have hb2 := below_alloc hb1 (.cells #[.int .i64 k] 3)
  have HB := Hid.in hb2
  have HT : Hid (((w.alloc (.cells #[.slice p T.length c] 28)).alloc (.cells #[.int .i64 k] 3)).cell? ⟨w.heap.size, 0, none⟩ = some (.slice p T.length c)) := by
    have := ((Blk.new w 28 #[.slice p T.length c]).grow (new_alloc _ (.cells #[.int .i64 k] 3))).cell 0
    exact this
  have HK : Hid (((w.alloc (.cells #[.slice p T.length c] 28)).alloc (.cells #[.int .i64 k] 3)).cell? ⟨w.heap.size + 1, 0, none⟩ = some (.int .i64 k)) := by
    have := (Blk.new (w.alloc (.cells #[.slice p T.length c] 28)) 3 #[.int .i64 k]).cell 0
    rw [size_one] at this
    exact this
  have HR := Hid.in (hr.below hb2)
  clear hb1 hb2 hr
  go_enter Try.func52, Try.ntmps52
  go_wp2_with (first
    | (go_at_call 61; first
      | ((with_reducible refine (search43 p c w.heap.size (w.heap.size + 1) k T _ hn HR.out HT.out HK.out).mono ?_); rintro e w1 ⟨rfl, m1, hw1⟩; have ht1 : w1.cell? ⟨w.heap.size, 0, none⟩ = some (.slice p T.length c) := (by rw [hw1]; exact HT.out); have hk1 : w1.cell? ⟨w.heap.size + 1, 0, none⟩ = some (.int .i64 k) := (by rw [hw1]; exact HK.out); have HR1 : Hid (Row3 w1 p (T.map siV)) := (by rw [hw1]; exact HR.out); have HB1 : Hid (Below w.heap.size w w1) := (by rw [hw1]; exact below_draws HB.out _); clear hw1)
      | ((with_reducible refine (search44 p c w.heap.size (w.heap.size + 1) k T w1 hn HR1.out ht1 hk1).mono ?_); rintro e w2 ⟨rfl, m2, hw2⟩; have HB2 : Hid (Below w.heap.size w w2) := (by rw [hw2]; exact below_draws HB1.out _); clear hw2)))
  go_ret2
  exact ⟨rfl, HB2.out⟩

/-- the number of the first site at a place, or how many there are -/
def fstA (T : List Si) (a : Int) : Nat := T.findIdx fun s => decide (s.at_ = a)
theorem fstA_at {T : List Si} {a : Int} {k : Nat} (hk : k < T.length) (h : T[k].at_ = a) (hn : ∀ j (hj : j < T.length), j < k → T[j].at_ ≠ a) : atS T a = some k := by
  unfold atS
  rw [List.findIdx?_eq_some_iff_getElem]
  exact ⟨hk, by simpa using h, fun j hj => by simpa using hn j (by omega) hj⟩
theorem atS_none {T : List Si} {a : Int} (hn : ∀ j (hj : j < T.length), T[j].at_ ≠ a) : atS T a = none := by
  unfold atS
  rw [List.findIdx?_eq_none_iff]
  intro x hx
  obtain ⟨j, hj, rfl⟩ := List.getElem_of_mem hx
  simpa using hn j hj

def atI (r : Option Nat) : Int := match r with
  | none => -1
  | some k => k

def atR (r : Option Nat) : Value := match r with
  | none => .tuple #[.int .i64 0, .bool false]
  | some k => .tuple #[.int .i64 k, .bool true]

end Go.Proofs.Ytkpieeldoielgaa

/- Small tests on sites: in reach, right, ahead; their order. -/
namespace Go.Proofs.Ytkpieeldoielgaa
open Go.RowKit

abbrev sV (s : Si) : Value := .agg #[.int .i64 s.key, .int .i64 s.at_, .int .i64 s.to_]

/-- a site whose numbers are not great -/
def Near (s : Si) : Prop := -1000000 ≤ s.at_ ∧ s.at_ ≤ 1000000 ∧ -1000000 ≤ s.to_ ∧ s.to_ ≤ 1000000

set_option maxHeartbeats 1000000 in
theorem inReach_any (s : Si) (w : World) (h : Near s) : Calls Try.prog 64 #[sV s] w fun e w' => e = .returned (.bool (!farS s)) ∧ Below w.heap.size w w' := by
  obtain ⟨sk, sa, st⟩ := s
  obtain ⟨h1, h2, h3, h4⟩ := h
  dsimp only at h1 h2 h3 h4
  have e1 : IntKind.i64.wrap (sa + 5) = sa + 5 := by rw [IntKind.wrap_i64]; omega
  have e2 : IntKind.i64.wrap (st - (sa + 5)) = st - (sa + 5) := by rw [IntKind.wrap_i64]; omega
  by_cases hf : st - (sa + 5) < -4096
  · have HF : Hid ((!farS ⟨sk, sa, st⟩) = false) := by simp [Hid, farS]; omega
    rw [HF.out]
    go_enter Try.func64, Try.ntmps64
    go_wp2_with fail
    go_ret
    exact ⟨rfl, new_alloc _ _⟩
  · by_cases hg : 4096 < st - (sa + 5)
    · have HF : Hid ((!farS ⟨sk, sa, st⟩) = false) := by simp [Hid, farS]; omega
      rw [HF.out]
      go_enter Try.func64, Try.ntmps64
      go_wp2_with fail
      go_ret
      exact ⟨ret_bool (by simp; omega), new_alloc _ _⟩
    · have HF : Hid ((!farS ⟨sk, sa, st⟩) = true) := by simp [Hid, farS]; omega
      rw [HF.out]
      go_enter Try.func64, Try.ntmps64
      go_wp2_with fail
      go_ret
      exact ⟨ret_bool (by simp), new_alloc _ _⟩

def orI (x y : Int) : Int := if x ≠ 0 then x else y

set_option maxHeartbeats 1000000 in
theorem or_any (g : Nat) (x y : Int) (w : World) (c0 : w.cell? ⟨g, 0, none⟩ = some (.int .i64 x)) (c1 : w.cell? ⟨g, 1, none⟩ = some (.int .i64 y)) : Calls Try.prog 65 #[.slice (some ⟨g, 0, none⟩) 2 2] w fun e w' => e = .returned (.int .i64 (orI x y)) ∧ w' = w := by
  unfold orI
  by_cases h1 : x = 0
  · rw [if_neg (by simpa using h1)]
    subst h1
    by_cases h2 : y = 0
    · subst h2
      go_enter Try.func65, Try.ntmps65
      go_wp2
      refine wp_loop_rounds 3 ?_
      rw [rounds_succ]; go_wp2
      rw [rounds_succ]; go_wp2
      rw [rounds_succ]; go_wp2
      go_ret
      exact ⟨rfl, rfl⟩
    · go_enter Try.func65, Try.ntmps65
      go_wp2
      refine wp_loop_rounds 2 ?_
      rw [rounds_succ]; go_wp2
      rw [rounds_succ]; go_wp2
      go_ret
      exact ⟨rfl, rfl⟩
  · rw [if_pos h1]
    go_enter Try.func65, Try.ntmps65
    go_wp2
    refine wp_loop_rounds 1 ?_
    rw [rounds_succ]; go_wp2
    go_ret
    exact ⟨rfl, rfl⟩

/-- byKeyThenPlace's answer -/
def cmpS (s t : Si) : Int := orI (cmpI s.key t.key) (cmpI s.at_ t.at_)
theorem cmpS_lt (s t : Si) : decide (cmpS s t < 0) = ltS s t := by
  unfold cmpS ltS
  refine decide_eq_decide.2 ?_
  unfold orI cmpI
  by_cases h1 : s.key < t.key
  · rw [if_pos h1]; simp; omega
  · rw [if_neg h1]
    by_cases h2 : t.key < s.key
    · rw [if_pos h2]; simp; omega
    · rw [if_neg h2]
      by_cases h3 : s.at_ < t.at_
      · rw [if_pos h3]; simp; omega
      · rw [if_neg h3]
        by_cases h4 : t.at_ < s.at_
        · rw [if_pos h4]; simp; omega
        · rw [if_neg h4]; simp; omega

set_option maxRecDepth 4000 in
set_option maxHeartbeats 2000000 in
theorem byKey_any (s t : Si) (w : World) : Calls Try.prog 56 #[sV s, sV t] w fun e w' => e = .returned (.int .i64 (cmpS s t)) ∧ ∃ q os, w' = Go.Sort.grow (w.drewN q) os := by
  obtain ⟨sk, sa, st⟩ := s
  obtain ⟨tk, ta, tt⟩ := t
  have hc1 := fun W => compare_any sk tk W
  have hc2 := fun W => compare_any sa ta W
  have HC : Hid (cmpS ⟨sk, sa, st⟩ ⟨tk, ta, tt⟩ = orI (cmpI sk tk) (cmpI sa ta)) := rfl
  rw [HC.out]
  generalize cmpI sk tk = x at *
  generalize cmpI sa ta = y at *
  clear HC
  have hor := fun g W c0 c1 => or_any g x y W c0 c1
  generalize orI x y = r at *
  have HZ0 : Hid (∀ A B : Obj, ((((w.alloc A).alloc B).alloc (.cells #[.int .i64 x, .int .i64 y] 3)).drew).cell? ⟨w.heap.size + 1 + 1, 0, none⟩ = some (.int .i64 x)) := fun A B => by
    have h := (Blk.new ((w.alloc A).alloc B) 3 #[.int .i64 x, .int .i64 y]).cell 0
    rw [size_one, size_one] at h
    exact h
  have HZ1 : Hid (∀ A B : Obj, ((((w.alloc A).alloc B).alloc (.cells #[.int .i64 x, .int .i64 y] 3)).drew).cell? ⟨w.heap.size + 1 + 1, 1, none⟩ = some (.int .i64 y)) := fun A B => by
    have h := (Blk.new ((w.alloc A).alloc B) 3 #[.int .i64 x, .int .i64 y]).cell 1
    rw [size_one, size_one] at h
    exact h
  go_enter Try.func56, Try.ntmps56
  go_wp2_with fail
  go_region_law (first
    | (go_simp; go_at_call 66; first
      | ((with_reducible refine (hc1 _).mono ?_); rintro e w1 ⟨rfl, rfl⟩)
      | ((with_reducible refine (hc2 _).mono ?_); rintro e w1 ⟨rfl, rfl⟩))
    | (go_simp; go_at_call 65; (with_reducible refine (hor _ _ (HZ0.out _ _) (HZ1.out _ _)).mono ?_); rintro e w1 ⟨rfl, rfl⟩))
  all_goals
    go_wp2
    go_ret
    exact ⟨rfl, 1, _, by rw [Go.Sort.alloc_eq_grow, Go.Sort.alloc_eq_grow, Go.Sort.alloc_eq_grow, Go.Sort.grow_grow, Go.Sort.grow_grow]; rfl⟩

theorem grow_below (w : World) (q : Nat) (os : Array Obj) : Below w.heap.size w (Go.Sort.grow (w.drewN q) os) :=
  ⟨rfl, rfl, rfl, by simp [Go.Sort.grow, World.drewN], fun k hk => by simp [Go.Sort.grow, World.drewN, Array.getElem?_append_left hk]⟩

end Go.Proofs.Ytkpieeldoielgaa

/- Sorted, and apart: what sites.Right asks for, in the words of the code. -/
namespace Go.Proofs.Ytkpieeldoielgaa
open Go.RowKit

def nsB (T : List Si) : Bool := decide (∀ i, i < T.length - 1 → ltS (T.getD (i + 1) ⟨0, 0, 0⟩) (T.getD i ⟨0, 0, 0⟩) = false)
theorem getD_si {T : List Si} {i : Nat} (h : i < T.length) : T.getD i ⟨0, 0, 0⟩ = T[i] := by simp [List.getD, h]

/-- no two places share a byte -/
def apP (L : List Int) : Prop := L.Pairwise fun a b => ¬ (b - a < 5 ∧ a - b < 5)
instance (L : List Int) : Decidable (apP L) := inferInstanceAs (Decidable (L.Pairwise _))

theorem lt_asym {a b : Si} (h : ltS a b = true) : ltS b a = false := by
  unfold ltS at *
  simp only [decide_eq_true_eq] at h
  exact decide_eq_false (by omega)
theorem lt_of_not {a b : Si} (h : ltS b a = false) (hd : a.at_ ≠ b.at_) : ltS a b = true := by
  unfold ltS at *
  simp only [decide_eq_false_iff_not] at h
  exact decide_eq_true (by omega)

theorem ns_pair {T : List Si} (ha : apP (T.map (·.at_))) : nsB T = true ↔ T.Pairwise fun a b => ltS a b = true := by
  have hd : ∀ i j (hi : i < T.length) (hj : j < T.length), i < j → T[i].at_ ≠ T[j].at_ := by
    intro i j hi hj hij e
    have := List.pairwise_iff_getElem.1 ha i j (by simpa using hi) (by simpa using hj) hij
    simp only [List.getElem_map] at this
    omega
  unfold nsB
  rw [decide_eq_true_eq]
  constructor
  · intro h
    have hc : ∀ i (hi : i + 1 < T.length), ltS T[i] T[i + 1] = true := by
      intro i hi
      have := h i (by omega)
      rw [getD_si hi, getD_si (by omega)] at this
      exact lt_of_not this (hd i (i + 1) (by omega) hi (by omega))
    have hg : ∀ d i (hi : i + (d + 1) < T.length), ltS T[i] T[i + (d + 1)] = true := by
      intro d
      induction d with
      | zero => exact fun i hi => hc i hi
      | succ d ih => exact fun i hi => ltS_trans (ih i (by omega)) (hc (i + (d + 1)) hi)
    refine List.pairwise_iff_getElem.2 fun i j hi hj hij => ?_
    obtain ⟨d, rfl⟩ : ∃ d, j = i + (d + 1) := ⟨j - i - 1, by omega⟩
    exact hg d i hj
  · intro h i hi'
    have hi : i + 1 < T.length := by omega
    rw [getD_si hi, getD_si (by omega)]
    exact lt_asym (List.pairwise_iff_getElem.1 h i (i + 1) (by omega) hi (by omega))

theorem right_eq (T : List Si) (n : Int) : rightS T n = (decide (0 ≤ n ∧ n ≤ 64 ∧ T.length ≤ 256) && T.all (siteB n) && (nsB T && decide (apP (T.map (·.at_))))) := by
  have hap : (T.Pairwise fun a b => ¬ (b.at_ - a.at_ < 5 ∧ a.at_ - b.at_ < 5)) ↔ apP (T.map (·.at_)) := by unfold apP; rw [List.pairwise_map]
  unfold rightS
  rw [show decide (T.Pairwise fun a b => ¬ (b.at_ - a.at_ < 5 ∧ a.at_ - b.at_ < 5)) = decide (apP (T.map (·.at_))) from decide_eq_decide.2 hap]
  by_cases h : apP (T.map (·.at_))
  · rw [decide_eq_true h, Bool.and_true, Bool.and_true]
    congr 1
    have := ns_pair h
    cases hn : nsB T with
    | true => exact decide_eq_true (this.1 hn)
    | false => exact decide_eq_false fun hp => by rw [this.2 hp] at hn; cases hn
  · rw [decide_eq_false h, Bool.and_false, Bool.and_false, Bool.and_false]

/-- of a sorted list of places: neighbours tell all -/
def adjB (P : List Int) : Bool := decide (∀ i, i < P.length - 1 → ¬ P.getD (i + 1) 0 - P.getD i 0 < 5)
theorem adj_ap {P : List Int} (hs : P.Pairwise fun a b => a ≤ b) : adjB P = decide (apP P) := by
  unfold adjB
  refine decide_eq_decide.2 ⟨fun h => ?_, fun h i hi' => ?_⟩
  · have hc : ∀ i (hi : i + 1 < P.length), P[i] + 5 ≤ P[i + 1] := by
      intro i hi
      have := h i (by omega)
      simp only [List.getD, List.getElem?_eq_getElem hi, List.getElem?_eq_getElem (show i < P.length by omega), Option.getD_some] at this
      omega
    refine List.pairwise_iff_getElem.2 fun i j hi hj hij => ?_
    obtain ⟨d, rfl⟩ : ∃ d, j = i + (d + 1) := ⟨j - i - 1, by omega⟩
    have h1 := hc i (by omega)
    have h2 : P[i + 1] ≤ P[i + (d + 1)] := by
      by_cases e : d = 0
      · subst e; exact Int.le_refl _
      · exact List.pairwise_iff_getElem.1 hs (i + 1) (i + (d + 1)) (by omega) hj (by omega)
    omega
  · have hi : i + 1 < P.length := by omega
    have h1 := List.pairwise_iff_getElem.1 h i (i + 1) (by omega) hi (by omega)
    have h2 := List.pairwise_iff_getElem.1 hs i (i + 1) (by omega) hi (by omega)
    simp only [List.getD, List.getElem?_eq_getElem hi, List.getElem?_eq_getElem (show i < P.length by omega), Option.getD_some]
    omega
theorem ap_perm {L P : List Int} (h : L.Perm P) : apP L ↔ apP P :=
  h.pairwise_iff (fun {a b} hab => by omega)

end Go.Proofs.Ytkpieeldoielgaa

/- rightSite, slices.IsSortedFunc, the reference's Of and Sorted. -/
namespace Go.Proofs.Ytkpieeldoielgaa
open Go.RowKit

set_option maxHeartbeats 1000000 in
theorem rightSite_any (s : Si) (n : Int) (w : World) : Calls Try.prog 54 #[sV s, .int .i64 n] w fun e w' => e = .returned (.bool (siteB n s)) ∧ Below w.heap.size w w' := by
  by_cases hall : 0 ≤ s.key ∧ s.key < n ∧ 0 ≤ s.at_ ∧ s.at_ ≤ 65531 ∧ 0 ≤ s.to_ ∧ s.to_ ≤ 65536
  · have hR := fun W => inReach_any s W ⟨by omega, by omega, by omega, by omega⟩
    have HF : Hid (siteB n s = !farS s) := by
      have : siteB n s = !farS s := by unfold siteB; rw [decide_eq_true hall, Bool.true_and]
      exact this
    rw [HF.out]
    generalize farS s = f at *
    clear HF
    obtain ⟨sk, sa, st⟩ := s
    obtain ⟨h1, h2, h3, h4, h5, h6⟩ := hall
    dsimp only at h1 h2 h3 h4 h5 h6
    go_enter Try.func54, Try.ntmps54
    go_wp2_with (go_at_call 64; refine (hR _).mono ?_; rintro e w1 ⟨rfl, hb⟩; have HB := Hid.in (below_step (new_alloc w _) hb); clear hb)
    go_ret
    exact ⟨rfl, HB.out⟩
  · have HF : Hid (siteB n s = false) := by
      have : siteB n s = false := by unfold siteB; rw [decide_eq_false hall, Bool.false_and]
      exact this
    rw [HF.out]
    clear HF
    obtain ⟨sk, sa, st⟩ := s
    dsimp only at hall
    rcases (by omega : sk < 0 ∨ (0 ≤ sk ∧ n ≤ sk) ∨ (0 ≤ sk ∧ sk < n ∧ sa < 0) ∨ (0 ≤ sk ∧ sk < n ∧ 0 ≤ sa ∧ 65531 < sa) ∨ (0 ≤ sk ∧ sk < n ∧ 0 ≤ sa ∧ sa ≤ 65531 ∧ st < 0) ∨ (0 ≤ sk ∧ sk < n ∧ 0 ≤ sa ∧ sa ≤ 65531 ∧ 0 ≤ st ∧ 65536 < st)) with h1 | ⟨h1, h2⟩ | ⟨h1, h2, h3⟩ | ⟨h1, h2, h3, h4⟩ | ⟨h1, h2, h3, h4, h5⟩ | ⟨h1, h2, h3, h4, h5, h6⟩
    all_goals
      clear hall
      go_enter Try.func54, Try.ntmps54
      go_wp2_with fail
      go_ret
      exact ⟨ret_bool (by simp), new_alloc _ _⟩

theorem cmpS_neg {s t : Si} (h : ltS s t = true) : cmpS s t < 0 := by
  have := cmpS_lt s t
  rw [h] at this
  simpa using this
theorem cmpS_nneg {s t : Si} (h : ltS s t = false) : ¬ cmpS s t < 0 := by
  have := cmpS_lt s t
  rw [h] at this
  simpa using this

set_option maxRecDepth 4000 in
set_option maxHeartbeats 2000000 in
theorem isSorted_any (p : Option Addr) (n c : Nat) (T : List Si) (w : World) (hn : T.length = n) (hn6 : n ≤ 140737488355328) (hr : Row3 w p (T.map siV)) :
    Calls Try.prog 55 #[.slice p n c, .func (Fn.func 56) #[] #[]] w fun E w' => E = .returned (.bool (nsB T)) ∧ Below w.heap.size w w' := by
  have hC := fun s t W => byKey_any s t W
  have HN := Hid.in hn
  have HR := Hid.in hr
  clear hn hr
  obtain ⟨r, hrr⟩ : ∃ r, nsB T = r := ⟨_, rfl⟩
  rw [hrr]
  have HRR := Hid.in hrr
  clear hrr
  have hwn : IntKind.i64.wrap ((n : Int) - 1) = (n : Int) - 1 := by rw [IntKind.wrap_i64]; omega
  go_enter Try.func55, Try.ntmps55
  go_wp2_with fail
  go_loopw [5] (fun vi wr => ∃ k : Int, vi = .int .i64 k ∧ -1 ≤ k ∧ k ≤ (n : Int) - 1 ∧ (∀ j : Nat, j + 1 < T.length → k < (j : Int) + 1 → ltS (T.getD (j + 1) ⟨0, 0, 0⟩) (T.getD j ⟨0, 0, 0⟩) = false) ∧ Below w.heap.size w wr) (fun vi _ => (intOf vi).toNat)
  case atStart => exact ⟨(n : Int) - 1, rfl, by omega, by omega, fun j h1 h2 => by rw [HN.out] at h1; omega, below_self w⟩
  case round =>
    obtain ⟨k, rfl, hk0, hk1, hgo, hb⟩ := hrel
    have HGO := Hid.in hgo
    have HB := Hid.in hb
    clear hgo hb
    by_cases hlt : 0 < k
    · obtain ⟨m, rfl⟩ : ∃ m : Nat, k = (m : Int) + 1 := ⟨(k - 1).toNat, by omega⟩
      have hm1 : m + 1 < T.length := by rw [HN.out]; omega
      have hm0 : m < T.length := by omega
      obtain ⟨b, o, rfl, hcc⟩ := (HR.out.below HB.out).at3 (by omega)
      have c0 := (hcc (m + 1) hm1).1
      have c1 := (hcc (m + 1) hm1).2.1
      have c2 := (hcc (m + 1) hm1).2.2
      have d0 := (hcc m hm0).1
      have d1 := (hcc m hm0).2.1
      have d2 := (hcc m hm0).2.2
      have hcl := hC T[m + 1] T[m] wr.drew
      dsimp only [sV] at hcl
      have hw1 : IntKind.i64.wrap ((m : Int) + 1 - 1) = (m : Int) := by rw [IntKind.wrap_i64]; omega
      have hw2 : ((m : Int) + 1).toNat = m + 1 := by omega
      have hw3 : IntKind.i64.wrap (m : Int) = (m : Int) := by rw [IntKind.wrap_i64]; omega
      have hb0 : (0 : Int) ≤ (m : Int) + 1 := by omega
      have hb1 : (m : Int) + 1 < (n : Int) := by omega
      have hb2 : m < n := by omega
      clear hcc hC
      cases hl : ltS T[m + 1] T[m] with
      | true =>
        have hneg := cmpS_neg hl
        have HE : Hid (r = false) := by
          have : nsB T = false := by
            unfold nsB
            refine decide_eq_false fun h => ?_
            have := h m (by omega)
            rw [getD_si hm1, getD_si hm0, hl] at this
            cases this
          rw [← HRR.out, this]; exact rfl
        generalize cmpS T[m + 1] T[m] = cc at *
        generalize T[m + 1].key = x0 at *
        generalize T[m + 1].at_ = x1 at *
        generalize T[m + 1].to_ = x2 at *
        generalize T[m].key = y0 at *
        generalize T[m].at_ = y1 at *
        generalize T[m].to_ = y2 at *
        clear hl
        go_wp2_with fail
        go_region_law (go_simp; go_at_call 56; (with_reducible refine hcl.mono ?_); rintro e w1 ⟨rfl, q, os, hw⟩; have HB1 : Hid (Below w.heap.size w w1) := (by rw [hw]; exact below_step HB.out (below_step (below_draws (below_self wr) 1) (grow_below _ _ _))); clear hw)
        all_goals
          go_wp2
          go_ret
          exact ⟨by rw [HE.out]; rfl, HB1.out⟩
      | false =>
        have hneg := cmpS_nneg hl
        have HG2 : Hid (∀ j : Nat, j + 1 < T.length → (m : Int) < (j : Int) + 1 → ltS (T.getD (j + 1) ⟨0, 0, 0⟩) (T.getD j ⟨0, 0, 0⟩) = false) := fun j h1 h2 => by
          by_cases e : j = m
          · subst e; rw [getD_si hm1, getD_si hm0]; exact hl
          · exact HGO.out j h1 (by omega)
        generalize cmpS T[m + 1] T[m] = cc at *
        generalize T[m + 1].key = x0 at *
        generalize T[m + 1].at_ = x1 at *
        generalize T[m + 1].to_ = x2 at *
        generalize T[m].key = y0 at *
        generalize T[m].at_ = y1 at *
        generalize T[m].to_ = y2 at *
        clear hl
        go_wp2_with fail
        go_region_law (go_simp; go_at_call 56; (with_reducible refine hcl.mono ?_); rintro e w1 ⟨rfl, q, os, hw⟩; have HB1 : Hid (Below w.heap.size w w1) := (by rw [hw]; exact below_step HB.out (below_step (below_draws (below_self wr) 1) (grow_below _ _ _))); clear hw)
        all_goals
          go_wp2
          go_roundw
          case rel => exact ⟨m, by first | rfl | go_num, by omega, by omega, HG2.out, HB1.out⟩
          case measure => simp [intOf]
    · have HE : Hid (r = true) := by
        have : nsB T = true := by
          unfold nsB
          exact decide_eq_true fun j h1 => HGO.out j (by omega) (by omega)
        rw [← HRR.out, this]; exact rfl
      go_wp2_with fail
      go_ret
      exact ⟨by rw [HE.out]; rfl, HB.out⟩

end Go.Proofs.Ytkpieeldoielgaa

/- sites.apart: no two sites share a byte. -/
namespace Go.Proofs.Ytkpieeldoielgaa
open Go.RowKit

abbrev intsV (zs : List Int) : List Value := zs.map (Value.int .i64)

/-- numbers, sorted -/
def srt (zs : List Int) : List Int := zs.mergeSort fun x y => decide (x ≤ y)
theorem srt_perm (zs : List Int) : (srt zs).Perm zs := List.mergeSort_perm _ _
theorem srt_sorted (zs : List Int) : (srt zs).Pairwise fun a b => a ≤ b := by
  have := List.pairwise_mergeSort (le := fun x y : Int => decide (x ≤ y)) (fun a b c h1 h2 => by simp at *; omega) (fun a b => by simp; omega) zs
  exact this.imp fun h => by simpa using h
theorem srt_len (zs : List Int) : (srt zs).length = zs.length := (srt_perm zs).length_eq

theorem sortI_own (B g cap : Nat) (zs : List Int) (w : World) (ho : GOwn 3 w B g cap (intsV zs)) (hl : zs.length ≤ 140737488355328) :
    Calls Try.prog 67 #[.slice (some ⟨g, 0, none⟩) zs.length cap] w fun e w' => e = .returned (.tuple #[]) ∧ (∀ j (hj : j < (srt zs).length), w'.cell? ⟨g, j, none⟩ = some (.int .i64 (srt zs)[j])) ∧ ∀ w0, Below B w0 w → Below B w0 w' := by
  have hH : Go.Sort.Holds (Value.int .i64) w g 0 zs.toArray := by
    intro j hj
    have hj' : j < zs.length := by simpa using hj
    rw [Nat.zero_add]
    refine ⟨?_, ho.free j⟩
    rw [ho.cell j (by simpa using hj')]
    simp [hj']
  have hs : (srt zs).toArray.size = zs.toArray.size := by simp [srt_len]
  refine (Try.slices_Sort_int g 0 cap zs w hH ho.lt (by omega)).mono fun e w' ⟨he, n, os, hw⟩ => ⟨he, fun j hj => ?_, fun w0 hb => ?_⟩
  · rw [hw, Go.Sort.cell?_grow _ _ _ (by simpa using ho.lt)]
    have := Go.Sort.cell?_putRow (Value.int .i64) (Go.Sort.ahead w n) g 0 zs.toArray (srt zs).toArray hH hs j (by simpa using hj)
    rw [Nat.zero_add] at this
    refine this.trans ?_
    simp [hj]
  · refine hb.trans ?_
    rw [hw]
    refine ⟨rfl, rfl, rfl, by simp, fun k hk => ?_⟩
    have hkg : k ≠ g := by have := ho.base; omega
    have hks : k < (Go.Sort.putRow (Value.int .i64) (Go.Sort.ahead w n) g 0 (srt zs).toArray).heap.size := by
      have := hb.size
      simp
      have := ho.lt
      have := ho.base
      omega
    refine (Go.Sort.heap_grow_old _ os hks).trans ?_
    simp [Go.Sort.putRow, Go.Sort.mapBlock, Array.getElem?_modify, Ne.symm hkg]

theorem sortI_any (B : Nat) (p : Option Addr) (c : Nat) (zs : List Int) (w : World) (hl : zs.length ≤ 140737488355328) (ho : GOwnV 3 w B (.slice p zs.length c) (intsV zs)) :
    Calls Try.prog 67 #[.slice p zs.length c] w fun e w' => e = .returned (.tuple #[]) ∧ GRow w' p (intsV (srt zs)) ∧ ∀ w0, Below B w0 w → Below B w0 w' := by
  rcases ho.shape with ⟨h1, h2⟩ | ⟨g, cap, h1, h2⟩
  · have hz : zs = [] := by simpa using h2
    subst hz
    simp only [List.length_nil, Value.slice.injEq] at h1
    refine (Try.slices_Sort_int_none p c w).mono fun e w' ⟨he, hw⟩ => ⟨he, fun h => ?_, fun w0 hb => by rw [hw]; exact hb⟩
    simp [srt] at h
  · simp only [List.length_map, Value.slice.injEq] at h1
    obtain ⟨rfl, -, rfl⟩ := h1
    refine (sortI_own B g c zs w h2 hl).mono fun e w' ⟨he, hc, hb⟩ => ⟨he, fun _ => ⟨g, 0, rfl, fun i hi => ?_⟩, hb⟩
    have hi' : i < (srt zs).length := by simpa using hi
    rw [Nat.zero_add, hc i hi']
    simp [hi']

set_option maxRecDepth 4000 in
set_option maxHeartbeats 4000000 in
theorem apart_any (p : Option Addr) (n c : Nat) (T : List Si) (w : World) (hn : T.length = n) (hn6 : n ≤ 1000) (hr : Row3 w p (T.map siV)) (hT : ∀ s ∈ T, 0 ≤ s.at_ ∧ s.at_ ≤ 65536) :
    Calls Try.prog 57 #[.slice p n c] w fun E w' => E = .returned (.bool (decide (apP (T.map (·.at_))))) ∧ Below w.heap.size w w' := by
  have HN := Hid.in hn
  have HR := Hid.in hr
  have HT := Hid.in hT
  clear hn hr hT
  obtain ⟨r, hrr⟩ : ∃ r, decide (apP (T.map (·.at_))) = r := ⟨_, rfl⟩
  rw [hrr]
  have HRR := Hid.in hrr
  clear hrr
  go_enter Try.func57, Try.ntmps57
  go_wp2_with fail
  go_loopw [3, 9] (fun v vi wr => ∃ k : Nat, vi = .int .i64 k ∧ k ≤ n ∧ GOwnV 3 wr w.heap.size v (intsV ((T.map (·.at_)).take k)) ∧ Below w.heap.size w wr) (fun _ vi _ => n - (intOf vi).toNat)
  case atStart => exact ⟨0, rfl, Nat.zero_le _, GOwnV.nil _ _ _, below_self w⟩
  case round =>
    obtain ⟨k, rfl, hk, hown, hb⟩ := hrel
    have HB := Hid.in hb
    have hsz := hb.size
    clear hb
    by_cases hlt : k < n
    · have hkT : k < T.length := by rw [HN.out]; exact hlt
      obtain ⟨b, o, rfl, hcc⟩ := (HR.out.below HB.out).at3 (by omega)
      have c0 := (hcc k hkT).1
      have c1 := (hcc k hkT).2.1
      have c2 := (hcc k hkT).2.2
      have HTK : Hid (intsV ((T.map (·.at_)).take (k + 1)) = intsV ((T.map (·.at_)).take k) ++ [.int .i64 T[k].at_]) := by
        have h : intsV ((T.map (·.at_)).take (k + 1)) = intsV ((T.map (·.at_)).take k) ++ [.int .i64 T[k].at_] := by
          rw [List.take_succ_eq_append_getElem (by simpa using hkT)]
          simp
        exact h
      have hl2 : (intsV ((T.map (·.at_)).take k)).length ≤ 1000 := by rw [List.length_map, List.length_take]; omega
      clear hcc
      generalize T[k].key = x0 at *
      generalize T[k].at_ = x1 at *
      generalize T[k].to_ = x2 at *
      generalize intsV ((T.map (·.at_)).take k) = us at *
      go_wp2_with (at_builtin; refine gpush Try.elemI _ rfl _ _ rfl w.heap.size _ us rfl ((hown.alloc _).alloc _) ⟨wr.heap.size + 1, 0, none⟩ 1 1 [.int .i64 x1] rfl rfl (by have h := cell_one_new (wr.alloc (.cells #[.int .i64 x0, .int .i64 x1, .int .i64 x2] 41)) (.int .i64 x1) 3; rw [size_one] at h; exact h) (by simp [Value.oneCell']) (by omega) (by omega) (by simp; omega) ?_; intro v' w1 hown' _hgrow hbel _hnil)
      go_roundw
      case rel => exact ⟨k + 1, by go_num, by omega, by rw [HTK.out]; exact hown', hbel _ (below_alloc (below_alloc HB.out _) _)⟩
      case measure => simp [intOf]; omega
    · obtain ⟨zs, hzs⟩ : ∃ zs, zs = T.map (·.at_) := ⟨_, rfl⟩
      have hzl : zs.length = n := by rw [hzs, List.length_map, HN.out]
      rw [← hzs, List.take_of_length_le (by omega)] at hown
      have HAP : Hid (adjB (srt zs) = r) := by rw [adj_ap (srt_sorted zs), ← HRR.out, ← hzs]; exact decide_eq_decide.2 (ap_perm (srt_perm zs))
      have HRG : Hid (∀ i (hi : i < (srt zs).length), 0 ≤ (srt zs)[i] ∧ (srt zs)[i] ≤ 65536) := by
        intro i hi
        have hm : (srt zs)[i] ∈ T.map (·.at_) := by
          have h := (srt_perm zs).mem_iff.1 (List.getElem_mem hi)
          have e : zs = T.map (·.at_) := hzs
          exact e ▸ h
        obtain ⟨s, hs, e⟩ := List.mem_map.1 hm
        rw [← e]; exact HT.out s hs
      have hsl : (srt zs).length = n := by rw [srt_len]; exact hzl
      have HSL := Hid.in hsl
      obtain ⟨pv, cv, hv, -, -, -⟩ := hown.slice
      rw [List.length_map] at hv
      subst hv
      have hS := sortI_any w.heap.size pv cv zs wr (by omega) hown
      clear hown hzs HRR HR HT hsl
      subst hzl
      generalize srt zs = P at *
      go_wp2_with (go_at_call 67; refine hS.mono ?_; rintro e w1 ⟨rfl, hg, hb1⟩; have HG := Hid.in hg; have HB1 := Hid.in (hb1 w HB.out); clear hS hg hb1)
      go_loopw [6] (fun vi wr => ∃ k m : Nat, vi = .int .i64 ((k : Int) + 1) ∧ k ≤ zs.length ∧ (∀ i, i < k → i + 1 < P.length → ¬ P.getD (i + 1) 0 - P.getD i 0 < 5) ∧ wr = w1.drewN m) (fun vi _ => zs.length + 1 - (intOf vi).toNat)
      case atStart => exact ⟨0, 0, rfl, Nat.zero_le _, fun i h => absurd h (Nat.not_lt_zero _), rfl⟩
      case round =>
        obtain ⟨j, m, rfl, hj, hgo, rfl⟩ := hrel
        have HGO := Hid.in hgo
        clear hgo
        by_cases hl2 : j + 1 < zs.length
        · have hP1 : j + 1 < P.length := by rw [HSL.out]; exact hl2
          have hP0 : j < P.length := by omega
          obtain ⟨gb, go_, rfl, hcc⟩ := HG.out (by simp; omega)
          have d1 := hcc (j + 1) (by simpa using hP1)
          have d0 := hcc j (by simpa using hP0)
          rw [List.getElem?_map, List.getElem?_eq_getElem hP1, Option.map_some] at d1
          rw [List.getElem?_map, List.getElem?_eq_getElem hP0, Option.map_some] at d0
          have r1 := HRG.out (j + 1) hP1
          have r0 := HRG.out j hP0
          have hg1 : P.getD (j + 1) 0 = P[j + 1] := by simp [List.getD, hP1]
          have hg0 : P.getD j 0 = P[j] := by simp [List.getD, hP0]
          clear hcc
          by_cases hd : P[j + 1] - P[j] < 5
          · have HE : Hid (r = false) := by
              have : adjB P = false := by
                unfold adjB
                refine decide_eq_false fun h => ?_
                exact h j (by omega) (by rw [hg1, hg0]; exact hd)
              rw [← HAP.out, this]; exact rfl
            clear hg1 hg0
            generalize P[j + 1] = y1 at *
            generalize P[j] = y0 at *
            have hw1 : IntKind.i64.wrap ((j : Int) + 1 - 1) = (j : Int) := by rw [IntKind.wrap_i64]; omega
            have hw2 : IntKind.i64.wrap (j : Int) = (j : Int) := by rw [IntKind.wrap_i64]; omega
            have hw3 : IntKind.i64.wrap (y1 - y0) = y1 - y0 := by rw [IntKind.wrap_i64]; omega
            have hb0 : (0 : Int) ≤ (j : Int) + 1 := by omega
            have hb1 : (j : Int) + 1 < (zs.length : Int) := by omega
            have hb2 : j < zs.length := by omega
            have hb3 : ((j : Int) + 1).toNat = j + 1 := by omega
            have hdd : decide (y1 - y0 < 5) = true := decide_eq_true hd
            go_wp2_with fail
            go_quiet (fail)
            go_wp2
            go_ret
            exact ⟨by rw [HE.out]; rfl, below_draws (below_draws HB1.out _) _⟩
          · have HG2 : Hid (∀ i, i < j + 1 → i + 1 < P.length → ¬ P.getD (i + 1) 0 - P.getD i 0 < 5) := fun i h1 h2 => by
              by_cases e : i = j
              · subst e; rw [hg1, hg0]; exact hd
              · exact HGO.out i (by omega) h2
            clear hg1 hg0
            generalize P[j + 1] = y1 at *
            generalize P[j] = y0 at *
            have hw1 : IntKind.i64.wrap ((j : Int) + 1 - 1) = (j : Int) := by rw [IntKind.wrap_i64]; omega
            have hw2 : IntKind.i64.wrap (j : Int) = (j : Int) := by rw [IntKind.wrap_i64]; omega
            have hw3 : IntKind.i64.wrap (y1 - y0) = y1 - y0 := by rw [IntKind.wrap_i64]; omega
            have hb0 : (0 : Int) ≤ (j : Int) + 1 := by omega
            have hb1 : (j : Int) + 1 < (zs.length : Int) := by omega
            have hb2 : j < zs.length := by omega
            have hb3 : ((j : Int) + 1).toNat = j + 1 := by omega
            have hdd : decide (y1 - y0 < 5) = false := decide_eq_false hd
            go_wp2_with fail
            go_quiet (fail)
            go_wp2
            go_roundw
            case rel => exact ⟨j + 1, _, by go_num, by omega, fun i h1 h2 => (by have := HG2.out i h1 h2; omega), rfl⟩
            case measure => simp [intOf]; omega
        · have HE : Hid (r = true) := by
            have : adjB P = true := by
              unfold adjB
              exact decide_eq_true fun i hi => HGO.out i (by have := HSL.out; omega) (by omega)
            rw [← HAP.out, this]; exact rfl
          go_wp2_with fail
          go_ret
          exact ⟨by rw [HE.out]; rfl, below_draws HB1.out _⟩

set_option maxRecDepth 4000 in
set_option maxHeartbeats 2000000 in
theorem sright_any (p : Option Addr) (n c : Nat) (T : List Si) (k : Int) (w : World) (hn : T.length = n) (hn6 : n ≤ 140737488355328) (hr : Row3 w p (T.map siV)) :
    Calls Try.prog 46 #[.slice p n c, .int .i64 k] w fun E w' => E = .returned (.bool (rightS T k)) ∧ Below w.heap.size w w' := by
  by_cases h0 : 0 ≤ k ∧ k ≤ 64 ∧ T.length ≤ 256
  · have HF : Hid (rightS T k = (T.all (siteB k) && (nsB T && decide (apP (T.map (·.at_)))))) := by
      have h : rightS T k = (T.all (siteB k) && (nsB T && decide (apP (T.map (·.at_))))) := by rw [right_eq, decide_eq_true h0, Bool.true_and]
      exact h
    rw [HF.out]
    clear HF
    obtain ⟨r, hrr⟩ : ∃ r, (T.all (siteB k) && (nsB T && decide (apP (T.map (·.at_))))) = r := ⟨_, rfl⟩
    rw [hrr]
    have HRR := Hid.in hrr
    have HN := Hid.in hn
    have HR := Hid.in hr
    obtain ⟨h1, h2, h3⟩ := h0
    rw [hn] at h3
    clear hrr hn hr
    go_enter Try.func46, Try.ntmps46
    go_wp2_with fail
    go_loopw [20] (fun vi wr => ∃ j : Nat, vi = .int .i64 j ∧ j ≤ n ∧ (∀ i (hi : i < T.length), i < j → siteB k T[i] = true) ∧ Below w.heap.size w wr) (fun vi _ => n - (intOf vi).toNat)
    case atStart => exact ⟨0, rfl, Nat.zero_le _, fun i _ h => absurd h (Nat.not_lt_zero _), below_self w⟩
    case round =>
      obtain ⟨j, rfl, hj, hgo, hb⟩ := hrel
      have HGO := Hid.in hgo
      have HB := Hid.in hb
      clear hgo hb
      by_cases hlt : j < n
      · have hjT : j < T.length := by rw [HN.out]; exact hlt
        obtain ⟨b, o, rfl, hcc⟩ := (HR.out.below HB.out).at3 (by omega)
        have c0 := (hcc j hjT).1
        have c1 := (hcc j hjT).2.1
        have c2 := (hcc j hjT).2.2
        have hcl := fun W => rightSite_any T[j] k W
        dsimp only [sV] at hcl
        clear hcc
        cases hs : siteB k T[j] with
        | true =>
          have HG2 : Hid (∀ i (hi : i < T.length), i < j + 1 → siteB k T[i] = true) := fun i hi h => by
            by_cases e : i = j
            · subst e; exact hs
            · exact HGO.out i hi (by omega)
          rw [hs] at hcl
          clear hs
          generalize T[j].key = x0 at *
          generalize T[j].at_ = x1 at *
          generalize T[j].to_ = x2 at *
          go_wp2_with (go_at_call 54; refine (hcl _).mono ?_; rintro e w1 ⟨rfl, hb1⟩; have HB1 := Hid.in (below_step (below_alloc HB.out _) hb1); clear hb1)
          go_roundw
          case rel => exact ⟨j + 1, by go_num, by omega, HG2.out, HB1.out⟩
          case measure => simp [intOf]; omega
        | false =>
          have HE : Hid (r = false) := by
            have : T.all (siteB k) = false := by
              rw [List.all_eq_false]
              exact ⟨T[j], List.getElem_mem hjT, by rw [hs]; decide⟩
            rw [← HRR.out, this, Bool.false_and]; exact rfl
          rw [hs] at hcl
          clear hs
          generalize T[j].key = x0 at *
          generalize T[j].at_ = x1 at *
          generalize T[j].to_ = x2 at *
          go_wp2_with (go_at_call 54; refine (hcl _).mono ?_; rintro e w1 ⟨rfl, hb1⟩; have HB1 := Hid.in (below_step (below_alloc HB.out _) hb1); clear hb1)
          go_ret
          exact ⟨by rw [HE.out]; rfl, HB1.out⟩
      · have hall : ∀ s ∈ T, siteB k s = true := fun s hs => by
          obtain ⟨i, hi, rfl⟩ := List.getElem_of_mem hs
          exact HGO.out i hi (by rw [HN.out] at hi; omega)
        have HE : Hid (r = (nsB T && decide (apP (T.map (·.at_))))) := by
          have : T.all (siteB k) = true := List.all_eq_true.2 hall
          rw [← HRR.out, this, Bool.true_and]; exact rfl
        have hI := isSorted_any p n c T wr HN.out (by omega) (HR.out.below HB.out)
        have hA := fun W (hW : Below wr.heap.size wr W) => apart_any p n c T W HN.out (by omega) ((HR.out.below HB.out).below hW) (fun s hs => by
          have := hall s hs
          unfold siteB at this
          simp only [Bool.and_eq_true, decide_eq_true_eq] at this
          omega)
        clear hall
        cases hns : nsB T with
        | true =>
          rw [hns] at hI HE
          rw [Bool.true_and] at HE
          clear hns
          go_wp2_with (first
            | (go_at_call 55; refine hI.mono ?_; rintro e w1 ⟨rfl, hb1⟩; have HB1 := Hid.in hb1; clear hb1 hI)
            | (go_at_call 57; refine (hA _ HB1.out).mono ?_; rintro e w2 ⟨rfl, hb2⟩; have HB2 := Hid.in (below_step (below_step HB.out HB1.out) hb2); clear hb2 hA))
          go_ret
          exact ⟨by rw [HE.out]; simp, HB2.out⟩
        | false =>
          rw [hns] at hI HE
          rw [Bool.false_and] at HE
          clear hns
          go_wp2_with (first
            | (go_at_call 55; refine hI.mono ?_; rintro e w1 ⟨rfl, hb1⟩; have HB1 := Hid.in (below_step HB.out hb1); clear hb1 hI))
          go_ret
          exact ⟨by rw [HE.out]; rfl, HB1.out⟩
  · have HF : Hid (rightS T k = false) := by
      have h : rightS T k = false := by rw [right_eq, decide_eq_false h0, Bool.false_and, Bool.false_and]
      exact h
    rw [HF.out]
    rw [hn] at h0
    clear HF hr
    rcases (by omega : k < 0 ∨ (0 ≤ k ∧ 64 < k) ∨ (0 ≤ k ∧ k ≤ 64 ∧ 256 < n)) with h1 | ⟨h1, h2⟩ | ⟨h1, h2, h3⟩
    all_goals
      clear h0
      go_enter Try.func46, Try.ntmps46
      go_wp2_with fail
      go_ret
      exact ⟨rfl, below_self w⟩

end Go.Proofs.Ytkpieeldoielgaa
