/- Texts put together: LooseW. -/
import Derived.Test.YtgfmmbbebodapaaGreatDoorKzg
import Derived.Test.YtgfmmbbebodapaaGreatDoorKr
import Derived.Test.YtgfmmbbebodapaaGreatDoorKzd
import Derived.Test.YtgfmmbbebodapaaGreatDoorKt
import Derived.Test.YtgfmmbbebodapaaGreatDoorKs

/- switchyardlaw04.SourceLoose answers true. -/
namespace Go.Proofs.YtgfmmbbebodapaaGreatDoor
open Go.RowKit

/-- a list of items that a call has made, as one that came in -/
theorem own_items {w : World} {B : Nat} {v : Value} {L : List (Src × Value)} {xs : List Src} (h : IOwn w B v L) (hm : L.map Prod.fst = xs) (hf : ∀ x ∈ xs, Fit x) : ∃ p c, v = .slice p xs.length c ∧ xs.length ≤ c ∧ c ≤ 9223372036854775807 ∧ Items w p xs := by
  obtain ⟨p, c, hv, h1, h2, -⟩ := h.shape
  have hl : L.length = xs.length := by have := congrArg List.length hm; rw [List.length_map] at this; exact this
  have hi := h.items (fun q hq => hf q.1 (by rw [← hm]; exact List.mem_map_of_mem hq)) hv
  rw [hm] at hi
  rw [hl] at hv h1
  exact ⟨p, c, hv, h1, Nat.le_trans h2 (by decide), hi⟩
theorem print_kinds (xs : List Src) : ((printL xs).2 = 0 ∧ (printL xs).1 = textT xs ∧ (checkL xs).1 = 0) ∨ (printL xs).2 ≠ 0 := by
  unfold printL
  by_cases h : (checkL xs).1 = 0
  · rw [if_pos h]
    by_cases h2 : 65536 < (textT xs).length
    · rw [if_pos h2]; exact .inr (by decide)
    · rw [if_neg h2]; exact .inl ⟨rfl, rfl, h⟩
  · rw [if_neg h]; exact .inr h
theorem check_mays {xs : List Src} (hc : (checkL xs).1 = 0) : ∀ x ∈ xs, mayB x = true := by
  have h4 : ¬ 4096 < xs.length := fun h => by unfold checkL at hc; rw [if_pos h] at hc; simp at hc
  unfold checkL at hc
  rw [if_neg h4] at hc
  exact chk_may xs 0 hc
theorem loose_len (b : Nat) (note : List UInt8) (hb : b ≤ 4) (hn : note.length ≤ 200) : ∀ ls : List (List UInt8), (∀ l ∈ ls, l.length ≤ 1489) → (looseT b note ls).length ≤ ls.length * 2000
  | [], _ => by simp [looseT]
  | l :: ls, h => by
    have ih := loose_len b note hb hn ls fun m hm => h m (by simp [hm])
    have h1 := h l (by simp)
    unfold looseT at ih ⊢
    rw [List.flatMap_cons, List.length_append, List.length_cons]
    simp only [looseL, List.length_append, List.length_cons, List.length_replicate, List.length_nil] at ih ⊢
    omega
theorem lines_few (xs : List Src) (hf : ∀ x ∈ xs, Fit x) (hm : ∀ x ∈ xs, mayB x = true) (h : xs.length ≤ 200) : (linesT xs).length ≤ 200 ∧ ∀ l ∈ linesT xs, l.length ≤ 1489 := by
  unfold linesT
  by_cases h0 : xs = []
  · rw [if_pos h0]
    refine ⟨by decide, fun l hl => ?_⟩
    rw [List.mem_singleton] at hl
    rw [hl]; decide
  · rw [if_neg h0]
    refine ⟨by simpa using h, fun l hl => ?_⟩
    obtain ⟨x, hx, rfl⟩ := List.mem_map.1 hl
    exact line_brief x (hf x hx) (hm x hx)
theorem lines_kinds (xs : List Src) : linesT xs = xs.map lineT ∨ (xs = [] ∧ linesT xs = [[]]) := by
  unfold linesT
  by_cases h0 : xs = []
  · exact .inr ⟨h0, if_pos h0⟩
  · exact .inl (if_neg h0)
theorem loose_snoc (b : Nat) (note : List UInt8) (ls : List (List UInt8)) (l : List UInt8) : looseT b note (ls ++ [l]) = looseT b note ls ++ (List.replicate b 32 ++ l ++ [9, 32, 35] ++ note ++ [10, 10, 32, 32, 35, 32] ++ note ++ [10]) := by
  simp [looseT, looseL]

theorem trim_le (l m : List UInt8) : (Lib.trimSuffix l m).length ≤ l.length := by
  unfold Lib.trimSuffix
  by_cases h : Lib.hasSuffix l m = true
  · rw [if_pos h, List.length_take]; omega
  · rw [if_neg h]; exact Nat.le_refl _
theorem split_any (bt : ByteArray) (xs : List Src) (hb : bt.data.toList = textT xs) (hm : ∀ x ∈ xs, mayB x = true) (h4 : bt.size ≤ 4000) :
    ∃ (tb : ByteArray) (bl : List ByteArray), (∀ W, Calls Tryz.prog 24 #[.string bt, .string ⟨#[10]⟩] W fun E w' => E = .returned (.string tb) ∧ w' = W) ∧ bl.map (·.data.toList) = linesT xs ∧
      ∀ W (mx : Int), W.cell? ⟨0, 0, none⟩ = some (.int .i64 mx) → Calls Tryz.prog 23 #[.string tb, .string ⟨#[10]⟩] W fun E w' => E = .returned (.slice (some ⟨W.heap.size, 0, none⟩) bl.length bl.length) ∧ w' = W.alloc (.cells (bl.map Value.string).toArray 9) := by
  obtain ⟨h1, h2⟩ := split_text xs hm
  have hT : (⟨(Lib.trimSuffix bt.data.toList (⟨#[10]⟩ : ByteArray).data.toList).toArray⟩ : ByteArray).data.toList = Lib.trimSuffix (textT xs) [10] := by rw [hb]
  have hz : (⟨(Lib.trimSuffix bt.data.toList (⟨#[10]⟩ : ByteArray).data.toList).toArray⟩ : ByteArray).size ≤ 4000 := by
    rw [Lib.size_eq, hT]
    have := trim_le (textT xs) [10]
    rw [← hb, ← Lib.size_eq] at this
    rw [← hb]
    omega
  have hS := Tryz.strings_TrimSuffix bt ⟨#[10]⟩
  generalize (⟨(Lib.trimSuffix bt.data.toList (⟨#[10]⟩ : ByteArray).data.toList).toArray⟩ : ByteArray) = tb at *
  have hB : (Lib.splitB ⟨#[10]⟩ 0 (Lib.countB tb ⟨#[10]⟩) tb).map (·.data.toList) = linesT xs := by
    rw [Lib.splitB_data]
    show Lib.splitK [10] 0 (Lib.count tb.data.toList [10]) tb.data.toList = _
    rw [hT, h2]
  have hL : (Lib.splitB ⟨#[10]⟩ 0 (Lib.countB tb ⟨#[10]⟩) tb).length = Lib.countB tb ⟨#[10]⟩ + 1 := by
    have e := congrArg List.length hB
    rw [List.length_map, ← h1, ← hT] at e
    exact e
  refine ⟨tb, Lib.splitB ⟨#[10]⟩ 0 (Lib.countB tb ⟨#[10]⟩) tb, fun W => hS W (by omega), hB, fun W mx h => ?_⟩
  rw [hL]
  exact Tryz.strings_Split tb ⟨#[10]⟩ mx W (by omega) h (by decide)
theorem add_bytes (t q x nt : ByteArray) : ((((((((t ++ q) ++ x) ++ (⟨#[9, 32, 35]⟩ : ByteArray)) ++ nt) ++ (⟨#[10, 10, 32, 32, 35, 32]⟩ : ByteArray)) ++ nt) ++ (⟨#[10]⟩ : ByteArray)).data.toList = t.data.toList ++ (q.data.toList ++ x.data.toList ++ [9, 32, 35] ++ nt.data.toList ++ [10, 10, 32, 32, 35, 32] ++ nt.data.toList ++ [10])) := by simp

set_option maxRecDepth 20000 in
set_option maxHeartbeats 2000000 in
theorem sourceLoose_any (p : Option Addr) (n c : Nat) (xs : List Src) (s : ByteArray) (a : Int) (w : World) (he : Env w) (mx : Int) (hmx : w.cell? ⟨0, 0, none⟩ = some (.int .i64 mx)) (hn : xs.length = n) (hs : s.size ≤ 1048576) (hx : Items w p xs) :
    Calls Tryz.prog 6 #[.slice p n c, .string s, .int .i64 a] w fun E w' => E = .returned (.bool true) ∧ Below w.heap.size w w' := by
  have hA := fun W h => awake_any W h
  by_cases h2 : 200 < n
  · go_enter Tryz.func6, Tryz.ntmps6
    go_wp2_with (go_at_call 11; refine (hA _ he).mono ?_; rintro E w1 ⟨rfl, hb1⟩)
    go_ret
    exact ⟨rfl, hb1⟩
  have hR := Tryz.strings_ReplaceAll s ⟨#[10]⟩ ⟨#[32]⟩ mx w (by omega) hmx (by decide) (by have := Lib.countB_mul_le ⟨#[10]⟩ (by decide) s.size s (Nat.le_refl _); have e1 : (⟨#[10]⟩ : ByteArray).size = 1 := rfl; have e2 : (⟨#[32]⟩ : ByteArray).size = 1 := rfl; rw [e1] at this; rw [e2]; omega)
  have HR : Lib.replaceAll s.data.toList (⟨#[10]⟩ : ByteArray).data.toList (⟨#[32]⟩ : ByteArray).data.toList = flat s.data.toList := replaceAll_flat _
  rw [HR] at hR
  clear HR
  have HN10 : Hid (No10 (⟨(flat s.data.toList).toArray⟩ : ByteArray).data.toList) := flat_no10 s.data.toList
  generalize (⟨(flat s.data.toList).toArray⟩ : ByteArray) = fs at *
  have h200 : n ≤ 200 := by omega
  have HX := Hid.in hx
  have HF : Hid (∀ x ∈ xs, Fit x) := hx.fit
  have HN := Hid.in hn
  have HE := Hid.in he
  have HMX := Hid.in hmx
  have HLT : Hid (0 < w.heap.size) := (by have := he.lt; exact (show 0 < w.heap.size by omega))
  clear h2 hx hn he hmx hs
  go_enter Tryz.func6, Tryz.ntmps6
  go_upto_if 23 with (go_at_call 20; refine hR.mono ?_; rintro E w1 ⟨rfl, hb1⟩; have HB1 := Hid.in hb1; clear hb1)
  clear hR
  go_cut [1] from 21 to 26 (fun v wx => wx = w1 ∧ ∃ nt : ByteArray, v = .string nt ∧ nt.size ≤ 200 ∧ No10 nt.data.toList)
  case first =>
    by_cases hz : 200 < fs.size
    · go_wp2_with fail
      go_meet
      case rel =>
        refine ⟨rfl, _, rfl, by rw [ByteArray.size_extract]; omega, fun d hd => HN10.out d ?_⟩
        rw [Lib.extract_from_zero] at hd
        exact List.mem_of_mem_take hd
    · go_wp2_with fail
      go_meet
      case rel => exact ⟨rfl, _, rfl, by omega, HN10.out⟩
  case rest =>
    obtain ⟨rfl, nt, rfl, hnt, hn10⟩ := hcut
    have HNT := Hid.in hn10
    clear hn10 HN10
    have hCp := copyItems_any p n c xs wc HN.out (by omega) (HX.out.below HB1.out)
    have hP1 := fun (p1 : Option Addr) (c1 : Nat) W h1 h2 h3 (h4 : Items W p1 xs) => print_any p1 n c1 xs W h1 HN.out h2 h3 h4
    have HPK := Hid.in (print_kinds xs)
    have HPT : Hid ((bytesOf (printL xs).1).data.toList = (printL xs).1) := bytesOf_list _
    generalize (printL xs).2 = pe at *
    generalize (printL xs).1 = pt at *
    generalize bytesOf pt = bt at *
    go_upto_region 7 with (first
      | (go_at_call 15; refine hCp.mono ?_; rintro E w1 ⟨v1, L1, rfl, hm1, hI1, hb1⟩; obtain ⟨p1, c1, hv1, hc11, hc12, hi1⟩ := own_items hI1 hm1 HF.out; rw [HN.out] at hv1 hc11; subst hv1; have HI2 := Hid.in hi1; have HB2 := Hid.in (below_step HB1.out hb1); have HE2 := Hid.in (HE.out.below HB2.out); clear hm1 hI1 hb1 hi1)
      | (go_at_call 18; refine (hP1 p1 c1 _ HE2.out hc11 (by omega) HI2.out).mono ?_; rintro E w2 ⟨rfl, hb2⟩; have HB3 := Hid.in (below_step HB2.out hb2); have HE3 := Hid.in (HE.out.below HB3.out); clear hb2))
    clear hP1 hCp
    rcases HPK.out with ⟨h0, h1, h2⟩ | h0
    · subst h0
      by_cases h4 : 4000 < bt.size
      · go_wp2_with (go_at_call 11; refine (hA _ HE3.out).mono ?_; rintro E w4 ⟨rfl, hb4⟩)
        go_ret
        exact ⟨rfl, below_step HB3.out hb4⟩
      · have hmay := check_mays h2
        obtain ⟨tb, bl, hTr, hbl, hSp⟩ := split_any bt xs (HPT.out.trans h1) hmay (by omega)
        obtain ⟨hfew, hshort⟩ := lines_few xs HF.out hmay (by rw [HN.out]; exact h200)
        have HPA := Hid.in (fun b (_ : True) => parse_loose b nt.data.toList HNT.out xs h2 (linesT xs) (lines_kinds xs))
        have HLL := Hid.in (fun b hb => loose_len b nt.data.toList hb (by rw [← Lib.size_eq]; exact hnt) (linesT xs) hshort)
        have hll : bl.length = (linesT xs).length := by rw [← hbl, List.length_map]
        have HBL := Hid.in hbl
        have HSH : Hid (∀ l ∈ bl.map (·.data.toList), l.length ≤ 1489) := (by have e : ∀ l ∈ bl.map (·.data.toList), l.length ≤ 1489 := (by rw [hbl]; exact hshort); exact e)
        have hbf : bl.length ≤ 200 := by omega
        have HLL2 := Hid.in hll
        have HFW := Hid.in hfew
        have hPk := fun W => pick_any a W
        have hRp := fun (k : Nat) W (hk : k ≤ 4) => Tryz.strings_Repeat ⟨#[32]⟩ k W (by omega) (by rw [show (⟨#[32]⟩ : ByteArray).size = 1 from rfl]; omega)
        clear hmay hshort hbl hll hfew h1 h2 HPK HPT
        go_wp2_with (first
          | (go_at_call 22; refine (hPk _).mono ?_; rintro E w4 ⟨⟨k, hk4, rfl⟩, rfl⟩)
          | (go_at_call 21; refine (hRp k _ hk4).mono ?_; rintro E w5 ⟨rfl, hb5⟩; have HB5 := Hid.in (below_step HB3.out hb5); have HM5 : Hid (w5.cell? ⟨0, 0, none⟩ = some (.int .i64 mx)) := (by have := HB5.out.cell (p := ⟨0, 0, none⟩) HLT.out; exact this.trans HMX.out); clear hb5)
          | (go_at_call 24; refine (hTr _).mono ?_; rintro E w6 ⟨rfl, rfl⟩)
          | (go_at_call 23; refine (hSp _ mx HM5.out).mono ?_; rintro E w7 ⟨rfl, rfl⟩))
        have HQ : Hid ((⟨(Lib.repeatL [32] k).toArray⟩ : ByteArray).data.toList = List.replicate k 32) := repeat_blank k
        generalize (⟨(Lib.repeatL [32] k).toArray⟩ : ByteArray) = qb at *
        have HC : Hid (∀ i (h : i < bl.length), (w6.alloc (.cells (bl.map Value.string).toArray 9)).cell? ⟨w6.heap.size, i, none⟩ = some (.string bl[i])) := fun i h => by
          rw [(Blk.new w6 9 _).cell i]; simp [h]
        have HB7 := Hid.in (below_alloc HB5.out (.cells (bl.map Value.string).toArray 9))
        have HE7 := Hid.in (HE.out.below HB7.out)
        clear HM5 HB5 hPk hRp hTr hSp
        generalize w6.alloc (.cells (bl.map Value.string).toArray 9) = w7 at *
        generalize w6.heap.size = g7 at *
        obtain ⟨nb, hnb⟩ : ∃ nb, nb = bl.length := ⟨_, rfl⟩
        rw [← hnb] at hbf ⊢
        have HNB := Hid.in hnb
        clear hnb
        go_loopw [10, 47] (fun v i wr => wr = w7 ∧ ∃ (j : Nat) (t : ByteArray), j ≤ nb ∧ i = .int .i64 j ∧ v = .string t ∧ t.data.toList = looseT k nt.data.toList ((bl.take j).map (·.data.toList))) (fun _ i _ => nb - (intOf i).toNat)
        case atStart => exact ⟨rfl, 0, _, Nat.zero_le _, rfl, rfl, rfl⟩
        case round =>
          obtain ⟨rfl, j, t, hj, rfl, rfl, ht⟩ := hrel
          have HT := Hid.in ht
          clear ht
          by_cases hlt : j < nb
          · have hjl : j < bl.length := by rw [← HNB.out]; exact hlt
            have hck := HC.out j hjl
            have HTS : Hid (looseT k nt.data.toList ((bl.take (j + 1)).map (·.data.toList)) = t.data.toList ++ (qb.data.toList ++ bl[j].data.toList ++ [9, 32, 35] ++ nt.data.toList ++ [10, 10, 32, 32, 35, 32] ++ nt.data.toList ++ [10])) := by
              have e : looseT k nt.data.toList ((bl.take (j + 1)).map (·.data.toList)) = t.data.toList ++ (qb.data.toList ++ bl[j].data.toList ++ [9, 32, 35] ++ nt.data.toList ++ [10, 10, 32, 32, 35, 32] ++ nt.data.toList ++ [10]) := by
                rw [List.take_succ_eq_append_getElem hjl, List.map_append, List.map_cons, List.map_nil, loose_snoc, HT.out, HQ.out]
              exact e
            have hts : t.size ≤ 400000 := by
              rw [Lib.size_eq, HT.out]
              have e := loose_len k nt.data.toList hk4 (by rw [← Lib.size_eq]; exact hnt) ((bl.take j).map (·.data.toList)) (fun l hl => HSH.out l (by
                obtain ⟨q, hq, rfl⟩ := List.mem_map.1 hl
                exact List.mem_map_of_mem (List.mem_of_mem_take hq)))
              rw [List.length_map, List.length_take] at e
              omega
            have hqb : qb.size ≤ 4 := by rw [Lib.size_eq, HQ.out, List.length_replicate]; exact hk4
            have hxj : bl[j].size ≤ 1489 := by rw [Lib.size_eq]; exact HSH.out _ (List.mem_map_of_mem (List.getElem_mem hjl))
            generalize bl[j] = xj at *
            have hck0 := hck
            rw [show j = 0 + j by omega] at hck0
            go_wp2_with fail
            go_roundw
            case rel => exact ⟨trivial, j + 1, _, by omega, by go_num, rfl, by rw [HTS.out]; exact add_bytes t qb xj nt⟩
            case measure => simp [intOf]; omega
          · have hjn : j = nb := by omega
            have HTT : Hid (t.data.toList = looseT k nt.data.toList (linesT xs)) := by
              have := HT.out
              rw [hjn, HNB.out, List.take_length, HBL.out] at this
              exact this
            have hsz : t.size ≤ 400000 := by
              rw [Lib.size_eq, HTT.out]
              have e1 := HLL.out k hk4
              have e2 := HFW.out
              omega
            have hPr := parse_any t _ HE7.out (by omega)
            rw [HTT.out, HPA.out k trivial, ← HTT.out, ← Lib.size_eq] at hPr
            clear HT HTT HC HQ HPA HLL HBL
            by_cases hbig : 65536 < t.size
            · rw [if_pos hbig] at hPr
              go_wp2_with (first
                | (go_at_call 12; refine hPr.mono ?_; rintro E w3 ⟨v3, L3, rfl, hm3, hI3, -, hb3⟩; have hl3 : L3.length = 0 := (by have := congrArg List.length hm3; rw [List.length_map] at this; exact this); obtain ⟨p3, c3, hv3, -, -, -⟩ := hI3.shape; rw [hl3] at hv3; subst hv3; have HB8 := Hid.in (below_step HB7.out hb3); clear hm3 hI3 hb3 hl3)
                | (refine step_store_new rfl 37 (.tmp 14) (.tmp 68) rfl rfl rfl (faultC (3, 0, 0)) rfl Tryz.sz37 rfl (fault_one _) ?_; refine Hid.out ?_))
              refine Lib.hid ?_
              have hF := Blk.new w3 37 (faultC (3, 0, 0))
              have f0 : (w3.alloc (.cells (faultC (3, 0, 0)) 37)).cell? ⟨w3.heap.size, 0, none⟩ = some (.int .i64 3) := hF.cell 0
              have f1 : (w3.alloc (.cells (faultC (3, 0, 0)) 37)).cell? ⟨w3.heap.size, 1, none⟩ = some (.int .i64 0) := hF.cell 1
              have f2 : (w3.alloc (.cells (faultC (3, 0, 0)) 37)).cell? ⟨w3.heap.size, 2, none⟩ = some (.int .i64 0) := hF.cell 2
              have HB9 := Hid.in (below_alloc HB8.out (.cells (faultC (3, 0, 0)) 37))
              have HE9 := Hid.in (HE.out.below HB9.out)
              clear hF HB8 hPr
              generalize w3.alloc (.cells (faultC (3, 0, 0)) 37) = w9 at *
              generalize w3.heap.size = g3 at *
              go_wp2_with (go_at_call 11; refine (hA _ HE9.out).mono ?_; rintro E w10 ⟨rfl, hb10⟩)
              go_ret
              exact ⟨rfl, below_step HB9.out hb10⟩
            · rw [if_neg hbig] at hPr
              go_wp2_with (first
                | (go_at_call 12; refine hPr.mono ?_; rintro E w3 ⟨v3, L3, rfl, hm3, hI3, -, hb3⟩; obtain ⟨p3, c3, hv3, hc31, hc32, hi3⟩ := own_items hI3 hm3 HF.out; rw [HN.out] at hv3 hc31; subst hv3; have HI3 := Hid.in hi3; have HB8 := Hid.in (below_step HB7.out hb3); clear hm3 hI3 hb3 hi3)
                | (refine step_store_new rfl 37 (.tmp 14) (.tmp 68) rfl rfl rfl (faultC (0, 0, 0)) rfl Tryz.sz37 rfl (fault_one _) ?_; refine Hid.out ?_))
              refine Lib.hid ?_
              have hF := Blk.new w3 37 (faultC (0, 0, 0))
              have f0 : (w3.alloc (.cells (faultC (0, 0, 0)) 37)).cell? ⟨w3.heap.size, 0, none⟩ = some (.int .i64 0) := hF.cell 0
              have f1 : (w3.alloc (.cells (faultC (0, 0, 0)) 37)).cell? ⟨w3.heap.size, 1, none⟩ = some (.int .i64 0) := hF.cell 1
              have f2 : (w3.alloc (.cells (faultC (0, 0, 0)) 37)).cell? ⟨w3.heap.size, 2, none⟩ = some (.int .i64 0) := hF.cell 2
              have HB9 := Hid.in (below_alloc HB8.out (.cells (faultC (0, 0, 0)) 37))
              have hS := sameItems_yes p p3 n c c3 xs (w3.alloc (.cells (faultC (0, 0, 0)) 37)) HN.out (by omega) (fun x hx' => Nat.le_trans (HF.out x hx').dz (by decide)) (HX.out.below HB9.out) (HI3.out.below (new_alloc _ _))
              clear hF HB8 hPr
              generalize w3.alloc (.cells (faultC (0, 0, 0)) 37) = w9 at *
              generalize w3.heap.size = g3 at *
              go_wp2_with (first
                | (go_at_call 14; refine hS.mono ?_; rintro E w10 ⟨rfl, hb10⟩; have HB10 := Hid.in (below_step HB9.out hb10); have HE10 := Hid.in (HE.out.below HB10.out); clear hb10)
                | (go_at_call 11; refine (hA _ HE10.out).mono ?_; rintro E w11 ⟨rfl, hb11⟩))
              go_ret
              exact ⟨rfl, below_step HB10.out hb11⟩
    · go_wp2_with (go_at_call 11; refine (hA _ HE3.out).mono ?_; rintro E w4 ⟨rfl, hb4⟩)
      go_ret
      exact ⟨rfl, below_step HB3.out hb4⟩

end Go.Proofs.YtgfmmbbebodapaaGreatDoor
