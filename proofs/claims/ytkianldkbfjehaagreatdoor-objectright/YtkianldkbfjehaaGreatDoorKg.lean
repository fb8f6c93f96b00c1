/- Texts put together: WFields. -/
import Derived.Test.YtkianldkbfjehaaGreatDoorKf

/- What words.Fields answers, for every line. -/
namespace Go.Proofs.YtkianldkbfjehaaGreatDoor
open Go.RowKit

/-- the field under way: begun at b, up to the place p -/
def under (l : List UInt8) (bg : Int) (p : Nat) : Option (Nat × List UInt8) := if bg < 0 then none else some (bg.toNat, piece l bg.toNat p)

theorem piece_join (l : List UInt8) (a b c : Nat) (h1 : a ≤ b) (h2 : b ≤ c) : piece l a c = piece l a b ++ piece l b c := by
  unfold piece
  rw [show c - a = (b - a) + (c - b) by omega, List.take_add, List.drop_drop, show a + (b - a) = b by omega]
theorem piece_drop (l : List UInt8) (a b : Nat) (h : a ≤ b) : l.drop a = piece l a b ++ l.drop b := piece_split l a b h
theorem piece_len (l : List UInt8) (a b : Nat) (h : b ≤ l.length) : (piece l a b).length = b - a := by
  unfold piece; rw [List.length_take, List.length_drop]; omega

/-- where the walk over the line stands: ds: the fields that have come -/
structure At (t : ByteArray) (ds : List (Nat × List UInt8)) (bg : Int) (pos : Nat) : Prop where
  le : pos ≤ t.size
  eq : fldL 0 none t.data.toList = ds ++ fldL pos (under t.data.toList bg pos) (t.data.toList.drop pos)
  bg : bg = -1 ∨ (0 ≤ bg ∧ bg < pos)
  len : ds.length ≤ pos

theorem At.start (t : ByteArray) : At t [] (-1) 0 := ⟨Nat.zero_le _, by simp [under], .inl rfl, Nat.le_refl _⟩
/-- a blank, no field under way -/
theorem At.skip {t : ByteArray} {ds : List (Nat × List UInt8)} {pos : Nat} (h : At t ds (-1) pos) (hlt : pos < t.size) (hb : isBlank (t[pos]'hlt) = true) : At t ds (-1) (pos + 1) := by
  have hl := Lib.size_eq t
  refine ⟨by omega, ?_, .inl rfl, by have := h.len; omega⟩
  rw [h.eq, drop_at _ pos (by omega), fldL_blank _ _ _ _ (by rw [list_byte t pos hlt (by omega)]; exact hb)]
  simp [under]
/-- a blank behind a field -/
theorem At.close {t : ByteArray} {ds : List (Nat × List UInt8)} {b pos : Nat} (h : At t ds b pos) (hlt : pos < t.size) (hb : isBlank (t[pos]'hlt) = true) : At t (ds ++ [(b, piece t.data.toList b pos)]) (-1) (pos + 1) := by
  have hl := Lib.size_eq t
  refine ⟨by omega, ?_, .inl rfl, by have := h.len; simp; omega⟩
  rw [h.eq, drop_at _ pos (by omega), fldL_blank _ _ _ _ (by rw [list_byte t pos hlt (by omega)]; exact hb)]
  have : ¬ ((b : Int) < 0) := by omega
  simp [under, this]
/-- a rune that is no blank, a field under way -/
theorem At.go {t : ByteArray} {ds : List (Nat × List UInt8)} {b pos d : Nat} (h : At t ds b pos) (hle : pos + d ≤ t.size) (hb : ∀ c ∈ piece t.data.toList pos (pos + d), isBlank c = false) : At t ds b (pos + d) := by
  have hl := Lib.size_eq t
  have hbp : b < pos := by rcases h.bg with e | e <;> omega
  refine ⟨hle, ?_, .inr ⟨by omega, by omega⟩, by have := h.len; omega⟩
  have : ¬ ((b : Int) < 0) := by omega
  rw [h.eq, piece_drop _ pos (pos + d) (by omega)]
  simp only [under, if_neg this, Int.toNat_natCast]
  rw [fldL_run _ _ _ _ hb, piece_len _ _ _ (by omega), ← piece_join _ _ _ _ (by omega) (by omega), show pos + (pos + d - pos) = pos + d by omega]
/-- a rune that is no blank opens a field -/
theorem At.open {t : ByteArray} {ds : List (Nat × List UInt8)} {pos d : Nat} (h : At t ds (-1) pos) (hd : 1 ≤ d) (hle : pos + d ≤ t.size) (hb : ∀ c ∈ piece t.data.toList pos (pos + d), isBlank c = false) : At t ds (pos : Int) (pos + d) := by
  have hl := Lib.size_eq t
  refine ⟨hle, ?_, .inr ⟨by omega, by omega⟩, by have := h.len; omega⟩
  have h1 : ¬ ((pos : Int) < 0) := by omega
  have h2 : (-1 : Int) < 0 := by decide
  rw [h.eq, piece_drop _ pos (pos + d) (by omega)]
  simp only [under, if_neg h1, if_pos h2, Int.toNat_natCast]
  rw [fldL_open _ _ _ (fun e => by have := congrArg List.length e; rw [piece_len _ _ _ (by omega), List.length_nil] at this; omega) hb, piece_len _ _ _ (by omega), show pos + (pos + d - pos) = pos + d by omega]
/-- the line's end -/
theorem At.end0 {t : ByteArray} {ds : List (Nat × List UInt8)} {pos : Nat} (h : At t ds (-1) pos) (hlt : ¬ pos < t.size) : fldL 0 none t.data.toList = ds := by
  have hl := Lib.size_eq t
  rw [h.eq, List.drop_eq_nil_of_le (by omega)]
  simp [under, fldL]
theorem At.end1 {t : ByteArray} {ds : List (Nat × List UInt8)} {b pos : Nat} (h : At t ds b pos) (hlt : ¬ pos < t.size) : fldL 0 none t.data.toList = ds ++ [(b, piece t.data.toList b t.size)] := by
  have hl := Lib.size_eq t
  have hp : pos = t.size := by have := h.le; omega
  have : ¬ ((b : Int) < 0) := by omega
  rw [h.eq, List.drop_eq_nil_of_le (by omega), hp]
  simp [under, fldL, this]

theorem texts_snoc (ds : List (Nat × List UInt8)) (t : ByteArray) (b k : Nat) : fTexts (ds ++ [(b, piece t.data.toList b k)]) = fTexts ds ++ [t.extract b k] := by
  rw [extract_piece]; simp [fTexts]
theorem cols_snoc (ds : List (Nat × List UInt8)) (b : Nat) (x : List UInt8) : fCols (ds ++ [(b, x)]) = fCols ds ++ [(b : Int) + 1] := by simp [fCols]
theorem texts_len (ds : List (Nat × List UInt8)) : (fTexts ds).length = ds.length := by simp [fTexts]
theorem cols_len (ds : List (Nat × List UInt8)) : (fCols ds).length = ds.length := by simp [fCols]

theorem bytesOf_size (l : List UInt8) : (bytesOf l).size = l.length := by rw [Lib.size_eq]; simp [bytesOf]
theorem bytesOf_list (l : List UInt8) : (bytesOf l).data.toList = l := by simp [bytesOf]
theorem bytesOf_self (s : ByteArray) : bytesOf s.data.toList = s := by
  apply ByteArray.ext; simp [bytesOf]

theorem ahead_le (l : List UInt8) : (ahead l).length ≤ l.length := by
  rcases ahead_split l with h | ⟨b, h⟩
  · rw [h]; exact Nat.le_refl _
  · have := congrArg List.length h
    rw [List.length_append] at this
    omega

/-- the line ahead of its first #, as Cut tells it -/
theorem cut_hash (s : ByteArray) (w : World) (hs : s.size ≤ 9223372036854775807) :
    Calls Tryz.prog 107 #[.string s, .string ⟨#[35]⟩] w fun e w' => (∃ y b, e = .returned (.tuple #[.string (bytesOf (ahead s.data.toList)), .string y, .bool b])) ∧ ∃ m, w' = w.drewN m := by
  rcases ahead_split s.data.toList with h | ⟨b, h⟩
  · refine (cut_no s 35 (fun x hx => ahead_all _ x (by rw [h]; exact hx)) w).mono ?_
    rintro e w' ⟨rfl, rfl⟩
    exact ⟨⟨_, _, by rw [h, bytesOf_self]⟩, 0, rfl⟩
  · refine (cut_yes s (ahead s.data.toList) b 35 h (ahead_all _) w hs).mono ?_
    rintro e w' ⟨rfl, m, rfl⟩
    exact ⟨⟨_, _, rfl⟩, m, rfl⟩

theorem FSt.start (w : World) (s t : ByteArray) (m : Nat) :
    FSt w ((((((w.alloc (.cells #[.string s] 9)).drewN m).setCell ⟨w.heap.size, 0, none⟩ (.string t)).alloc (.cells #[.slice none 0 0] 125)).alloc (.cells #[.slice none 0 0] 48)).alloc (.cells #[.int .i64 (-1)] 3) |>.iter t 0)
      w.heap.size t (.slice none 0 0) (.slice none 0 0) [] [] (-1) 0 := by
  have h0 : Boxed (((w.alloc (.cells #[.string s] 9)).drewN m).setCell ⟨w.heap.size, 0, none⟩ (.string t)) w.heap.size 9 (.string t) := Boxed.set (v := .string s) _ (Boxed.new w 9 _)
  have hs0 : (((w.alloc (.cells #[.string s] 9)).drewN m).setCell ⟨w.heap.size, 0, none⟩ (.string t)).heap.size = w.heap.size + 1 := by
    show ((w.alloc (.cells #[.string s] 9)).heap.modify w.heap.size _).size = _
    rw [Array.size_modify]; simp
  have hb0 : Below w.heap.size w (((w.alloc (.cells #[.string s] 9)).drewN m).setCell ⟨w.heap.size, 0, none⟩ (.string t)) := (below_draws (new_alloc w _) m).setCell (p := ⟨w.heap.size, 0, none⟩) (Nat.le_refl _) _
  generalize ((w.alloc (.cells #[.string s] 9)).drewN m).setCell ⟨w.heap.size, 0, none⟩ (.string t) = W0 at *
  have h1 := Boxed.new W0 125 (.slice none 0 0)
  have hs1 : (W0.alloc (.cells #[.slice none 0 0] 125)).heap.size = w.heap.size + 2 := by simp [hs0]
  rw [hs0] at h1
  have h0a := h0.alloc (.cells #[.slice none 0 0] 125)
  have hb1 := below_alloc hb0 (.cells #[.slice none 0 0] 125)
  generalize W0.alloc (.cells #[.slice none 0 0] 125) = W1 at *
  have h2 := Boxed.new W1 48 (.slice none 0 0)
  have hs2 : (W1.alloc (.cells #[.slice none 0 0] 48)).heap.size = w.heap.size + 3 := by simp [hs1]
  rw [hs1] at h2
  have h0b := h0a.alloc (.cells #[.slice none 0 0] 48)
  have h1a := h1.alloc (.cells #[.slice none 0 0] 48)
  have hb2 := below_alloc hb1 (.cells #[.slice none 0 0] 48)
  generalize W1.alloc (.cells #[.slice none 0 0] 48) = W2 at *
  have h3 := Boxed.new W2 3 (.int .i64 (-1))
  have hs3 : (W2.alloc (.cells #[.int .i64 (-1)] 3)).heap.size = w.heap.size + 4 := by simp [hs2]
  rw [hs2] at h3
  have h0c := h0b.alloc (.cells #[.int .i64 (-1)] 3)
  have h1b := h1a.alloc (.cells #[.int .i64 (-1)] 3)
  have h2a := h2.alloc (.cells #[.int .i64 (-1)] 3)
  have hb3 := below_alloc hb2 (.cells #[.int .i64 (-1)] 3)
  generalize W2.alloc (.cells #[.int .i64 (-1)] 3) = W3 at *
  have hi := World.iter_heap W3 t 0
  rw [hs3] at hi
  exact ⟨h0c.alloc _, h1b.alloc _, GOwnV.nil _ _ _, h2a.alloc _, GOwnV.nil _ _ _, h3.alloc _, hi, below_alloc hb3 _⟩

theorem iterPos_at {w0 W : World} {N : Nat} {line : ByteArray} {vf vc : Value} {fs : List ByteArray} {cs : List Int} {bg : Int} {pos : Nat} (h : FSt w0 W N line vf vc fs cs bg pos) : W.iterPos (N + 4) = pos := iterPos_of h.it

set_option maxRecDepth 1000000 in
set_option maxHeartbeats 4000000 in
theorem fields_any (s : ByteArray) (w : World) (hs : (s.size + 1) * 16 ≤ 140737488355328) :
    Calls Tryz.prog 92 #[.string s] w fun e w' => ∃ vf vc, e = .returned (.tuple #[vf, vc]) ∧ GOwnV 9 w' w.heap.size vf (strs (fTexts (fieldsL s.data.toList))) ∧ GOwnV 3 w' w.heap.size vc (nums (fCols (fieldsL s.data.toList))) ∧ Below w.heap.size w w' := by
  have hcut := fun w => cut_hash s w (by omega)
  have HR : Hid (fieldsL s.data.toList = fldL 0 none (bytesOf (ahead s.data.toList)).data.toList) := by rw [bytesOf_list]; rfl
  have hts : (bytesOf (ahead s.data.toList)).size ≤ s.size := by
    rw [bytesOf_size, Lib.size_eq]; exact ahead_le _
  generalize fieldsL s.data.toList = R at *
  generalize bytesOf (ahead s.data.toList) = t at *
  go_enter Tryz.func92, Tryz.ntmps92
  go_wp2_with fail
  refine (hcut _).mono ?_
  rintro e w1 ⟨⟨y, bb, rfl⟩, m, rfl⟩
  go_wp2_with fail
  have HST : Hid (FSt w _ w.heap.size t (.slice none 0 0) (.slice none 0 0) [] [] (-1) 0) := FSt.start w s t m
  generalize World.iter ((((((w.alloc (.cells #[.string s] 9)).drewN m).setCell ⟨w.heap.size, 0, none⟩ (.string t)).alloc (.cells #[.slice none 0 0] 125)).alloc (.cells #[.slice none 0 0] 48)).alloc (.cells #[.int .i64 (-1)] 3)) t 0 = W0 at *
  go_loopw [8, 9] (fun _ _ wr => ∃ (ds : List (Nat × List UInt8)) (bg : Int) (pos : Nat) (vf vc : Value), At t ds bg pos ∧ FSt w wr w.heap.size t vf vc (fTexts ds) (fCols ds) bg pos) (fun _ _ wr => t.size - wr.iterPos (w.heap.size + 4))
  case atStart => exact ⟨[], -1, 0, _, _, At.start t, HST.out⟩
  case round =>
    obtain ⟨ds, bg, pos, vf, vc, hat, hF⟩ := hrel
    have HA : Hid (At t ds bg pos) := hat
    have HF : Hid (FSt w wr w.heap.size t vf vc (fTexts ds) (fCols ds) bg pos) := hF
    have hip := iterPos_at hF
    have hle := hat.le
    have hln := hat.len
    have hit := hF.it
    clear hF hat HST
    by_cases hp : pos < t.size
    · have hnx : ∀ ty, (Instr.next (.pointer (some ⟨w.heap.size + 4, 0, none⟩)) true ty).run Tryz.prog wr = _ := fun ty => Lib.run_next_any_at wr (w.heap.size + 4) t pos ty hit hp
      obtain ⟨hd1, hd2, hbl, hone, hrun⟩ := rune_any t pos hp
      have hF2 := HF.out.next (pos + (Utf8.decode t pos).2)
      generalize hrz : (Utf8.decode t pos).1 = r at *
      generalize hdz : (Utf8.decode t pos).2 = d at *
      clear hrz hdz hit
      have HF2 : Hid (FSt w (wr.iterAt (w.heap.size + 4) t (pos + d)) w.heap.size t vf vc (fTexts ds) (fCols ds) bg (pos + d)) := hF2
      have hb3 := hF2.bb.cell
      have hfz3 := hF2.bb.frozen
      clear hF2 HF
      go_wp2_with fail
      refine (divides_any _ _).mono ?_
      rintro e w2 ⟨rfl, rfl⟩
      rw [hbl]
      generalize hblank : isBlank (t[pos]'hp) = bl at *
      cases bl
      · have hrun' := hrun rfl
        clear hbl hone hrun
        rcases HA.out.bg with rfl | ⟨hb0, hb1⟩
        · have HF3 := HF2.out.setB pos
          go_wp2_with fail
          go_roundw
          case rel => exact ⟨ds, pos, pos + d, vf, vc, HA.out.open hd1 hd2 hrun', HF3⟩
          case measure =>
            rw [iterPos_at HF3, hip]; omega
        · obtain ⟨b, rfl⟩ : ∃ b : Nat, bg = b := ⟨bg.toNat, by omega⟩
          have hneg : ¬ ((b : Int) < 0) := by omega
          go_wp2_with fail
          go_roundw
          case rel => exact ⟨ds, b, pos + d, vf, vc, HA.out.go hd2 hrun', HF2.out⟩
          case measure =>
            rw [iterPos_at HF2.out, hip]; omega
      · have hd : d = 1 := hone rfl
        subst hd
        clear hbl hone hrun
        rcases HA.out.bg with rfl | ⟨hb0, hb1⟩
        · go_wp2_with fail
          refine (end_none HF2.out _).mono ?_
          rintro e w3 ⟨⟨v, rfl⟩, rfl⟩
          go_wp2_with fail
          go_roundw
          case rel => exact ⟨ds, -1, pos + 1, vf, vc, HA.out.skip hp hblank, HF2.out⟩
          case measure =>
            rw [iterPos_at HF2.out, hip]; omega
        · obtain ⟨b, rfl⟩ : ∃ b : Nat, bg = b := ⟨bg.toNat, by omega⟩
          go_wp2_with fail
          refine (end_some HF2.out (k := pos) (by omega) (by omega) (by omega) (by rw [texts_len]; omega) (by rw [cols_len]; omega)).mono ?_
          rintro e w3 ⟨⟨v, rfl⟩, vf', vc', hF3⟩
          have hip3 := iterPos_at hF3
          rw [← texts_snoc, ← cols_snoc _ _ (piece t.data.toList b pos)] at hF3
          go_wp2_with fail
          go_roundw
          case rel => exact ⟨_, -1, pos + 1, vf', vc', HA.out.close hp hblank, hF3⟩
          case measure =>
            rw [hip3, hip]; omega
    · have hnx : ∀ ty, (Instr.next (.pointer (some ⟨w.heap.size + 4, 0, none⟩)) true ty).run Tryz.prog wr = _ := fun ty => Lib.run_next_end_at wr (w.heap.size + 4) t pos ty hit hp
      have hb0 := HF.out.bl.cell
      clear hit
      rcases HA.out.bg with rfl | ⟨hb0, hb1⟩
      · have hR : R = ds := HR.out.trans (HA.out.end0 hp)
        go_wp2_with fail
        refine (end_none HF.out _).mono ?_
        rintro e w3 ⟨⟨v, rfl⟩, rfl⟩
        have hF4 := HF.out
        subst hR
        clear HF HA hnx hb0 hip
        obtain ⟨p1, cap1, hv1, _, _, _⟩ := hF4.of.slice
        obtain ⟨p2, cap2, hv2, _, _, _⟩ := hF4.oc.slice
        generalize (strs (fTexts R)).length = n1 at hv1
        generalize (nums (fCols R)).length = n2 at hv2
        subst hv1 hv2
        have c1 := hF4.bf.cell
        have c2 := hF4.bc.cell
        have HG : Hid _ := hF4
        clear hF4
        go_wp2_with fail
        go_quiet (fail)
        go_wp2_with fail
        go_ret2
        exact ⟨_, _, rfl, (HG.out.of.lowerV (by omega)).drewN _, (HG.out.oc.lowerV (by omega)).drewN _, below_draws HG.out.lo _⟩
      · obtain ⟨b, rfl⟩ : ∃ b : Nat, bg = b := ⟨bg.toNat, by omega⟩
        have hR : R = ds ++ [(b, piece t.data.toList b t.size)] := HR.out.trans (HA.out.end1 hp)
        go_wp2_with fail
        refine (end_some HF.out (k := t.size) (by omega) (by omega) (by omega) (by rw [texts_len]; omega) (by rw [cols_len]; omega)).mono ?_
        rintro e w3 ⟨⟨v, rfl⟩, vf', vc', hF4⟩
        rw [← texts_snoc, ← cols_snoc _ _ (piece t.data.toList b t.size), ← hR] at hF4
        clear HF HA hnx hip hR
        obtain ⟨p1, cap1, hv1, _, _, _⟩ := hF4.of.slice
        obtain ⟨p2, cap2, hv2, _, _, _⟩ := hF4.oc.slice
        generalize (strs (fTexts R)).length = n1 at hv1
        generalize (nums (fCols R)).length = n2 at hv2
        subst hv1 hv2
        have c1 := hF4.bf.cell
        have c2 := hF4.bc.cell
        have HG : Hid _ := hF4
        clear hF4
        go_wp2_with fail
        go_quiet (fail)
        go_wp2_with fail
        go_ret2
        exact ⟨_, _, rfl, (HG.out.of.lowerV (by omega)).drewN _, (HG.out.oc.lowerV (by omega)).drewN _, below_draws HG.out.lo _⟩

end Go.Proofs.YtkianldkbfjehaaGreatDoor
