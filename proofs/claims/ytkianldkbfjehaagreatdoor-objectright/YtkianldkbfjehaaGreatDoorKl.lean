/- Texts put together: Prt1, Prt2. -/
import Derived.Test.YtkianldkbfjehaaGreatDoorKk
import Derived.Test.YtkianldkbfjehaaGreatDoorKb
import Derived.Lib.SmallJoins
import Derived.Lib.AppendIntMem
import Derived.Lib.ItoaLen
import Derived.Deep.RegionLaw

/- An item's line: its first field, the fields behind it (source.head, (place).field). -/
namespace Go.Proofs.YtkianldkbfjehaaGreatDoor
open Go.RowKit

theorem Tryz.gpow : Tryz.prog.globalNamed "internal/strconv.uint64pow10" = some 3 := by kernel_rfl
/-- the library's variables that are read -/
structure Env (w : World) : Prop where
  vars : Vars w
  tab : Lib.TabIs Tryz.prog w "internal/strconv.uint64pow10" .u64 Lib.pow10Tab
theorem Env.lt {w : World} (h : Env w) : 3 < w.heap.size := by
  have := h.tab
  unfold Lib.TabIs World.var? at this
  rw [Tryz.gpow] at this
  simp only [Option.bind_some] at this
  rcases Nat.lt_or_ge 3 w.heap.size with h' | h'
  · exact h'
  · rw [Array.getElem?_eq_none h'] at this; cases this
theorem Env.keep {w w' : World} {B : Nat} (h : Env w) (hb : Below B w w') (hB : 3 < B) : Env w' := ⟨h.vars.keep hb (by omega), by
  have ht := h.tab
  unfold Lib.TabIs World.var? at ht ⊢
  rw [Tryz.gpow] at ht ⊢
  simp only [Option.bind_some] at ht ⊢
  rw [hb.block 3 hB]
  exact ht⟩
theorem Env.below {w w' : World} (h : Env w) (hb : Below w.heap.size w w') : Env w' := h.keep hb h.lt
theorem Env.drewN {w : World} (h : Env w) (q : Nat) : Env (w.drewN q) := h.below (below_draws (below_self w) q)

theorem itoa_any (n : Int) (h0 : -9223372036854775808 ≤ n) (h1 : n ≤ 9223372036854775807) (w : World) (he : Env w) :
    Calls Tryz.prog 119 #[.int .i64 n] w fun e w' => e = .returned (.string (bytesOf (Lib.itoa n))) ∧ Below w.heap.size w w' := by
  refine (Tryz.strconv_Itoa n h0 h1 w he.tab).mono ?_
  rintro e w' ⟨rfl, k, os, rfl⟩
  exact ⟨rfl, Lib.below_grow _ w (Nat.le_refl _) k os⟩

/-- an item that came in: its numbers are such as Go's types hold -/
structure Fit (x : Src) : Prop where
  k0 : 0 ≤ x.k
  k1 : x.k ≤ 255
  o0 : 0 ≤ x.o
  o1 : x.o ≤ 255
  a0 : 0 ≤ x.a
  a1 : x.a ≤ 255
  b0 : 0 ≤ x.b
  b1 : x.b ≤ 255
  m0 : -2147483648 ≤ x.m
  m1 : x.m ≤ 2147483647
  n0 : -9223372036854775808 ≤ x.n
  n1 : x.n ≤ 9223372036854775807
  d : Byt x.d
  nz : x.name.size ≤ 1073741824
  tz : x.tg.size ≤ 1073741824
  dz : x.d.length ≤ 17592186044416
/-- the first field of an item's line -/
def headT (x : Src) : List UInt8 :=
  if x.k = 1 then x.name.data.toList ++ [58] else if x.k = 2 then (nm x.o.toNat).data.toList else if x.k = 3 then (wd 0).data.toList else if x.k = 4 then (wd 1).data.toList
  else if x.k = 5 then (wd 2).data.toList else if x.k = 6 then (wd 3).data.toList else if x.k = 7 then (wd 4).data.toList else []
/-- a field behind it -/
def fieldT (p : Nat) (x : Src) (i : Nat) : List UInt8 :=
  if p = 0 then 114 :: Lib.itoa x.a else if p = 1 then 114 :: Lib.itoa x.b else if p = 2 then Lib.itoa x.m else if p = 3 then x.name.data.toList else if p = 4 then x.tg.data.toList
  else if p = 5 then Lib.itoa (x.d.getD i 0) else Lib.itoa x.n
theorem append_bytes (a b : ByteArray) : a ++ b = bytesOf (a.data.toList ++ b.data.toList) := by
  apply ByteArray.ext; apply Array.ext'; simp [bytesOf]

theorem isaName_any (o : Int) (h0 : 0 ≤ o) (h1 : o ≤ 255) (w : World) :
    Calls Tryz.prog 72 #[.int .u8 o] w fun e w' => e = .returned (.string (nm o.toNat)) ∧ Below w.heap.size w w' := by
  by_cases h : o.toNat < 17
  · have := isaName_yes o.toNat w h
    rw [Int.toNat_of_nonneg h0] at this
    exact this
  · have := isaName_no o w (by omega) h1
    have hn : nm o.toNat = ⟨#[]⟩ := by
      obtain ⟨k, hk⟩ : ∃ k, o.toNat = k + 17 := ⟨o.toNat - 17, by omega⟩
      rw [hk]; rfl
    rw [hn]
    exact this

set_option maxRecDepth 20000 in
set_option maxHeartbeats 1000000 in
theorem head_any (x : Src) (hx : Fit x) (q : Option Addr) (m e : Nat) (w : World) :
    Calls Tryz.prog 95 #[.agg (cellsOf x (.slice q m e))] w fun e' w' => e' = .returned (.string (bytesOf (headT x))) ∧ Below w.heap.size w w' := by
  have hN := fun W => isaName_any x.o hx.o0 hx.o1 W
  have hz := hx.nz
  have HD : Hid (headT x = if x.k = 1 then x.name.data.toList ++ [58] else if x.k = 2 then (nm x.o.toNat).data.toList else if x.k = 3 then (wd 0).data.toList else if x.k = 4 then (wd 1).data.toList else if x.k = 5 then (wd 2).data.toList else if x.k = 6 then (wd 3).data.toList else if x.k = 7 then (wd 4).data.toList else []) := rfl
  generalize headT x = t at *
  unfold cellsOf
  obtain ⟨k, name, tg, o, a, b, n4, n, d⟩ := x
  simp only at *
  clear hx
  by_cases h1 : k = 1
  · subst h1
    have HE : Hid (bytesOf t = name ++ ⟨#[58]⟩) := by
      have : t = _ := HD.out
      rw [this, append_bytes]; rfl
    go_enter Tryz.func95, Tryz.ntmps95
    go_wp2
    go_ret
    exact ⟨by rw [HE.out]; rfl, new_alloc _ _⟩
  by_cases h2 : k = 2
  · subst h2
    have HE : Hid (bytesOf t = nm o.toNat) := by
      have : t = _ := HD.out
      rw [this]; exact bytesOf_self _
    go_enter Tryz.func95, Tryz.ntmps95
    go_wp2_with (go_at_call 72; refine (hN _).mono ?_; rintro e w1 ⟨rfl, hb1⟩)
    go_ret
    exact ⟨by rw [HE.out]; rfl, below_step (new_alloc _ _) hb1⟩
  by_cases h3 : k = 3
  · subst h3
    have HE : Hid (bytesOf t = ⟨#[109, 97, 114, 107]⟩) := by
      have : t = _ := HD.out
      rw [this]; rfl
    go_enter Tryz.func95, Tryz.ntmps95
    go_wp2
    go_ret
    exact ⟨by rw [HE.out]; rfl, new_alloc _ _⟩
  by_cases h4 : k = 4
  · subst h4
    have HE : Hid (bytesOf t = ⟨#[98, 121, 116, 101]⟩) := by
      have : t = _ := HD.out
      rw [this]; rfl
    go_enter Tryz.func95, Tryz.ntmps95
    go_wp2
    go_ret
    exact ⟨by rw [HE.out]; rfl, new_alloc _ _⟩
  by_cases h5 : k = 5
  · subst h5
    have HE : Hid (bytesOf t = ⟨#[115, 112, 97, 99, 101]⟩) := by
      have : t = _ := HD.out
      rw [this]; rfl
    go_enter Tryz.func95, Tryz.ntmps95
    go_wp2
    go_ret
    exact ⟨by rw [HE.out]; rfl, new_alloc _ _⟩
  by_cases h6 : k = 6
  · subst h6
    have HE : Hid (bytesOf t = ⟨#[97, 108, 105, 103, 110]⟩) := by
      have : t = _ := HD.out
      rw [this]; rfl
    go_enter Tryz.func95, Tryz.ntmps95
    go_wp2
    go_ret
    exact ⟨by rw [HE.out]; rfl, new_alloc _ _⟩
  by_cases h7 : k = 7
  · subst h7
    have HE : Hid (bytesOf t = ⟨#[103, 108, 111, 98, 97, 108]⟩) := by
      have : t = _ := HD.out
      rw [this]; rfl
    go_enter Tryz.func95, Tryz.ntmps95
    go_wp2
    go_ret
    exact ⟨by rw [HE.out]; rfl, new_alloc _ _⟩
  have HE : Hid (bytesOf t = ⟨#[]⟩) := by
    have : t = _ := HD.out
    rw [this, if_neg h1, if_neg h2, if_neg h3, if_neg h4, if_neg h5, if_neg h6, if_neg h7]; rfl
  go_enter Tryz.func95, Tryz.ntmps95
  go_wp2
  go_ret
  exact ⟨by rw [HE.out]; rfl, new_alloc _ _⟩

theorem itoa_size (n : Int) (h0 : -9223372036854775808 ≤ n) (h1 : n ≤ 9223372036854775807) : (bytesOf (Lib.itoa n)).size ≤ 21 := by
  rw [bytesOf_size]; exact Lib.itoa_length_le n h0 h1
theorem one_append (c : UInt8) (l : List UInt8) : (⟨#[c]⟩ : ByteArray) ++ bytesOf l = bytesOf (c :: l) := by
  rw [append_bytes, bytesOf_list]; rfl

set_option maxRecDepth 20000 in
set_option maxHeartbeats 1000000 in
theorem field_0 (x : Src) (hx : Fit x) (q : Option Addr) (m e i : Nat) (w : World) (he : Env w) :
    Calls Tryz.prog 97 #[.int .u8 0, .agg (cellsOf x (.slice q m e)), .int .i64 i] w fun e' w' => e' = .returned (.string (bytesOf (114 :: Lib.itoa x.a))) ∧ Below w.heap.size w w' := by
  have h0 := hx.a0
  have h1 := hx.a1
  have hI := fun W hW => itoa_any x.a (by omega) (by omega) W hW
  have hz := itoa_size x.a (by omega) (by omega)
  have HO := Hid.in (one_append 114 (Lib.itoa x.a))
  generalize bytesOf (114 :: Lib.itoa x.a) = u at *
  have hE2 := fun o => Hid.in (he.below (new_alloc w o))
  generalize bytesOf (Lib.itoa x.a) = t at *
  unfold cellsOf
  obtain ⟨k, name, tg, o, a, b, n4, n, d⟩ := x
  simp only at *
  clear hx
  go_enter Tryz.func97, Tryz.ntmps97
  go_wp2_with (go_at_call 119; refine (hI _ (hE2 _).out).mono ?_; rintro e w1 ⟨rfl, hb1⟩)
  go_ret
  exact ⟨by rw [← HO.out]; rfl, below_step (new_alloc _ _) hb1⟩
set_option maxRecDepth 20000 in
set_option maxHeartbeats 1000000 in
theorem field_1 (x : Src) (hx : Fit x) (q : Option Addr) (m e i : Nat) (w : World) (he : Env w) :
    Calls Tryz.prog 97 #[.int .u8 1, .agg (cellsOf x (.slice q m e)), .int .i64 i] w fun e' w' => e' = .returned (.string (bytesOf (114 :: Lib.itoa x.b))) ∧ Below w.heap.size w w' := by
  have h0 := hx.b0
  have h1 := hx.b1
  have hI := fun W hW => itoa_any x.b (by omega) (by omega) W hW
  have hz := itoa_size x.b (by omega) (by omega)
  have HO := Hid.in (one_append 114 (Lib.itoa x.b))
  generalize bytesOf (114 :: Lib.itoa x.b) = u at *
  have hE2 := fun o => Hid.in (he.below (new_alloc w o))
  generalize bytesOf (Lib.itoa x.b) = t at *
  unfold cellsOf
  obtain ⟨k, name, tg, o, a, b, n4, n, d⟩ := x
  simp only at *
  clear hx
  go_enter Tryz.func97, Tryz.ntmps97
  go_wp2_with (go_at_call 119; refine (hI _ (hE2 _).out).mono ?_; rintro e w1 ⟨rfl, hb1⟩)
  go_ret
  exact ⟨by rw [← HO.out]; rfl, below_step (new_alloc _ _) hb1⟩
set_option maxRecDepth 20000 in
set_option maxHeartbeats 1000000 in
theorem field_2 (x : Src) (hx : Fit x) (q : Option Addr) (m e i : Nat) (w : World) (he : Env w) :
    Calls Tryz.prog 97 #[.int .u8 2, .agg (cellsOf x (.slice q m e)), .int .i64 i] w fun e' w' => e' = .returned (.string (bytesOf (Lib.itoa x.m))) ∧ Below w.heap.size w w' := by
  have h0 := hx.m0
  have h1 := hx.m1
  have hI := fun W hW => itoa_any x.m (by omega) (by omega) W hW
  have hE2 := fun o => Hid.in (he.below (new_alloc w o))
  generalize bytesOf (Lib.itoa x.m) = t at *
  unfold cellsOf
  obtain ⟨k, name, tg, o, a, b, n4, n, d⟩ := x
  simp only at *
  clear hx
  go_enter Tryz.func97, Tryz.ntmps97
  go_wp2_with (go_at_call 119; refine (hI _ (hE2 _).out).mono ?_; rintro e w1 ⟨rfl, hb1⟩)
  go_ret
  exact ⟨rfl, below_step (new_alloc _ _) hb1⟩
set_option maxRecDepth 20000 in
set_option maxHeartbeats 1000000 in
theorem field_7 (p : Nat) (hp : p = 6 ∨ p = 7) (x : Src) (hx : Fit x) (q : Option Addr) (m e i : Nat) (w : World) (he : Env w) :
    Calls Tryz.prog 97 #[.int .u8 p, .agg (cellsOf x (.slice q m e)), .int .i64 i] w fun e' w' => e' = .returned (.string (bytesOf (Lib.itoa x.n))) ∧ Below w.heap.size w w' := by
  have h0 := hx.n0
  have h1 := hx.n1
  have hI := fun W hW => itoa_any x.n (by omega) (by omega) W hW
  have hE2 := fun o => Hid.in (he.below (new_alloc w o))
  generalize bytesOf (Lib.itoa x.n) = t at *
  unfold cellsOf
  obtain ⟨k, name, tg, o, a, b, n4, n, d⟩ := x
  simp only at *
  clear hx
  rcases hp with rfl | rfl
  all_goals
    go_enter Tryz.func97, Tryz.ntmps97
    go_wp2_with (go_at_call 119; refine (hI _ (hE2 _).out).mono ?_; rintro e w1 ⟨rfl, hb1⟩)
    go_ret
    exact ⟨rfl, below_step (new_alloc _ _) hb1⟩
set_option maxRecDepth 20000 in
set_option maxHeartbeats 1000000 in
theorem field_3 (x : Src) (q : Option Addr) (m e i : Nat) (w : World) :
    Calls Tryz.prog 97 #[.int .u8 3, .agg (cellsOf x (.slice q m e)), .int .i64 i] w fun e' w' => e' = .returned (.string x.name) ∧ Below w.heap.size w w' := by
  unfold cellsOf
  obtain ⟨k, name, tg, o, a, b, n4, n, d⟩ := x
  simp only at *
  go_enter Tryz.func97, Tryz.ntmps97
  go_wp2
  go_ret
  exact ⟨rfl, new_alloc _ _⟩
set_option maxRecDepth 20000 in
set_option maxHeartbeats 1000000 in
theorem field_4 (x : Src) (q : Option Addr) (m e i : Nat) (w : World) :
    Calls Tryz.prog 97 #[.int .u8 4, .agg (cellsOf x (.slice q m e)), .int .i64 i] w fun e' w' => e' = .returned (.string x.tg) ∧ Below w.heap.size w w' := by
  unfold cellsOf
  obtain ⟨k, name, tg, o, a, b, n4, n, d⟩ := x
  simp only at *
  go_enter Tryz.func97, Tryz.ntmps97
  go_wp2
  go_ret
  exact ⟨rfl, new_alloc _ _⟩
set_option maxRecDepth 20000 in
set_option maxHeartbeats 1000000 in
theorem field_5 (x : Src) (hx : Fit x) (q : Option Addr) (m e i : Nat) (w : World) (he : Env w) (hm : x.d.length = m) (hr : Row w q x.d) (hi : i < m) (hi63 : m ≤ 17592186044416) :
    Calls Tryz.prog 97 #[.int .u8 5, .agg (cellsOf x (.slice q m e)), .int .i64 i] w fun e' w' => e' = .returned (.string (bytesOf (Lib.itoa (x.d.getD i 0)))) ∧ Below w.heap.size w w' := by
  have hby := (hx.d.mem) (x.d.getD i 0) (by
    rw [List.getD_eq_getElem?_getD, List.getElem?_eq_getElem (by omega)]
    exact List.getElem_mem _)
  have hI := fun W hW => itoa_any (x.d.getD i 0) (by omega) (by omega) W hW
  have hE2 := fun o => Hid.in (he.below (new_alloc w o))
  obtain ⟨b0, o0, rfl, hc⟩ := hr (by omega)
  have hc1 := fun ob => cell_push (hc i (by omega)) ob
  generalize bytesOf (Lib.itoa (x.d.getD i 0)) = t at *
  generalize x.d.getD i 0 = v at *
  unfold cellsOf
  obtain ⟨k, name, tg, o, a, b, n4, n, d⟩ := x
  simp only at *
  clear hx hc hm
  go_enter Tryz.func97, Tryz.ntmps97
  go_wp2_with (go_at_call 119; refine (hI _ (hE2 _).out).mono ?_; rintro e w1 ⟨rfl, hb1⟩)
  go_ret
  exact ⟨rfl, below_step (new_alloc _ _) hb1⟩
theorem field_any (p : Nat) (hp : p < 8) (x : Src) (hx : Fit x) (q : Option Addr) (m e i : Nat) (w : World) (he : Env w) (hm : x.d.length = m) (hr : Row w q x.d) (hi : p = 5 → i < m) (hi63 : m ≤ 17592186044416) :
    Calls Tryz.prog 97 #[.int .u8 p, .agg (cellsOf x (.slice q m e)), .int .i64 i] w fun e' w' => e' = .returned (.string (bytesOf (fieldT p x i))) ∧ Below w.heap.size w w' := by
  have : p = 0 ∨ p = 1 ∨ p = 2 ∨ p = 3 ∨ p = 4 ∨ p = 5 ∨ (p = 6 ∨ p = 7) := by omega
  rcases this with rfl | rfl | rfl | rfl | rfl | rfl | h
  · exact field_0 x hx q m e i w he
  · exact field_1 x hx q m e i w he
  · exact field_2 x hx q m e i w he
  · have := field_3 x q m e i w
    simpa [fieldT, bytesOf_self] using this
  · have := field_4 x q m e i w
    simpa [fieldT, bytesOf_self] using this
  · exact field_5 x hx q m e i w he hm hr (hi rfl) hi63
  · have := field_7 p h x hx q m e i w he
    have e0 : fieldT p x i = Lib.itoa x.n := by
      unfold fieldT
      rw [if_neg (by omega), if_neg (by omega), if_neg (by omega), if_neg (by omega), if_neg (by omega), if_neg (by omega)]
    rw [e0]; exact this

end Go.Proofs.YtkianldkbfjehaaGreatDoor

/- source.lineOf: an item's line. -/
namespace Go.Proofs.YtkianldkbfjehaaGreatDoor
open Go.RowKit

set_option maxHeartbeats 400000 in
theorem put_any (b : Nat) (l f : List UInt8) (w : World) (hb : Boxed w b 9 (.string (bytesOf l))) (hl : l.length ≤ 1125899906842624) (hf : f.length ≤ 1125899906842624) :
    Calls Tryz.prog 96 #[.string (bytesOf f), .pointer (some ⟨b, 0, none⟩)] w fun e w' => (∃ v, e = .returned v) ∧ w' = w.setCell ⟨b, 0, none⟩ (.string (bytesOf (l ++ 32 :: f))) := by
  have hc := hb.cell
  have hz := hb.frozen
  have h1 := bytesOf_size l
  have h2 := bytesOf_size f
  have HE : Hid (bytesOf l ++ (⟨#[32]⟩ ++ bytesOf f) = bytesOf (l ++ 32 :: f)) := by
    rw [one_append, append_bytes, bytesOf_list, bytesOf_list]; exact rfl
  have h3 : (⟨#[32]⟩ ++ bytesOf f : ByteArray).size ≤ 1125899906842626 := by rw [one_append, bytesOf_size]; simp; omega
  generalize bytesOf (l ++ 32 :: f) = z at *
  generalize bytesOf l = x at *
  generalize bytesOf f = y at *
  go_enter Tryz.func96, Tryz.ntmps96
  go_wp2
  rw [HE.out]
  go_end0
  exact ⟨⟨_, rfl⟩, rfl⟩

/-- the places that a first field asks for -/
def plT (h : List UInt8) : List Nat := match formL h with
  | some t => t.2.1
  | none => []
/-- how many of them an item's line fills -/
def filledT (x : Src) : Nat := if x.k = 4 then min (plT (headT x)).length x.d.length else (plT (headT x)).length
/-- the line with k fields behind the first one -/
def midT (x : Src) (k : Nat) : List UInt8 := headT x ++ (List.range k).flatMap fun i => 32 :: fieldT ((plT (headT x)).getD i 0) x i
def lineT (x : Src) : List UInt8 := midT x (filledT x)
theorem midT_succ (x : Src) (k : Nat) : midT x (k + 1) = midT x k ++ 32 :: fieldT ((plT (headT x)).getD k 0) x k := by
  unfold midT; rw [List.range_succ, List.flatMap_append, ← List.append_assoc]; simp
theorem formOf_pl (y : ByteArray) (hs : y.size ≤ 9223372036854775807) (w : World) :
    Calls Tryz.prog 93 #[.string y] w fun e w' => ∃ fx v n ok, e = .returned (.tuple #[.agg (formCells fx nilV v n), .bool ok]) ∧ GOwnV 133 w' w.heap.size v (plc (plT y.data.toList)) ∧ Below w.heap.size w w' := by
  refine (formOf_any y hs w).mono ?_
  intro e w' h
  unfold plT
  cases hf : formL y.data.toList with
  | none =>
    rw [hf] at h
    obtain ⟨rfl, hb⟩ := h
    exact ⟨src0, nilV, 0, false, rfl, GOwnV.nil _ _ _, hb⟩
  | some t =>
    obtain ⟨x, ps, n⟩ := t
    rw [hf] at h
    obtain ⟨v, rfl, ho, hb⟩ := h
    exact ⟨x, v, n, true, rfl, ho, hb⟩
theorem wdL_colon (l : List UInt8) : wdL (l ++ [58]) = none := by
  unfold wdL
  rw [List.find?_eq_none]
  intro i hi e
  have := beq_iff_eq.1 e
  have h58 : (wd i).data.toList.getLast? = some 58 := by rw [this]; simp
  rw [List.mem_range] at hi
  have : i = 0 ∨ i = 1 ∨ i = 2 ∨ i = 3 ∨ i = 4 := by omega
  rcases this with rfl | rfl | rfl | rfl | rfl <;> revert h58 <;> decide
theorem opL_colon (l : List UInt8) : opL (l ++ [58]) = none := by
  unfold opL
  rw [List.find?_eq_none]
  intro o ho e
  have := beq_iff_eq.1 e
  have h58 : (nm o).data.toList.getLast? = some 58 := by rw [this]; simp
  rw [List.mem_range'_1] at ho
  have : o = 1 ∨ o = 2 ∨ o = 3 ∨ o = 4 ∨ o = 5 ∨ o = 6 ∨ o = 7 ∨ o = 8 ∨ o = 9 ∨ o = 10 ∨ o = 11 ∨ o = 12 ∨ o = 13 ∨ o = 14 ∨ o = 15 ∨ o = 16 := by omega
  rcases this with rfl | rfl | rfl | rfl | rfl | rfl | rfl | rfl | rfl | rfl | rfl | rfl | rfl | rfl | rfl | rfl <;> revert h58 <;> decide
theorem plT_colon (l : List UInt8) : plT (l ++ [58]) = [] := by
  unfold plT formL
  rw [wdL_colon, opL_colon]
  simp only
  split
  · rename_i t h
    split at h
    · injection h with h; rw [← h]
    · cases h
  · rfl
theorem plT_nm (o : Nat) : plT (nm o).data.toList = plO o := by
  by_cases h : o < 17
  · have : o = 0 ∨ o = 1 ∨ o = 2 ∨ o = 3 ∨ o = 4 ∨ o = 5 ∨ o = 6 ∨ o = 7 ∨ o = 8 ∨ o = 9 ∨ o = 10 ∨ o = 11 ∨ o = 12 ∨ o = 13 ∨ o = 14 ∨ o = 15 ∨ o = 16 := by omega
    rcases this with rfl | rfl | rfl | rfl | rfl | rfl | rfl | rfl | rfl | rfl | rfl | rfl | rfl | rfl | rfl | rfl | rfl <;> rfl
  · obtain ⟨k, rfl⟩ : ∃ k, o = k + 17 := ⟨o - 17, by omega⟩
    rfl
theorem plT_wd (i : Nat) (h : i < 5) : plT (wd i).data.toList = (formW i).2.1 := by
  have : i = 0 ∨ i = 1 ∨ i = 2 ∨ i = 3 ∨ i = 4 := by omega
  rcases this with rfl | rfl | rfl | rfl | rfl <;> rfl
/-- the places of an item's line, by its kind -/
theorem plT_head (x : Src) : plT (headT x) = if x.k = 2 then plO x.o.toNat else if x.k = 3 then [3, 4] else if x.k = 4 then List.replicate 64 5 else if x.k = 5 then [6] else if x.k = 6 then [7] else if x.k = 7 then [3] else [] := by
  unfold headT
  by_cases h1 : x.k = 1
  · simp [h1, plT_colon]
  by_cases h2 : x.k = 2
  · simp [h2, plT_nm]
  by_cases h3 : x.k = 3
  · simp [h3, plT_wd, formW]
  by_cases h4 : x.k = 4
  · rw [if_neg h1, if_neg h2, if_neg h3, if_pos h4, if_neg h2, if_neg h3, if_pos h4, plT_wd 1 (by decide)]; rfl
  by_cases h5 : x.k = 5
  · simp [h5, plT_wd, formW]
  by_cases h6 : x.k = 6
  · simp [h6, plT_wd, formW]
  by_cases h7 : x.k = 7
  · simp [h7, plT_wd, formW]
  rw [if_neg h1, if_neg h2, if_neg h3, if_neg h4, if_neg h5, if_neg h6, if_neg h7, if_neg h2, if_neg h3, if_neg h4, if_neg h5, if_neg h6, if_neg h7]; rfl
theorem plO_five (o : Nat) : ∀ p ∈ plO o, p < 8 ∧ p ≠ 5 := by
  unfold plO; split <;> decide
theorem plO_len (o : Nat) : (plO o).length ≤ 2 := by
  unfold plO; split <;> decide
theorem plT_ok (x : Src) : (plT (headT x)).length ≤ 64 ∧ ∀ p ∈ plT (headT x), p < 8 ∧ (p = 5 → x.k = 4) := by
  rw [plT_head]
  split
  · exact ⟨by have := plO_len x.o.toNat; omega, fun p hp => ⟨(plO_five _ p hp).1, fun e => absurd e (plO_five _ p hp).2⟩⟩
  split
  · exact ⟨by decide, fun p hp => ⟨by revert p; decide, fun e => by subst e; simp at hp⟩⟩
  split
  · rename_i h4
    exact ⟨by simp, fun p hp => ⟨by rw [List.eq_of_mem_replicate hp]; decide, fun _ => h4⟩⟩
  split
  · exact ⟨by decide, fun p hp => ⟨by revert p; decide, fun e => by subst e; simp at hp⟩⟩
  split
  · exact ⟨by decide, fun p hp => ⟨by revert p; decide, fun e => by subst e; simp at hp⟩⟩
  split
  · exact ⟨by decide, fun p hp => ⟨by revert p; decide, fun e => by subst e; simp at hp⟩⟩
  · exact ⟨by simp, fun p hp => by simp at hp⟩
theorem nm_len (o : Nat) : (nm o).data.toList.length ≤ 8 := by
  unfold nm; split <;> decide
theorem headT_len (x : Src) (hx : Fit x) : (headT x).length ≤ 2147483648 := by
  have hn := hx.nz
  rw [Lib.size_eq] at hn
  have := nm_len x.o.toNat
  unfold headT
  split
  · simp only [List.length_append, List.length_cons, List.length_nil]; omega
  split
  · omega
  split
  · decide
  split
  · decide
  split
  · decide
  split
  · decide
  split
  · decide
  · simp
theorem getD_byte (x : Src) (hx : Fit x) (i : Nat) : 0 ≤ x.d.getD i 0 ∧ x.d.getD i 0 ≤ 255 := by
  rw [List.getD_eq_getElem?_getD]
  by_cases h : i < x.d.length
  · rw [List.getElem?_eq_getElem h]; exact hx.d.mem _ (List.getElem_mem h)
  · rw [List.getElem?_eq_none (by omega)]; decide
theorem fieldT_len (p : Nat) (x : Src) (hx : Fit x) (i : Nat) : (fieldT p x i).length ≤ 2147483647 := by
  have hn := hx.nz
  have ht := hx.tz
  rw [Lib.size_eq] at hn ht
  have h1 := Lib.itoa_length_le x.a (by have := hx.a0; omega) (by have := hx.a1; omega)
  have h2 := Lib.itoa_length_le x.b (by have := hx.b0; omega) (by have := hx.b1; omega)
  have h3 := Lib.itoa_length_le x.m (by have := hx.m0; omega) (by have := hx.m1; omega)
  have h4 := Lib.itoa_length_le x.n hx.n0 hx.n1
  have h5 := Lib.itoa_length_le (x.d.getD i 0) (by have := getD_byte x hx i; omega) (by have := getD_byte x hx i; omega)
  unfold fieldT
  split
  · simp only [List.length_cons]; omega
  split
  · simp only [List.length_cons]; omega
  split
  · omega
  split
  · omega
  split
  · omega
  split
  · omega
  · omega
theorem midT_len (x : Src) (hx : Fit x) : ∀ k, (midT x k).length ≤ (k + 1) * 2147483648
  | 0 => by have := headT_len x hx; simp [midT]; omega
  | k + 1 => by
    have h1 := midT_len x hx k
    have h2 := fieldT_len ((plT (headT x)).getD k 0) x hx k
    rw [midT_succ, List.length_append, List.length_cons]
    omega

end Go.Proofs.YtkianldkbfjehaaGreatDoor
