/-
  Proved here: the law SitesMerges (switchyardlaw08) answers true wherever its argument holds at most 1048576 values and letters, and the argument reads afterwards as it read before.
-/
import Derived.Test.YtckpgpgmaccepaaGreatBulk
import Derived.Test.YtckpgpgmaccepaaGreatTa
import Derived.Test.YtckpgpgmaccepaaGreatTp
import Derived.Test.YtckpgpgmaccepaaGreatTl
import Derived.Test.YtckpgpgmaccepaaGreatTm
import Derived.Deep.DeepCutAuto
import Derived.Deep.CutBlock
import Derived.Deep.RegionHeld3
import Derived.BigQuiet
import Derived.Lib.Hide
import Derived.Lib.QuietBelow
import Derived.Test.YtckpgpgmaccepaaGreatTq

/- What the bound of the narrower statements gives of a list of units: how much each list weighs, how many marks there are. -/
namespace Go.Proofs.YtckpgpgmaccepaaGreat
open Go.ChangeShapes Go.WideShapes Go.ChangeAt Go.RowKit

/-- what a datum weighs, by its bulk: over types S, closed, none of more than 96 bytes -/
theorem weights_bulk {H : Type} (P : Program) (S : TypeId → Prop)
    (hs : ∀ t e, S t → P.underlying t = some (.slice e) → S e ∧ P.bytesOf e ≤ 96)
    (hf : ∀ t fs, S t → P.underlying t = some (.struct fs) → ∀ x ∈ fs.toList.map (·.type), S x)
    (ha : ∀ t n e, S t → P.underlying t = some (.array n e) → S e)
    (hp : ∀ t e, S t → P.underlying t = some (.pointer e) → S e)
    (hm : ∀ t k e, S t → P.underlying t = some (.map k e) → S e ∧ P.bytesOf k + P.bytesOf e ≤ 96) (d : DataW H) :
    ∀ t, S t → ∀ m ∈ d.weights P t, m ≤ Rows.uptoBulk d * 96 := by
  refine DataW.rec (motive_1 := fun d => ∀ t, S t → ∀ m ∈ d.weights P t, m ≤ Rows.uptoBulk d * 96)
    (motive_2 := fun l => (∀ e, S e → ∀ m ∈ DataW.weightsAll P e l, m ≤ Rows.uptoBulkAll l * 96) ∧ (∀ ts, (∀ x ∈ ts, S x) → ∀ m ∈ DataW.weightsEach P ts l, m ≤ Rows.uptoBulkAll l * 96) ∧ l.length ≤ Rows.uptoBulkAll l)
    (motive_3 := fun l => (∀ e, S e → ∀ m ∈ DataW.weightsEntries P e l, m ≤ Rows.uptoBulkEntries l * 96) ∧ l.length ≤ Rows.uptoBulkEntries l)
    (motive_4 := fun p => (∀ e, S e → ∀ m ∈ DataW.weightsEntry P e p, m ≤ Rows.uptoBulkEntry p * 96) ∧ 1 ≤ Rows.uptoBulkEntry p)
    ?_ ?_ ?_ ?_ ?_ ?_ ?_ ?_ ?_ ?_ ?_ ?_ ?_ d
  · intro l t _ m h
    cases l <;> simp only [DataW.weights, List.mem_singleton, List.not_mem_nil] at h
    subst h
    simp only [Rows.uptoBulk]; omega
  · intro t _ m h
    simp only [DataW.weights, List.not_mem_nil] at h
  · intro d ih t hS m h
    simp only [DataW.weights] at h
    split at h
    · rename_i e he
      have := ih e (hp t e hS he) m h
      simp only [Rows.uptoBulk]; omega
    · simp at h
  · intro es sp ie is t hS m h
    simp only [DataW.weights] at h
    split at h
    · rename_i e he
      obtain ⟨h1, h2⟩ := hs t e hS he
      simp only [List.mem_cons, List.mem_append] at h
      simp only [Rows.uptoBulk]
      rcases h with rfl | h | h
      · have := Nat.mul_le_mul_left (es.length + sp.length) h2
        have := ie.2.2
        have := is.2.2
        omega
      · have := ie.1 e h1 m h; omega
      · have := is.1 e h1 m h; omega
    · simp at h
  · intro ps ip t hS m h
    simp only [DataW.weights] at h
    simp only [Rows.uptoBulk]
    split at h
    · rename_i fs he
      have := ip.2.1 _ (hf t fs hS he) m h; omega
    · rename_i n e he
      have := ip.1 e (ha t n e hS he) m h; omega
    · simp at h
  · intro name d _ t _ m h
    simp only [DataW.weights, List.not_mem_nil] at h
  · intro es ie t hS m h
    simp only [DataW.weights] at h
    simp only [Rows.uptoBulk]
    split at h
    · rename_i k e he
      obtain ⟨h1, h2⟩ := hm t k e hS he
      simp only [List.mem_cons] at h
      rcases h with rfl | h
      · have := Nat.mul_le_mul_left es.length h2
        have := ie.2
        omega
      · have := ie.1 e h1 m h; omega
    · simp at h
  · intro x t _ m h
    simp only [DataW.weights, List.not_mem_nil] at h
  · exact ⟨fun e _ m h => by simp [DataW.weightsAll] at h, fun ts _ m h => by cases ts <;> simp [DataW.weightsEach] at h, Nat.zero_le _⟩
  · intro d r ih it
    have hb := bulk_pos d
    refine ⟨fun e hS m h => ?_, fun ts hts m h => ?_, ?_⟩
    · simp only [DataW.weightsAll, List.mem_append] at h
      simp only [Rows.uptoBulkAll]
      rcases h with h | h
      · have := ih e hS m h; omega
      · have := it.1 e hS m h; omega
    · cases ts with
      | nil => simp [DataW.weightsEach] at h
      | cons t ts =>
        simp only [DataW.weightsEach, List.mem_append] at h
        simp only [Rows.uptoBulkAll]
        rcases h with h | h
        · have := ih t (hts t (by simp)) m h; omega
        · have := it.2.1 ts (fun x hx => hts x (by simp [hx])) m h; omega
    · have := it.2.2
      simp only [Rows.uptoBulkAll, List.length_cons]; omega
  · exact ⟨fun e _ m h => by simp [DataW.weightsEntries] at h, Nat.zero_le _⟩
  · intro p r ih it
    refine ⟨fun e hS m h => ?_, ?_⟩
    · simp only [DataW.weightsEntries, List.mem_append] at h
      simp only [Rows.uptoBulkEntries]
      rcases h with h | h
      · have := ih.1 e hS m h; omega
      · have := it.1 e hS m h; omega
    · have h1 := ih.2
      have h2 := it.2
      simp only [Rows.uptoBulkEntries, List.length_cons]; omega
  · intro k d ih
    refine ⟨fun e hS m h => ?_, ?_⟩
    · cases k <;> simp only [DataW.weightsEntry, List.mem_cons] at h <;> simp only [Rows.uptoBulkEntry]
      all_goals first
        | (have := ih e hS m h; omega)
        | (rcases h with rfl | h
           · omega
           · have := ih e hS m h; omega)
    · cases k <;> simp only [Rows.uptoBulkEntry] <;> omega

/-- the types that a list of units is made of -/
def TyU (t : TypeId) : Prop := t = 22 ∨ t = 56 ∨ t = 52 ∨ t = 48 ∨ t = 53 ∨ t = 54 ∨ t = 5 ∨ t = 67 ∨ t = 116 ∨ t = 58 ∨ t = 3 ∨ t = 9 ∨ t = 4 ∨ t = 114
def tyL : List TypeId := [22, 56, 52, 48, 53, 54, 5, 67, 116, 58, 3, 9, 4, 114]
theorem tyU_mem {t : TypeId} : TyU t ↔ t ∈ tyL := by simp [TyU, tyL]
def okTy (P : Program) (t : TypeId) : Bool := match P.underlying t with
  | some (.slice e) => tyL.contains e && decide (P.bytesOf e ≤ 96)
  | some (.struct fs) => (fs.toList.map (·.type)).all tyL.contains
  | some (.array _ _) => false
  | some (.pointer _) => false
  | some (.map _ _) => false
  | _ => true
theorem okTy_all : tyL.all (okTy Tryz.prog) = true := by kernel_rfl
theorem okTy_at {t : TypeId} (h : TyU t) : okTy Tryz.prog t = true := List.all_eq_true.1 okTy_all t (tyU_mem.1 h)
theorem units_weights {H : Type} (d : DataW H) (h : Rows.uptoBulk d ≤ 1048576) : ∀ m ∈ d.weights Tryz.prog 22, m ≤ reachBytes := by
  intro m hm
  have := weights_bulk Tryz.prog TyU
    (fun t e hS he => by
      have h1 := okTy_at hS
      unfold okTy at h1
      rw [he] at h1
      simp only [Bool.and_eq_true, decide_eq_true_eq] at h1
      exact ⟨tyU_mem.2 (by simpa using h1.1), h1.2⟩)
    (fun t fs hS he => by
      have h1 := okTy_at hS
      unfold okTy at h1
      rw [he] at h1
      intro x hx
      have := List.all_eq_true.1 h1 x hx
      exact tyU_mem.2 (by simpa using this))
    (fun t n e hS he => by
      have h1 := okTy_at hS
      unfold okTy at h1
      rw [he] at h1
      cases h1)
    (fun t e hS he => by
      have h1 := okTy_at hS
      unfold okTy at h1
      rw [he] at h1
      cases h1)
    (fun t k e hS he => by
      have h1 := okTy_at hS
      unfold okTy at h1
      rw [he] at h1
      cases h1) d 22 (by simp [TyU]) m hm
  unfold reachBytes
  omega

/-! ### how many marks there are -/
theorem bulk_ge {H : Type} {k : Nat} : ∀ {l : List (DataW H)}, (∀ i (h : i < l.length), k ≤ Rows.uptoBulk l[i]) → l.length * k ≤ Rows.uptoBulkAll l
  | [], _ => by simp
  | d :: r, h => by
    have h1 : k ≤ Rows.uptoBulk d := h 0 (by simp)
    have h2 : r.length * k ≤ Rows.uptoBulkAll r := bulk_ge fun i hi => h (i + 1) (by simp; omega)
    simp only [Rows.uptoBulkAll, List.length_cons, Nat.add_mul]; omega
theorem bulk_mark {H : Type} {enc : TypeId × Value → H} {W : World} {fuel : Nat} {cs : List Value} {x : DataW H × List MemPlace} (h : DataW.trod enc Tryz.prog W 0 (fun _ => true) true fuel 58 cs = some x) : 4 ≤ Rows.uptoBulk x.1 := by
  obtain ⟨xs, n, -, hx, hlen, hxl, -⟩ := DataW.trod_struct Tryz.underlying58 h
  have h3 : xs.length = 3 := hxl
  have hd : x.1 = .agg (xs.map Prod.fst) := by rw [hx]
  have := bulk_len (xs.map Prod.fst)
  rw [hd]
  simp only [Rows.uptoBulk]
  rw [List.length_map, h3] at this
  omega
theorem bulk_marks {H : Type} {enc : TypeId × Value → H} {W : World} {fuel n c : Nat} {p : Option Addr} {x : DataW H × List MemPlace} (h : DataW.trod enc Tryz.prog W 0 (fun _ => true) true fuel 54 [.slice p n c] = some x) : n * 4 ≤ Rows.uptoBulk x.1 := by
  rcases DataW.trod_slice Tryz.underlying54 h with ⟨hcs, hx⟩ | ⟨ad, l, cc, elems, rest, f, hfu, hcs, hx, _, hl, hm, hlen, hel, hsp, _⟩
  · simp only [List.cons.injEq, Value.slice.injEq, and_true] at hcs
    rw [hcs.2.1]; omega
  · simp only [List.cons.injEq, Value.slice.injEq, and_true] at hcs
    have h1 : (elems.map Prod.fst).length * 4 ≤ Rows.uptoBulkAll (elems.map Prod.fst) := bulk_ge fun i hi => by
      rw [List.length_map] at hi
      have he := hel i (by omega)
      rw [List.getElem?_eq_getElem hi, Option.bind_eq_some_iff] at he
      obtain ⟨cs, -, htr⟩ := he
      rw [List.getElem_map]
      exact bulk_mark htr
    have hd : x.1 = .slice (elems.map Prod.fst) (rest.map Prod.fst) := by rw [hx]
    rw [hd]
    simp only [Rows.uptoBulk]
    rw [List.length_map] at h1
    rw [hcs.2.1]
    omega
theorem bulk_unit {H : Type} {enc : TypeId × Value → H} {W : World} {fuel n c : Nat} {p : Option Addr} {cs : List Value} {x : DataW H × List MemPlace} (h : DataW.trod enc Tryz.prog W 0 (fun _ => true) true fuel 56 cs = some x) (h3 : cs[3]? = some (.slice p n c)) : n * 4 ≤ Rows.uptoBulk x.1 := by
  obtain ⟨xs, n', rfl, hx, hlen, hxl, hf⟩ := DataW.trod_struct Tryz.underlying56 h
  rw [Tryz.cells56] at hlen
  obtain ⟨a, b, c', d, rfl⟩ := list_four hlen
  have f3 := hf 3
  simp [Tryz.cells54] at f3
  obtain ⟨x0, x1, x2, x3, rfl⟩ := list_four (show xs.length = 4 from hxl)
  simp only [List.getElem?_cons_zero, List.getElem?_cons_succ] at f3 h3
  injection h3 with h3
  rw [h3] at f3
  have := bulk_marks f3
  have hd : x.1 = .agg [x0.1, x1.1, x2.1, x3.1] := by rw [hx]; rfl
  rw [hd]
  simp only [Rows.uptoBulk, Rows.uptoBulkAll]
  omega
theorem sum_bulk {H : Type} : ∀ {L : List Ob} {l : List (DataW H)} (hl : L.length = l.length), (∀ i (h : i < L.length), L[i].mk_.length * 4 ≤ Rows.uptoBulk (l[i]'(by omega))) → cntM L * 4 ≤ Rows.uptoBulkAll l
  | [], [], _, _ => by simp [cntM]
  | [], _ :: _, h, _ => by simp at h
  | _ :: _, [], h, _ => by simp at h
  | x :: L, d :: l, hl, h => by
    have h1 : x.mk_.length * 4 ≤ Rows.uptoBulk d := h 0 (by simp)
    have h2 : cntM L * 4 ≤ Rows.uptoBulkAll l := sum_bulk (by simpa using hl) fun i hi => h (i + 1) (by simp; omega)
    simp only [cntM, List.map_cons, List.sum_cons, Rows.uptoBulkAll] at *
    omega
theorem bulk_units {H : Type} {enc : TypeId × Value → H} {W : World} {fuel e : Nat} {q : Option Addr} {L : List Ob} {x : DataW H × List MemPlace} (h : DataW.trod enc Tryz.prog W 0 (fun _ => true) true fuel 22 [.slice q L.length e] = some x) (hU : Units W q L) : cntM L * 4 ≤ Rows.uptoBulk x.1 ∧ L.length ≤ Rows.uptoBulk x.1 := by
  rcases DataW.trod_slice Tryz.underlying22 h with ⟨hcs, hx⟩ | ⟨ad, l, cc, elems, rest, f, hfu, hcs, hx, _, hl, hm, hlen, hel, hsp, _⟩
  · simp only [List.cons.injEq, Value.slice.injEq, and_true] at hcs
    obtain rfl : L = [] := List.eq_nil_of_length_eq_zero hcs.2.1
    exact ⟨by simp [cntM], by simp⟩
  · simp only [List.cons.injEq, Value.slice.injEq, and_true] at hcs
    obtain ⟨hq, hn, -⟩ := hcs
    have hd : x.1 = .slice (elems.map Prod.fst) (rest.map Prod.fst) := by rw [hx]
    have h1 := sum_bulk (L := L) (l := elems.map Prod.fst) (by rw [List.length_map]; omega) fun i hi => by
      have hi' : i < elems.length := by omega
      have he := hel i (by omega)
      rw [Tryz.cells56, List.getElem?_eq_getElem hi', Option.bind_eq_some_iff] at he
      obtain ⟨cs, hcs, htr⟩ := he
      obtain ⟨_, hcl, hcc⟩ := World.cells?_some hcs
      obtain ⟨b, o, eq, hc⟩ := hU (by omega)
      obtain ⟨pb, ps, pf, pm, cb, cs', cf, cm, ⟨-, -, -, c3⟩, -⟩ := hc i hi
      rw [hq] at eq
      injection eq with eq
      subst eq
      have h3 := hcc 3 (by omega)
      rw [Addr.add_mid, Addr.add_mid, c3] at h3
      rw [List.getElem_map]
      exact bulk_unit htr h3.symm
    have h2 := bulk_len (elems.map Prod.fst)
    rw [List.length_map] at h2
    rw [hd]
    simp only [Rows.uptoBulk]
    exact ⟨by omega, by omega⟩

end Go.Proofs.YtckpgpgmaccepaaGreat

/- .. and how long its marks' keys are. -/
namespace Go.Proofs.YtckpgpgmaccepaaGreat
open Go.ChangeShapes Go.WideShapes Go.ChangeAt Go.RowKit

theorem bulk_key {H : Type} {enc : TypeId × Value → H} {W : World} {fuel : Nat} {cs : List Value} {s : ByteArray} {x : DataW H × List MemPlace} (h : DataW.trod enc Tryz.prog W 0 (fun _ => true) true fuel 58 cs = some x) (h1 : cs[1]? = some (.string s)) : s.size ≤ Rows.uptoBulk x.1 := by
  obtain ⟨xs, n, rfl, hx, hlen, hxl, hf⟩ := DataW.trod_struct Tryz.underlying58 h
  rw [Tryz.cells58] at hlen
  obtain ⟨a, b, c, rfl⟩ := list_three hlen
  have f1 := hf 1
  simp [Tryz.cells9] at f1
  obtain ⟨x0, x1, x2, rfl⟩ := list_three (show xs.length = 3 from hxl)
  simp only [List.getElem?_cons_zero, List.getElem?_cons_succ] at f1 h1
  injection h1 with h1
  rw [h1] at f1
  obtain ⟨k, e1, y1, w1⟩ := DataW.trod_string Tryz.underlying9 f1
  simp only [List.cons.injEq, Value.string.injEq, and_true] at e1
  subst e1
  have hd : x.1 = .agg [x0.1, x1.1, x2.1] := by rw [hx]; rfl
  have hd1 : x1.1 = .lit (.string s.data.toList) := by rw [y1]
  rw [hd]
  simp only [Rows.uptoBulk, Rows.uptoBulkAll, hd1]
  have e : s.data.toList.length = s.size := by rw [Array.length_toList]; rfl
  omega
theorem bulk_keys {H : Type} {enc : TypeId × Value → H} {W : World} {fuel c : Nat} {p : Option Addr} {M : List Mk} {x : DataW H × List MemPlace} (h : DataW.trod enc Tryz.prog W 0 (fun _ => true) true fuel 54 [.slice p M.length c] = some x) (hr : Row3 W p (M.map mkV)) : ∀ m ∈ M, m.key.size ≤ Rows.uptoBulk x.1 := by
  intro m hm
  obtain ⟨i, hi, rfl⟩ := List.getElem_of_mem hm
  rcases DataW.trod_slice Tryz.underlying54 h with ⟨hcs, hx⟩ | ⟨ad, l, cc, elems, rest, f, hfu, hcs, hx, _, hl, hm', hlen, hel, hsp, _⟩
  · simp only [List.cons.injEq, Value.slice.injEq, and_true] at hcs
    omega
  · simp only [List.cons.injEq, Value.slice.injEq, and_true] at hcs
    obtain ⟨hq, hn, -⟩ := hcs
    have hie : i < elems.length := by omega
    have he := hel i (by omega)
    rw [Tryz.cells58, List.getElem?_eq_getElem hie, Option.bind_eq_some_iff] at he
    obtain ⟨cs, hcs, htr⟩ := he
    obtain ⟨_, hcl, hcc⟩ := World.cells?_some hcs
    obtain ⟨b, o, eq, hc⟩ := hr (by rw [List.length_map]; omega)
    rw [hq] at eq
    injection eq with eq
    subst eq
    have c1 := hc i (by rw [List.length_map]; exact hi) 1 (by omega)
    have h1 := hcc 1 (by omega)
    rw [Addr.add_mid, Addr.add_mid, c1] at h1
    have h2 : cs[1]? = some (.string M[i].key) := by
      rw [← h1]
      simp [l3, mkV]
    have h3 := bulk_key htr h2
    have hd : x.1 = .slice (elems.map Prod.fst) (rest.map Prod.fst) := by rw [hx]
    have h4 := bulk_mem (d := elems[i].1) (l := elems.map Prod.fst) (List.mem_map_of_mem (List.getElem_mem hie))
    rw [hd]
    simp only [Rows.uptoBulk]
    omega
theorem bulk_ukeys {H : Type} {enc : TypeId × Value → H} {W : World} {fuel c : Nat} {p : Option Addr} {M : List Mk} {cs : List Value} {x : DataW H × List MemPlace} (h : DataW.trod enc Tryz.prog W 0 (fun _ => true) true fuel 56 cs = some x) (h3 : cs[3]? = some (.slice p M.length c)) (hr : Row3 W p (M.map mkV)) : ∀ m ∈ M, m.key.size ≤ Rows.uptoBulk x.1 := by
  obtain ⟨xs, n', rfl, hx, hlen, hxl, hf⟩ := DataW.trod_struct Tryz.underlying56 h
  rw [Tryz.cells56] at hlen
  obtain ⟨a, b, c', d, rfl⟩ := list_four hlen
  have f3 := hf 3
  simp [Tryz.cells54] at f3
  obtain ⟨x0, x1, x2, x3, rfl⟩ := list_four (show xs.length = 4 from hxl)
  simp only [List.getElem?_cons_zero, List.getElem?_cons_succ] at f3 h3
  injection h3 with h3
  rw [h3] at f3
  intro m hm
  have := bulk_keys f3 hr m hm
  have hd : x.1 = .agg [x0.1, x1.1, x2.1, x3.1] := by rw [hx]; rfl
  rw [hd]
  simp only [Rows.uptoBulk, Rows.uptoBulkAll]
  omega
theorem bulk_allkeys {H : Type} {enc : TypeId × Value → H} {W : World} {fuel e : Nat} {q : Option Addr} {L : List Ob} {x : DataW H × List MemPlace} (h : DataW.trod enc Tryz.prog W 0 (fun _ => true) true fuel 22 [.slice q L.length e] = some x) (hU : Units W q L) : ∀ y ∈ L, ∀ m ∈ y.mk_, m.key.size ≤ Rows.uptoBulk x.1 := by
  intro y hy m hm
  obtain ⟨i, hi, rfl⟩ := List.getElem_of_mem hy
  rcases DataW.trod_slice Tryz.underlying22 h with ⟨hcs, hx⟩ | ⟨ad, l, cc, elems, rest, f, hfu, hcs, hx, _, hl, hm', hlen, hel, hsp, _⟩
  · simp only [List.cons.injEq, Value.slice.injEq, and_true] at hcs
    omega
  · simp only [List.cons.injEq, Value.slice.injEq, and_true] at hcs
    obtain ⟨hq, hn, -⟩ := hcs
    have hie : i < elems.length := by omega
    have he := hel i (by omega)
    rw [Tryz.cells56, List.getElem?_eq_getElem hie, Option.bind_eq_some_iff] at he
    obtain ⟨cs, hcs, htr⟩ := he
    obtain ⟨_, hcl, hcc⟩ := World.cells?_some hcs
    obtain ⟨b, o, eq, hc⟩ := hU (by omega)
    obtain ⟨pb, ps, pf, pm, cb, cs', cf, cm, ⟨-, -, -, c3⟩, hI⟩ := hc i hi
    rw [hq] at eq
    injection eq with eq
    subst eq
    have h3 := hcc 3 (by omega)
    rw [Addr.add_mid, Addr.add_mid, c3] at h3
    have h4 := bulk_ukeys htr h3.symm hI.rm m hm
    have hd : x.1 = .slice (elems.map Prod.fst) (rest.map Prod.fst) := by rw [hx]
    have h5 := bulk_mem (d := elems[i].1) (l := elems.map Prod.fst) (List.mem_map_of_mem (List.getElem_mem hie))
    rw [hd]
    simp only [Rows.uptoBulk]
    omega

end Go.Proofs.YtckpgpgmaccepaaGreat

/- switchyardref08.number and Keys. -/
namespace Go.Proofs.YtckpgpgmaccepaaGreat
open Go.RowKit Go.Maps Go.WideMaps

/-- a name's number, or -1 -/
def numI (ks : List ByteArray) (s : ByteArray) : Int := if inB s ks = true then (idxK ks s : Int) else -1

set_option maxRecDepth 4000 in
set_option maxHeartbeats 1000000 in
theorem refNumber_any (p : Option Addr) (c : Nat) (ks : List ByteArray) (s : ByteArray) (w : World) (hl : ks.length ≤ 140737488355328) (hr : GRow w p (ks.map Value.string)) :
    Calls Tryz.prog 35 #[.slice p ks.length c, .string s] w fun e w' => e = .returned (.int .i64 (numI ks s)) ∧ w' = w := by
  obtain ⟨r, hrr⟩ : ∃ r, numI ks s = r := ⟨_, rfl⟩
  rw [hrr]
  have HRR := Hid.in hrr
  have HR := Hid.in hr
  clear hrr hr
  obtain ⟨n, hn⟩ : ∃ n, ks.length = n := ⟨_, rfl⟩
  have HN := Hid.in hn
  rw [hn] at hl ⊢
  clear hn
  go_enter Tryz.func35, Tryz.ntmps35
  go_wp2_with fail
  go_loopw [5] (fun vi wr => ∃ j : Nat, vi = .int .i64 j ∧ j ≤ n ∧ (∀ i (hi : i < ks.length), i < j → ks[i] ≠ s) ∧ wr = w) (fun vi _ => n - (intOf vi).toNat)
  case atStart => exact ⟨0, rfl, Nat.zero_le _, fun i _ h => absurd h (Nat.not_lt_zero _), rfl⟩
  case round =>
    obtain ⟨j, rfl, hj, hgo, rfl⟩ := hrel
    have HGO := Hid.in hgo
    clear hgo
    by_cases hlt : j < n
    · have hjT : j < ks.length := by rw [HN.out]; exact hlt
      obtain ⟨b, o, rfl, hcc⟩ := HR.out (by simp; omega)
      have c0 := hcc j (by simpa using hjT)
      rw [List.getElem?_map, List.getElem?_eq_getElem hjT, Option.map_some] at c0
      clear hcc
      by_cases he : ks[j] = s
      · have HE : Hid (r = j) := by
          have hm : s ∈ ks := he ▸ List.getElem_mem hjT
          have h2 : idxK ks s = j := by
            unfold idxK
            rw [List.findIdx_eq hjT]
            exact ⟨by simpa using he, fun i hi => by simpa using HGO.out i (by omega) hi⟩
          have : r = j := by rw [← HRR.out, numI, if_pos ((inB_iff s ks).2 hm), h2]
          exact this
        rw [he] at c0
        go_wp2_with fail
        go_ret
        exact ⟨by rw [HE.out]; rfl, rfl⟩
      · have HG2 : Hid (∀ i (hi : i < ks.length), i < j + 1 → ks[i] ≠ s) := fun i hi h => by
          by_cases e : i = j
          · subst e; exact he
          · exact HGO.out i hi (by omega)
        have hsl := text_ne7 he
        have hsb : (ks[j].toList == s.toList) = false := by simpa using hsl
        generalize ks[j] = x at *
        go_wp2_with fail
        go_roundw
        case rel => exact ⟨j + 1, by go_num, by omega, HG2.out, trivial⟩
        case measure => simp [intOf]; omega
    · have HE : Hid (r = -1) := by
        have hm : s ∉ ks := fun h => by
          obtain ⟨i, hi, e⟩ := List.getElem_of_mem h
          exact HGO.out i hi (by rw [HN.out] at hi; omega) e
        have : r = -1 := by rw [← HRR.out, numI, if_neg (fun h => hm ((inB_iff s ks).1 h))]
        exact this
      go_wp2_with fail
      go_ret
      exact ⟨by rw [HE.out]; rfl, rfl⟩

set_option maxRecDepth 20000 in
set_option maxHeartbeats 4000000 in
theorem refKeys_any (p : Option Addr) (n c : Nat) (xs : List Ob) (w : World) (hn : xs.length = n) (hn6 : n ≤ 1048576) (hx : Units w p xs) (hc : cntM xs ≤ 1000000) :
    Calls Tryz.prog 12 #[.slice p n c] w fun e w' => ∃ v, e = .returned v ∧ GOwnV 9 w' w.heap.size v ((keysL xs).map Value.string) ∧ Below w.heap.size w w' := by
  have HN := Hid.in hn
  have HX := Hid.in hx
  have HC := Hid.in hc
  clear hn hx hc
  go_enter Tryz.func12, Tryz.ntmps12
  go_wp2_with fail
  go_loopw [3, 4] (fun v vi wr => ∃ i : Nat, vi = .int .i64 i ∧ i ≤ n ∧ GOwnV 9 wr w.heap.size v ((keysL (xs.take i)).map Value.string) ∧ Below w.heap.size w wr) (fun _ vi _ => n - (intOf vi).toNat)
  case atStart => exact ⟨0, rfl, Nat.zero_le _, GOwnV.nil _ _ _, below_self _⟩
  case round =>
    obtain ⟨i, rfl, hi, hown, hb⟩ := hrel
    have HB := Hid.in hb
    clear hb
    by_cases hlt : i < n
    · have hiT : i < xs.length := by rw [HN.out]; exact hlt
      obtain ⟨b, o, rfl, hcc⟩ := HX.out (by omega)
      obtain ⟨pb, ps, pf, pm, cb, cs, cf, cm, ⟨k0, k1, k2, k3⟩, hI⟩ := hcc i hiT
      have HIW : Hid (∀ W, Below w.heap.size w W → Row3 W pm (xs[i].mk_.map mkV)) := fun W hW => hI.rm.below hW
      have HK3 := Hid.in (fun W (hW : Below w.heap.size w W) => (hW.cell (cell_lt k3)).trans k3)
      have hmn := hI.km
      unfold maxLen at hmn
      have HTK : Hid (keysL (xs.take (i + 1)) = keysM (keysL (xs.take i)) xs[i].mk_) := by
        have h : keysL (xs.take (i + 1)) = keysM (keysL (xs.take i)) xs[i].mk_ := by rw [List.take_succ_eq_append_getElem hiT, keysL_snoc]
        exact h
      have HLEN : Hid (∀ j, (keysM (keysL (xs.take i)) (xs[i].mk_.take j)).length ≤ 1000000) := fun j => by
        have h1 := keysM_len (xs[i].mk_.take j) (keysL (xs.take i))
        have h2 := keysL_len i xs (by omega)
        have h3 := cntM_take (xs := xs) (i + 1)
        rw [List.take_succ_eq_append_getElem hiT, cntM_snoc] at h3
        have h4 : (xs[i].mk_.take j).length ≤ xs[i].mk_.length := by rw [List.length_take]; omega
        have h5 := HC.out
        omega
      clear hcc hI k0 k1 k2 k3
      generalize xs[i] = ob at *
      obtain ⟨base, hbase⟩ : ∃ bse, keysL (xs.take i) = bse := ⟨_, rfl⟩
      rw [hbase] at HTK HLEN hown
      have HOW := Hid.in hown
      clear hbase hown
      go_wp2_with fail
      go_loopw [3, 5] (fun v' vi ws => ∃ j : Nat, vi = .int .i64 j ∧ j ≤ ob.mk_.length ∧ GOwnV 9 ws w.heap.size v' ((keysM base (ob.mk_.take j)).map Value.string) ∧ Below w.heap.size w ws) (fun _ vi _ => ob.mk_.length - (intOf vi).toNat)
      case atStart => exact ⟨0, rfl, Nat.zero_le _, HOW.out, HB.out⟩
      case round =>
        obtain ⟨j, rfl, hj, hN3, hb3⟩ := hrel
        have HB3 := Hid.in hb3
        have c3 := HK3.out _ hb3
        clear hb3
        by_cases hlj : j < ob.mk_.length
        · obtain ⟨b3, o3, rfl, hc3⟩ := (HIW.out _ HB3.out) (by rw [List.length_map]; omega)
          obtain ⟨d0, d1, d2⟩ := cells3 hc3 j (by rw [List.length_map]; exact hlj)
          simp only [List.getElem_map, mkV] at d0 d1 d2
          have HSN : Hid (keysM base (ob.mk_.take (j + 1)) = addK (keysM base (ob.mk_.take j)) ob.mk_[j].key) := by
            have h : keysM base (ob.mk_.take (j + 1)) = addK (keysM base (ob.mk_.take j)) ob.mk_[j].key := by rw [List.take_succ_eq_append_getElem hlj, keysM_snoc]
            exact h
          have hl4 := HLEN.out j
          have hsz := HB3.out.size
          clear hc3 d0 d2
          generalize ob.mk_[j].key = m1 at *
          generalize keysM base (ob.mk_.take j) = ks at *
          obtain ⟨p3, e3, hv, hrow, -, -⟩ := hN3.slice
          rw [List.length_map] at hv
          subst hv
          have hnum := refNumber_any p3 e3 ks m1 _ (by omega) hrow
          cases hin : inB m1 ks with
          | true =>
            have HE : Hid (addK ks m1 = ks) := if_pos hin
            have hge : ¬ numI ks m1 < 0 := by unfold numI; rw [if_pos hin]; omega
            generalize numI ks m1 = nn at *
            clear hrow
            go_wp2_with (go_at_call 35; refine hnum.mono ?_; rintro e w5 ⟨rfl, rfl⟩)
            go_roundw
            case rel => exact ⟨j + 1, by go_num, by omega, by rw [HSN.out, HE.out]; exact hN3, HB3.out⟩
            case measure => simp [intOf]; omega
          | false =>
            have HE : Hid (addK ks m1 = ks ++ [m1]) := if_neg (by rw [hin]; decide)
            have hneg : numI ks m1 = -1 := by unfold numI; rw [if_neg (by rw [hin]; decide)]
            rw [hneg] at hnum
            clear hrow hneg
            go_wp2_with (first
              | (go_at_call 35; refine hnum.mono ?_; rintro e w5 ⟨rfl, rfl⟩)
              | (at_builtin; refine gpush Tryz.elemS _ rfl _ _ rfl w.heap.size _ (ks.map Value.string) rfl (hN3.alloc _) ⟨_, 0, none⟩ 1 1 [.string m1] rfl rfl (cell_one_new _ _ _) (by simp [Value.oneCell']) (by rw [List.length_map]; omega) (by rw [List.length_map]; omega) (by simp; omega) ?_; intro v6 w6 hT6 _hg6 hb6 _hnil; have HT6 := Hid.in hT6; have HB6 := Hid.in (hb6 w (below_alloc HB3.out _)); clear hT6 _hg6 hb6 _hnil))
            go_roundw
            case rel => exact ⟨j + 1, by go_num, by omega, by rw [HSN.out, HE.out, List.map_append]; exact HT6.out, HB6.out⟩
            case measure => simp [intOf]; omega
        · have HE : Hid (ob.mk_.take j = ob.mk_) := List.take_of_length_le (by omega)
          rw [HE.out, ← HTK.out] at hN3
          have HN3 := Hid.in hN3
          clear hN3
          go_wp2_with fail
          go_roundw
          case rel => exact ⟨i + 1, by go_num, by omega, HN3.out, HB3.out⟩
          case measure => simp [intOf]; omega
    · have HE : Hid (keysL (xs.take i) = keysL xs) := by
        have h : keysL (xs.take i) = keysL xs := by rw [List.take_of_length_le (by rw [HN.out]; omega)]
        exact h
      rw [HE.out] at hown
      have HOW := Hid.in hown
      clear hown
      go_wp2_with fail
      go_ret
      exact ⟨_, rfl, HOW.out, HB.out⟩

end Go.Proofs.YtckpgpgmaccepaaGreat

/- switchyardref08.Merge: what lies in memory beside it, and its insertion, as lists. -/
namespace Go.Proofs.YtckpgpgmaccepaaGreat
open Go.RowKit Go.Maps Go.WideMaps

/-- a list, that is moved by one from place x on -/
def shL (A : List Si) (s : Si) (x : Nat) : List Si := (A ++ [s]).take (x + 1) ++ A.drop x
theorem shL_start (A : List Si) (s : Si) : shL A s A.length = A ++ [s] := by
  unfold shL
  rw [List.take_of_length_le (by simp), List.drop_eq_nil_of_le (Nat.le_refl _), List.append_nil]
theorem shL_len {A : List Si} {s : Si} {x : Nat} (h : x ≤ A.length) : (shL A s x).length = A.length + 1 := by
  unfold shL; simp; omega
theorem shL_get {A : List Si} {s : Si} {x : Nat} (h : x < A.length) : (shL A s (x + 1))[x]? = some A[x] := by
  unfold shL
  rw [List.getElem?_append_left (by simp; omega), List.getElem?_take_of_lt (by omega), List.getElem?_append_left h, List.getElem?_eq_getElem h]
theorem shL_step {A : List Si} {s : Si} {x : Nat} (h : x < A.length) : (shL A s (x + 1)).set (x + 1) A[x] = shL A s x := by
  unfold shL
  apply List.ext_getElem?
  intro i
  rw [List.getElem?_set]
  have hl : ((A ++ [s]).take (x + 1 + 1)).length = x + 2 := by simp; omega
  have hl2 : ((A ++ [s]).take (x + 1)).length = x + 1 := by simp; omega
  by_cases e : x + 1 = i
  · subst e
    rw [if_pos rfl, if_pos (by rw [List.length_append, hl]; omega), List.getElem?_append_right (by omega), hl2, Nat.sub_self, List.getElem?_drop, Nat.add_zero, List.getElem?_eq_getElem h]
  · rw [if_neg e]
    by_cases h1 : i < x + 1
    · rw [List.getElem?_append_left (by omega), List.getElem?_append_left (by omega), List.getElem?_take_of_lt (by omega), List.getElem?_take_of_lt (by omega)]
    · rw [List.getElem?_append_right (by omega), List.getElem?_append_right (by omega), hl, hl2, List.getElem?_drop, List.getElem?_drop]
      congr 1
      omega
theorem shL_end {A : List Si} {s : Si} {x : Nat} (h : x ≤ A.length) : (shL A s x).set x s = A.take x ++ s :: A.drop x := by
  unfold shL
  have hl : ((A ++ [s]).take x).length = x := by simp; omega
  have e : (A ++ [s]).take (x + 1) = (A ++ [s]).take x ++ [(A ++ [s])[x]'(by simp; omega)] := List.take_succ_eq_append_getElem (by simp; omega)
  have e2 : (A ++ [s]).take x = A.take x := List.take_append_of_le_length h
  rw [e, List.append_assoc, List.set_append_right _ _ (by omega), hl, Nat.sub_self, e2]
  rfl
theorem shL_ins {T : List Si} {s : Si} : (shL (sortS T) s (posS s (sortS T))).set (posS s (sortS T)) s = sortS (T ++ [s]) := by
  rw [shL_end (posS_le s _), sortS_snoc, insS_pos]

def set3 (w : World) (g i : Nat) (q : V3) : World := ((w.setCell ⟨g, i * 3, none⟩ q.1).setCell ⟨g, i * 3 + 1, none⟩ q.2.1).setCell ⟨g, i * 3 + 2, none⟩ q.2.2
theorem c3_set3 : ∀ (L : List V3) (i : Nat) (q : V3), i < L.length → (((c3 L).set (i * 3) q.1).set (i * 3 + 1) q.2.1).set (i * 3 + 2) q.2.2 = c3 (L.set i q)
  | x :: L, 0, q, _ => by
    show (((l3 x ++ c3 L).set (0 * 3) q.1).set (0 * 3 + 1) q.2.1).set (0 * 3 + 2) q.2.2 = l3 q ++ c3 L
    rfl
  | x :: L, i + 1, q, h => by
    have ih := c3_set3 L i q (by simpa using h)
    have h3 : (l3 x).length = 3 := rfl
    show (((l3 x ++ c3 L).set ((i + 1) * 3) q.1).set ((i + 1) * 3 + 1) q.2.1).set ((i + 1) * 3 + 2) q.2.2 = l3 x ++ c3 (L.set i q)
    rw [List.set_append_right _ _ (by rw [h3]; omega), List.set_append_right _ _ (by rw [h3]; omega), List.set_append_right _ _ (by rw [h3]; omega), h3, show (i + 1) * 3 - 3 = i * 3 by omega, show (i + 1) * 3 + 1 - 3 = i * 3 + 1 by omega, show (i + 1) * 3 + 2 - 3 = i * 3 + 2 by omega, ih]

/-- starts, sites and keys in memory -/
structure RMt (w0 w : World) (SV : List Value) (v6 v10 v11 : Value) (A : List Si) (ks : List ByteArray) : Prop where
  st : GOwnV 3 w w0.heap.size v6 SV
  out : TOwn 34 w w0.heap.size v10 (A.map siV)
  keys : GOwnV 9 w w0.heap.size v11 (ks.map Value.string)
  bel : Below w0.heap.size w0 w
section
variable {w0 w w' : World} {SV : List Value} {v6 v10 v11 v' : Value} {A A' : List Si} {ks ks' : List ByteArray}
theorem RMt.below (h : RMt w0 w SV v6 v10 v11 A ks) (hb : Below w.heap.size w w') : RMt w0 w' SV v6 v10 v11 A ks :=
  ⟨h.st.below hb, h.out.below hb, h.keys.below hb, below_step h.bel hb⟩
theorem RMt.drewN (h : RMt w0 w SV v6 v10 v11 A ks) (n : Nat) : RMt w0 (w.drewN n) SV v6 v10 v11 A ks := ⟨h.st, h.out, h.keys, below_draws h.bel n⟩
theorem RMt.keyed (h : RMt w0 w SV v6 v10 v11 A ks) (hk : GOwnV 9 w' w0.heap.size v' (ks'.map Value.string)) (hg : w.grownBy w' v11.ownBlock) (hb : Below w0.heap.size w0 w') : RMt w0 w' SV v6 v10 v' A ks' :=
  ⟨kept_row h.st hg (rows_apart h.st h.keys (by decide)), kept_row h.out hg (rows_apart h.out h.keys (by decide)), hk, hb⟩
theorem RMt.pushed (h : RMt w0 w SV v6 v10 v11 A ks) (ho : TOwn 34 w' w0.heap.size v' (A'.map siV)) (hg : w.grownBy w' v10.ownBlock) (hb : Below w0.heap.size w0 w') : RMt w0 w' SV v6 v' v11 A' ks :=
  ⟨kept_row h.st hg (rows_apart h.st h.out (by decide)), ho, kept_row h.keys hg (rows_apart h.keys h.out (by decide)), hb⟩
theorem grown_two {a b c : World} {r : Option Nat} (h1 : a.grownBy b r) (h2 : b.grownBy c r) : a.grownBy c r :=
  ⟨h2.os.trans h1.os, h2.tape.trans h1.tape, h2.output.trans h1.output, Nat.le_trans h1.size h2.size, fun i hi hn => (h2.block i (Nat.lt_of_lt_of_le hi h1.size) hn).trans (h1.block i hi hn)⟩
theorem RMt.set {g n c : Nat} (h : RMt w0 w SV v6 (.slice (some ⟨g, 0, none⟩) n c) v11 A ks) {x : Nat} (hx : x < A.length) (s : Si) : RMt w0 (set3 w g x (siV s)) SV v6 (.slice (some ⟨g, 0, none⟩) n c) v11 (A.set x s) ks := by
  have h0 : w.ownsRow w0.heap.size 34 3 (.slice (some ⟨g, 0, none⟩) n c) (A.map siV).length (c3 (A.map siV)) := h.out
  have hn : n = (A.map siV).length := by
    obtain ⟨p, cc, e, -⟩ := h.out.shape
    injection e
  subst hn
  have h1 := World.ownsRow.stored h0 (x * 3) (siV s).1
  have h2 := World.ownsRow.stored h1.1 (x * 3 + 1) (siV s).2.1
  have h3 := World.ownsRow.stored h2.1 (x * 3 + 2) (siV s).2.2
  have hg : w.grownBy (set3 w g x (siV s)) (some g) := grown_two (grown_two h1.2 h2.2) h3.2
  refine h.pushed ?_ hg (h.bel.grown hg h.bel.size fun k hk => (World.ownsRow.lt h0 k hk).1)
  have h4 := h3.1
  rw [c3_set3 _ x _ (by simpa using hx)] at h4
  unfold TOwn
  rw [List.map_set, List.length_set]
  exact h4
theorem RMt.rows (h : RMt w0 w SV v6 v10 v11 A ks) : (∃ p c, v10 = .slice p A.length c ∧ Row3 w p (A.map siV)) ∧ ∃ p c, v11 = .slice p ks.length c ∧ GRow w p (ks.map Value.string) := by
  obtain ⟨p, c, e, -, -, hr⟩ := h.out.row3
  obtain ⟨p', c', e', hr', -, -⟩ := h.keys.slice
  rw [List.length_map] at e e'
  exact ⟨⟨p, c, e, hr⟩, p', c', e', hr'⟩
theorem RMt.krow {p : Option Addr} {n c : Nat} (h : RMt w0 w SV v6 v10 (.slice p n c) A ks) : GRow w p (ks.map Value.string) := by
  obtain ⟨-, p', c', e', hr'⟩ := h.rows
  have e1 : p = p' := by injection e'
  rw [e1]; exact hr'
theorem RMt.orow {p : Option Addr} {n c : Nat} (h : RMt w0 w SV v6 (.slice p n c) v11 A ks) : Row3 w p (A.map siV) := by
  obtain ⟨⟨p', c', e', hr'⟩, -⟩ := h.rows
  have e1 : p = p' := by injection e'
  rw [e1]; exact hr'
theorem RMt.start {b o n c i : Nat} (h : RMt w0 w SV (.slice (some ⟨b, o, none⟩) n c) v10 v11 A ks) (hi : i < SV.length) : w.cell? ⟨b, o + i, none⟩ = SV[i]? := by
  obtain ⟨p', c', e', hr, -, -⟩ := h.st.slice
  have e1 : some ⟨b, o, none⟩ = p' := by injection e'
  subst e1
  obtain ⟨b', o', e2, hc⟩ := hr (by omega)
  injection e2 with e2
  injection e2 with e2 e3 _
  subst e2 e3
  exact hc i hi
theorem RMt.startSome {p : Option Addr} {n c : Nat} (h : RMt w0 w SV (.slice p n c) v10 v11 A ks) (hi : 0 < SV.length) : ∃ b o, p = some ⟨b, o, none⟩ := by
  obtain ⟨p', c', e', hr, -, -⟩ := h.st.slice
  have e1 : p = p' := by injection e'
  subst e1
  obtain ⟨b', o', e2, -⟩ := hr hi
  exact ⟨b', o', e2⟩
end

/-- a mark, as the reference takes it -/
theorem step_long {res : ByteArray → Int × Int} {b : Nat} {T : List Si} {ks : List ByteArray} {m : Mk} (hin : inB m.key ks = false) (hl : ks.length = 64) : stepM res b T ks m = ⟨[], [], 3⟩ := by
  unfold stepM
  have e : addK ks m.key = ks ++ [m.key] := if_neg (by rw [hin]; decide)
  have hm : m.key ∉ ks := fun h => by rw [(inB_iff m.key ks).2 h] at hin; cases hin
  have e2 : idxK (ks ++ [m.key]) m.key = ks.length := by
    unfold idxK
    rw [List.findIdx_append, List.findIdx_eq_length_of_false (fun x hx => by simp; rintro rfl; exact hm hx)]
    simp
  rw [e, e2, if_pos (by omega)]
theorem step_rest {res : ByteArray → Int × Int} {b : Nat} {T : List Si} {ks : List ByteArray} {m : Mk} (hl : (addK ks m.key).length ≤ 64) : stepM res b T ks m = if (res m.to_).2 ≠ 0 then ⟨[], [], (res m.to_).2⟩ else stepS ⟨(idxK (addK ks m.key) m.key : Nat), (b : Int) + m.at_, (res m.to_).1⟩ (addK ks m.key) T := by
  unfold stepM
  have h1 := idxK_lt (addK_mem ks m.key)
  rw [if_neg (by omega)]
theorem numI_add (ks : List ByteArray) (s : ByteArray) : numI (addK ks s) s = (idxK (addK ks s) s : Nat) := by
  unfold numI
  rw [if_pos ((inB_iff _ _).2 (addK_mem ks s))]
theorem stepS_found {s t : Si} {ks : List ByteArray} {T : List Si} (hd : T.Pairwise fun a b => a.at_ ≠ b.at_) {k : Nat} (h : atS (sortS T) s.at_ = some k) (ht : (sortS T)[k]? = some t) : stepS s ks T = if t = s then ⟨T, ks, 0⟩ else ⟨[], [], 180⟩ := by
  unfold stepS
  have e := find_at (T := sortS T) (a := s.at_)
  rw [h] at e
  have e2 := find_perm (sortS_perm T).symm hd s.at_
  rw [e2, e]
  show (match (sortS T)[k]? with | some t => _ | none => _) = _
  rw [ht]
theorem stepS_new {s : Si} {ks : List ByteArray} {T : List Si} (hd : T.Pairwise fun a b => a.at_ ≠ b.at_) (h : atS (sortS T) s.at_ = none) : stepS s ks T = if farS s = true then ⟨[], [], 181⟩ else if T.length = 256 then ⟨[], [], 3⟩ else ⟨T ++ [s], ks, 0⟩ := by
  unfold stepS
  have e := find_at (T := sortS T) (a := s.at_)
  rw [h] at e
  have e2 := find_perm (sortS_perm T).symm hd s.at_
  rw [e2, e]
  rfl

/-- a block of a type of its own stays where a row grows -/
theorem Blk.row {w w' : World} {B g z n : Nat} {T T' : TypeId} {c : Array Value} {v : Value} {xs : List Value} (h : Blk w g T c) (ho : w.ownsRow B T' z v n xs) (hT : T ≠ T') (hg : w.grownBy w' v.ownBlock) : Blk w' g T c :=
  h.kept hg (fun e => by
    rcases own_block ho with e1 | ⟨g', cur, e1, -, e2⟩
    · rw [e1] at e; cases e
    · rw [e1] at e
      injection e with e
      subst e
      have h2 : w.heap[g]? = _ := h
      rw [h2] at e2
      injection e2 with e2
      injection e2 with _ e2
      exact hT e2)

/-- append of a site; a site that lies apart stays, and lies apart still -/
theorem tpush_far {ops : Array Oper} {rest : List Oper} {o : Oper} {a : Act} {Q : Exit → Act → World → Prop} {t T : TypeId} {by_ : Nat} (he : Elem3 t T by_) (w : World) (hgd : o.guard = none) (s x : Operand)
    (ho : o.op = .call { callee := .builtin .append, args := #[s, x], argTypes := #[t, t] }) (B : Nat) (v : Value) (L : List V3) (hs : a.eval s = v) (hown : TOwn T w B v L)
    (ad : Addr) (c : Nat) (q : V3) (hq : one3 q) (hx : a.eval x = .slice (some ad) 1 c) (hnews : ∀ j u, (l3 q)[j]? = some u → w.cell? (ad.add j) = some u)
    (hlen : L.length ≤ 1048576) (hby : by_ ≤ 100) (hB : B ≤ w.heap.size) (gs : Nat) (cs : Array Value) (hG : Blk w gs T cs) (h3 : cs.size = 3) (hne : v.ownBlock ≠ some gs) (hnil : L.length = 0 → v = .slice none 0 0)
    (h : ∀ v' w', TOwn T w' B v' (L ++ [q]) → w.grownBy w' v.ownBlock → (∀ w0, Below B w0 w → Below B w0 w') → Blk w' gs T cs → v'.ownBlock ≠ some gs → wpList Tryz.prog ops Q rest (a.put o.dst v') w') :
    wpList Tryz.prog ops Q (o :: rest) a w := by
  by_cases h0 : L.length = 0
  · have hv := hnil h0
    obtain rfl : L = [] := List.eq_nil_of_length_eq_zero h0
    subst hv
    refine tpush he w hgd s x ho w.heap.size _ [] hs (TOwn.nil _ _ _) ad c q hq hx hnews (by decide) hby (Nat.le_refl _) ?_
    intro v' w' hT hg hb
    refine h v' w' (hT.lower hB) hg (fun w0 h1 => h1.grown hg hB fun k hk => by cases hk) (hG.kept hg (fun e => by cases e)) (fun e => ?_)
    have := (World.ownsRow.lt hT gs e).1
    have := hG.lt
    omega
  · refine tpush he w hgd s x ho B v L hs hown ad c q hq hx hnews hlen hby hB ?_
    intro v' w' hT hg hb
    have hG' := hG.kept hg (fun e => hne e.symm)
    refine h v' w' hT hg hb hG' (fun e => ?_)
    rcases hT.2 with ⟨e1, _⟩ | ⟨g, cap, cur, e1, e2, e3, e4, e5, e6, _⟩
    · rw [e1] at e; cases e
    · rw [e1] at e
      have e : g = gs := by injection e
      subst e
      have h2 : w'.heap[g]? = _ := hG'
      rw [h2] at e3
      injection e3 with e3
      injection e3 with e3 _
      subst e3
      rw [List.length_append, List.length_singleton] at e4
      omega

end Go.Proofs.YtckpgpgmaccepaaGreat

/- switchyardref08.Merge. -/
namespace Go.Proofs.YtckpgpgmaccepaaGreat
open Go.RowKit Go.Maps Go.WideMaps

theorem RMt.cells {w0 w : World} {SV : List Value} {v6 v11 : Value} {A : List Si} {ks : List ByteArray} {g n c y : Nat} {t : Si} (h : RMt w0 w SV v6 (.slice (some ⟨g, 0, none⟩) n c) v11 A ks) (ht : A[y]? = some t) :
    w.cell? ⟨g, y * 3, none⟩ = some (.int .i64 t.key) ∧ w.cell? ⟨g, y * 3 + 1, none⟩ = some (.int .i64 t.at_) ∧ w.cell? ⟨g, y * 3 + 2, none⟩ = some (.int .i64 t.to_) := by
  obtain ⟨hy, rfl⟩ := List.getElem?_eq_some_iff.1 ht
  obtain ⟨b, o, e, hc⟩ := h.orow.at3 (by omega)
  injection e with e
  injection e with e1 e2 _
  subst e1 e2
  have := hc y hy
  simpa using this
theorem six14 {w w' : World} {gs bb o : Nat} {k a t tk ta tt : Int} (hS : Blk w' gs 34 #[.int .i64 k, .int .i64 a, .int .i64 t]) (hb : Below w.drew.heap.size w.drew w') (d0 : w.cell? ⟨bb, o, none⟩ = some (.int .i64 tk)) (d1 : w.cell? ⟨bb, o + 1, none⟩ = some (.int .i64 ta)) (d2 : w.cell? ⟨bb, o + 2, none⟩ = some (.int .i64 tt)) :
    w'.cell? ⟨gs, 0, none⟩ = some (.int .i64 k) ∧ w'.cell? ⟨gs, 1, none⟩ = some (.int .i64 a) ∧ w'.cell? ⟨gs, 2, none⟩ = some (.int .i64 t) ∧ w'.cell? ⟨bb, o, none⟩ = some (.int .i64 tk) ∧ w'.cell? ⟨bb, o + 1, none⟩ = some (.int .i64 ta) ∧ w'.cell? ⟨bb, o + 2, none⟩ = some (.int .i64 tt) :=
  ⟨hS.cell 0, hS.cell 1, hS.cell 2, (hb.cell (p := ⟨bb, o, none⟩) (cell_lt d0)).trans d0, (hb.cell (p := ⟨bb, o + 1, none⟩) (cell_lt d1)).trans d1, (hb.cell (p := ⟨bb, o + 2, none⟩) (cell_lt d2)).trans d2⟩

set_option maxRecDepth 20000 in
set_option maxHeartbeats 40000000 in
theorem rmerge_refused (p : Option Addr) (n c : Nat) (xs : List Ob) (w : World) (hn : xs.length = n) (hn63 : n ≤ 9223372036854775807) (hx : Units w p xs) (he : (tabL xs).e ≠ 0) : Calls Tryz.prog 8 #[.slice p n c] w (MrgIs xs w) := by
  have hT := refTable_any p n c xs w hn hn63 hx
  have HM : Hid (mergeL xs = ⟨[], [], (tabL xs).e, (tabL xs).u⟩) := if_pos he
  clear hx hn
  unfold TabIs at hT
  generalize (tabL xs).e = te at *
  generalize (tabL xs).u = tu at *
  have hd : decide (te = 0) = false := decide_eq_false he
  go_enter Tryz.func8, Tryz.ntmps8
  go_wp2_with (go_at_call 34; refine hT.mono ?_; rintro e w1 ⟨v2, v3, rfl, -, -, hb1⟩; have HB1 := Hid.in hb1; clear hb1 hT)
  exact bodyPost_ret (v := .tuple #[.slice none 0 0, .slice none 0 0, .int .i64 te, .int .i64 (tu : Nat)]) (by simp [results, Tryz.results8, go_sem]) rfl (mrgIs_err HM.out HB1.out)

set_option maxRecDepth 20000 in
set_option maxHeartbeats 40000000 in
theorem rmerge_good (p : Option Addr) (n c : Nat) (xs : List Ob) (w : World) (hn : xs.length = n) (hn63 : n ≤ 9223372036854775807) (hx : Units w p xs) (he : (tabL xs).e = 0) : Calls Tryz.prog 8 #[.slice p n c] w (MrgIs xs w) := by
  have hT := refTable_any p n c xs w hn hn63 hx
  obtain ⟨h16, ht, hok, hend, hgn⟩ := tab_good he
  have HN := Hid.in hn
  have HX := Hid.in hx
  have HE := Hid.in he
  have HU0 : Hid (mergeL xs = if (unitsS xs 0 [] [] xs).e ≠ 0 then unitsS xs 0 [] [] xs else ⟨sortS (unitsS xs 0 [] [] xs).si, (unitsS xs 0 [] [] xs).ks, 0, 0⟩) := if_neg (by simpa using he)
  have h16n : n ≤ 16 := by omega
  unfold TabIs at hT
  rw [ht] at hT
  dsimp only at hT
  have HOK := Hid.in hok
  clear hx hn hok hend hgn ht he hn63 h16
  go_enter Tryz.func8, Tryz.ntmps8
  go_wp2_with (go_at_call 34; refine Hid.out ?_)
  refine Lib.hid ?_
  refine hT.mono ?_
  rintro e w1 ⟨v2, v3, rfl, ho2, ho3, hb1⟩
  obtain ⟨p2, d2, hv2, -, -, -⟩ := ho2.slice
  have hl2 : (startsV (begs 0 xs)).length = n := by unfold startsV; rw [List.length_map, begs_len]; exact HN.out
  rw [hl2] at hv2
  subst hv2
  obtain ⟨p3, d3, hv3, -, -, -⟩ := ho3.sl
  subst hv3
  have HRM : Hid (RMt w w1 (startsV (begs 0 xs)) (.slice p2 n d2) (.slice none 0 0) (.slice none 0 0) [] []) := ⟨ho2, TOwn.nil _ _ _, GOwnV.nil _ _ _, hb1⟩
  have HL2 := Hid.in hl2
  clear ho2 ho3 hb1 hT hl2
  go_wp2_with fail
  go_loopw [10, 11, 12] (fun v10 v11 vi wr => ∃ (i : Nat) (T : List Si) (ks : List ByteArray) (A : List Si) (p10 p11 : Option Addr) (c10 c11 : Nat), v10 = .slice p10 A.length c10 ∧ v11 = .slice p11 ks.length c11 ∧ vi = .int .i64 i ∧ i ≤ n ∧ A = sortS T ∧ (A.length = 0 → p10 = none ∧ c10 = 0) ∧ GoodS T ks ∧ RMt w wr (startsV (begs 0 xs)) (.slice p2 n d2) (.slice p10 A.length c10) (.slice p11 ks.length c11) A ks ∧ unitsS xs 0 [] [] xs = unitsS xs i T ks (xs.drop i)) (fun _ _ vi _ => n - (intOf vi).toNat)
  case atStart => exact ⟨0, [], [], [], none, none, 0, 0, rfl, rfl, rfl, Nat.zero_le _, rfl, fun _ => ⟨rfl, rfl⟩, GoodS.nil, HRM.out, by rw [List.drop_zero]⟩
  case round =>
    obtain ⟨i, T, ks, A, p10, p11, c10, c11, rfl, rfl, rfl, hi, hA, hZ, hG, hM, hU⟩ := hrel
    have HA := Hid.in hA
    have HZ := Hid.in hZ
    clear hZ
    have HG := Hid.in hG
    have HM := Hid.in hM
    have HU := Hid.in hU
    clear hA hG hM hU HRM
    by_cases hlt : i < n
    · have hiX : i < xs.length := by rw [HN.out]; exact hlt
      obtain ⟨b, o, rfl, hcc⟩ := (HX.out) (by omega)
      obtain ⟨pb, ps, pf, pm, cb, cs, cf, cm, ⟨k0, k1, k2, k3⟩, hI⟩ := hcc i hiX
      have HIW : Hid (∀ W, Below w.heap.size w W → Row3 W pm (xs[i].mk_.map mkV)) := fun W hW => hI.rm.below hW
      have HK3 := Hid.in (fun W (hW : Below w.heap.size w W) => (hW.cell (cell_lt k3)).trans k3)
      have hmn := hI.km
      unfold maxLen at hmn
      have hokx := HOK.out _ (List.getElem_mem hiX)
      have HMK : Hid (∀ x ∈ xs[i].mk_, x.key.size ≤ 16 ∧ x.to_.size ≤ 16 ∧ 0 ≤ x.at_ ∧ x.at_ ≤ 65536) := fun x hx => ok_mk hokx hx
      have HSS : Hid ((tabL xs).ss.getD i 0 = nextS (endAt 0 xs i)) := ss_at HE.out hiX
      have HBS : Hid (nextS (endAt 0 xs i) ≤ 65536) := by
        have h1 := (tab_good HE.out).2.2.2.1 (i + 1) hiX
        rw [endAt_succ xs 0 i hiX] at h1
        have h2 : nextS (endAt 0 xs i) ≤ 65536 := by omega
        exact h2
      have HUS := Hid.in (HU.out.trans (unitsS_step (T := T) (ks := ks) hiX))
      rw [HSS.out] at HUS
      have HSV : Hid ((startsV (begs 0 xs))[i]? = some (.int .i64 (nextS (endAt 0 xs i) : Nat))) := by
        have h : (startsV (begs 0 xs))[i]? = some (.int .i64 (nextS (endAt 0 xs i) : Nat)) := by
          unfold startsV
          rw [List.getElem?_map, List.getElem?_eq_getElem (by rw [begs_len]; exact hiX), begs_at xs 0 i hiX]
          rfl
        exact h
      obtain ⟨b2, o2, rfl⟩ := HM.out.startSome (by rw [HL2.out]; omega)
      obtain ⟨bn, hbn⟩ : ∃ bn, nextS (endAt 0 xs i) = bn := ⟨_, rfl⟩
      rw [hbn] at HBS HUS HSV
      clear hcc hI k0 k1 k2 k3 hokx HSS hbn
      go_wp2_with fail
      go_loopw [10, 11, 13] (fun v10 v11 vj ws => ∃ (j : Nat) (T' : List Si) (ks' : List ByteArray) (A' : List Si) (p10 p11 : Option Addr) (c10 c11 : Nat), v10 = .slice p10 A'.length c10 ∧ v11 = .slice p11 ks'.length c11 ∧ vj = .int .i64 j ∧ j ≤ xs[i].mk_.length ∧ A' = sortS T' ∧ (A'.length = 0 → p10 = none ∧ c10 = 0) ∧ GoodS T' ks' ∧ RMt w ws (startsV (begs 0 xs)) (.slice (some ⟨b2, o2, none⟩) n d2) (.slice p10 A'.length c10) (.slice p11 ks'.length c11) A' ks' ∧ marksS (resL xs i) bn T ks xs[i].mk_ = marksS (resL xs i) bn T' ks' (xs[i].mk_.drop j)) (fun _ _ vj _ => xs[i].mk_.length - (intOf vj).toNat)
      case atStart => exact ⟨0, T, ks, A, p10, p11, c10, c11, rfl, rfl, rfl, Nat.zero_le _, HA.out, HZ.out, HG.out, HM.out, by rw [List.drop_zero]⟩
      case round =>
        obtain ⟨j, T', ks', A', p10', p11', c10', c11', rfl, rfl, rfl, hj, hA', hZ', hG', hM', hE'⟩ := hrel
        clear HA HG HM HZ
        have HZ := Hid.in hZ'
        clear hZ'
        have HA := Hid.in hA'
        have HG := Hid.in hG'
        have HM := Hid.in hM'
        have HEJ := Hid.in hE'
        have k3 := HK3.out _ hM'.bel
        clear hA' hG' hM' hE'
        by_cases hlj : j < xs[i].mk_.length
        · obtain ⟨b3, o3, rfl, hc3⟩ := (HIW.out _ HM.out.bel) (by rw [List.length_map]; omega)
          obtain ⟨e0, e1, e2⟩ := cells3 hc3 j (by rw [List.length_map]; exact hlj)
          simp only [List.getElem_map, mkV] at e0 e1 e2
          clear hc3
          obtain ⟨hk1, hk2, hk3⟩ := HMK.out _ (List.getElem_mem hlj)
          have HSTP := Hid.in (HEJ.out.trans (marksS_step (res := resL xs i) (b := bn) (T := T') (ks := ks') hlj))
          obtain ⟨m0, m1, m2, hx⟩ : ∃ m0 m1 m2, xs[i].mk_[j] = ⟨m0, m1, m2⟩ := ⟨_, _, _, rfl⟩
          rw [hx] at e0 e1 e2 hk1 hk2 hk3 HSTP
          clear hx
          dsimp only at e0 e1 e2 hk1 hk2 hk3
          have HER : Hid (∀ e W, e ≠ 0 → stepM (resL xs i) bn T' ks' ⟨m0, m1, m2⟩ = ⟨[], [], e⟩ → Below w.heap.size w W → MrgIs xs w (.returned (.tuple #[.slice none 0 0, .slice none 0 0, .int .i64 e, .int .i64 (i : Nat)])) W) := fun e W h1 h2 hb => by
            have h3 : mergeL xs = ⟨[], [], (stepM (resL xs i) bn T' ks' ⟨m0, m1, m2⟩).e, i⟩ := merge_err HU0.out HUS.out (HSTP.out.trans (if_pos (by rw [h2]; exact h1))) (by rw [h2]; exact h1)
            rw [h2] at h3
            exact mrgIs_err h3 hb
          have HST : Hid ((stepM (resL xs i) bn T' ks' ⟨m0, m1, m2⟩).e = 0 → marksS (resL xs i) bn T ks xs[i].mk_ = marksS (resL xs i) bn (stepM (resL xs i) bn T' ks' ⟨m0, m1, m2⟩).si (stepM (resL xs i) bn T' ks' ⟨m0, m1, m2⟩).ks (xs[i].mk_.drop (j + 1)) ∧ GoodS (stepM (resL xs i) bn T' ks' ⟨m0, m1, m2⟩).si (stepM (resL xs i) bn T' ks' ⟨m0, m1, m2⟩).ks) := fun h0 => by
            refine ⟨HSTP.out.trans (if_neg (fun h => h h0)), ?_⟩
            obtain ⟨h1, h2, -⟩ := stepM_good HG.out h0
            rw [h1]; exact h2
          have HW8 := Hid.in (new_alloc wr (.cells #[.int .i64 m0, .string m1, .string m2] 58))
          have HM8 := Hid.in (HM.out.below HW8.out)
          have HX8 := Hid.in (Blk.new wr 58 #[.int .i64 m0, .string m1, .string m2])
          go_upto_region 13 with fail
          generalize wr.alloc (.cells #[.int .i64 m0, .string m1, .string m2] 58) = w8 at *
          generalize wr.heap.size = g8 at *
          clear e0 e1 e2 HM HEJ HW8 HSTP k3
          have x1 : w8.cell? ⟨g8, 1, none⟩ = some (.string m1) := HX8.out.cell 1
          have hkl := HG.out.kl
          have hnum := refNumber_any p11' c11' ks' m1 w8 (by omega) HM8.out.krow
          go_upto_if 61 with (go_at_call 35; refine hnum.mono ?_; rintro e w9 ⟨rfl, rfl⟩)
          clear hnum
          go_cut [11] (fun v wx => ∃ (p11 : Option Addr) (c11 : Nat), v = .slice p11 (addK ks' m1).length c11 ∧ (addK ks' m1).length ≤ 64 ∧ Blk wx g8 58 #[.int .i64 m0, .string m1, .string m2] ∧ RMt w wx (startsV (begs 0 xs)) (.slice (some ⟨b2, o2, none⟩) n d2) (.slice p10' A'.length c10') (.slice p11 (addK ks' m1).length c11) A' (addK ks' m1))
          case first =>
            cases hin : inB m1 ks' with
            | true =>
              have HE2 : Hid (addK ks' m1 = ks') := if_pos hin
              have hge : ¬ numI ks' m1 < 0 := by unfold numI; rw [if_pos hin]; omega
              generalize numI ks' m1 = nn at *
              clear hin
              go_wp2_with fail
              go_meet
              case rel => rw [HE2.out]; exact ⟨p11', c11', rfl, hkl, HX8.out, HM8.out⟩
            | false =>
              have hneg : numI ks' m1 = -1 := by unfold numI; rw [if_neg (by rw [hin]; decide)]
              rw [hneg]
              by_cases h64 : ks'.length = 64
              · have HSL := Hid.in (step_long (res := resL xs i) (b := bn) (T := T') (ks := ks') (m := ⟨m0, m1, m2⟩) hin h64)
                clear hneg hin
                go_wp2_with fail
                exact bodyPost_ret (v := .tuple #[.slice none 0 0, .slice none 0 0, .int .i64 3, .int .i64 (i : Nat)]) (by simp [results, Tryz.results8, go_sem]) rfl (HER.out 3 _ (by decide) HSL.out HM8.out.bel)
              · have HE2 : Hid (addK ks' m1 = ks' ++ [m1]) := if_neg (by rw [hin]; decide)
                have hsz := HM8.out.bel.size
                clear hneg hin
                go_wp2_with (at_builtin; refine Hid.out ?_)
                refine Lib.hid ?_
                refine gpush Tryz.elemS _ rfl _ _ rfl w.heap.size _ (ks'.map Value.string) rfl (HM8.out.keys.alloc _) ⟨_, 0, none⟩ 1 1 [.string m1] rfl rfl (cell_one_new _ _ _) (by simp [Value.oneCell']) (by rw [List.length_map]; omega) (by rw [List.length_map]; omega) (by simp; omega) ?_
                intro v6 w6 hT6 hg6 hb6 _
                have HB6 := Hid.in (hb6 w (below_alloc HM8.out.bel _))
                have hT7 : GOwnV 9 w6 w.heap.size v6 ((addK ks' m1).map Value.string) := by rw [HE2.out, List.map_append]; exact hT6
                have HM9 := Hid.in ((HM8.out.below (new_alloc _ _)).keyed hT7 hg6 HB6.out)
                have HX9 := Hid.in ((HX8.out.grow (new_alloc _ _)).row (HM8.out.keys.alloc _) (by decide) hg6)
                obtain ⟨p6, c6, hv6, -, -, -⟩ := hT7.slice
                rw [List.length_map] at hv6
                subst hv6
                have HL6 : Hid ((addK ks' m1).length ≤ 64) := by
                  have h : (addK ks' m1).length ≤ 64 := by rw [HE2.out]; simp; omega
                  exact h
                clear hT6 hg6 hb6 hT7 HE2
                go_wp2_with fail
                go_meet
                case rel => exact ⟨p6, c6, rfl, HL6.out, HX9.out, HM9.out⟩
          case rest =>
            obtain ⟨p11, c11, rfl, hl64, hX9, hM9⟩ := hcut
            have HX9 := Hid.in hX9
            have HM9 := Hid.in hM9
            clear HX8 HM8 hX9 hM9 x1
            have x2 : wc.cell? ⟨g8, 2, none⟩ = some (.string m2) := HX9.out.cell 2
            have HSR := Hid.in (step_rest (res := resL xs i) (b := bn) (T := T') (ks := ks') (m := ⟨m0, m1, m2⟩) hl64)
            have hres := refResolve_any (some ⟨b, o, none⟩) n c xs i m2 wc HN.out (by omega) (HX.out.below HM9.out.bel)
            have HRI := Hid.in (fun h => res_in HE.out (u := (i : Int)) (s := m2) h)
            dsimp only at HSR
            obtain ⟨r1, r2, hrr⟩ : ∃ r1 r2, resL xs i m2 = (r1, r2) := ⟨_, _, rfl⟩
            rw [hrr] at hres HSR HRI
            dsimp only at hres HSR HRI
            clear hrr
            obtain ⟨ki, hki⟩ : ∃ ki, idxK (addK ks' m1) m1 = ki := ⟨_, rfl⟩
            have HNI := Hid.in (numI_add ks' m1)
            have HKI := Hid.in (idxK_lt (addK_mem ks' m1))
            rw [hki] at HSR HNI HKI
            clear hki
            obtain ⟨ks2, hks2⟩ : ∃ ks2, addK ks' m1 = ks2 := ⟨_, rfl⟩
            rw [hks2] at HSR HNI HKI HM9 hl64 ⊢
            clear hks2
            go_wp2_with (go_at_call 36; refine Hid.out ?_)
            refine Lib.hid ?_
            refine hres.mono ?_
            rintro e w10 ⟨rfl, hb10⟩
            have HM10 := Hid.in (HM9.out.below hb10)
            have HX10 := Hid.in (HX9.out.grow hb10)
            clear hb10 hres x2 HM9 HX9
            by_cases hr2 : r2 = 0
            · subst hr2
              have hr1 := HRI.out rfl
              have HSM : Hid (stepM (resL xs i) bn T' ks' ⟨m0, m1, m2⟩ = stepS ⟨(ki : Nat), (bn : Int) + m0, r1⟩ ks2 T') := HSR.out.trans (if_neg (fun h => h rfl))
              clear HRI HSR
              have hki64 : ki < 64 := Nat.lt_of_lt_of_le HKI.out hl64
              have hbs := HBS.out
              have hnum := fun W (h : RMt w W (startsV (begs 0 xs)) (.slice (some ⟨b2, o2, none⟩) n d2) (.slice p10' A'.length c10') (.slice p11 ks2.length c11) A' ks2) => refNumber_any p11 c11 ks2 m1 W (by omega) h.krow
              rw [HNI.out] at hnum
              have HZA := Hid.in (new_alloc w10 (.cells #[.int .i64 0, .int .i64 0, .int .i64 0] 34))
              have HMA : Hid (RMt w (w10.alloc (.cells #[.int .i64 0, .int .i64 0, .int .i64 0] 34)).drew (startsV (begs 0 xs)) (.slice (some ⟨b2, o2, none⟩) n d2) (.slice p10' A'.length c10') (.slice p11 ks2.length c11) A' ks2) := (HM10.out.below HZA.out).drewN 1
              have HMB : Hid (RMt w w10.drew (startsV (begs 0 xs)) (.slice (some ⟨b2, o2, none⟩) n d2) (.slice p10' A'.length c10') (.slice p11 ks2.length c11) A' ks2) := HM10.out.drewN 1
              have x0 : w10.cell? ⟨g8, 0, none⟩ = some (.int .i64 m0) := HX10.out.cell 0
              have x1 : w10.cell? ⟨g8, 1, none⟩ = some (.string m1) := HX10.out.cell 1
              have y0 : w10.cell? ⟨b2, o2 + i, none⟩ = some (.int .i64 (bn : Nat)) := (HM10.out.start (by rw [HL2.out]; exact hlt)).trans HSV.out
              have x0' : (w10.alloc (.cells #[.int .i64 0, .int .i64 0, .int .i64 0] 34)).cell? ⟨g8, 0, none⟩ = some (.int .i64 m0) := (HX10.out.grow HZA.out).cell 0
              have x1' : (w10.alloc (.cells #[.int .i64 0, .int .i64 0, .int .i64 0] 34)).cell? ⟨g8, 1, none⟩ = some (.string m1) := (HX10.out.grow HZA.out).cell 1
              have y0' : (w10.alloc (.cells #[.int .i64 0, .int .i64 0, .int .i64 0] 34)).cell? ⟨b2, o2 + i, none⟩ = some (.int .i64 (bn : Nat)) := ((HM10.out.below HZA.out).start (by rw [HL2.out]; exact hlt)).trans HSV.out
              have hwr : IntKind.i64.wrap ((bn : Int) + m0) = (bn : Int) + m0 := by rw [IntKind.wrap_i64]; omega
              go_upto_region 20 with fail
              go_cut [17] (fun v wx => ∃ gs : Nat, v = .pointer (some ⟨gs, 0, none⟩) ∧ Blk wx gs 34 #[.int .i64 ki, .int .i64 ((bn : Int) + m0), .int .i64 r1] ∧ (Value.slice p10' A'.length c10').ownBlock ≠ some gs ∧ RMt w wx (startsV (begs 0 xs)) (.slice (some ⟨b2, o2, none⟩) n d2) (.slice p10' A'.length c10') (.slice p11 ks2.length c11) A' ks2)
              case first =>
                go_region_held3 (fun w' => w'.cell? ⟨g8, 0, none⟩ = some (.int .i64 m0) ∧ w'.cell? ⟨g8, 1, none⟩ = some (.string m1) ∧ w'.cell? ⟨b2, o2 + i, none⟩ = some (.int .i64 (bn : Nat))) (first | go_keep | exact ⟨x0', x1', y0'⟩ | exact ⟨x0, x1, y0⟩) (first | (go_at_call 35; first | ((with_reducible refine (hnum _ HMB.out).mono ?_); rintro e w11 ⟨rfl, hw11⟩; subst hw11) | ((with_reducible refine (hnum _ HMA.out).mono ?_); rintro e w11 ⟨rfl, hw11⟩; subst hw11)))
                all_goals
                  go_wp2_with fail
                  go_meet
                  case rel => exact ⟨w10.heap.size, rfl, Blk.new _ _ _, fun e => Nat.lt_irrefl _ (World.ownsRow.lt HM10.out.out _ e).2, (HM10.out.drewN 1).below (new_alloc _ _)⟩
              case rest =>
                obtain ⟨gs, rfl, hS, hne, hM⟩ := hcut
                have HS := Hid.in hS
                have HNE := Hid.in hne
                have HM11 := Hid.in hM
                clear hS hM hne HM10 HX10 x0 x1 y0 x0' x1' y0' HZA HMA HMB hwr hnum
                have s0 : wc.cell? ⟨gs, 0, none⟩ = some (.int .i64 ki) := HS.out.cell 0
                have s1 : wc.cell? ⟨gs, 1, none⟩ = some (.int .i64 ((bn : Int) + m0)) := HS.out.cell 1
                have s2 : wc.cell? ⟨gs, 2, none⟩ = some (.int .i64 r1) := HS.out.cell 2
                obtain ⟨sa, hsa⟩ : ∃ sa, (bn : Int) + m0 = sa := ⟨_, rfl⟩
                have hsab : 0 ≤ sa ∧ sa ≤ 200000 := by omega
                rw [hsa] at s1 HS HSM
                clear hsa
                have HTA : Hid (A'.length = T'.length) := by
                  have h : A'.length = T'.length := by rw [HA.out]; exact (sortS_perm T').length_eq
                  exact h
                have hfew : A'.length ≤ 256 := by rw [HTA.out]; exact HG.out.few
                have hat := refAt_any p10' A'.length c10' A' sa wc rfl (by omega) HM11.out.orow
                cases hak : atS A' sa with
                | some k =>
                  rw [hak] at hat
                  dsimp only [atR] at hat
                  have hkl : k < A'.length ∧ A'[k]?.map Si.at_ = some sa := by
                    unfold atS at hak
                    rw [List.findIdx?_eq_some_iff_getElem] at hak
                    obtain ⟨h1, h2, -⟩ := hak
                    exact ⟨h1, by rw [List.getElem?_eq_getElem h1]; simpa using h2⟩
                  obtain ⟨hkl, hka⟩ := hkl
                  obtain ⟨bb, oo, rfl, hcc⟩ := HM11.out.orow.at3 (by omega)
                  obtain ⟨d0, d1, d2'⟩ := hcc k hkl
                  rw [List.getElem?_eq_getElem hkl] at hka
                  have HFO := Hid.in (stepS_found (s := ⟨(ki : Nat), sa, r1⟩) (t := A'[k]) (ks := ks2) HG.out.dis (by rw [← HA.out]; exact hak) (by rw [← HA.out]; exact List.getElem?_eq_getElem hkl))
                  generalize A'[k] = t at *
                  obtain ⟨tk, ta, tt⟩ := t
                  simp only [Option.map_some, Option.some.injEq] at hka d0 d1 d2'
                  subst hka
                  clear hcc hak
                  by_cases ht0 : tk = (ki : Nat)
                  · subst ht0
                    by_cases ht1 : tt = r1
                    · subst ht1
                      have HEN := Hid.in (HSM.out.trans (HFO.out.trans (if_pos rfl)))
                      have HGO := HST.out (by rw [HEN.out])
                      rw [HEN.out] at HGO
                      have HGO := Hid.in HGO
                      go_upto_region 23 with (go_at_call 19; refine hat.mono ?_; rintro e w12 ⟨rfl, rfl⟩)
                      go_quiet (fail)
                      go_wp2_with fail
                      go_roundw
                      case rel => exact ⟨j + 1, T', ks2, A', _, p11, c10', c11, rfl, rfl, by go_num, by omega, HA.out, HZ.out, HGO.out.2, HM11.out.drewN nq, HGO.out.1⟩
                      case measure => simp [intOf]; omega
                    · have HEN := Hid.in (HSM.out.trans (HFO.out.trans (if_neg (fun e => ht1 (by injection e)))))
                      go_upto_region 23 with (go_at_call 19; refine hat.mono ?_; rintro e w12 ⟨rfl, rfl⟩)
                      go_quiet (fail)
                      go_wp2_with fail
                      exact bodyPost_ret (v := .tuple #[.slice none 0 0, .slice none 0 0, .int .i64 180, .int .i64 (i : Nat)]) (by simp [results, Tryz.results8, go_sem]) rfl (HER.out 180 _ (by decide) HEN.out (below_draws HM11.out.bel nq))
                  · have HEN := Hid.in (HSM.out.trans (HFO.out.trans (if_neg (fun e => ht0 (by injection e)))))
                    go_upto_region 23 with (go_at_call 19; refine hat.mono ?_; rintro e w12 ⟨rfl, rfl⟩)
                    go_quiet (fail)
                    go_wp2_with fail
                    exact bodyPost_ret (v := .tuple #[.slice none 0 0, .slice none 0 0, .int .i64 180, .int .i64 (i : Nat)]) (by simp [results, Tryz.results8, go_sem]) rfl (HER.out 180 _ (by decide) HEN.out (below_draws HM11.out.bel nq))
                | none =>
                  rw [hak] at hat
                  dsimp only [atR] at hat
                  have HNW := Hid.in (stepS_new (s := ⟨(ki : Nat), sa, r1⟩) (ks := ks2) HG.out.dis (by rw [← HA.out]; exact hak))
                  have hfar := far_any ⟨(ki : Nat), sa, r1⟩ wc ⟨by show _ ≤ sa; omega, by show sa ≤ _; omega, by show _ ≤ r1; omega, by show r1 ≤ _; omega⟩
                  obtain ⟨fb, hfb⟩ : ∃ fb, farS ⟨(ki : Nat), sa, r1⟩ = fb := ⟨_, rfl⟩
                  rw [hfb] at hfar HNW
                  have HFR := Hid.in hfar
                  clear hak hfb hfar
                  go_wp2_with (go_at_call 19; refine Hid.out ?_)
                  refine Lib.hid ?_
                  refine hat.mono ?_
                  rintro e w12 ⟨rfl, hw12⟩
                  subst hw12
                  clear hat
                  go_wp2_with (go_at_call 37; refine Hid.out ?_)
                  refine Lib.hid ?_
                  refine HFR.out.mono ?_
                  rintro e w13 ⟨rfl, hb13⟩
                  have HM13 := Hid.in (HM11.out.below hb13)
                  have HS13 := Hid.in (HS.out.grow hb13)
                  clear hb13 HFR HM11 HS s0 s1 s2
                  cases fb with
                  | true =>
                    have HEN := Hid.in (HSM.out.trans (HNW.out.trans (if_pos rfl)))
                    clear HNW HSM
                    go_wp2_with fail
                    exact bodyPost_ret (v := .tuple #[.slice none 0 0, .slice none 0 0, .int .i64 181, .int .i64 (i : Nat)]) (by simp [results, Tryz.results8, go_sem]) rfl (HER.out 181 _ (by decide) HEN.out HM13.out.bel)
                  | false =>
                    have HNX := Hid.in (HSM.out.trans (HNW.out.trans (if_neg (by decide))))
                    clear HNW HSM
                    by_cases h256 : A'.length = 256
                    · have HEN := Hid.in (HNX.out.trans (if_pos (by rw [← HTA.out]; exact h256)))
                      go_wp2_with fail
                      exact bodyPost_ret (v := .tuple #[.slice none 0 0, .slice none 0 0, .int .i64 3, .int .i64 (i : Nat)]) (by simp [results, Tryz.results8, go_sem]) rfl (HER.out 3 _ (by decide) HEN.out HM13.out.bel)
                    · have HEN := Hid.in (HNX.out.trans (if_neg (by rw [← HTA.out]; exact h256)))
                      have HGO := HST.out (by rw [HEN.out])
                      rw [HEN.out] at HGO
                      have HGO := Hid.in HGO
                      clear HNX HEN
                      go_upto_block 4 with fail
                      have hA256 : A'.length < 256 := by omega
                      have HPS := Hid.in (posS_sides (s := ⟨(ki : Nat), sa, r1⟩) (L := A') (by rw [HA.out]; exact sortS_sorted T' HG.out.dis))
                      have HPL := Hid.in (posS_le ⟨(ki : Nat), sa, r1⟩ A')
                      have HIN : Hid ((shL A' ⟨(ki : Nat), sa, r1⟩ (posS ⟨(ki : Nat), sa, r1⟩ A')).set (posS ⟨(ki : Nat), sa, r1⟩ A') ⟨(ki : Nat), sa, r1⟩ = sortS (T' ++ [⟨(ki : Nat), sa, r1⟩])) := by rw [HA.out]; exact shL_ins
                      obtain ⟨ps, hps⟩ : ∃ ps, posS ⟨(ki : Nat), sa, r1⟩ A' = ps := ⟨_, rfl⟩
                      rw [hps] at HPS HPL HIN
                      clear hps
                      go_cut [20] (fun v wx => v = .int .i64 (ps : Nat) ∧ Blk wx gs 34 #[.int .i64 ki, .int .i64 sa, .int .i64 r1] ∧ RMt w wx (startsV (begs 0 xs)) (.slice (some ⟨b2, o2, none⟩) n d2) (.slice p10' A'.length c10') (.slice p11 ks2.length c11) A' ks2)
                      case first =>
                        go_wp2_with fail
                        go_loopw [20] (fun v wx => ∃ a : Nat, v = .int .i64 a ∧ ps ≤ a ∧ a ≤ A'.length ∧ Blk wx gs 34 #[.int .i64 ki, .int .i64 sa, .int .i64 r1] ∧ RMt w wx (startsV (begs 0 xs)) (.slice (some ⟨b2, o2, none⟩) n d2) (.slice p10' A'.length c10') (.slice p11 ks2.length c11) A' ks2) (fun v _ => (intOf v).toNat)
                        case atStart => exact ⟨A'.length, rfl, HPL.out, Nat.le_refl _, HS13.out, HM13.out⟩
                        case round =>
                          obtain ⟨a, rfl, hpa, hal, hS, hM⟩ := hrel
                          have HS := Hid.in hS
                          have HM := Hid.in hM
                          clear hS hM HS13 HM13
                          have s0 : wr.cell? ⟨gs, 0, none⟩ = some (.int .i64 ki) := HS.out.cell 0
                          have s1 : wr.cell? ⟨gs, 1, none⟩ = some (.int .i64 sa) := HS.out.cell 1
                          have s2 : wr.cell? ⟨gs, 2, none⟩ = some (.int .i64 r1) := HS.out.cell 2
                          by_cases ha0 : a = 0
                          · subst ha0
                            go_upto_region 30 with fail
                            go_quiet (fail)
                            go_wp2_with fail
                            go_meet
                            case rel => exact ⟨by rw [show ps = 0 by omega], HS.out, HM.out.drewN nq⟩
                          · obtain ⟨y, hy⟩ : ∃ y, y + 1 = a := ⟨a - 1, by omega⟩
                            have HY := Hid.in hy
                            have hay : (a : Int) - 1 = (y : Int) := by omega
                            have hyl : y < A'.length := by omega
                            have hyz : (y : Int) < (A'.length : Int) := by omega
                            have hy0 : (0 : Int) ≤ (y : Int) := by omega
                            have hyw : IntKind.i64.wrap ((a : Int) - 1) = (y : Int) := by rw [IntKind.wrap_i64]; omega
                            have hga : decide (0 < a) = true := decide_eq_true (by omega)
                            have ha256 : a ≤ 256 := by omega
                            clear hy ha0
                            obtain ⟨bb, oo, rfl, hcc⟩ := HM.out.orow.at3 (by omega)
                            obtain ⟨d0, d1, d2'⟩ := hcc y (by omega)
                            have HLY : Hid (ltS ⟨(ki : Nat), sa, r1⟩ A'[y] = decide (ps ≤ y)) := by
                              have h : ltS ⟨(ki : Nat), sa, r1⟩ A'[y] = decide (ps ≤ y) := by
                                by_cases h : ps ≤ y
                                · rw [HPS.out.2 y (by omega) h, decide_eq_true h]
                                · rw [HPS.out.1 y (by omega) (by omega), decide_eq_false h]
                              exact h
                            have hah := fun W => ahead_any ⟨(ki : Nat), sa, r1⟩ A'[y] W
                            rw [HLY.out] at hah
                            generalize A'[y] = t at *
                            obtain ⟨tk, ta, tt⟩ := t
                            simp only at d0 d1 d2'
                            clear hcc HLY
                            have HM1 : Hid (RMt w wr.drew (startsV (begs 0 xs)) (.slice (some ⟨b2, o2, none⟩) n d2) (.slice (some ⟨bb, oo, none⟩) A'.length c10') (.slice p11 ks2.length c11) A' ks2) := HM.out.drewN 1
                            have HS1 : Hid (Blk wr.drew gs 34 #[.int .i64 ki, .int .i64 sa, .int .i64 r1]) := HS.out
                            simp only [sV] at hah
                            by_cases hpy : ps ≤ y
                            · rw [decide_eq_true hpy] at hah
                              go_upto_region 30 with fail
                              have v0' := fun d os => cell_regrown s0 d os
                              have v1' := fun d os => cell_regrown s1 d os
                              have v2' := fun d os => cell_regrown s2 d os
                              have v3' := fun d os => cell_regrown d0 d os
                              have v4' := fun d os => cell_regrown d1 d os
                              have v5' := fun d os => cell_regrown d2' d os
                              refine wp_region_quiet_below (by kernel_rfl) (by kernel_rfl) ?_
                              iterate 11 (go_big_quiet_step ((exact Calls.regrown_of (hah _))))
                              refine wpQuiet_nil ?_
                              intro _ hw'
                              obtain ⟨⟨dq, osq⟩, hw''⟩ := hw'
                              subst hw''
                              have HB14 := Hid.in (below_regrown wr dq osq)
                              have HM14 := Hid.in (HM.out.below HB14.out)
                              have HS14 := Hid.in (HS.out.grow HB14.out)
                              clear v0' v1' v2' v3' v4' v5' HB14 s0 s1 s2 d0 d1 d2' HM HS HM1 HS1
                              generalize Go.Sort.grow (redrawn wr dq) osq = w14 at *
                              all_goals
                                go_wp2_with fail
                                go_roundw
                                case rel => exact ⟨y, by go_num, hpy, by omega, HS14.out, HM14.out⟩
                                case measure => simp [intOf]; have := HY.out; omega
                            · rw [decide_eq_false hpy] at hah
                              go_upto_region 30 with fail
                              have v0' := fun d os => cell_regrown s0 d os
                              have v1' := fun d os => cell_regrown s1 d os
                              have v2' := fun d os => cell_regrown s2 d os
                              have v3' := fun d os => cell_regrown d0 d os
                              have v4' := fun d os => cell_regrown d1 d os
                              have v5' := fun d os => cell_regrown d2' d os
                              refine wp_region_quiet_below (by kernel_rfl) (by kernel_rfl) ?_
                              iterate 11 (go_big_quiet_step ((exact Calls.regrown_of (hah _))))
                              refine wpQuiet_nil ?_
                              intro _ hw'
                              obtain ⟨⟨dq, osq⟩, hw''⟩ := hw'
                              subst hw''
                              have HB14 := Hid.in (below_regrown wr dq osq)
                              have HM14 := Hid.in (HM.out.below HB14.out)
                              have HS14 := Hid.in (HS.out.grow HB14.out)
                              clear v0' v1' v2' v3' v4' v5' HB14 s0 s1 s2 d0 d1 d2' HM HS HM1 HS1
                              generalize Go.Sort.grow (redrawn wr dq) osq = w14 at *
                              all_goals
                                go_wp2_with fail
                                go_meet
                                case rel => exact ⟨by rw [show ps = a by have := HY.out; omega], HS14.out, HM14.out⟩
                      case rest =>
                        obtain ⟨rfl, hS, hM⟩ := hcut
                        have HS := Hid.in hS
                        have HM := Hid.in hM
                        clear hS hM HS13 HM13
                        have s0 : wc.cell? ⟨gs, 0, none⟩ = some (.int .i64 ki) := HS.out.cell 0
                        have s1 : wc.cell? ⟨gs, 1, none⟩ = some (.int .i64 sa) := HS.out.cell 1
                        have s2 : wc.cell? ⟨gs, 2, none⟩ = some (.int .i64 r1) := HS.out.cell 2
                        have hsz := HM.out.bel.size
                        have HNL : Hid ((A'.map siV).length = 0 → Value.slice p10' A'.length c10' = .slice none 0 0) := fun h0 => by
                          have h1 : A'.length = 0 := by simpa using h0
                          obtain ⟨e1, e2⟩ := HZ.out h1
                          rw [e1, e2, h1]
                        go_wp2_with (at_builtin; refine Hid.out ?_)
                        refine Lib.hid ?_
                        refine tpush_far Tryz.elemSite _ rfl _ _ rfl w.heap.size _ (A'.map siV) rfl (HM.out.out.alloc _) ⟨_, 0, none⟩ 1 (siV ⟨(ki : Nat), sa, r1⟩) ⟨rfl, rfl, rfl⟩ rfl (news3 _ (siV ⟨(ki : Nat), sa, r1⟩) 34) (by rw [List.length_map]; omega) (by decide) (by simp; omega) gs _ (HS.out.grow (new_alloc _ _)) rfl HNE.out HNL.out ?_
                        intro v6 w6 hT6 hg6 hb6 hS6 hne6
                        have hB6 := hb6 w (below_alloc HM.out.bel _)
                        have hT7 : TOwn 34 w6 w.heap.size v6 ((shL A' ⟨(ki : Nat), sa, r1⟩ A'.length).map siV) := by rw [shL_start, List.map_append]; exact hT6
                        have hM6 := (HM.out.below (new_alloc _ _)).pushed hT7 hg6 hB6
                        obtain ⟨p6, c6, hv6, -, -, hp6⟩ := hT7.shape
                        rw [List.length_map, shL_len (Nat.le_refl _)] at hv6
                        obtain ⟨g6, rfl, -⟩ := hp6 (by rw [List.length_map, shL_len (Nat.le_refl _)]; omega)
                        subst hv6
                        have HG6 : Hid (g6 ≠ gs) := fun e => hne6 (by rw [e]; rfl)
                        have HM6 := Hid.in hM6
                        have HS6 := Hid.in hS6
                        clear hT6 hg6 hb6 hS6 hne6 hB6 hT7 hM6 hp6 HM HS s0 s1 s2 HNL HNE
                        go_wp2_with fail
                        go_loopw [21] (fun v wx => ∃ x : Nat, v = .int .i64 x ∧ ps ≤ x ∧ x ≤ A'.length ∧ Blk wx gs 34 #[.int .i64 ki, .int .i64 sa, .int .i64 r1] ∧ RMt w wx (startsV (begs 0 xs)) (.slice (some ⟨b2, o2, none⟩) n d2) (.slice (some ⟨g6, 0, none⟩) (A'.length + 1) c6) (.slice p11 ks2.length c11) (shL A' ⟨(ki : Nat), sa, r1⟩ x) ks2) (fun v _ => (intOf v).toNat)
                        case atStart => exact ⟨A'.length, by go_num, HPL.out, Nat.le_refl _, HS6.out, HM6.out⟩
                        case round =>
                          obtain ⟨x, rfl, hpx, hxl, hS, hM⟩ := hrel
                          have HS := Hid.in hS
                          have HM := Hid.in hM
                          clear hS hM HS6 HM6
                          have HFZ : Hid (∀ q, wr.frozen? ⟨g6, q, none⟩ = false) := fun q => by
                            have h0 : wr.ownsRow w.heap.size 34 3 (.slice (some ⟨g6, 0, none⟩) (A'.length + 1) c6) ((shL A' ⟨(ki : Nat), sa, r1⟩ x).map siV).length _ := HM.out.out
                            rw [List.length_map, shL_len hxl] at h0
                            exact World.ownsRow.frozenAt h0 q
                          by_cases hgo : ps < x
                          · obtain ⟨y, rfl⟩ : ∃ y, x = y + 1 := ⟨x - 1, by omega⟩
                            have hyA : y < A'.length := by omega
                            obtain ⟨d0, d1, d2'⟩ := HM.out.cells (shL_get hyA)
                            obtain ⟨⟨ok0, oa0, ot0⟩, hold⟩ : ∃ t0, (shL A' ⟨(ki : Nat), sa, r1⟩ (y + 1))[y + 1]? = some t0 := ⟨_, List.getElem?_eq_getElem (by rw [shL_len hxl]; omega)⟩
                            obtain ⟨q0, q1, q2⟩ := HM.out.cells hold
                            clear hold
                            have HNX := Hid.in (HM.out.set (x := y + 1) (by rw [shL_len hxl]; omega) A'[y])
                            rw [shL_step hyA] at HNX
                            generalize A'[y] = t at *
                            obtain ⟨tk, ta, tt⟩ := t
                            simp only at d0 d1 d2'
                            have f0 := HFZ.out ((y + 1) * 3)
                            have f1 := HFZ.out ((y + 1) * 3 + 1)
                            have f2 := HFZ.out ((y + 1) * 3 + 2)
                            go_wp2_with fail
                            go_roundw
                            case rel => exact ⟨y, by go_num, by omega, by omega, ((HS.out.other (Ne.symm HG6.out) _ _).other (Ne.symm HG6.out) _ _).other (Ne.symm HG6.out) _ _, HNX.out⟩
                            case measure => simp [intOf]
                          · obtain rfl : x = ps := by omega
                            have s0 : wr.cell? ⟨gs, 0, none⟩ = some (.int .i64 ki) := HS.out.cell 0
                            have s1 : wr.cell? ⟨gs, 1, none⟩ = some (.int .i64 sa) := HS.out.cell 1
                            have s2 : wr.cell? ⟨gs, 2, none⟩ = some (.int .i64 r1) := HS.out.cell 2
                            obtain ⟨⟨ok0, oa0, ot0⟩, hold⟩ : ∃ t0, (shL A' ⟨(ki : Nat), sa, r1⟩ x)[x]? = some t0 := ⟨_, List.getElem?_eq_getElem (by rw [shL_len hxl]; omega)⟩
                            obtain ⟨q0, q1, q2⟩ := HM.out.cells hold
                            clear hold
                            have HNX := Hid.in (HM.out.set (x := x) (by rw [shL_len hxl]; omega) ⟨(ki : Nat), sa, r1⟩)
                            rw [HIN.out] at HNX
                            have HLS : Hid ((sortS (T' ++ [⟨(ki : Nat), sa, r1⟩])).length = A'.length + 1) := by
                              have h : (sortS (T' ++ [⟨(ki : Nat), sa, r1⟩])).length = A'.length + 1 := by rw [(sortS_perm _).length_eq, List.length_append, HTA.out]; rfl
                              exact h
                            have f0 := HFZ.out (x * 3)
                            have f1 := HFZ.out (x * 3 + 1)
                            have f2 := HFZ.out (x * 3 + 2)
                            go_wp2_with fail
                            go_roundw
                            case rel => exact ⟨j + 1, _, ks2, _, some ⟨g6, 0, none⟩, p11, c6, c11, by rw [HLS.out], rfl, by go_num, by omega, rfl, fun h => by rw [HLS.out] at h; omega, HGO.out.2, by rw [HLS.out]; exact HNX.out, HGO.out.1⟩
                            case measure => simp [intOf]; omega
            · have HSE : Hid (stepM (resL xs i) bn T' ks' ⟨m0, m1, m2⟩ = ⟨[], [], r2⟩) := HSR.out.trans (if_pos hr2)
              have hd2 : decide (r2 = 0) = false := decide_eq_false hr2
              go_wp2_with fail
              exact bodyPost_ret (v := .tuple #[.slice none 0 0, .slice none 0 0, .int .i64 r2, .int .i64 (i : Nat)]) (by simp [results, Tryz.results8, go_sem]) rfl (HER.out r2 _ hr2 HSE.out HM10.out.bel)
        · have HEI : Hid (marksS (resL xs i) bn T ks xs[i].mk_ = ⟨T', ks', 0⟩) := by
            have h := HEJ.out
            rw [List.drop_eq_nil_of_le (by omega)] at h
            exact h
          have HUI : Hid (unitsS xs 0 [] [] xs = unitsS xs (i + 1) T' ks' (xs.drop (i + 1))) := by
            have h := HUS.out
            rw [HEI.out] at h
            exact h.trans (if_neg (fun h => h rfl))
          clear HEI HEJ HUS
          go_wp2_with fail
          go_roundw
          case rel => exact ⟨i + 1, T', ks', A', p10', p11', c10', c11', rfl, rfl, by go_num, by omega, HA.out, HZ.out, HG.out, HM.out, HUI.out⟩
          case measure => simp [intOf]; omega
    · have HME : Hid (mergeL xs = ⟨sortS T, ks, 0, 0⟩) := by
        have h := HU.out
        rw [List.drop_eq_nil_of_le (by rw [HN.out]; omega)] at h
        exact merge_end HU0.out h
      go_wp2_with fail
      refine bodyPost_ret (v := .tuple #[.slice p10 A.length c10, .slice p11 ks.length c11, .int .i64 0, .int .i64 0]) (by simp [results, Tryz.results8, go_sem]) rfl ⟨.slice p10 A.length c10, .slice p11 ks.length c11, by rw [HME.out]; rfl, ?_, ?_, HM.out.bel⟩
      · rw [HME.out, ← HA.out]; exact HM.out.out
      · rw [HME.out]; exact HM.out.keys

theorem refMerge_any (p : Option Addr) (n c : Nat) (xs : List Ob) (w : World) (hn : xs.length = n) (hn63 : n ≤ 9223372036854775807) (hx : Units w p xs) : Calls Tryz.prog 8 #[.slice p n c] w (MrgIs xs w) := by
  by_cases he : (tabL xs).e = 0
  · exact rmerge_good p n c xs w hn hn63 hx he
  · exact rmerge_refused p n c xs w hn hn63 hx he

end Go.Proofs.YtckpgpgmaccepaaGreat

/- SitesMerges: what is spoilt, and what is not. -/
namespace Go.Proofs.YtckpgpgmaccepaaGreat
open Go.RowKit Go.Maps Go.WideMaps

theorem own_kept {w w' : World} {B m n : Nat} {T : TypeId} {v : Value} {cs : List Value} {row : Option Nat} (h : w.ownsRow B T m v n cs) (hg : w.grownBy w' row) (hne : ∀ g, v.ownBlock = some g → row ≠ some g) : w'.ownsRow B T m v n cs := by
  obtain ⟨h0, h1⟩ := h
  refine ⟨h0, h1.imp id ?_⟩
  rintro ⟨g, cap, cur, e1, e2, e3, e4⟩
  exact ⟨g, cap, cur, e1, e2, (hg.block g (Array.getElem?_eq_some_iff.1 e3).1 (fun e => hne g (by rw [e1]; rfl) e.symm)).trans e3, e4⟩
theorem own_mid {w w' : World} {A C B m n : Nat} {T : TypeId} {v : Value} {cs : List Value} (h : w.ownsRow B T m v n cs) (hA : A ≤ B) (hC : ∀ g, v.ownBlock = some g → g < C) (hm : ∀ j, A ≤ j → j < C → w'.heap[j]? = w.heap[j]?) : w'.ownsRow B T m v n cs := by
  obtain ⟨h0, h1⟩ := h
  refine ⟨h0, h1.imp id ?_⟩
  rintro ⟨g, cap, cur, e1, e2, e3, e4⟩
  exact ⟨g, cap, cur, e1, e2, (hm g (Nat.le_trans hA e2) (hC g (by rw [e1]; rfl))).trans e3, e4⟩
theorem own_lt {w : World} {B m n : Nat} {T : TypeId} {v : Value} {cs : List Value} (h : w.ownsRow B T m v n cs) : ∀ g, v.ownBlock = some g → B ≤ g ∧ g < w.heap.size := fun g e => World.ownsRow.lt h g e
theorem own_type {w : World} {B B' m m' n n' : Nat} {T T' : TypeId} {v v' : Value} {cs cs' : List Value} (h : w.ownsRow B T m v n cs) (h' : w.ownsRow B' T' m' v' n' cs') (hT : T ≠ T') : ∀ g, v.ownBlock = some g → v'.ownBlock ≠ some g := fun g e e' => by
  rcases own_block h with e1 | ⟨g1, cur, e1, -, e2⟩
  · rw [e1] at e; cases e
  · rcases own_block h' with f1 | ⟨g2, cur2, f1, -, f2⟩
    · rw [f1] at e'; cases e'
    · rw [e1] at e; rw [f1] at e'
      injection e with e
      injection e' with e'
      rw [e] at e2; rw [e'] at f2
      rw [e2] at f2
      injection f2 with f2
      injection f2 with _ f2
      exact hT f2

structure MSt (w W8 wx : World) (A C : Nat) (va vk vn : Value) (na nk nn : Nat) : Prop where
  bel : Below w.heap.size w wx
  mid : ∀ j, A ≤ j → j < C → wx.heap[j]? = W8.heap[j]?
  hc : C ≤ wx.heap.size
  a : ∃ L : List Si, L.length = na ∧ TOwn 34 wx w.heap.size va (L.map siV)
  k : ∃ L : List ByteArray, L.length = nk ∧ GOwnV 9 wx w.heap.size vk (L.map Value.string)
  n : ∃ L : List ByteArray, L.length = nn ∧ GOwnV 9 wx w.heap.size vn (L.map Value.string)
  la : ∀ g, va.ownBlock = some g → g < A
  lk : ∀ g, vk.ownBlock = some g → g < A
  ln : ∀ g, vn.ownBlock = some g → C ≤ g
section
variable {w W8 wx : World} {A C : Nat} {va vk vn : Value} {na nk nn : Nat}
theorem MSt.setA {g c : Nat} (h : MSt w W8 wx A C (.slice (some ⟨g, 0, none⟩) na c) vk vn na nk nn) {i : Nat} (hi : i < na) (s : Si) : MSt w W8 (set3 wx g i (siV s)) A C (.slice (some ⟨g, 0, none⟩) na c) vk vn na nk nn := by
  obtain ⟨L, hL, ho⟩ := h.a
  have h0 : wx.ownsRow w.heap.size 34 3 (.slice (some ⟨g, 0, none⟩) na c) (L.map siV).length (c3 (L.map siV)) := ho
  have hn : (L.map siV).length = na := by rw [List.length_map]; exact hL
  rw [hn] at h0
  have h1 := World.ownsRow.stored h0 (i * 3) (siV s).1
  have h2 := World.ownsRow.stored h1.1 (i * 3 + 1) (siV s).2.1
  have h3 := World.ownsRow.stored h2.1 (i * 3 + 2) (siV s).2.2
  have hg : wx.grownBy (set3 wx g i (siV s)) (some g) := grown_two (grown_two h1.2 h2.2) h3.2
  have hga : g < A := h.la g rfl
  obtain ⟨K, hK, hok⟩ := h.k
  obtain ⟨M, hM, hon⟩ := h.n
  refine ⟨h.bel.grown hg h.bel.size fun k hk => (World.ownsRow.lt h0 k hk).1, fun j h1 h2 => (hg.block j (Nat.lt_of_lt_of_le h2 h.hc) (fun e => by injection e with e; omega)).trans (h.mid j h1 h2), Nat.le_trans h.hc hg.size, ⟨L.set i s, by rw [List.length_set]; exact hL, ?_⟩, ⟨K, hK, own_kept hok hg fun g' e' e => ?_⟩, ⟨M, hM, own_kept hon hg fun g' e' e => ?_⟩, h.la, h.lk, h.ln⟩
  · have h4 := h3.1
    rw [c3_set3 _ i _ (by rw [hn]; exact hi)] at h4
    unfold TOwn
    rw [List.map_set, List.length_set, hn]
    exact h4
  · injection e with e
    exact own_type hok ho (by decide) g' e' (by rw [← e]; rfl)
  · injection e with e
    exact own_type hon ho (by decide) g' e' (by rw [← e]; rfl)
theorem MSt.setK {g c : Nat} (h : MSt w W8 wx A C va (.slice (some ⟨g, 0, none⟩) nk c) vn na nk nn) (hAC : A ≤ C) {i : Nat} (s : ByteArray) : MSt w W8 (wx.setCell ⟨g, i, none⟩ (.string s)) A C va (.slice (some ⟨g, 0, none⟩) nk c) vn na nk nn := by
  obtain ⟨L, hL, ho⟩ := h.k
  have h0 : wx.ownsRow w.heap.size 9 1 (.slice (some ⟨g, 0, none⟩) nk c) (L.map Value.string).length (L.map Value.string) := ho
  have hn : (L.map Value.string).length = nk := by rw [List.length_map]; exact hL
  rw [hn] at h0
  have h1 := World.ownsRow.stored h0 i (.string s)
  have hg := h1.2
  have hga : g < A := h.lk g rfl
  obtain ⟨K, hK, hok⟩ := h.a
  obtain ⟨M, hM, hon⟩ := h.n
  refine ⟨h.bel.grown hg h.bel.size fun k hk => (World.ownsRow.lt h0 k hk).1, fun j h1 h2 => (hg.block j (Nat.lt_of_lt_of_le h2 h.hc) (fun e => by injection e with e; omega)).trans (h.mid j h1 h2), Nat.le_trans h.hc hg.size, ⟨K, hK, own_kept hok hg fun g' e' e => ?_⟩, ⟨L.set i s, by rw [List.length_set]; exact hL, ?_⟩, ⟨M, hM, own_kept hon hg fun g' e' e => ?_⟩, h.la, h.lk, h.ln⟩
  · injection e with e
    exact own_type hok ho (by decide) g' e' (by rw [← e]; rfl)
  · have h4 := h1.1
    unfold GOwnV
    rw [List.map_set, List.length_set, hn]
    exact h4
  · injection e with e
    have := h.ln g' e'
    omega
theorem MSt.setN {g c : Nat} (h : MSt w W8 wx A C va vk (.slice (some ⟨g, 0, none⟩) nn c) na nk nn) (hAC : A ≤ C) {i : Nat} (s : ByteArray) : MSt w W8 (wx.setCell ⟨g, i, none⟩ (.string s)) A C va vk (.slice (some ⟨g, 0, none⟩) nn c) na nk nn := by
  obtain ⟨L, hL, ho⟩ := h.n
  have h0 : wx.ownsRow w.heap.size 9 1 (.slice (some ⟨g, 0, none⟩) nn c) (L.map Value.string).length (L.map Value.string) := ho
  have hn : (L.map Value.string).length = nn := by rw [List.length_map]; exact hL
  rw [hn] at h0
  have h1 := World.ownsRow.stored h0 i (.string s)
  have hg := h1.2
  have hga : C ≤ g := h.ln g rfl
  obtain ⟨K, hK, hok⟩ := h.a
  obtain ⟨M, hM, hon⟩ := h.k
  refine ⟨h.bel.grown hg h.bel.size fun k hk => (World.ownsRow.lt h0 k hk).1, fun j h1 h2 => (hg.block j (Nat.lt_of_lt_of_le h2 h.hc) (fun e => by injection e with e; omega)).trans (h.mid j h1 h2), Nat.le_trans h.hc hg.size, ⟨K, hK, own_kept hok hg fun g' e' e => ?_⟩, ⟨M, hM, own_kept hon hg fun g' e' e => ?_⟩, ⟨L.set i s, by rw [List.length_set]; exact hL, ?_⟩, h.la, h.lk, h.ln⟩
  · injection e with e
    exact own_type hok ho (by decide) g' e' (by rw [← e]; rfl)
  · injection e with e
    have := h.lk g' e'
    omega
  · have h4 := h1.1
    unfold GOwnV
    rw [List.map_set, List.length_set, hn]
    exact h4
/-- a cell of k, of names -/
theorem gcell {wx : World} {B : Nat} {p : Option Addr} {n c i : Nat} {L : List ByteArray} (ho : GOwnV 9 wx B (.slice p n c) (L.map Value.string)) (hL : L.length = n) (hi : i < n) : ∃ g s, p = some ⟨g, 0, none⟩ ∧ wx.cell? ⟨g, i, none⟩ = some (.string s) ∧ wx.frozen? ⟨g, i, none⟩ = false := by
  rcases ho.shape with ⟨e, e2⟩ | ⟨g, cap, e, ho'⟩
  · have h1 := congrArg List.length e2
    rw [List.length_map, List.length_nil] at h1
    omega
  · injection e with e1 e2 e3
    refine ⟨g, L[i], e1, ?_, ho'.free i⟩
    rw [ho'.cell i (by rw [List.length_map]; omega), List.getElem?_map, List.getElem?_eq_getElem (by omega)]
    rfl
theorem scell {wx : World} {B : Nat} {p : Option Addr} {n c i : Nat} {L : List Si} (ho : TOwn 34 wx B (.slice p n c) (L.map siV)) (hL : L.length = n) (hi : i < n) : ∃ g t, p = some ⟨g, 0, none⟩ ∧ (wx.cell? ⟨g, i * 3, none⟩ = some (.int .i64 (Si.key t)) ∧ wx.cell? ⟨g, i * 3 + 1, none⟩ = some (.int .i64 (Si.at_ t)) ∧ wx.cell? ⟨g, i * 3 + 2, none⟩ = some (.int .i64 (Si.to_ t))) ∧ ∀ q, wx.frozen? ⟨g, q, none⟩ = false := by
  obtain ⟨p', cap, e, -, -, hp⟩ := ho.shape
  obtain ⟨g, e2, -, -, hc⟩ := hp (by rw [List.length_map]; omega)
  injection e with e1 e3 e4
  refine ⟨g, L[i], e1.trans e2, ?_, fun q => ?_⟩
  · have h0 := hc i (by rw [List.length_map]; omega) 0 (by omega)
    have h1 := hc i (by rw [List.length_map]; omega) 1 (by omega)
    have h2 := hc i (by rw [List.length_map]; omega) 2 (by omega)
    simp only [List.getElem_map, siV, l3, List.getElem?_cons_zero, List.getElem?_cons_succ, Nat.add_zero] at h0 h1 h2
    exact ⟨h0, h1, h2⟩
  · have h0 : wx.ownsRow B 34 3 (.slice p n c) (L.map siV).length _ := ho
    rw [List.length_map, hL, e1, e2] at h0
    exact World.ownsRow.frozenAt h0 q
theorem MSt.below {wy : World} (h : MSt w W8 wx A C va vk vn na nk nn) (hb : Below wx.heap.size wx wy) : MSt w W8 wy A C va vk vn na nk nn := by
  obtain ⟨L, hL, ho⟩ := h.a
  obtain ⟨K, hK, hok⟩ := h.k
  obtain ⟨M, hM, hon⟩ := h.n
  exact ⟨below_step h.bel hb, fun j h1 h2 => (hb.block j (Nat.lt_of_lt_of_le h2 h.hc)).trans (h.mid j h1 h2), Nat.le_trans h.hc hb.size, ⟨L, hL, ho.below hb⟩, ⟨K, hK, hok.below hb⟩, ⟨M, hM, hon.below hb⟩, h.la, h.lk, h.ln⟩
end

end Go.Proofs.YtckpgpgmaccepaaGreat

/- SitesMerges. -/
namespace Go.Proofs.YtckpgpgmaccepaaGreat
open Go.RowKit Go.Maps Go.WideMaps

theorem merge_small (xs : List Ob) : (mergeL xs).si.length ≤ 256 ∧ (mergeL xs).ks.length ≤ 64 := by
  by_cases he : (mergeL xs).e = 0
  · obtain ⟨-, -, -, h1, h2, -⟩ := right_byKey (merge_right he)
    exact ⟨h2, by omega⟩
  · obtain ⟨h1, h2⟩ := merge_bad he
    rw [h1, h2]; exact ⟨by decide, by decide⟩
theorem keysL_few (xs : List Ob) : (keysL xs).length ≤ cntM xs := by
  have := keysL_len xs.length xs (Nat.le_refl _)
  rwa [List.take_length] at this

theorem trow {w : World} {B n c : Nat} {T : TypeId} {p : Option Addr} {L : List V3} (h : TOwn T w B (.slice p n c) L) : Row3 w p L := by
  obtain ⟨p', cap, e, -, -, hr⟩ := h.row3
  injection e with e1
  rw [e1]; exact hr
theorem grow_of {w : World} {B n c : Nat} {T : TypeId} {p : Option Addr} {vs : List Value} (h : GOwnV T w B (.slice p n c) vs) : GRow w p vs := by
  obtain ⟨p', cap, e, hr, -⟩ := h.slice
  injection e with e1
  rw [e1]; exact hr
theorem mid_step {W8 wx wy : World} {A C : Nat} (h : ∀ j, A ≤ j → j < C → wx.heap[j]? = W8.heap[j]?) (hc : C ≤ wx.heap.size) {row : Option Nat} (hg : wx.grownBy wy row) (hr : ∀ g, row = some g → g < A) : (∀ j, A ≤ j → j < C → wy.heap[j]? = W8.heap[j]?) ∧ C ≤ wy.heap.size :=
  ⟨fun j h1 h2 => (hg.block j (Nat.lt_of_lt_of_le h2 hc) (fun e => by have := hr j e.symm; omega)).trans (h j h1 h2), Nat.le_trans hc hg.size⟩
theorem same_self (p q : Option Addr) (n c d : Nat) (T : List Si) (w : World) (hn : T.length = n) (h6 : n ≤ 1048576) (h1 : Row3 w p (T.map siV)) (h2 : Row3 w q (T.map siV)) :
    Calls Tryz.prog 10 #[.slice p n c, .slice q n d] w fun E w' => E = .returned (.bool true) ∧ ∃ z, w' = w.drewN z := by
  refine (sameSites_any p q n c n d T T w hn hn (by omega) (by omega) h1 h2).mono ?_
  rintro E w' ⟨⟨b, rfl, hb⟩, z⟩
  rw [hb.2 rfl]
  exact ⟨rfl, z⟩

set_option maxRecDepth 20000 in
set_option maxHeartbeats 4000000 in
theorem merges_walk (p : Option Addr) (n c : Nat) (xs : List Ob) (w : World) (hn : xs.length = n) (hn6 : n ≤ 1048576) (hx : Units w p xs) (hW : ∀ x ∈ xs, ObW x) (hc : cntM xs ≤ 1000000) (hK : ∀ x ∈ xs, ∀ m ∈ x.mk_, m.key.size ≤ 281474976710656) :
    Calls Tryz.prog 3 #[.slice p n c] w fun E w' => E = .returned (.bool true) ∧ Below w.heap.size w w' := by
  have hcp := copyObjects_any p n c xs w hn (by omega) hx hW
  have HX : Hid (∀ W, Below w.heap.size w W → Units W p xs) := fun W hW' => hx.below hW'
  have HN := Hid.in hn
  have HC := Hid.in hc
  have HK := Hid.in hK
  obtain ⟨hT256, hK64⟩ := merge_small xs
  have hkf : (keysL xs).length ≤ 1000000 := Nat.le_trans (keysL_few xs) hc
  clear hx hW hn hc hK
  go_enter Tryz.func3, Tryz.ntmps3
  go_wp2_with (go_at_call 6; refine Hid.out ?_)
  refine Lib.hid ?_
  refine hcp.mono ?_
  rintro E w1 ⟨v1, rfl, ho1, hb1⟩
  obtain ⟨p1, c1, rfl, -, -, hu1⟩ := ho1.slice
  rw [HN.out]
  have HU1 : Hid (∀ W, Below w1.heap.size w1 W → Units W p1 xs) := fun W hW' => hu1.below hW'
  have HB1 := Hid.in hb1
  have HMG : Hid (∀ W, Below w1.heap.size w1 W → Calls Tryz.prog 7 #[.slice p1 n c1] W (MrgIs xs W)) := fun W hW' => merge_any p1 n c1 xs W HN.out (by omega) (HU1.out W hW')
  have HRM : Hid (∀ W, Below w.heap.size w W → Calls Tryz.prog 8 #[.slice p n c] W (MrgIs xs W)) := fun W hW' => refMerge_any p n c xs W HN.out (by omega) (HX.out W hW')
  clear ho1 hu1 hb1 hcp
  unfold MrgIs at HMG HRM
  generalize (mergeL xs).e = me at *
  generalize (mergeL xs).u = mu at *
  generalize (mergeL xs).si = T at *
  generalize (mergeL xs).ks = ks at *
  have h7 := HMG.out w1 (below_self _)
  go_wp2_with (go_at_call 7; refine Hid.out ?_)
  refine Lib.hid ?_
  refine h7.mono ?_
  rintro E w2 ⟨v2, v3, rfl, ho2, ho3, hb2⟩
  obtain ⟨p2, c2, e2, -, -, -⟩ := ho2.shape
  obtain ⟨p3, c3, e3, -, -, -⟩ := ho3.slice
  rw [List.length_map] at e2 e3
  subst e2 e3
  have HO2 := Hid.in ho2
  have HO3 := Hid.in ho3
  have HB2 := Hid.in hb2
  clear h7 ho2 ho3 hb2
  have h7 := HMG.out w2 HB2.out
  go_wp2_with (go_at_call 7; refine Hid.out ?_)
  refine Lib.hid ?_
  refine h7.mono ?_
  rintro E w3 ⟨v4, v5, rfl, ho4, ho5, hb3⟩
  obtain ⟨p4, c4, e4, -, -, -⟩ := ho4.shape
  obtain ⟨p5, c5, e5, -, -, -⟩ := ho5.slice
  rw [List.length_map] at e4 e5
  subst e4 e5
  have HO4 := Hid.in ho4
  have HO5 := Hid.in ho5
  have HB3 := Hid.in hb3
  clear h7 ho4 ho5 hb3
  have HBW3 := Hid.in (below_step HB1.out (below_step HB2.out HB3.out))
  have h8 := HRM.out w3 HBW3.out
  go_wp2_with (go_at_call 8; refine Hid.out ?_)
  refine Lib.hid ?_
  refine h8.mono ?_
  rintro E w4 ⟨v6, v7, rfl, ho6, ho7, hb4⟩
  obtain ⟨p6, c6, e6, -, -, -⟩ := ho6.shape
  obtain ⟨p7, c7, e7, -, -, -⟩ := ho7.slice
  rw [List.length_map] at e6 e7
  subst e6 e7
  have HO6 := Hid.in ho6
  have HO7 := Hid.in ho7
  have HB4 := Hid.in hb4
  clear h8 ho6 ho7 hb4
  have h9 := keys_any p1 n c1 xs w4 HN.out hn6 (HU1.out w4 (below_step HB2.out (below_step HB3.out HB4.out))) HC.out HK.out
  go_wp2_with (go_at_call 9; refine Hid.out ?_)
  refine Lib.hid ?_
  refine h9.mono ?_
  rintro E w5 ⟨v8, rfl, ho8, hb5⟩
  obtain ⟨p8, c8, e8, -, -, -⟩ := ho8.slice
  rw [List.length_map] at e8
  subst e8
  have HO8 := Hid.in ho8
  have HB5 := Hid.in hb5
  clear h9 ho8 hb5
  -- all at w5
  have HB25 := Hid.in (below_step HB3.out (below_step HB4.out HB5.out))
  have HB35 := Hid.in (below_step HB4.out HB5.out)
  have HA2 := Hid.in (HO2.out.below HB25.out)
  have HA3 := Hid.in (HO3.out.below HB25.out)
  have HA4 := Hid.in (HO4.out.below HB35.out)
  have HA5 := Hid.in (HO5.out.below HB35.out)
  have HA6 := Hid.in (HO6.out.below HB5.out)
  have HA7 := Hid.in (HO7.out.below HB5.out)
  have HL2 := Hid.in (fun g e => (own_lt HO2.out g e).2)
  have HL3 := Hid.in (fun g e => (own_lt HO3.out g e).2)
  have HL4 := Hid.in (fun g e => Nat.lt_of_lt_of_le (own_lt HO4.out g e).2 HB4.out.size)
  have HL5 := Hid.in (fun g e => Nat.lt_of_lt_of_le (own_lt HO5.out g e).2 HB4.out.size)
  have HL6 := Hid.in (fun g e => (own_lt HO6.out g e).2)
  have HL7 := Hid.in (fun g e => (own_lt HO7.out g e).2)
  have HL8 := Hid.in (fun g e => (own_lt HO8.out g e).1)
  have hs24 : w2.heap.size ≤ w4.heap.size := Nat.le_trans HB3.out.size HB4.out.size
  have hs45 : w4.heap.size ≤ w5.heap.size := HB5.out.size
  have hs12 : w1.heap.size ≤ w2.heap.size := HB2.out.size
  have hs01 : w.heap.size ≤ w1.heap.size := HB1.out.size
  have HBW5 := Hid.in (below_step HBW3.out HB35.out)
  clear HO2 HO3 HO4 HO5 HO6 HO7 HB25 HB35
  have h10 := same_self p2 p6 T.length c2 c6 T w5 rfl (by omega) (trow HA2.out) (trow HA6.out)
  go_wp2_with (go_at_call 10; refine Hid.out ?_)
  refine Lib.hid ?_
  refine h10.mono ?_
  rintro E w6 ⟨rfl, z6, hw6⟩
  have HB6 : Hid (Below w5.heap.size w5 w6) := by rw [hw6]; exact below_draws (below_self w5) z6
  clear h10 hw6
  have h11 := sameTexts_self p3 p7 ks.length c3 c7 ks w6 (by omega) rfl (grow_of (HA3.out.below HB6.out)) (grow_of (HA7.out.below HB6.out))
  go_wp2_with (go_at_call 11; refine Hid.out ?_)
  refine Lib.hid ?_
  refine h11.mono ?_
  rintro E w7 ⟨rfl, z7, hw7⟩
  have HB7 : Hid (Below w5.heap.size w5 w7) := by rw [hw7]; exact below_draws HB6.out z7
  clear h11 hw7 HB6
  have h12 := refKeys_any p n c xs w7 HN.out hn6 (HX.out w7 (below_step HBW5.out HB7.out)) HC.out
  go_wp2_with (go_at_call 12; refine Hid.out ?_)
  refine Lib.hid ?_
  refine h12.mono ?_
  rintro E w8 ⟨v9, rfl, ho9, hb8⟩
  obtain ⟨p9, c9, e9, -, -, -⟩ := ho9.slice
  rw [List.length_map] at e9
  subst e9
  have HB8 := Hid.in (below_step HB7.out hb8)
  have HO9 := Hid.in ho9
  clear h12 ho9 hb8 HB7
  generalize keysL xs = kn at *
  have h11 := sameTexts_self p8 p9 kn.length c8 c9 kn w8 (by omega) rfl (grow_of (HO8.out.below HB8.out)) (grow_of HO9.out)
  go_wp2_with (go_at_call 11; refine Hid.out ?_)
  refine Lib.hid ?_
  refine h11.mono ?_
  rintro E w9 ⟨rfl, z9, hw9⟩
  have HB9 : Hid (Below w5.heap.size w5 w9) := by rw [hw9]; exact below_draws HB8.out z9
  clear h11 hw9 HB8 HO9
  have h13 := sameObjects_self p1 p n c1 c xs w9 HN.out (by omega) (HU1.out w9 (below_step HB2.out (below_step HB3.out (below_step HB4.out (below_step HB5.out HB9.out))))) (HX.out w9 (below_step HBW5.out HB9.out))
  go_wp2_with (go_at_call 13; refine Hid.out ?_)
  refine Lib.hid ?_
  refine h13.mono ?_
  rintro E wa ⟨rfl, hba⟩
  have HBA := Hid.in (below_step HB9.out hba)
  clear h13 hba HB9
  have HM0 : Hid (MSt w wa wa w2.heap.size w4.heap.size (.slice p2 T.length c2) (.slice p3 ks.length c3) (.slice p8 kn.length c8) T.length ks.length kn.length) :=
    ⟨below_step HBW5.out HBA.out, fun _ _ _ => rfl, Nat.le_trans hs45 HBA.out.size, ⟨T, rfl, (HA2.out.below HBA.out).lower hs01⟩, ⟨ks, rfl, (HA3.out.below HBA.out).lowerV hs01⟩, ⟨kn, rfl, (HO8.out.below HBA.out).lowerV (by omega)⟩, HL2.out, HL3.out, HL8.out⟩
  have HZ4 := Hid.in (HA4.out.below HBA.out)
  have HZ5 := Hid.in (HA5.out.below HBA.out)
  have HZ6 := Hid.in (HA6.out.below HBA.out)
  have HZ7 := Hid.in (HA7.out.below HBA.out)
  have hs23 : w2.heap.size ≤ w3.heap.size := HB3.out.size
  clear HBA HA2 HA3 HA4 HA5 HA6 HA7 HO8 HL2 HL3 HL8 HBW5 HB1 HB2 HB3 HB4 HB5 HU1 HX HMG HRM HC HK HBW3 HN
  generalize w2.heap.size = A at *
  generalize w4.heap.size = C at *
  go_wp2_with fail
  go_loopw [17] (fun vi wx => ∃ i : Nat, vi = .int .i64 i ∧ i ≤ T.length ∧ MSt w wa wx A C (.slice p2 T.length c2) (.slice p3 ks.length c3) (.slice p8 kn.length c8) T.length ks.length kn.length) (fun vi _ => T.length - (intOf vi).toNat)
  case atStart => exact ⟨0, rfl, Nat.zero_le _, HM0.out⟩
  case round =>
    obtain ⟨i, rfl, hi, hm⟩ := hrel
    clear HM0
    have HM := Hid.in hm
    by_cases hlt : i < T.length
    · have hdi : decide (i < T.length) = true := decide_eq_true hlt
      obtain ⟨L, hL, ho⟩ := hm.a
      obtain ⟨g, tt, rfl, ⟨q0, q1, q2⟩, hf⟩ := scell ho hL hlt
      have f0 := hf (i * 3)
      have f1 := hf (i * 3 + 1)
      have f2 := hf (i * 3 + 2)
      have HNX := Hid.in (HM.out.setA hlt ⟨9, 0, 0⟩)
      clear hm hL ho hf HM
      go_wp2_with fail
      go_roundw
      case rel => exact ⟨i + 1, by go_num, by omega, HNX.out⟩
      case measure => simp [intOf]; omega
    · have hdi : decide (i < T.length) = false := decide_eq_false hlt
      clear hm hdi
      go_wp2_with fail
      go_loopw [18] (fun vi wx => ∃ i : Nat, vi = .int .i64 i ∧ i ≤ ks.length ∧ MSt w wa wx A C (.slice p2 T.length c2) (.slice p3 ks.length c3) (.slice p8 kn.length c8) T.length ks.length kn.length) (fun vi _ => ks.length - (intOf vi).toNat)
      case atStart => exact ⟨0, rfl, Nat.zero_le _, HM.out⟩
      case round =>
        obtain ⟨i2, rfl, hi2, hm⟩ := hrel
        clear HM
        have HM := Hid.in hm
        by_cases hlt2 : i2 < ks.length
        · have hdi : decide (i2 < ks.length) = true := decide_eq_true hlt2
          obtain ⟨L, hL, ho⟩ := hm.k
          obtain ⟨g, ss, rfl, q0, f0⟩ := gcell ho hL hlt2
          have HNX := Hid.in (HM.out.setK hs24 (i := i2) ⟨#[115, 112, 111, 105, 108, 116]⟩)
          clear hm hL ho HM
          go_wp2_with fail
          go_roundw
          case rel => exact ⟨i2 + 1, by go_num, by omega, HNX.out⟩
          case measure => simp [intOf]; omega
        · have hdi : decide (i2 < ks.length) = false := decide_eq_false hlt2
          clear hm hdi
          go_wp2_with fail
          go_loopw [19] (fun vi wx => ∃ i : Nat, vi = .int .i64 i ∧ i ≤ kn.length ∧ MSt w wa wx A C (.slice p2 T.length c2) (.slice p3 ks.length c3) (.slice p8 kn.length c8) T.length ks.length kn.length) (fun vi _ => kn.length - (intOf vi).toNat)
          case atStart => exact ⟨0, rfl, Nat.zero_le _, HM.out⟩
          case round =>
            obtain ⟨i3, rfl, hi3, hm⟩ := hrel
            clear HM
            have HM := Hid.in hm
            by_cases hlt3 : i3 < kn.length
            · have hdi : decide (i3 < kn.length) = true := decide_eq_true hlt3
              obtain ⟨L, hL, ho⟩ := hm.n
              obtain ⟨g, ss, rfl, q0, f0⟩ := gcell ho hL hlt3
              have HNX := Hid.in (HM.out.setN hs24 (i := i3) ⟨#[115, 112, 111, 105, 108, 116]⟩)
              clear hm hL ho HM
              go_wp2_with fail
              go_roundw
              case rel => exact ⟨i3 + 1, by go_num, by omega, HNX.out⟩
              case measure => simp [intOf]; omega
            · have hdi : decide (i3 < kn.length) = false := decide_eq_false hlt3
              obtain ⟨L, hL, ho⟩ := hm.a
              obtain ⟨K, hKl, hok⟩ := hm.k
              have HOA := Hid.in ho
              have HOK := Hid.in hok
              have HL := Hid.in hL
              have HKL := Hid.in hKl
              have hsz := hm.bel.size
              have HBX := Hid.in hm.bel
              have HMD := Hid.in hm.mid
              have HCC := Hid.in hm.hc
              have HLA := Hid.in hm.la
              have HLK := Hid.in hm.lk
              clear hm hL hKl ho hok HM hdi
              go_wp2_with (at_builtin; refine Hid.out ?_)
              refine Lib.hid ?_
              refine tpush Tryz.elemSite _ rfl _ _ rfl w.heap.size _ (L.map siV) rfl (HOA.out.alloc _) ⟨_, 0, none⟩ 1 (siV ⟨0, 0, 0⟩) ⟨rfl, rfl, rfl⟩ rfl (news3 _ (siV ⟨0, 0, 0⟩) 34) (by rw [List.length_map, HL.out]; omega) (by decide) (by simp; omega) ?_
              intro v10 w10 hT10 hg10 hb10
              have HB10 := Hid.in (hb10 w (below_alloc HBX.out _))
              obtain ⟨p10, c10, e10, -, -, -⟩ := hT10.shape
              rw [List.length_append, List.length_map, HL.out, List.length_singleton] at e10
              subst e10
              have hmd1 := mid_step HMD.out HCC.out (World.grownBy_alloc wr (.cells #[.int .i64 0, .int .i64 0, .int .i64 0] 34) none) (fun g e => by cases e)
              have hmd2 := mid_step hmd1.1 hmd1.2 hg10 HLA.out
              have HMD2 := Hid.in hmd2
              have HOK2 : Hid (GOwnV 9 w10 w.heap.size (.slice p3 ks.length c3) (K.map Value.string)) := own_kept (HOK.out.alloc _) hg10 fun g e => own_type HOK.out HOA.out (by decide) g e
              have hsz10 := HB10.out.size
              clear hT10 hg10 hb10 hmd1 hmd2 HMD HCC HOK HOA HBX HLA
              go_wp2_with (at_builtin; refine Hid.out ?_)
              refine Lib.hid ?_
              refine gpush Tryz.elemS _ rfl _ _ rfl w.heap.size _ (K.map Value.string) rfl (HOK2.out.alloc _) ⟨_, 0, none⟩ 1 1 [.string ⟨#[109, 111, 114, 101]⟩] rfl rfl (cell_one_new _ _ _) (by simp [Value.oneCell']) (by rw [List.length_map, HKL.out]; omega) (by rw [List.length_map, HKL.out]; omega) (by simp; omega) ?_
              intro v11 w11 hT11 hg11 hb11 _
              have HB11 := Hid.in (hb11 w (below_alloc HB10.out _))
              obtain ⟨p11, c11, e11, -, -⟩ := hT11.slice
              rw [List.length_append, List.length_map, HKL.out, List.length_singleton] at e11
              subst e11
              have hmd1 := mid_step HMD2.out.1 HMD2.out.2 (World.grownBy_alloc w10 (.cells #[.string ⟨#[109, 111, 114, 101]⟩] 9) none) (fun g e => by cases e)
              have hmd2 := mid_step hmd1.1 hmd1.2 hg11 HLK.out
              have HMD3 := Hid.in hmd2.1
              clear hT11 hg11 hb11 hmd1 hmd2 HMD2 HOK2 HB10 HLK
              have HR4 := Hid.in (trow (own_mid HZ4.out (Nat.le_refl _) HL4.out HMD3.out : TOwn 34 w11 _ _ _))
              have HR6 := Hid.in (trow (own_mid HZ6.out hs23 HL6.out HMD3.out : TOwn 34 w11 _ _ _))
              have HR5 := Hid.in (grow_of (own_mid HZ5.out (Nat.le_refl _) HL5.out HMD3.out : GOwnV 9 w11 _ _ _))
              have HR7 := Hid.in (grow_of (own_mid HZ7.out hs23 HL7.out HMD3.out : GOwnV 9 w11 _ _ _))
              have h10 := same_self p4 p6 T.length c4 c6 T w11 rfl (by omega) HR4.out HR6.out
              go_wp2_with (go_at_call 10; refine Hid.out ?_)
              refine Lib.hid ?_
              refine h10.mono ?_
              rintro E w12 ⟨rfl, z12, hw12⟩
              have HB12 : Hid (Below w11.heap.size w11 w12) := by rw [hw12]; exact below_draws (below_self w11) z12
              have HG5 : Hid (GRow w12 p5 (ks.map Value.string)) := by rw [hw12]; exact HR5.out
              have HG7 : Hid (GRow w12 p7 (ks.map Value.string)) := by rw [hw12]; exact HR7.out
              clear h10 hw12
              have h11 := sameTexts_self p5 p7 ks.length c5 c7 ks w12 (by omega) rfl HG5.out HG7.out
              go_wp2_with (go_at_call 11; refine Hid.out ?_)
              refine Lib.hid ?_
              refine h11.mono ?_
              rintro E w13 ⟨rfl, z13, hw13⟩
              have HB13 : Hid (Below w.heap.size w w13) := by rw [hw13]; exact below_draws (below_step HB11.out HB12.out) z13
              clear h11 hw13
              go_wp2_with (go_at_call 14; refine Hid.out ?_)
              refine Lib.hid ?_
              refine (awake_any w13).mono ?_
              rintro E w14 ⟨rfl, hb14⟩
              have HB14 := Hid.in (below_step HB13.out hb14)
              clear hb14
              go_wp2_with fail
              go_ret
              exact ⟨rfl, HB14.out⟩

end Go.Proofs.YtckpgpgmaccepaaGreat

namespace Go.Proofs.YtckpgpgmaccepaaGreat
open Go.ChangeShapes Go.WideShapes Go.ChangeAt Go.RowKit
open Go.ChangeMaps (open_string shut_string)

set_option maxRecDepth 20000 in
theorem open_units_small {H : Type} {enc : TypeId × Value → H} {W : World} {base : Nat} {v : Value} {d : DataW H} {p : List MemPlace} (hv : Value.okWide Tryz.prog W .any base 22 v)
    (h : DataW.Trod enc Tryz.prog W 0 (fun _ => true) true 22 v d p) (hb : Rows.uptoBulk d ≤ 1048576) :
    ∃ (q : Option Addr) (e : Nat) (L : List Ob), v = .slice q L.length e ∧ L.length ≤ 1048576 ∧ Units W q L ∧ (∀ y ∈ L, ObW y) ∧ cntM L ≤ 1000000 ∧ ∀ y ∈ L, ∀ m ∈ y.mk_, m.key.size ≤ 281474976710656 := by
  obtain ⟨fuel, hf⟩ := h
  have hcs : v.cells.toList = [v] := by
    obtain ⟨_, _, _, rfl⟩ := Go.WideShapes.okWide_slice Tryz.underlying22 hv
    rfl
  rw [hcs] at hf
  obtain ⟨q, e, L, rfl, -, -, -, hU, hW⟩ := open_units hf (units_weights _ hb)
  obtain ⟨h1, h2⟩ := bulk_units hf hU
  have h3 := bulk_allkeys hf hU
  dsimp only at h1 h2 h3
  exact ⟨q, e, L, rfl, by omega, hU, hW, by omega, fun y hy m hm => by have := h3 y hy m hm; omega⟩

set_option maxRecDepth 100000 in
theorem sitesMergesUpto_lifted (os : Os) (started : os.Started) (H : Type) (enc : TypeId × Value → H) (F : Stop.Interp) :
    ReturnsInHanded {} Tryz.checked os 3 .any ((Rows.OpenSpec.upto Rows.sitesMergesSpec).pre6 enc Tryz.prog Tryz.f3 Rows.sitesMergesUptoRow.domain false) (((Rows.OpenSpec.upto Rows.sitesMergesSpec).at F).post enc Tryz.prog Tryz.f3 false true false false) := by
  refine returnsInHanded_of_cond (C := Tryz.checked) (s := Rows.OpenSpec.upto Rows.sitesMergesSpec) (k := Rows.uptoSmall) rfl Tryz.own started (by kernel_rfl) Tryz.func3
    (OpenSpec.witness (enc := enc) (C := Tryz.checked) (s := Rows.OpenSpec.upto Rows.sitesMergesSpec) (k := Rows.uptoSmall) rfl false ⟨#[], #[.slice none 0 0], []⟩ 8 (by kernel_rfl) (by kernel_rfl) (by kernel_rfl)
      (x := ([.nil], [], [])) (by kernel_rfl) rfl (by kernel_rfl)) ?_
  intro W base args ds gs before hval0 hW _ hk _
  have hW' := hW
  obtain ⟨p, q, hA0, hV, rfl, hfz, hnd⟩ := hW
  have hA : DataW.TrodAll enc Tryz.prog W 0 (fun _ => true) true Tryz.f3.params.toList args.toList ds p := hA0
  have hval : ∀ (j : Nat) t v, Tryz.f3.params[j]? = some t → args[j]? = some v → Value.okWide Tryz.prog W .any base t v := hval0
  rw [Tryz.params3] at hA hval
  obtain ⟨v0, vs0, d0, ds0, p0, q0, hargs, rfl, rfl, h0, r0⟩ := trodAll_cons hA
  obtain ⟨rfl, rfl, rfl⟩ := trodAll_nil r0
  obtain rfl : args = #[v0] := by cases args; simp_all
  obtain ⟨rfl, rfl⟩ := trodVars_none hV
  have k0 := h0
  have lt0 : ∀ x ∈ p0, x.block < W.heap.size := by obtain ⟨m, hm⟩ := k0; exact DataW.trod_lt m _ _ _ hm
  have hb0 : Rows.uptoBulk d0 ≤ 1048576 := by
    have h1 := bulk_mem (d := d0) (l := _) (show d0 ∈ _ by first | exact List.mem_singleton.2 rfl | simp)
    have h2 := bulk_all hk
    exact Nat.le_trans h1 h2
  obtain ⟨qq, ee, L, rfl, hn, hU, hWW, hc, hK⟩ := open_units_small (hval 0 22 v0 rfl rfl) h0 hb0
  refine (merges_walk qq L.length ee L W rfl hn hU hWW hc hK).mono fun e W' ⟨he, bel⟩ => ?_
  subst he
  exact ⟨_, rfl, _, _, _, [], _, [], hW', trodAll_mk1 (shut_bool Tryz.underlying4 _), (trodAll_cons_mk (Below.trod Tryz.laidOut (by kernel_rfl) (of_decide_eq_true (by kernel_rfl)) k0 bel lt0) trodAll_mk0), rfl, bel.frame _, fun h => by cases h⟩

theorem sitesMergesUpto_holds : Rows.SitesMergesUptoSaid :=
  OpenClaim.holds_of_cond 3 Tryz.f3 rfl rfl rfl rfl rfl rfl rfl ⟨rfl, rfl, rfl, rfl, rfl⟩ rfl rfl rfl rfl rfl (by kernel_rfl) Tryz.func3 (by kernel_rfl)
    (of_decide_eq_true (by kernel_rfl)) (by unfold Func.isWrapper; first | (rw [if_pos (by decide +kernel)]; kernel_rfl) | (rw [if_neg (by decide +kernel)]; exact ⟨rfl, rfl⟩))
    (fun os started H enc _ F => sitesMergesUpto_lifted os started H enc F)
#print axioms sitesMergesUpto_holds

end Go.Proofs.YtckpgpgmaccepaaGreat
