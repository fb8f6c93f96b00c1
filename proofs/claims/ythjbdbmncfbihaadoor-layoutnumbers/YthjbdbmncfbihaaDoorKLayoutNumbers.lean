/-
  Proved here: the law LayoutNumbers (switchyardlaw05) answers true for every input, and each argument reads afterwards as it read before; the card: what the row lists of the library's variables is tied to the program's text. No condition of ours: the row's own reach alone.
-/
import Derived.Test.YthjbdbmncfbihaaDoorKo
import Derived.Test.YthjbdbmncfbihaaDoorKs
import Derived.Test.YthjbdbmncfbihaaDoorRows
import Derived.Test.YthjbdbmncfbihaaDoorKa
import Derived.WalkKit
import Derived.ProofKit
import Derived.OpenShut
import Derived.ShutString
import Derived.ChangeOld
import Derived.Below
import Derived.SizedLaws
import Derived.Test.YthjbdbmncfbihaaDoorKzh
import Derived.Test.YthjbdbmncfbihaaDoorKzj
import Derived.Test.YthjbdbmncfbihaaDoorCards
import Derived.Test.YthjbdbmncfbihaaDoorTie
import Derived.SevenTiedAt

/- A list of items that is grown twice from the same slice; lists that are too long. -/
namespace Go.Proofs.YthjbdbmncfbihaaDoor
open Go.RowKit

theorem ownsRow_front {w : World} {B : Nat} {T : TypeId} {z g cap n m : Nat} {xs cs : List Value} (h : w.ownsRow B T z (.slice (some ⟨g, 0, none⟩) (n + m) cap) (n + m) (xs ++ cs)) (hx : xs.length = n * z) : w.ownsRow B T z (.slice (some ⟨g, 0, none⟩) n cap) n xs := by
  refine ⟨hx, .inr ?_⟩
  rcases h.2 with ⟨e, _⟩ | ⟨g', cap', cur, e1, e2, e3, e4, e5, e6, e7⟩
  · cases e
  · injection e1 with h1 _ h3
    injection h1 with h1
    injection h1 with h1
    subst h1 h3
    refine ⟨g, cap, cur, rfl, e2, e3, by omega, e5, e6, ?_⟩
    have e8 : cur.toList.take (n * z) = (cur.toList.take ((n + m) * z)).take (n * z) := by
      rw [List.take_take, Nat.min_eq_left (Nat.mul_le_mul_right z (Nat.le_add_right n m))]
    rw [e8, e7, List.take_left' hx]
/-- 'append(l, y)', l being used again -/
theorem gpush9two {ops : Array Oper} {rest : List Oper} {o : Oper} {a : Act} {Q : Exit → Act → World → Prop} (w : World) (hgd : o.guard = none) (s x : Operand)
    (ho : o.op = .call { callee := .builtin .append, args := #[s, x], argTypes := #[32, 32] }) (B g0 cap : Nat) (L : List (Src × Value)) (hs : a.eval s = .slice (some ⟨g0, 0, none⟩) L.length cap) (hown : IOwn w B (.slice (some ⟨g0, 0, none⟩) L.length cap) L)
    (g : Nat) (y : Src) (hyd : y.d = []) (hLd : ∀ r ∈ L, r.2 = .slice none 0 0 ∧ r.1.d = []) (hx : a.eval x = .slice (some ⟨g, 0, none⟩) 1 1) (hB : Blk w g 31 (cellsOf y (.slice none 0 0)))
    (hlen : L.length ≤ 1048576) (hBw : B ≤ w.heap.size)
    (h : ∀ v' w', IOwn w' B v' (L ++ [(y, .slice none 0 0)]) → IOwn w' B (.slice (some ⟨g0, 0, none⟩) L.length cap) L → (∀ w0, Below B w0 w → Below B w0 w') → (∀ b, b < w.heap.size → b ≠ g0 → w'.heap[b]? = w.heap[b]?) → wpList Tryd.prog ops Q rest (a.put o.dst v') w') :
    wpList Tryd.prog ops Q (o :: rest) a w := by
  obtain ⟨i0, hi, hz0, hz1, hz2⟩ := info_parts Tryd.info31
  have hnews : ∀ j u, (cellsOf y (.slice none 0 0)).toList[j]? = some u → w.cell? ((⟨g, 0, none⟩ : Addr).add j) = some u := fun j u hu => by
    rw [Addr.add_mid, Nat.zero_add, hB.cell]
    rw [Array.getElem?_toList] at hu
    exact hu
  have hnil : ∀ w', ∀ r ∈ L ++ [(y, (.slice none 0 0 : Value))], GOwnV 5 w' B r.2 (byts r.1.d) := fun w' r hr => by
    rcases List.mem_append.1 hr with hr | hr
    · obtain ⟨e1, e2⟩ := hLd r hr
      rw [e1, e2]; exact GOwnV.nil _ _ _
    · rw [List.mem_singleton] at hr
      subst hr
      simp only [hyd]
      exact GOwnV.nil _ _ _
  have hLl := cells9_len L
  by_cases hroom : L.length + 1 ≤ cap
  · refine wpList_append_fits w hgd s x 32 ho B 31 i0 9 Tryd.und32 hi hz1 g0 L.length cap (cells9 L) hs hown.row ⟨g, 0, none⟩ 1 1 (cellsOf y (.slice none 0 0)).toList hx rfl hnews (cells_mem_one _ _ _ _) hroom fun w' h1 h2 => ?_
    refine h _ w' ⟨?_, hnil w'⟩ ⟨ownsRow_front h1 hLl, fun r hr => hnil w' r (List.mem_append_left _ hr)⟩ (fun w0 hb => hb.grown h2 hBw fun k hk => (hown.row.lt k hk).1) (fun b hb hne => h2.block b hb fun e => hne (Option.some.inj e))
    rw [List.length_append, cells9_snoc]; exact h1
  · refine wpList_append_grows w hgd s x 32 ho 31 i0 (.agg item0) 9 80 Tryd.und32 hi hz0 hz1 hz2 rfl (by decide) _ L.length cap (cells9 L) hs (fun e => by cases e) hLl (fun b e j u hj => ?_) ⟨g, 0, none⟩ 1 1 (cellsOf y (.slice none 0 0)).toList hx rfl hnews (cells_mem_one _ _ _ _) (by omega) (by unfold maxLen; omega) (by omega) fun v' w' h1 h2 => ?_
    · cases e
      have hj' : j < L.length * 9 := by rw [← hLl]; exact (List.getElem?_eq_some_iff.1 hj).1
      rw [Addr.add_mid, Nat.zero_add, hown.row.cellAt j hj']; exact hj
    · refine h v' w' ⟨?_, hnil w'⟩ ⟨World.ownsRow.kept hown.row h2 (.inr (by simp [Value.ownBlock])), fun r hr => hnil w' r (List.mem_append_left _ hr)⟩ (fun w0 hb => hb.grown h2 hBw fun k hk => by cases hk) (fun b hb _ => h2.block b hb (by simp))
      rw [List.length_append, cells9_snoc]
      obtain ⟨h3, h4⟩ := h1
      refine ⟨h3, h4.imp id ?_⟩
      rintro ⟨g', cap', cur, e1, e2, e3⟩
      exact ⟨g', cap', cur, e1, Nat.le_trans hBw e2, e3⟩

/-- 'make' behind a guard that is met -/
theorem make_wanted {ops : Array Oper} {rest : List Oper} {o : Oper} {a : Act} {Q : Exit → Act → World → Prop} (w : World) (hwt : Region.wanted o (yielded ops a.tmps) = true) (l c : Operand) (t : TypeId) (hop : o.op = Op.makeSlice t l c)
    (base : Nat) (e : TypeId) (i : TypeInfo) (z : Value) (size : Nat) (h1 : Tryd.prog.underlying t = some (.slice e)) (h2 : Tryd.prog.info? e = some i) (h3 : i.zero = some z) (h4 : i.size = size)
    (kl kc : IntKind) (n : Nat) (hl : a.eval l = .int kl n) (hc : a.eval c = .int kc n) (b2 : i.bytes * n ≤ 281474976710656) (b3 : n ≤ maxLen) (b4 : base ≤ w.heap.size)
    (h : ∀ w', w'.ownsRow base e size (.slice (some ⟨w.heap.size, 0, none⟩) n n) n (madeCells z.cells (n * size)).toList → w.grownBy w' none → wpList Tryd.prog ops Q rest (a.put o.dst (.slice (some ⟨w.heap.size, 0, none⟩) n n)) w') :
    wpList Tryd.prog ops Q (o :: rest) a w := by
  refine wpList_step fun K hK => ?_
  rw [if_pos hwt]
  obtain ⟨w', hrun, r1, r2⟩ := run_make_full (P := Tryd.prog) w base t e i z size h1 h2 h3 h4 kl kc n b2 b3 b4
  unfold Oper.wp
  simp [execOp, hop, hl, hc, hrun, Result.andThen]
  exact hK _ _ (h w' r1 r2)

set_option maxHeartbeats 400000 in
theorem check_long (p : Option Addr) (n c : Nat) (w : World) (hbig : 4096 < n) (hn63 : n ≤ 9223372036854775807) :
    Calls Tryd.prog 11 #[.slice p n c] w fun E w' => E = .returned (.tuple #[.int .i64 3, .int .i64 0]) ∧ Below w.heap.size w w' := by
  go_enter Tryd.func11, Tryd.ntmps11
  go_wp2
  go_ret2
  exact ⟨rfl, below_self _⟩
set_option maxHeartbeats 400000 in
theorem places_long (p : Option Addr) (n c : Nat) (w : World) (hbig : 4096 < n) (hn63 : n ≤ 9223372036854775807) :
    Calls Tryd.prog 5 #[.slice p n c] w fun E w' => ∃ v, E = .returned (.tuple #[v, .int .i64 0, .int .i64 3]) ∧ Below w.heap.size w w' := by
  have hC := fun W => check_long p n c W hbig hn63
  go_enter Tryd.func5, Tryd.ntmps5
  go_wp2_with (go_at_call 11; refine (hC _).mono ?_; rintro E w1 ⟨rfl, hb1⟩)
  go_ret3
  exact ⟨_, rfl, below_step (new_alloc w _) hb1⟩

end Go.Proofs.YthjbdbmncfbihaaDoor

/- How the arguments of a law are opened: a slice of bytes, a text, numbers; and that they lie within the form's own reach. -/
namespace Go.Proofs.YthjbdbmncfbihaaDoor
open Go.ChangeShapes Go.WideShapes Go.ChangeAt Go.RowKit

theorem Tryd.own : ownKnob Tryd.prog.godebug = none := by kernel_rfl
theorem Tryd.laidOut : laidOutB Tryd.prog = true := by kernel_rfl
theorem Tryd.cells5 : Tryd.prog.cellsOf 5 = 1 := by kernel_rfl
theorem Tryd.bytes5 : Tryd.prog.bytesOf 5 = 1 := by kernel_rfl

theorem wf_u8 {x : Int} (h : (Lit.int .u8 x).wf = true) : 0 ≤ x ∧ x ≤ 255 := by
  have h1 : IntKind.u8.min = 0 := rfl
  have h2 : IntKind.u8.max = 255 := rfl
  simp only [Lit.wf, Bool.and_eq_true, decide_eq_true_eq] at h
  omega
theorem wf_u32 {x : Int} (h : (Lit.int .u32 x).wf = true) : 0 ≤ x ∧ x ≤ 4294967295 := by
  have h1 : IntKind.u32.min = 0 := rfl
  have h2 : IntKind.u32.max = 4294967295 := rfl
  simp only [Lit.wf, Bool.and_eq_true, decide_eq_true_eq] at h
  omega
theorem wf_i32 {x : Int} (h : (Lit.int .i32 x).wf = true) : -2147483648 ≤ x ∧ x ≤ 2147483647 := by
  have h1 : IntKind.i32.min = -2147483648 := rfl
  have h2 : IntKind.i32.max = 2147483647 := rfl
  simp only [Lit.wf, Bool.and_eq_true, decide_eq_true_eq] at h
  omega
theorem wf_i64 {x : Int} (h : (Lit.int .i64 x).wf = true) : -9223372036854775808 ≤ x ∧ x ≤ 9223372036854775807 := by
  have h1 : IntKind.i64.min = -9223372036854775808 := rfl
  have h2 : IntKind.i64.max = 9223372036854775807 := rfl
  simp only [Lit.wf, Bool.and_eq_true, decide_eq_true_eq] at h
  omega

theorem getD_of_mem {P : Int → Prop} (h0 : P 0) {zs : List Int} (h : ∀ n ∈ zs, P n) (i : Nat) : P (zs.getD i 0) := by
  by_cases hi : i < zs.length
  · have := h zs[i] (List.getElem_mem hi)
    simpa [List.getD, hi] using this
  · simpa [List.getD, List.getElem?_eq_none (show zs.length ≤ i by omega)] using h0

/-- a slice of bytes that came in: its bytes, where they lie, and its datum -/
theorem opened {H : Type} {enc : TypeId × Value → H} {W : World} {a : Option Addr} {n c : Nat} {d : DataW H} {p : List MemPlace}
    (h : DataW.Trod enc Tryd.prog W 0 (fun _ => true) true 29 (.slice a n c) d p) :
    ∃ xs : List Int, xs.length = n ∧ n ≤ c ∧ Row W a xs ∧ Byt xs ∧ ((d = .nil ∧ c = 0) ∨ ∃ es sp, d = .slice es sp ∧ es.length + sp.length = c) := by
  obtain ⟨fuel, hf⟩ := h
  rcases open_ints Tryd.underlying29 Tryd.underlying5 Tryd.cells5 hf with ⟨hcs, hx⟩ | ⟨ad, l, cc, zs, hcs, _, hl, hm, hz, hx, hcell, hwz⟩
  · simp [Value.cells] at hcs
    obtain ⟨rfl, rfl, rfl⟩ := hcs
    simp only [Prod.mk.injEq] at hx
    exact ⟨[], rfl, Nat.le_refl _, fun h => absurd h (Nat.lt_irrefl 0), fun i => by simp, .inl ⟨hx.1, rfl⟩⟩
  · simp [Value.cells] at hcs
    obtain ⟨rfl, rfl, rfl⟩ := hcs
    simp only [Prod.mk.injEq] at hx
    simp only [if_true] at hz
    have hlen : (zs.take n).length = n := by rw [List.length_take]; omega
    refine ⟨zs.take n, hlen, hl, fun h0 => ?_, fun i => getD_of_mem (P := fun x => 0 ≤ x ∧ x ≤ 255) (by decide) (fun x hx' => wf_u8 (hwz x (List.mem_of_mem_take hx'))) i, .inr ⟨_, _, hx.1, ?_⟩⟩
    · obtain ⟨b, o, s⟩ := ad
      obtain rfl : s = none := by simpa [Addr.add] using World.cell?_spot (hcell 0 (by omega))
      exact ⟨b, o, rfl, fun i hi => by rw [← Go.WideShapes.add_plain, hcell i (by omega)]; simp [List.getD, show i < n by omega]⟩
    · simp [lits]; omega

theorem reach_slice {H : Type} {ts : List TypeId} {ds : List (DataW H)} (hsz : (DataW.weightsEach Tryd.prog ts ds).all (· ≤ reachBytes) = true) {j : Nat} {d : DataW H} {c : Nat} (ht : ts[j]? = some 29) (hd : ds[j]? = some d)
    (h : (d = .nil ∧ c = 0) ∨ ∃ es sp, d = .slice es sp ∧ es.length + sp.length = c) : c ≤ 140737488351232 := by
  rcases h with ⟨_, rfl⟩ | ⟨es, sp, rfl, hl⟩
  · omega
  · have := sized_slice hsz (j := j) (t := 29) (e := 5) ht hd Tryd.underlying29
    rw [Tryd.bytes5] at this
    simp only [reachBytes] at this
    omega

theorem reach_string {H : Type} {ts : List TypeId} {ds : List (DataW H)} (hsz : (DataW.weightsEach Tryd.prog ts ds).all (· ≤ reachBytes) = true) {j : Nat} {s : ByteArray} (ht : ts[j]? = some 9) (hd : ds[j]? = some (.lit (.string s.data.toList))) : s.size ≤ 140737488351232 := by
  have := sized_string hsz (j := j) (t := 9) ht hd
  simp only [reachBytes] at this
  simpa using this

end Go.Proofs.YthjbdbmncfbihaaDoor

/- The chapter's limits and examples, reckoned. -/
namespace Go.Proofs.YthjbdbmncfbihaaDoor
open Go.RowKit

def xSp (n : Int) : Src := { srcK 5 with n := n }
def xMk : Src := { srcK 3 with name := ⟨#[107]⟩, tg := ⟨#[97]⟩ }
def xBy65 : Src := { srcK 4 with d := List.replicate 65 0 }
theorem xSp_fit (n : Int) (h0 : -9223372036854775808 ≤ n) (h1 : n ≤ 9223372036854775807) : Fit (xSp n) := { srcK_fit 5 (by decide) (by decide) with n0 := h0, n1 := h1 }
theorem xMk_fit : Fit xMk := { srcK_fit 3 (by decide) (by decide) with nz := by show (1 : Nat) ≤ _; omega, tz := by show (1 : Nat) ≤ _; omega }
theorem xBy65_fit : Fit xBy65 := { srcK_fit 4 (by decide) (by decide) with d := byt_of (List.replicate 65 0) (by decide), dz := by show (65 : Nat) ≤ _; omega }

theorem may_not {x : Src} (h : ¬ GoodP x) : mayB x = false := by
  cases hm : mayB x with
  | false => rfl
  | true => exact absurd (may_good hm) h
theorem may_sp4097 : mayB (xSp 4097) = false := may_not fun h => by
  rcases h with h | ⟨h, _⟩ | h | ⟨h, _⟩ | ⟨_, _, h⟩ | ⟨h, _⟩ | h <;> revert h <;> simp [xSp, srcK]
theorem may_spNeg : mayB (xSp (-1)) = false := may_not fun h => by
  rcases h with h | ⟨h, _⟩ | h | ⟨h, _⟩ | ⟨_, h, _⟩ | ⟨h, _⟩ | h <;> revert h <;> simp [xSp, srcK]
theorem may_9 : mayB (srcK 9) = false := may_not fun h => by
  rcases h with h | ⟨h, _⟩ | h | ⟨h, _⟩ | ⟨h, _⟩ | ⟨h, _⟩ | h <;> revert h <;> simp [srcK]
theorem may_by65 : mayB xBy65 = false := may_not fun h => by
  rcases h with h | ⟨h, _⟩ | h | ⟨_, _, h, _⟩ | ⟨h, _⟩ | ⟨h, _⟩ | h <;> revert h <;> simp [xBy65, srcK]
theorem may_alNo (n : Int) (h : ¬ (n = 1 ∨ n = 2 ∨ n = 4 ∨ n = 8 ∨ n = 16 ∨ n = 32 ∨ n = 64)) : mayB (xAl n) = false := may_not fun hg => by
  rcases hg with h' | ⟨h', _⟩ | h' | ⟨h', _⟩ | ⟨h', _⟩ | ⟨_, h'⟩ | h'
  · revert h'; simp [xAl, srcK]
  · revert h'; simp [xAl, srcK]
  · revert h'; simp [xAl, srcK]
  · revert h'; simp [xAl, srcK]
  · revert h'; simp [xAl, srcK]
  · exact h h'
  · revert h'; simp [xAl, srcK]
theorem itoa_8 : Lib.itoa 8 = [56] := by simp [Lib.itoa, Lib.decDigits]
theorem itoa_64 : Lib.itoa 64 = [54, 52] := by simp [Lib.itoa, Lib.decDigits]
theorem itoa_4096 : Lib.itoa 4096 = [52, 48, 57, 54] := by simp [Lib.itoa, Lib.decDigits]
theorem txt_al8 : lineT (xAl 8) = [97, 108, 105, 103, 110, 32, 56] := by
  have h1 : lineT (xAl 8) = [97, 108, 105, 103, 110] ++ (32 :: Lib.itoa 8) := by kernel_rfl
  rw [h1, itoa_8]; rfl
theorem txt_al64 : lineT (xAl 64) = [97, 108, 105, 103, 110, 32, 54, 52] := by
  have h1 : lineT (xAl 64) = [97, 108, 105, 103, 110] ++ (32 :: Lib.itoa 64) := by kernel_rfl
  rw [h1, itoa_64]; rfl
theorem txt_al1 : lineT (xAl 1) = [97, 108, 105, 103, 110, 32, 49] := by
  have h1 : lineT (xAl 1) = [97, 108, 105, 103, 110] ++ (32 :: Lib.itoa 1) := by kernel_rfl
  rw [h1, itoa_1]; rfl
theorem txt_sp : lineT (xSp 4096) = [115, 112, 97, 99, 101, 32, 52, 48, 57, 54] := by
  have h1 : lineT (xSp 4096) = [115, 112, 97, 99, 101] ++ (32 :: Lib.itoa 4096) := by kernel_rfl
  rw [h1, itoa_4096]; rfl
theorem may_al8 : mayB (xAl 8) = true := by unfold mayB; rw [txt_al8]; kernel_rfl
theorem may_al64 : mayB (xAl 64) = true := by unfold mayB; rw [txt_al64]; kernel_rfl
theorem may_al1 : mayB (xAl 1) = true := by unfold mayB; rw [txt_al1]; kernel_rfl
theorem may_sp : mayB (xSp 4096) = true := by unfold mayB; rw [txt_sp]; kernel_rfl
theorem may_mk : mayB xMk = true := by kernel_rfl
theorem may_nop : mayB (xIns 2) = true := by kernel_rfl

/-- the chapter's table of aligns, places and sizes -/
def nK (k : Nat) : Int := match k with | 2 => 64 | 4 => 3 | 6 => 1 | 7 => 64 | 8 => 0 | 9 => -8 | _ => 8
def aK (k : Nat) : Int := match k with | 0 => 5 | 1 => 8 | 2 => 1 | 3 => -1 | 4 => 1 | 5 => 9223372036854775807 | 6 => 7 | 7 => -9223372036854775808 | _ => 5
def wK (k : Nat) : Int := match k with | 0 => 3 | 2 => 63 | 5 => 1 | _ => 0
theorem sizeP_yes {x : Src} (h : mayB x = true) (a : Nat) : sizeP x a = (sizeL x a : Int) := by
  unfold sizeP; rw [if_neg (by simp [h])]; rfl
theorem sizeP_neg {x : Src} {a : Int} (h : a < 0) : sizeP x a = 0 := by unfold sizeP; rw [if_pos (.inl h)]
theorem sizeP_no {x : Src} (h : mayB x = false) (a : Int) : sizeP x a = 0 := by unfold sizeP; rw [if_pos (.inr h)]
theorem sizes_K : ∀ k, k < 10 → sizeP (xAl (nK k)) (aK k) = wK k
  | 0, _ => (sizeP_yes may_al8 5).trans (by decide)
  | 1, _ => (sizeP_yes may_al8 8).trans (by decide)
  | 2, _ => (sizeP_yes may_al64 1).trans (by decide)
  | 3, _ => sizeP_neg (by decide)
  | 4, _ => sizeP_no (may_alNo 3 (by decide)) _
  | 5, _ => (sizeP_yes may_al8 9223372036854775807).trans (by decide +kernel)
  | 6, _ => (sizeP_yes may_al1 7).trans (by decide)
  | 7, _ => sizeP_neg (by decide)
  | 8, _ => sizeP_no (may_alNo 0 (by decide)) _
  | 9, _ => sizeP_no (may_alNo (-8) (by decide)) _
  | k + 10, h => absurd h (by omega)
theorem nK_in (k : Nat) (h : k < 10) : -9223372036854775808 ≤ nK k ∧ nK k ≤ 9223372036854775807 := by
  have : ∀ k, k < 10 → -9223372036854775808 ≤ nK k ∧ nK k ≤ 9223372036854775807 := by decide
  exact this k h
def sp16 : List Src := List.replicate 16 (xSp 4096)
theorem chk_sp : ∀ n i, chkAt i (List.replicate n (xSp 4096)) = (0, 0)
  | 0, _ => rfl
  | n + 1, i => by
    rw [List.replicate_succ]
    unfold chkAt
    rw [if_neg (by rw [may_sp]; decide), if_neg (fun h => absurd h.1 (by decide))]
    exact chk_sp n (i + 1)
theorem chk_sp17 : ∀ n i, chkAt i (List.replicate n (xSp 4096) ++ [xIns 2]) = (0, 0)
  | 0, i => by
    show chkAt i [xIns 2] = (0, 0)
    unfold chkAt
    rw [if_neg (by rw [may_nop]; decide), if_neg (fun h => absurd h.1 (by decide))]
    rfl
  | n + 1, i => by
    rw [List.replicate_succ, List.cons_append]
    unfold chkAt
    rw [if_neg (by rw [may_sp]; decide), if_neg (fun h => absurd h.1 (by decide))]
    exact chk_sp17 n (i + 1)
theorem lay16 : layE sp16 = 0 ∧ endI sp16 = 65536 ∧ placesI sp16 = ints ((List.range 16).map (fun k => k * 4096)) := by
  have hp : placesL 0 sp16 = ((List.range 16).map (fun k => k * 4096), 65536) := by kernel_rfl
  have hc : (checkL sp16).1 = 0 := by
    unfold checkL sp16
    rw [if_neg (by simp), chk_sp]
  have h1 : layE sp16 = 0 := by
    unfold layE; rw [hc, if_neg (by decide), hp, if_neg (by decide)]
  refine ⟨h1, ?_, ?_⟩
  · unfold endI; rw [if_pos h1, hp]
  · unfold placesI; rw [if_pos h1, hp]
theorem lay17 : layE (sp16 ++ [xIns 2]) = 3 := by
  have hp : (placesL 0 (sp16 ++ [xIns 2])).2 = 65537 := by kernel_rfl
  have hc : (checkL (sp16 ++ [xIns 2])).1 = 0 := by
    unfold checkL sp16
    rw [if_neg (by simp), chk_sp17]
  unfold layE; rw [hc, if_neg (by decide), hp, if_pos (by decide)]
theorem layMk : layE [xMk] = 182 := by
  have h := check_one xMk
  rw [may_mk, if_neg (by decide), if_pos (by decide)] at h
  unfold layE
  rw [h, if_pos (by decide)]

end Go.Proofs.YthjbdbmncfbihaaDoor

/- switchyardlaw05.LayoutNumbers answers true. -/
namespace Go.Proofs.YthjbdbmncfbihaaDoor
open Go.RowKit

theorem Tryd.sz22 : (Tryd.prog.info? 22).map (·.size) = some 3 := by kernel_rfl
abbrev tab30 : Array Value := #[.int .i64 8, .int .i64 5, .int .i64 3, .int .i64 8, .int .i64 8, .int .i64 0, .int .i64 64, .int .i64 1, .int .i64 63, .int .i64 8, .int .i64 (-1), .int .i64 0, .int .i64 3, .int .i64 1, .int .i64 0,
  .int .i64 8, .int .i64 9223372036854775807, .int .i64 1, .int .i64 1, .int .i64 7, .int .i64 0, .int .i64 64, .int .i64 (-9223372036854775808), .int .i64 0, .int .i64 0, .int .i64 5, .int .i64 0, .int .i64 (-8), .int .i64 5, .int .i64 0]
theorem tab_at : ∀ k, k < 10 → tab30[k * 3]? = some (.int .i64 (nK k)) ∧ tab30[k * 3 + 1]? = some (.int .i64 (aK k)) ∧ tab30[k * 3 + 2]? = some (.int .i64 (wK k))
  | 0, _ => ⟨rfl, rfl, rfl⟩
  | 1, _ => ⟨rfl, rfl, rfl⟩
  | 2, _ => ⟨rfl, rfl, rfl⟩
  | 3, _ => ⟨rfl, rfl, rfl⟩
  | 4, _ => ⟨rfl, rfl, rfl⟩
  | 5, _ => ⟨rfl, rfl, rfl⟩
  | 6, _ => ⟨rfl, rfl, rfl⟩
  | 7, _ => ⟨rfl, rfl, rfl⟩
  | 8, _ => ⟨rfl, rfl, rfl⟩
  | 9, _ => ⟨rfl, rfl, rfl⟩
  | k + 10, h => absurd h (by omega)
/-- Size of an item without data -/
theorem size_of (x : Src) (hx : Fit x) (hd : x.d = []) (a r : Int) (hr : sizeP x a = r) (W : World) (he : Env W) :
    Calls Tryd.prog 4 #[.agg (cellsOf x (.slice none 0 0)), .int .i64 a] W fun E w' => E = .returned (.int .i64 r) ∧ Below W.heap.size W w' := by
  rw [← hr]
  exact laySize_any x hx none 0 0 a W he (by rw [hd]; rfl) (fun h => by rw [hd] at h; exact absurd h (Nat.lt_irrefl 0))

/-- spaces, one behind the other -/
def spL (k : Nat) : List (Src × Value) := List.replicate k (xSp 4096, .slice none 0 0)
theorem spL_len (k : Nat) : (spL k).length = k := List.length_replicate
theorem spL_succ (k : Nat) : spL (k + 1) = spL k ++ [(xSp 4096, .slice none 0 0)] := List.replicate_succ'
theorem spL_fst (k : Nat) : (spL k).map Prod.fst = List.replicate k (xSp 4096) := by simp [spL]
theorem spL_fit (k : Nat) : ∀ q ∈ spL k, Fit q.1 := fun q hq => by
  rw [List.eq_of_mem_replicate hq]; exact xSp_fit 4096 (by decide) (by decide)
theorem spL_nil (k : Nat) : ∀ r ∈ spL k, r.2 = .slice none 0 0 ∧ r.1.d = [] := fun r hr => by
  rw [List.eq_of_mem_replicate hr]; exact ⟨rfl, rfl⟩

theorem cell_same {w w' : World} {b o : Nat} {v : Value} (h : w'.heap[b]? = w.heap[b]?) (hc : w.cell? ⟨b, o, none⟩ = some v) : w'.cell? ⟨b, o, none⟩ = some v := by
  rw [← hc]; simp [World.cell?, h]
theorem sp17_fit : ∀ q ∈ spL 16 ++ [(xIns 2, (.slice none 0 0 : Value))], Fit q.1 := fun q hq => by
  rcases List.mem_append.1 hq with h | h
  · exact spL_fit 16 q h
  · rw [List.mem_singleton] at h; rw [h]; exact xIns_fit 2 (by decide) (by decide)
theorem places17 : endI (sp16 ++ [xIns 2]) = 0 ∧ placesI (sp16 ++ [xIns 2]) = [] ∧ bytesI (sp16 ++ [xIns 2]) = [] := by
  refine ⟨?_, ?_, ?_⟩
  · unfold endI; rw [lay17, if_neg (by decide)]
  · unfold placesI; rw [lay17, if_neg (by decide)]
  · unfold bytesI; rw [lay17, if_neg (by decide)]

set_option maxRecDepth 20000 in
set_option maxHeartbeats 1000000 in
theorem numbers_any (w : World) (he : Env w) : Calls Tryd.prog 3 #[] w fun E w' => E = .returned (.bool true) ∧ Below w.heap.size w w' := by
  have HE := Hid.in he
  clear he
  go_enter Tryd.func3, Tryd.ntmps3
  go_wp2_with fail
  have HT : Hid (Blk (w.alloc (.cells tab30 22)) w.heap.size 22 tab30) := Blk.new w 22 tab30
  have HB0 : Hid (Below w.heap.size w (w.alloc (.cells tab30 22))) := new_alloc w _
  generalize w.alloc (.cells tab30 22) = w1 at *
  generalize hg0 : w.heap.size = g0 at *
  have HG0 := Hid.in hg0
  clear hg0
  go_loopw [33] (fun i wr => ∃ k : Nat, k ≤ 10 ∧ i = .int .i64 k ∧ Below w1.heap.size w1 wr) (fun i _ => 10 - (intOf i).toNat)
  case atStart => exact ⟨0, Nat.zero_le _, rfl, below_self _⟩
  case round =>
    obtain ⟨k, hk, rfl, hb⟩ := hrel
    have HBK := Hid.in hb
    by_cases hlt : k < 10
    · obtain ⟨t0, t1, t2⟩ := tab_at k hlt
      have hB := HT.out.grow hb
      have c0 : wr.cell? ⟨g0, k * 3, none⟩ = some (.int .i64 (nK k)) := (hB.cell _).trans t0
      have c1 : wr.cell? ⟨g0, k * 3 + 1, none⟩ = some (.int .i64 (aK k)) := (hB.cell _).trans t1
      have c2 : wr.cell? ⟨g0, k * 3 + 2, none⟩ = some (.int .i64 (wK k)) := (hB.cell _).trans t2
      have hS := fun W he => size_of (xAl (nK k)) (xAl_fit _ (nK_in k hlt).1 (nK_in k hlt).2) rfl (aK k) (wK k) (sizes_K k hlt) W he
      clear t0 t1 t2 hB hb
      generalize nK k = nn at *
      generalize aK k = aa at *
      generalize wK k = ww at *
      simp only [cellsOf, xAl, srcK, noText] at hS
      go_wp2_with fail
      have HB2 : Hid (Blk (wr.alloc (.cells #[.int .i64 nn, .int .i64 aa, .int .i64 ww] 22)) wr.heap.size 22 #[.int .i64 nn, .int .i64 aa, .int .i64 ww]) := Blk.new wr 22 _
      have HW2 : Hid (Below w1.heap.size w1 (wr.alloc (.cells #[.int .i64 nn, .int .i64 aa, .int .i64 ww] 22))) := below_alloc HBK.out _
      generalize wr.alloc (.cells #[.int .i64 nn, .int .i64 aa, .int .i64 ww] 22) = W2 at *
      generalize wr.heap.size = gx at *
      have d0 : W2.cell? ⟨gx, 0, none⟩ = some (.int .i64 nn) := HB2.out.cell 0
      have d1 : W2.cell? ⟨gx, 1, none⟩ = some (.int .i64 aa) := HB2.out.cell 1
      have d2 : W2.cell? ⟨gx, 2, none⟩ = some (.int .i64 ww) := HB2.out.cell 2
      have hbn : (ww != ww) = false := by simp
      have hS1 := hS (W2.drewN 1) ((HE.out.below (HG0.out ▸ HB0.out)).below (below_draws HW2.out 1))
      clear hS c0 c1 c2
      go_region_law (go_simp; go_at_call 4; refine hS1.mono ?_; rintro E w5 ⟨rfl, hb5⟩; have HB5 := Hid.in (below_step (below_draws HW2.out 1) hb5); have d52 : w5.cell? ⟨gx, 2, none⟩ = some (.int .i64 ww) := (hb5.cell (p := ⟨gx, 2, none⟩) (cell_lt d2)).trans d2; clear hb5)
      all_goals
        go_wp2_with fail
        go_roundw
        case rel => exact ⟨k + 1, by omega, by go_num, HB5.out⟩
        case measure => simp [intOf]; omega
    · have HB : Hid (Below w.heap.size w wr) := below_step (HG0.out ▸ HB0.out) HBK.out
      clear HBK HB0 HT
      have s1 := fun W he => size_of (xSp 4097) (xSp_fit 4097 (by decide) (by decide)) rfl 0 0 (sizeP_no may_sp4097 0) W he
      have s2 := fun W he => size_of (xSp 4096) (xSp_fit 4096 (by decide) (by decide)) rfl 0 4096 ((sizeP_yes may_sp 0).trans (by decide)) W he
      have s3 := fun W he => size_of (xSp (-1)) (xSp_fit (-1) (by decide) (by decide)) rfl 0 0 (sizeP_no may_spNeg 0) W he
      have s4 := fun W he => size_of xMk xMk_fit rfl 0 0 ((sizeP_yes may_mk 0).trans (by decide)) W he
      have s5 := fun W he => size_of (srcK 9) (srcK_fit 9 (by decide) (by decide)) rfl 0 0 (sizeP_no may_9 0) W he
      simp only [cellsOf, xSp, xMk, srcK, noText] at s1 s2 s3 s4 s5
      go_wp2_with (go_at_call 4; refine Hid.out ?_)
      refine Lib.hid ?_
      refine (s1 _ (HE.out.below HB.out)).mono ?_
      rintro E w2 ⟨rfl, hb2⟩
      replace HB := Hid.in (below_step HB.out hb2)
      clear hb2 s1
      go_wp2_with (go_at_call 4; refine Hid.out ?_)
      refine Lib.hid ?_
      refine (s2 _ (HE.out.below HB.out)).mono ?_
      rintro E w3 ⟨rfl, hb2⟩
      replace HB := Hid.in (below_step HB.out hb2)
      clear hb2 s2
      go_wp2_with (go_at_call 4; refine Hid.out ?_)
      refine Lib.hid ?_
      refine (s3 _ (HE.out.below HB.out)).mono ?_
      rintro E w4 ⟨rfl, hb2⟩
      replace HB := Hid.in (below_step HB.out hb2)
      clear hb2 s3
      go_wp2_with (go_at_call 4; refine Hid.out ?_)
      refine Lib.hid ?_
      refine (s4 _ (HE.out.below HB.out)).mono ?_
      rintro E w5 ⟨rfl, hb2⟩
      replace HB := Hid.in (below_step HB.out hb2)
      clear hb2 s4
      go_wp2_with (go_at_call 4; refine Hid.out ?_)
      refine Lib.hid ?_
      refine (s5 _ (HE.out.below HB.out)).mono ?_
      rintro E w6 ⟨rfl, hb2⟩
      replace HB := Hid.in (below_step HB.out hb2)
      clear hb2 s5
      obtain ⟨i0, hi, hz0, hz1, hz2⟩ := info_parts Tryd.info5
      go_wp2_with (at_make; refine Hid.out ?_)
      refine Lib.hid ?_
      refine make_wanted _ (by rfl) _ _ 29 rfl w6.heap.size 5 i0 (.int .u8 0) 1 Tryd.underlying29 hi hz0 hz1 .i64 .i64 65 rfl rfl (by rw [hz2]; decide) (by unfold maxLen; decide) (Nat.le_refl _) ?_
      intro w7 hown hgrow
      have HO7 := Hid.in (Own.of_made hown)
      have hb7 := (Below.refl w6.heap.size w6).grown hgrow (Nat.le_refl _) (by simp)
      replace HB := Hid.in (below_step HB.out hb7)
      have s6 := laySize_any xBy65 xBy65_fit (some ⟨w6.heap.size, 0, none⟩) 65 65 0 w7 (HE.out.below HB.out) rfl HO7.out.row
      rw [sizeP_no may_by65 0] at s6
      simp only [cellsOf, xBy65, srcK, noText] at s6
      clear hown hgrow hb7 HO7
      go_wp2_with (go_at_call 4; refine Hid.out ?_)
      refine Lib.hid ?_
      refine s6.mono ?_
      rintro E w8 ⟨rfl, hb2⟩
      replace HB := Hid.in (below_step HB.out hb2)
      clear hb2 s6 hi hz0 hz1 hz2
      go_wp2_with fail
      go_loopw [4, 5] (fun v i wr => ∃ j : Nat, j ≤ 16 ∧ i = .int .i64 j ∧ IOwn wr w.heap.size v (spL j) ∧ Below w.heap.size w wr) (fun _ i _ => 16 - (intOf i).toNat)
      case atStart => exact ⟨0, Nat.zero_le _, rfl, IOwn.nil _ _, HB.out⟩
      case round =>
        obtain ⟨j, hj, rfl, hI, hbj⟩ := hrel
        obtain ⟨pv, cv, hv, hcv, hcm, hpv⟩ := hI.shape
        rw [spL_len] at hv hcv hpv
        subst hv
        have HI := Hid.in hI
        have HBJ := Hid.in hbj
        clear hI hbj
        by_cases hltj : j < 16
        · clear hpv
          go_wp2_with (at_builtin; refine gpush9 _ rfl _ _ rfl w.heap.size _ (spL j) rfl (HI.out.below (new_alloc wr _)) wr.heap.size (xSp 4096) none 0 0 rfl (Blk.new wr 31 _) (GOwnV.nil _ _ _) (by rw [spL_len]; omega) (by have := HBJ.out.size; simp; omega) ?_; intro v3 w3 hI3 hg3 hb3; have HI3 := Hid.in hI3; have HB3 := Hid.in (hb3 w (below_alloc HBJ.out _)); clear hI3 hg3 hb3)
          go_roundw
          case rel => exact ⟨j + 1, by omega, by go_num, by rw [spL_succ]; exact HI3.out, HB3.out⟩
          case measure => simp [intOf]; omega
        · have hj16 : j = 16 := by omega
          subst hj16
          obtain ⟨gl, rfl, -, -⟩ := hpv (by decide)
          have hit : Items wr (some ⟨gl, 0, none⟩) sp16 := by
            have := HI.out.items (spL_fit 16) rfl
            rw [spL_fst] at this
            exact this
          obtain ⟨l1, l2, l3⟩ := lay16
          obtain ⟨l4, l5, l6⟩ := places17
          have hP1 := places_any (some ⟨gl, 0, none⟩) 16 cv sp16 wr (HE.out.below HBJ.out) rfl hcv (Nat.le_trans hcm (by unfold maxLen; decide)) hit
          unfold PlacesIs at hP1
          rw [l1, l2, l3] at hP1
          have hIn := fun W => instr_any 2 W
          simp only [cellsOf, xIns, srcK, noText] at hIn
          clear hit
          go_wp2_with (go_at_call 5; refine Hid.out ?_)
          refine Lib.hid ?_
          refine hP1.mono ?_
          rintro E wa ⟨va, rfl, hva, hba⟩
          obtain ⟨pa, ca, hpa, hra, -, -⟩ := hva.slice
          have hpa' : va = .slice pa 16 ca := hpa
          subst hpa'
          obtain ⟨ba, oa, hpp, hca⟩ := hra (by simp [nums, ints])
          subst hpp
          have ca15 : wa.cell? ⟨ba, oa + 15, none⟩ = some (.int .i64 61440) := (hca 15 (by simp [nums, ints])).trans rfl
          have HIA := Hid.in (HI.out.below hba)
          have HBA := Hid.in (below_step HBJ.out hba)
          have hbg : ba ≠ gl := by
            rcases row_apart hva (HI.out.below hba).row (by decide) with e | e
            · cases e
            · exact fun e' => e (by rw [e']; rfl)
          have HC15 := Hid.in ca15
          clear hpa hra hva hca hba ca15 hP1 HI HBJ
          go_wp2_with (first
            | (go_at_call 6; refine (hIn wa).mono ?_; rintro E wb ⟨rfl, hbb⟩; have HIB := Hid.in (HIA.out.below hbb); have HBB := Hid.in (below_step HBA.out hbb); have HC15b := Hid.in ((hbb.cell (p := ⟨ba, oa + 15, none⟩) (cell_lt HC15.out)).trans HC15.out); clear hbb)
            | (at_builtin; refine Hid.out ?_))
          refine Lib.hid ?_
          refine gpush9two _ rfl _ _ rfl w.heap.size gl cv (spL 16) rfl (HIB.out.below (new_alloc wb _)) wb.heap.size (xIns 2) rfl (spL_nil 16) rfl (Blk.new wb 31 _) (by rw [spL_len]; decide) (by have := HBB.out.size; simp; omega) ?_
          intro vc wc hIc hIl hbc hkc
          have HC15c : Hid (wc.cell? ⟨ba, oa + 15, none⟩ = some (.int .i64 61440)) := cell_same (hkc ba (Nat.lt_succ_of_lt (cell_lt HC15b.out) |> (by simpa using ·)) hbg) ((new_alloc wb _).cell (p := ⟨ba, oa + 15, none⟩) (cell_lt HC15b.out) |>.trans HC15b.out)
          have HWC := Hid.in (hbc w (below_alloc HBB.out _))
          obtain ⟨pc, cc, hvc, hcc, hccm, -⟩ := hIc.shape
          have hvc' : vc = .slice pc 17 cc := hvc
          subst hvc'
          have hitc : Items wc pc (sp16 ++ [xIns 2]) := by
            have := hIc.items sp17_fit rfl
            rw [List.map_append, spL_fst] at this
            exact this
          have hP2 := places_any pc 17 cc (sp16 ++ [xIns 2]) wc (HE.out.below HWC.out) rfl hcc (Nat.le_trans hccm (by unfold maxLen; decide)) hitc
          unfold PlacesIs at hP2
          rw [lay17, l4, l5] at hP2
          have HIL := Hid.in hIl
          clear hIc hIl hbc hkc hvc hitc HIB HBB HC15b HIA HBA HC15
          go_wp2_with (go_at_call 5; refine Hid.out ?_)
          refine Lib.hid ?_
          refine hP2.mono ?_
          rintro E wd ⟨vd, rfl, hvd, hbd⟩
          obtain ⟨pd, cd, hpd, -, -, -⟩ := hvd.slice
          have hpd' : vd = .slice pd 0 cd := hpd
          subst hpd'
          have HID := Hid.in (HIL.out.below hbd)
          have HBD := Hid.in (below_step HWC.out hbd)
          have HC15d := Hid.in ((hbd.cell (p := ⟨ba, oa + 15, none⟩) (cell_lt HC15c.out)).trans HC15c.out)
          clear hpd hvd hbd hP2 HIL HWC HC15c
          go_wp2_with (first
            | (go_at_call 6; refine (hIn wd).mono ?_; rintro E we ⟨rfl, hbe⟩; have HIE := Hid.in (HID.out.below hbe); have HBE := Hid.in (below_step HBD.out hbe); have HC15e := Hid.in ((hbe.cell (p := ⟨ba, oa + 15, none⟩) (cell_lt HC15d.out)).trans HC15d.out); clear hbe)
            | (at_builtin; refine Hid.out ?_))
          refine Lib.hid ?_
          refine gpush9two _ rfl _ _ rfl w.heap.size gl cv (spL 16) rfl (HIE.out.below (new_alloc we _)) we.heap.size (xIns 2) rfl (spL_nil 16) rfl (Blk.new we 31 _) (by rw [spL_len]; decide) (by have := HBE.out.size; simp; omega) ?_
          intro vf wf hIf hIl hbf hkf
          have HC15f : Hid (wf.cell? ⟨ba, oa + 15, none⟩ = some (.int .i64 61440)) := cell_same (hkf ba (Nat.lt_succ_of_lt (cell_lt HC15e.out) |> (by simpa using ·)) hbg) ((new_alloc we _).cell (p := ⟨ba, oa + 15, none⟩) (cell_lt HC15e.out) |>.trans HC15e.out)
          have HWF := Hid.in (hbf w (below_alloc HBE.out _))
          obtain ⟨pf, cf, hvf, hcf, hcfm, -⟩ := hIf.shape
          have hvf' : vf = .slice pf 17 cf := hvf
          subst hvf'
          have hitf : Items wf pf (sp16 ++ [xIns 2]) := by
            have := hIf.items sp17_fit rfl
            rw [List.map_append, spL_fst] at this
            exact this
          have hB3 := bytes_any pf 17 cf (sp16 ++ [xIns 2]) wf (HE.out.below HWF.out) rfl hcf (Nat.le_trans hcfm (by unfold maxLen; decide)) hitf
          unfold BytesIs at hB3
          rw [lay17, l6] at hB3
          clear hIf hIl hbf hkf hvf hitf HIE HBE HC15e HID HBD HC15d
          go_wp2_with (go_at_call 7; refine Hid.out ?_)
          refine Lib.hid ?_
          refine hB3.mono ?_
          rintro E wg ⟨vg, rfl, hvg, hbg2⟩
          obtain ⟨pg, cg, hpg, -, -⟩ := hvg.slice
          have hpg' : vg = .slice pg 0 cg := hpg
          subst hpg'
          have HBG := Hid.in (below_step HWF.out hbg2)
          have HC15g := Hid.in ((hbg2.cell (p := ⟨ba, oa + 15, none⟩) (cell_lt HC15f.out)).trans HC15f.out)
          clear hpg hvg hbg2 hB3 HWF HC15f
          have hPm := places_any (some ⟨wg.heap.size, 0, none⟩) 1 1 [xMk] (wg.alloc (.cells (cellsOf xMk (.slice none 0 0)) 31)) (HE.out.below (below_alloc HBG.out _)) rfl (Nat.le_refl _) (by decide) (one_item (Blk.new wg 31 _) (fun h => absurd h (Nat.lt_irrefl 0)) xMk_fit)
          unfold PlacesIs at hPm
          rw [layMk] at hPm
          have HBH := Hid.in (below_alloc HBG.out (.cells (cellsOf xMk (.slice none 0 0)) 31))
          have HC15h := Hid.in (((new_alloc wg (.cells (cellsOf xMk (.slice none 0 0)) 31)).cell (p := ⟨ba, oa + 15, none⟩) (cell_lt HC15g.out)).trans HC15g.out)
          simp only [cellsOf, xMk, srcK, noText] at hPm HBH HC15h
          go_wp2_with (go_at_call 5; refine Hid.out ?_)
          refine Lib.hid ?_
          refine hPm.mono ?_
          rintro E wi ⟨vi, rfl, -, hbi⟩
          have HBI := Hid.in (below_step HBH.out hbi)
          have HC15i := Hid.in ((hbi.cell (p := ⟨ba, oa + 15, none⟩) (cell_lt HC15h.out)).trans HC15h.out)
          clear hbi hPm HBH HC15h HBG HC15g
          obtain ⟨i1, hi1, hy0, hy1, hy2⟩ := info_parts Tryd.info31
          go_wp2_with (first
            | (at_make; refine wpList_make_full _ rfl _ _ 32 rfl wi.heap.size 31 i1 (.agg item0) 9 Tryd.underlying32 hi1 hy0 hy1 _ _ _ _ 4097 rfl rfl rfl rfl (by rw [hy2]; decide) (by unfold maxLen; decide) (Nat.le_refl _) ?_; intro wj hown hgrow; have hbj := (Below.refl wi.heap.size wi).grown hgrow (Nat.le_refl _) (by simp); have HBJ := Hid.in (below_step HBI.out hbj); have HC15j := Hid.in ((hbj.cell (p := ⟨ba, oa + 15, none⟩) (cell_lt HC15i.out)).trans HC15i.out); clear hown hgrow hbj)
            | (go_at_call 5; refine (places_long _ 4097 4097 wj (by decide) (by decide)).mono ?_; rintro E wk ⟨vk, rfl, hbk⟩; have HBK2 := Hid.in (below_step HBJ.out hbk); have ck15 := (hbk.cell (p := ⟨ba, oa + 15, none⟩) (cell_lt HC15j.out)).trans HC15j.out; clear hbk)
            | (go_at_call 8; refine (awake_any wk (HE.out.below HBK2.out)).mono ?_; rintro E wl ⟨rfl, hbl⟩))
          go_ret
          exact ⟨rfl, below_step HBK2.out hbl⟩

end Go.Proofs.YthjbdbmncfbihaaDoor

/-
  Proved here: the law LayoutNumbers (switchyardlaw05) answers true for every input, and each argument reads afterwards as it read before; the card: what the row lists of the library's variables is tied to the program's text. No condition of ours: the row's own reach alone.
-/
namespace Go.Proofs.YthjbdbmncfbihaaDoor
open Go.ChangeShapes Go.WideShapes Go.ChangeAt Go.RowKit
open Go.ChangeMaps (open_string shut_string)

theorem layoutNumbers_reads (os : Os) {H : Type} (enc : TypeId × Value → H) : ∃ places, DataW.whole enc Tryd.prog ((laidWorld os).forCall (fun _ _ => 0) ⟨#[], #[], []⟩).memory Tryd.f3.params.toList (OpenSpec.ofChange Rows.layoutNumbersSpec).vars false (#[] : Array Value).toList 8 = some ([], [], places) :=
  ⟨[], by kernel_rfl⟩

set_option maxRecDepth 100000 in
theorem layoutNumbers_lifted (os : Os) (started : os.Started) (H : Type) (enc : TypeId × Value → H) (F : Stop.Interp) :
    ReturnsInHanded {} Tryd.checked os 3 .any ((OpenSpec.ofChange Rows.layoutNumbersSpec).preRow enc Tryd.prog Tryd.f3 Rows.layoutNumbersRow.domain false Rows.layoutNumbersRow.laid) (((OpenSpec.ofChange Rows.layoutNumbersSpec).at F).post enc Tryd.prog Tryd.f3 false true false false) := by
  obtain ⟨places, hx⟩ := layoutNumbers_reads os enc
  refine returnsInHanded_of_row (C := Tryd.checked) (s := (OpenSpec.ofChange Rows.layoutNumbersSpec)) Tryd.own started (by kernel_rfl) Tryd.func3
    (witness_row_atRef (enc := enc) (C := Tryd.checked) false (laidWorld os) #[] rfl (by kernel_rfl) (by kernel_rfl) (by kernel_rfl)
      (OpenSpec.preRow_of_cond 8 hx (by kernel_rfl) (fun k hk => by cases hk) (by kernel_rfl) (laid_met os _))) ?_
  intro W base args ds gs before hval0 hW _ hcond hsz0 hL _ _
  have hV := env_of hL
  have hW' := hW
  obtain ⟨p, q, hA0, hVv, rfl, hfz, hnd⟩ := hW
  have hA : DataW.TrodAll enc Tryd.prog W 0 (fun _ => true) true Tryd.f3.params.toList args.toList ds p := hA0
  rw [Tryd.params3] at hA
  obtain ⟨rfl, rfl, rfl⟩ := trodAll_none hA
  obtain ⟨rfl, rfl⟩ := trodVars_none hVv
  refine (numbers_any W hV).mono fun e W' ⟨he, bel⟩ => ?_
  subst he
  exact ⟨_, rfl, _, _, _, [], _, [], hW', trodAll_mk1 (shut_bool Tryd.underlying4 _), trodAll_mk0, rfl, bel.frame _, fun h => by cases h⟩

theorem layoutNumbers_said : Rows.LayoutNumbersSaid :=
  OpenClaim.holds_of_cond 3 Tryd.f3 rfl rfl rfl rfl rfl rfl rfl ⟨rfl, rfl, rfl, rfl, rfl⟩ rfl rfl rfl rfl rfl (by kernel_rfl) Tryd.func3 (by kernel_rfl)
    (of_decide_eq_true (by kernel_rfl)) (by unfold Func.isWrapper; first | (rw [if_pos (by decide +kernel)]; kernel_rfl) | (rw [if_neg (by decide +kernel)]; exact ⟨rfl, rfl⟩))
    (fun os started H enc _ F => by rw [OpenClaim.pre_eq_preRow]; exact layoutNumbers_lifted os started H enc F)

theorem layoutNumbers_plain (f : FuncId) (fn : Func) (hf : Tryd.pinned.checked.prog.funcNamed "switchyard/switchyardlaw05.LayoutNumbers" = some f) (hfn : Tryd.pinned.checked.prog.funcs[f]? = some fn) :
    true = Tryd.pinned.checked.prog.looks [] ∧ ∀ (j : Nat) t, fn.params[j]? = some t → Tryd.pinned.checked.prog.wantsStandIn t = false := by
  obtain rfl : f = 3 := Option.some.inj ((show Tryd.prog.funcNamed "switchyard/switchyardlaw05.LayoutNumbers" = some 3 by kernel_rfl).symm.trans hf) |>.symm
  obtain rfl : fn = Tryd.f3 := (Option.some.inj (Tryd.func3.symm.trans hfn)).symm
  refine ⟨by kernel_rfl, fun j t ht => ?_⟩
  rw [Tryd.params3] at ht
  simp at ht

theorem layoutNumbers_holds : Rows.LayoutNumbersCardSaid :=
  Claim7.holds_tied_plain_at .later [] _ _ _ _ layoutNumbers_said (fun _ h => by cases h) (by kernel_rfl) (fun _ h => by cases h) layoutNumbers_row_tie rfl ⟨rfl, rfl⟩ (by kernel_rfl) rfl layoutNumbers_plain (by kernel_rfl)
#print axioms layoutNumbers_holds

end Go.Proofs.YthjbdbmncfbihaaDoor
