/- The document's numbers in bytes; bytes of a text; its number. The document's own disk in memory; the walks of its has, Read and of the writes that it refuses. The walks of the document's own New, Write and Flush. The walk of the document's own Write. Rows of unlike kinds lie apart. The walk of the document's own New. -/
import Derived.Test.YtlbapnecmhlgmaaM9
import Derived.Lib.ConvBytes
import Derived.Laws.IdiomStrings
import Derived.Test.YtlbapnecmhlgmaaM6
namespace Go.Proofs.Ytlbapnecmhlgmaa
open Go.RowKit

set_option maxHeartbeats 400000 in
theorem refBytes_any (v : Int) (n : Nat) (w : World) (h1 : 1 ≤ n) (h8 : n ≤ 8) (hv : 0 ≤ v) (hv' : v ≤ 18446744073709551615) :
    Calls Try.prog 43 #[.int .u64 v, .int .i64 n] w fun e w' => e = .returned (.tuple #[.slice (some ⟨w.heap.size, 0, none⟩) n n, .int .i64 0]) ∧ Below w.heap.size w w' ∧ w'.heap.size = w.heap.size + 1 ∧ w'.rowIs w.heap.size 5 n (fun j => .int .u8 (v / 2 ^ (8 * (n - 1 - j)) % 256)) := by
  have hmk := run_make_row' (P := Try.prog) 40 5 (.int .u8 0) 1 Try.underlying40 Try.info5 rfl .i64 .i64 n (by omega) (by omega)
  go_enter Try.func43, Try.ntmps43
  go_wp2
  clear hmk
  go_loopw [0, 7] (fun u i wr => ∃ k : Nat, k ≤ n ∧ i = .int .i64 ((n : Int) - 1 - k) ∧ (∃ z : Int, u = .int .u64 z ∧ 0 ≤ z ∧ z ≤ 18446744073709551615 ∧ Hid (z = v / 2 ^ (8 * k))) ∧ Below w.heap.size w wr ∧ wr.heap.size = w.heap.size + 1 ∧ wr.rowIs w.heap.size 5 n (fun j => if n ≤ j + k then .int .u8 (v / 2 ^ (8 * (n - 1 - j)) % 256) else .int .u8 0)) (fun _ i _ => (intOf i + 1).toNat)
  case atStart =>
    refine ⟨0, Nat.zero_le _, by simp, ⟨v, rfl, hv, hv', by show v = _; simp⟩, (Below.refl _ _).alloc (Nat.le_refl _) _, by simp, (World.rowIs_made w _ n 5).congr (fun j hj => ?_)⟩
    rw [if_neg (by omega)]
  case round =>
    obtain ⟨k, hk, rfl, ⟨z, rfl, hz0, hz1, hz⟩, hb, hsz, hrow⟩ := hrel
    by_cases hlt : k < n
    · have hc := hrow.cell (i := n - 1 - k) (by omega)
      have hf := hrow.frozen (n - 1 - k)
      simp only [show ¬ n ≤ n - 1 - k + k by omega, if_false] at hc
      have HR := hrow.set (n - 1 - k) (.int .u8 (z % 256))
      go_wp2
      go_roundw
      case rel =>
        have hz' := hz.out
        refine ⟨k + 1, by omega, by congr 1; omega, ⟨z / 256, rfl, by omega, by omega, ?_⟩, hb.setCell (Nat.le_refl _) _, by simpa using hsz, HR.congr (fun j hj => ?_)⟩
        · show z / 256 = _
          rw [hz', Int.ediv_ediv_of_nonneg (Int.le_of_lt (two_pow_pos _)), show (256 : Int) = 2 ^ 8 by rfl, ← Int.pow_add]
          rfl
        by_cases e : j = n - 1 - k
        · rw [if_pos e, if_pos (by omega), e, show n - 1 - (n - 1 - k) = k by omega, hz']
        · rw [if_neg e]
          by_cases h : n ≤ j + k
          · rw [if_pos h, if_pos (by omega)]
          · rw [if_neg h, if_neg (by omega)]
      case measure => simp [intOf]; omega
    · go_wp2
      go_ret2
      exact ⟨rfl, hb, hsz, hrow.congr (fun j hj => by rw [if_pos (by omega)])⟩
set_option maxHeartbeats 400000 in
theorem refNumber_any (b off len cap : Nat) (f : Nat → Int) (w : World) (h1 : 1 ≤ len) (h8 : len ≤ 8) (hcell : ∀ i, i < len → w.cell? ⟨b, off + i, none⟩ = some (.int .u8 (f i))) (hf : ∀ i, 0 ≤ f i ∧ f i < 256) :
    Calls Try.prog 63 #[.slice (some ⟨b, off, none⟩) len cap] w fun e w' => e = .returned (.tuple #[.int .u64 (num f len), .int .i64 0]) ∧ w' = w := by
  go_enter Try.func63, Try.ntmps63
  go_wp2
  go_loop [4, 5] (fun v i => ∃ k : Nat, k ≤ len ∧ i = .int .i64 k ∧ v = .int .u64 (num f k)) (fun _ i => len - (intOf i).toNat)
  case atStart => exact ⟨0, Nat.zero_le _, rfl, rfl⟩
  case round =>
    obtain ⟨k, hk, rfl, rfl⟩ := hrel
    by_cases hlt : k < len
    · have hc := hcell k hlt
      go_wp2
      go_round
      case rel =>
        have hb := num_bd8 f hf k (by omega)
        have hfk := hf k
        refine ⟨k + 1, by omega, by go_num, ?_⟩
        simp only [num, IntKind.wrap_u64]
        congr 1
        omega
      case measure => simp [intOf]; omega
    · go_wp2
      go_ret2
      obtain rfl : k = len := by omega
      exact ⟨rfl, rfl⟩
/-! The calls whose count or length is out of range: each answers ErrArg. -/

/-- A text of numbers from 0 to 255. -/
theorem nums_byte (xs : List Int) (h : ∀ x ∈ xs, 0 ≤ x ∧ x < 256) (j : Nat) (hj : j < xs.length) : ((strOfNums xs).data.map (fun b => Value.int .u8 b.toNat))[j]? = some (.int .u8 (xs.getD j 0)) := by
  have hx := h (xs.getD j 0) (by simp [List.getD, List.getElem?_eq_getElem hj])
  simp only [strOfNums, List.map_toArray, List.getElem?_toArray, List.getElem?_map, List.getElem?_eq_getElem hj, Option.map_some, List.getD, Option.getD_some] at hx ⊢
  congr 2
  rw [UInt8.toNat_ofNat']
  omega
/-- '[]byte(s)': the text's bytes in a block of their own. -/
theorem bytes_of {w : World} {xs : List Int} (h : ∀ x ∈ xs, 0 ≤ x ∧ x < 256) : ∃ c C fr, (∀ j, j < xs.length → C[j]? = some (.int .u8 (xs.getD j 0))) ∧ (w.drew.alloc (.cells C 5 fr)).heap[w.heap.size]? = some (.cells C 5 fr) ∧
    (convert 9 40 (.string (strOfNums xs))).run Try.prog w = .ok (.slice (some ⟨w.heap.size, 0, none⟩) xs.length c) (w.drew.alloc (.cells C 5 fr)) := by
  have hr := run_bytes_of_string (P := Try.prog) w 9 40 5 (strOfNums xs) Try.underlying9 Try.underlying40 Try.underlying5
  rw [strOfNums_size] at hr
  refine ⟨_, _, _, fun j hj => ?_, ?_, hr⟩
  · unfold bytesRow
    rw [Array.getElem?_append_left (by simp [strOfNums]; exact hj)]
    exact nums_byte xs h j hj
  · exact heap_alloc_new w.drew _

theorem sub_nums (xs : List Int) (a n : Nat) (h : a + n ≤ xs.length) : (strOfNums xs).extract a (a + n) = strOfNums ((List.range n).map fun j => xs.getD (a + j) 0) := by
  apply ByteArray.ext
  rw [ByteArray.data_extract]
  unfold strOfNums
  apply Array.ext_getElem?
  intro i
  simp only [Array.getElem?_extract, List.getElem?_toArray, List.getElem?_map, List.size_toArray, List.length_map]
  by_cases hi : i < n
  · rw [if_pos (by omega), List.getElem?_eq_getElem (by omega), List.getElem?_range hi]
    simp [List.getD, List.getElem?_eq_getElem (show a + i < xs.length by omega)]
  · rw [if_neg (by omega), List.getElem?_eq_none (by simp; omega)]
    rfl

set_option maxRecDepth 20000 in
theorem rnum_any (f : Nat → Int) (a : Nat) (w : World) (ha : a + 8 ≤ 256) (hf : ∀ i, 0 ≤ f i ∧ f i < 256) :
    Calls Try.prog 57 #[.string (sStr f), .int .i64 a] w fun e w' => e = .returned (.int .u64 (num (fun j => f (a + j)) 8)) ∧ Below w.heap.size w w' := by
  have hsub : (sStr f).extract a (a + 8) = strOfNums ((List.range 8).map fun j => f (a + j)) := by
    unfold sStr
    rw [sub_nums _ a 8 (by simpa using ha)]
    congr 1
    apply List.map_congr_left
    intro j hj
    rw [List.mem_range] at hj
    simp [List.getD, show a + j < 256 by omega]
  have hsz : (sStr f).size = 256 := by unfold sStr; rw [strOfNums_size]; simp
  obtain ⟨c, C, fr, hC, hn, hcv⟩ := bytes_of (w := w) (xs := (List.range 8).map fun j => f (a + j)) (fun x hx => by
    obtain ⟨j, _, rfl⟩ := List.mem_map.1 hx
    exact hf _)
  simp only [List.length_map, List.length_range] at hC hcv
  have HN := refNumber_any w.heap.size 0 8 c (fun j => f (a + j)) (w.drew.alloc (.cells C 5 fr)) (by decide) (by decide) (fun i hi => by
    rw [Nat.zero_add, cell_of_row _ _ i C 5 fr hn, hC i hi]
    simp [List.getD, hi]) (fun i => hf _)
  have hb : Below w.heap.size w (w.drew.alloc (.cells C 5 fr)) := ((Below.refl _ _).drew).alloc (Nat.le_refl _) _
  have ha' : (a : Int) + 8 ≤ 256 := by omega
  generalize strOfNums ((List.range 8).map fun j => f (a + j)) = S8 at *
  generalize sStr f = SS at *
  generalize num (fun j => f (a + j)) 8 = nn at *
  clear hC hn
  go_enter Try.func57, Try.ntmps57
  go_wp2_with fail
  refine HN.mono ?_
  rintro e w' ⟨rfl, rfl⟩
  go_wp2
  go_ret
  exact ⟨rfl, hb⟩
end Go.Proofs.Ytlbapnecmhlgmaa
namespace Go.Proofs.Ytlbapnecmhlgmaa
open Go.RowKit

/-- An event of the document's disk: a number and a text. -/
structure Rv where
  n : Int
  t : ByteArray
def Rv.cells (e : Rv) : List Value := [.int .i64 e.n, .string e.t]
def rvCells (L : List Rv) : List Value := L.flatMap Rv.cells
theorem rvCells_len (L : List Rv) : (rvCells L).length = L.length * 2 := by
  induction L with
  | nil => rfl
  | cons e L ih => simp [rvCells, Rv.cells] at ih ⊢; omega
theorem rvCells_snoc (L : List Rv) (e : Rv) : rvCells (L ++ [e]) = rvCells L ++ e.cells := by simp [rvCells]
theorem rvCells_at (L : List Rv) (i : Nat) (e : Rv) (h : L[i]? = some e) : (rvCells L)[i * 2]? = some (.int .i64 e.n) ∧ (rvCells L)[i * 2 + 1]? = some (.string e.t) := by
  induction L generalizing i with
  | nil => simp at h
  | cons x L ih =>
    have hc : rvCells (x :: L) = x.cells ++ rvCells L := rfl
    cases i with
    | zero =>
      simp at h
      subst h
      rw [hc]
      exact ⟨rfl, rfl⟩
    | succ i =>
      have h2 := ih i (by simpa using h)
      rw [hc, List.getElem?_append_right (by simp [Rv.cells]; omega), List.getElem?_append_right (by simp [Rv.cells]; omega)]
      have e1 : (i + 1) * 2 - x.cells.length = i * 2 := by simp [Rv.cells]; omega
      have e2 : (i + 1) * 2 + 1 - x.cells.length = i * 2 + 1 := by simp [Rv.cells]; omega
      rw [e1, e2]
      exact h2

/-- The document's disk: its sectors' texts at first, and what happened. -/
structure Rk where
  F : List ByteArray
  L : List Rv
/-- It lies in memory. -/
structure RefAt (w : World) (base g : Nat) (fv lv : Value) (R : Rk) : Prop where
  row : Row w g #[fv, lv] 75
  first : w.ownsRow base 9 1 fv R.F.length (R.F.map Value.string)
  evs : w.ownsRow base 96 2 lv R.L.length (rvCells R.L)
  ge : base ≤ g
theorem RefAt.keep {w w' : World} {base g : Nat} {fv lv : Value} {R : Rk} (h : RefAt w base g fv lv R) (hb : ∀ k, k = g ∨ fv.ownBlock = some k ∨ lv.ownBlock = some k → w'.heap[k]? = w.heap[k]?) : RefAt w' base g fv lv R :=
  ⟨(hb g (.inl rfl)).trans h.row, ownsRow_keep h.first (fun k hk _ => hb k (.inr (.inl hk))), ownsRow_keep h.evs (fun k hk _ => hb k (.inr (.inr hk))), h.ge⟩
theorem RefAt.below {w w' : World} {base g : Nat} {fv lv : Value} {R : Rk} (h : RefAt w base g fv lv R) (hb : Below w.heap.size w w') : RefAt w' base g fv lv R :=
  h.keep fun k hk => hb.block k (by
    rcases hk with rfl | hk | hk
    · exact h.row.lt
    · exact (ownsRow_lt h.first k hk).1
    · exact (ownsRow_lt h.evs k hk).1)
theorem own_slice {w : World} {base n s : Nat} {e : TypeId} {v : Value} {xs : List Value} (h : w.ownsRow base e s v n xs) : ∃ a c, v = .slice a n c ∧ (0 < n → ∃ g, a = some ⟨g, 0, none⟩) := by
  obtain ⟨_, ⟨h1, h2⟩ | ⟨g, c, cur, h1, _⟩⟩ := h
  · exact ⟨none, 0, by rw [h1, h2], fun h => absurd h (by omega)⟩
  · exact ⟨_, _, h1, fun _ => ⟨g, rfl⟩⟩

theorem refHas_any {w : World} {base g : Nat} {fv lv : Value} {R : Rk} (h : RefAt w base g fv lv R) (n : Int) :
    Calls Try.prog 49 #[.pointer (some ⟨g, 0, none⟩), .int .i64 n] w fun e w' => e = .returned (.bool (decide (0 ≤ n ∧ n < R.F.length))) ∧ w' = w := by
  have hc := (h.row.cell 0).trans (rfl : _ = some fv)
  obtain ⟨a, c, rfl, _⟩ := own_slice h.first
  generalize R.F.length = s at *
  clear h
  by_cases hn : 0 ≤ n
  · have hd : decide (0 ≤ n ∧ n < s) = decide (n < s) := by simp [hn]
    rw [hd]
    clear hd
    go_enter Try.func49, Try.ntmps49
    go_wp2
    go_ret
    exact ⟨rfl, rfl⟩
  · have hd : decide (0 ≤ n ∧ n < (s : Int)) = false := by simp; omega
    rw [hd]
    clear hd
    go_enter Try.func49, Try.ntmps49
    go_wp2
    go_ret
    exact ⟨rfl, rfl⟩

theorem refRead_bad {w : World} {base g : Nat} {fv lv : Value} {R : Rk} (h : RefAt w base g fv lv R) (n : Int) (hn : ¬ (0 ≤ n ∧ n < R.F.length)) :
    Calls Try.prog 33 #[.pointer (some ⟨g, 0, none⟩), .int .i64 n] w fun e w' => e = .returned (.tuple #[.string ⟨#[]⟩, .int .i64 2]) ∧ w' = w := by
  have H := refHas_any h n
  rw [show decide (0 ≤ n ∧ n < (R.F.length : Int)) = false by simpa using hn] at H
  clear h hn
  go_enter Try.func33, Try.ntmps33
  go_wp2_with fail
  refine H.mono ?_
  rintro e w' ⟨rfl, rfl⟩
  go_wp2
  go_ret2
  exact ⟨rfl, rfl⟩

theorem refWrite_bad {w : World} {base g : Nat} {fv lv : Value} {R : Rk} (h : RefAt w base g fv lv R) (n : Int) (a : Option Addr) (len cap : Nat) (hn : ¬ (0 ≤ n ∧ n < R.F.length) ∨ len ≠ 256) :
    Calls Try.prog 20 #[.pointer (some ⟨g, 0, none⟩), .int .i64 n, .slice a len cap] w fun e w' => e = .returned (.int .i64 2) ∧ w' = w := by
  have H := refHas_any h n
  clear h
  by_cases hh : 0 ≤ n ∧ n < (R.F.length : Int)
  · have hl : len ≠ 256 := hn.resolve_left (fun h => h hh)
    rw [show decide (0 ≤ n ∧ n < (R.F.length : Int)) = true by simpa using hh] at H
    clear hn hh
    go_enter Try.func20, Try.ntmps20
    go_wp2_with fail
    refine H.mono ?_
    rintro e w' ⟨rfl, rfl⟩
    go_wp2
    go_ret
    exact ⟨rfl, rfl⟩
  · rw [show decide (0 ≤ n ∧ n < (R.F.length : Int)) = false by simpa using hh] at H
    clear hn hh
    go_enter Try.func20, Try.ntmps20
    go_wp2_with fail
    refine H.mono ?_
    rintro e w' ⟨rfl, rfl⟩
    go_wp2
    go_ret
    exact ⟨rfl, rfl⟩

/-- The text of sector n behind the first k events. -/
def refText (R : Rk) (n : Nat) : Nat → ByteArray
  | 0 => R.F.getD n ⟨#[]⟩
  | k + 1 => if (R.L.getD k ⟨-1, ⟨#[]⟩⟩).n = (n : Int) then (R.L.getD k ⟨-1, ⟨#[]⟩⟩).t else refText R n k

set_option maxRecDepth 20000 in
set_option maxHeartbeats 2000000 in
theorem refRead_ok {w : World} {base g : Nat} {fv lv : Value} {R : Rk} (h : RefAt w base g fv lv R) (n : Nat) (hn : n < R.F.length) (hL : R.L.length ≤ 1000000) (hF : R.F.length ≤ 1000000) :
    Calls Try.prog 33 #[.pointer (some ⟨g, 0, none⟩), .int .i64 n] w fun e w' => e = .returned (.tuple #[.string (refText R n R.L.length), .int .i64 0]) ∧ w' = w := by
  have H := refHas_any h n
  rw [show decide (0 ≤ (n : Int) ∧ (n : Int) < R.F.length) = true by simp; omega] at H
  have c0 := (h.row.cell 0).trans (rfl : _ = some fv)
  have c1 := (h.row.cell 1).trans (rfl : _ = some lv)
  have HR : Hid _ := h
  obtain ⟨a, c, rfl, ha⟩ := own_slice h.evs
  obtain ⟨fa, fc, rfl, hfa⟩ := own_slice h.first
  obtain ⟨gf, rfl⟩ := hfa (by omega)
  have cf : w.cell? ⟨gf, n, none⟩ = some (.string (R.F.getD n ⟨#[]⟩)) := by
    rw [h.first.cellAt n (by omega)]
    simp [List.getD, List.getElem?_eq_getElem hn]
  obtain ⟨zz, hzz⟩ : ∃ zz, R.F.getD n ⟨#[]⟩ = zz := ⟨_, rfl⟩
  rw [hzz] at cf
  have HZZ : Hid _ := hzz
  clear h hzz
  go_enter Try.func33, Try.ntmps33
  go_wp2_with fail
  refine H.mono ?_
  rintro e w' ⟨rfl, hw'⟩
  subst w'
  go_wp2
  go_loopw [6] (fun iv wr => ∃ k : Nat, k ≤ R.L.length ∧ iv = .int .i64 ((k : Int) - 1) ∧ Hid (refText R n R.L.length = refText R n k) ∧ wr = w) (fun iv _ => (intOf iv + 1).toNat)
  case atStart => exact ⟨R.L.length, Nat.le_refl _, by go_num, rfl, rfl⟩
  case round =>
    obtain ⟨k, hk, rfl, ht, rfl⟩ := hrel
    by_cases h0 : 0 < k
    · obtain ⟨i, rfl⟩ : ∃ i, k = i + 1 := ⟨k - 1, by omega⟩
      obtain ⟨gl, rfl⟩ := ha (by omega)
      have hiv : ((i + 1 : Nat) : Int) - 1 = (i : Int) := by omega
      rw [hiv]
      have hil : i < R.L.length := by omega
      have hev : R.L[i]? = some (R.L.getD i ⟨-1, ⟨#[]⟩⟩) := by simp [List.getD, List.getElem?_eq_getElem hil]
      obtain ⟨e1, e2⟩ := rvCells_at R.L i _ hev
      have d1 := (HR.out.evs.cellAt (i * 2) (by omega)).trans e1
      have d2 := (HR.out.evs.cellAt (i * 2 + 1) (by omega)).trans e2
      have hst : refText R n (i + 1) = if (R.L.getD i ⟨-1, ⟨#[]⟩⟩).n = (n : Int) then (R.L.getD i ⟨-1, ⟨#[]⟩⟩).t else refText R n i := rfl
      have HST : Hid _ := hst
      generalize R.L.getD i ⟨-1, ⟨#[]⟩⟩ = ee at *
      clear hst hev e1 e2 hiv
      by_cases hq : ee.n = (n : Int)
      · go_wp2
        go_ret2
        refine ⟨?_, rfl⟩
        rw [show refText R n R.L.length = _ from ht, show refText R n (i + 1) = _ from HST.out, if_pos hq]
        rfl
      · go_wp2
        go_roundw
        case rel => exact ⟨i, by omega, by go_num, by show _ = _; rw [show refText R n R.L.length = _ from ht, show refText R n (i + 1) = _ from HST.out, if_neg hq], by first | rfl | trivial⟩
        case measure => simp [intOf]
    · obtain rfl : k = 0 := by omega
      go_wp2
      go_ret2
      refine ⟨?_, rfl⟩
      rw [show refText R n R.L.length = _ from ht, show refText R n 0 = zz from HZZ.out]
      rfl
end Go.Proofs.Ytlbapnecmhlgmaa
namespace Go.Proofs.Ytlbapnecmhlgmaa
open Go.RowKit

theorem Try.info96 : (Try.prog.info? 96).map (fun i => (i.zero, i.size, i.bytes)) = some (some (.agg #[.int .i64 0, .string ⟨#[]⟩]), 2, 24) := by kernel_rfl

/-- Of the blocks that were there only g and v's have changed. -/
structure ChgR (g : Nat) (v : Value) (w w' : World) : Prop where
  os : w'.os = w.os
  tape : w'.tape = w.tape
  output : w'.output = w.output
  size : w.heap.size ≤ w'.heap.size
  block : ∀ k, k < w.heap.size → k ≠ g → v.ownBlock ≠ some k → w'.heap[k]? = w.heap[k]?
theorem ChgR.trans {g : Nat} {v : Value} {a b c : World} (h : ChgR g v a b) (k : ChgR g v b c) : ChgR g v a c :=
  ⟨k.os.trans h.os, k.tape.trans h.tape, k.output.trans h.output, Nat.le_trans h.size k.size, fun i hi h1 h2 => (k.block i (Nat.lt_of_lt_of_le hi h.size) h1 h2).trans (h.block i hi h1 h2)⟩
theorem ChgR.of_below {g : Nat} {v : Value} {w w' : World} (h : Below w.heap.size w w') : ChgR g v w w' := ⟨h.os, h.tape, h.output, h.size, fun k hk _ _ => h.block k hk⟩
theorem ChgR.of_grown {g : Nat} {v : Value} {w w' : World} (h : w.grownBy w' v.ownBlock) : ChgR g v w w' := ⟨h.os, h.tape, h.output, h.size, fun k hk _ h3 => h.block k hk (fun e => h3 e.symm)⟩
theorem ChgR.of_setCell {g : Nat} {v : Value} (w : World) (i : Nat) (u : Value) : ChgR g v w (w.setCell ⟨g, i, none⟩ u) := ⟨rfl, rfl, rfl, by simp [World.setCell], fun k _ h1 _ => Below.heap_setCell _ _ _ _ h1⟩

/-- One event more, laid into the disk's block. -/
theorem RefAt.more {w w2 : World} {base g : Nat} {fv lv lv' : Value} {R : Rk} (e : Rv) (h : RefAt w base g fv lv R) (hc : ChgR w.heap.size lv w w2) (hown : w2.ownsRow base 96 2 lv' (R.L.length + 1) (rvCells R.L ++ e.cells)) :
    RefAt (w2.setCell ⟨g, 1, none⟩ lv') base g fv lv' { R with L := R.L ++ [e] } := by
  have l0 := h.row.lt
  have hne : lv.ownBlock ≠ some g := fun hq => by
    obtain ⟨_, _, cur', hr⟩ := ownsRow_lt h.evs g hq
    have := hr.symm.trans h.row
    simp at this
  have k0 : w2.heap[g]? = w.heap[g]? := hc.block g l0 (by omega) hne
  have hrow : Row w2 g _ 75 := k0.trans h.row
  refine ⟨(hrow.setCell (i := 1) lv').trans (by simp), ownsRow_keep h.first (fun k hk hkl => ?_), ?_, h.ge⟩
  · obtain ⟨_, _, cur, hr⟩ := ownsRow_lt h.first k hk
    have n1 : k ≠ g := fun e => by subst e; have := hr.symm.trans h.row; simp at this
    have n2 : lv.ownBlock ≠ some k := fun hq => by
      obtain ⟨_, _, cur', hr'⟩ := ownsRow_lt h.evs k hq
      have := hr'.symm.trans hr
      simp at this
    exact (Below.heap_setCell _ _ _ _ n1).trans (hc.block k hkl (by omega) n2)
  · have hh := ownsRow_keep (w' := w2.setCell ⟨g, 1, none⟩ lv') hown (fun k hk _ => by
      refine Below.heap_setCell _ _ _ _ (fun e => ?_)
      have e' : k = g := e
      subst e'
      obtain ⟨_, _, cur', hr⟩ := ownsRow_lt hown k hk
      have := hr.symm.trans hrow
      simp at this)
    rw [rvCells_snoc]
    simpa using hh

/-- 'append(lv, e)', e laid in the block that was made last. -/
theorem wpList_event {ops : Array Oper} {rest : List Oper} {o : Oper} {a : Act} {w : World} {Q : Exit → Act → World → Prop} (hgd : o.guard = none) (s x : Operand) (ho : o.op = .call { callee := .builtin .append, args := #[s, x], argTypes := #[73, 73] }) (base : Nat) (v : Value) (L : List Rv) (e : Rv)
    (W : World) (hw : w = W.alloc (.cells #[.int .i64 e.n, .string e.t] 96)) (hs : a.eval s = v) (hown : Hid (W.ownsRow base 96 2 v L.length (rvCells L))) (hx : a.eval x = .slice (some ⟨W.heap.size, 0, none⟩) 1 1) (hn : L.length ≤ 1000000) (hbase : base ≤ W.heap.size)
    (h : ∀ v' w', Hid (w'.ownsRow base 96 2 v' (L.length + 1) (rvCells L ++ e.cells)) → ChgR W.heap.size v W w' → wpList Try.prog ops Q rest (a.put o.dst v') w') : wpList Try.prog ops Q (o :: rest) a w := by
  subst hw
  obtain ⟨i0, hi, hz0, hz1, hz2⟩ := info_parts Try.info96
  have own' : (W.alloc (.cells #[.int .i64 e.n, .string e.t] 96)).ownsRow base 96 2 v L.length (rvCells L) := World.ownsRow.alloc (show W.ownsRow base 96 2 v L.length _ from hown) _
  refine wpList_append_own_wide _ hgd s x 73 ho base 96 i0 _ 2 24 Try.underlying73 hi hz0 hz1 hz2 rfl (by decide) v L.length _ hs own' _ 1 1 e.cells hx rfl (fun j u hj => ?_) (fun u hu => by simp [Rv.cells] at hu; rcases hu with rfl | rfl <;> rfl) (by unfold maxLen; omega) (by omega) (by simp; omega)
    (fun v' w' h1 h2 _ => h v' w' h1 ((ChgR.of_below ((Below.refl _ _).alloc (Nat.le_refl _) _)).trans (ChgR.of_grown h2)))
  rw [Addr.add_mid, Nat.zero_add, (Row.new W #[.int .i64 e.n, .string e.t] 96).cell j]
  simpa [Rv.cells] using hj

set_option maxRecDepth 20000 in
set_option maxHeartbeats 2000000 in
theorem refFlush_ok {w : World} {base g : Nat} {fv lv : Value} {R : Rk} (h : RefAt w base g fv lv R) (hbase : base ≤ w.heap.size) (hL : R.L.length ≤ 1000000) :
    Calls Try.prog 44 #[.pointer (some ⟨g, 0, none⟩)] w fun e w' => (∃ v, e = .returned v) ∧ ∃ lv', RefAt w' base g fv lv' { R with L := R.L ++ [⟨-1, ⟨#[]⟩⟩] } ∧ ChgR g lv w w' := by
  have c1 := (h.row.cell 1).trans (rfl : _ = some lv)
  have HR : Hid _ := h
  have HE : Hid _ := h.evs
  have hrow := h.row
  clear h
  go_enter Try.func44, Try.ntmps44
  go_wp2_with (at_builtin; refine wpList_event rfl _ _ rfl base lv R.L ⟨-1, ⟨#[]⟩⟩ _ rfl rfl HE rfl hL hbase ?_)
  intro lv' w2 own2 hc2
  have hfin := HR.out.more ⟨-1, ⟨#[]⟩⟩ hc2 own2.out
  have hne : lv.ownBlock ≠ some g := fun hq => by
    obtain ⟨_, _, cur', hr⟩ := ownsRow_lt HE.out g hq
    have := hr.symm.trans hrow
    simp at this
  have hR2 : Row w2 g #[fv, lv] 75 := (hc2.block g hrow.lt (by have := hrow.lt; omega) hne).trans hrow
  have hcg : ChgR g lv w w2 := ⟨hc2.os, hc2.tape, hc2.output, hc2.size, fun k hk h1 h2 => hc2.block k hk (by omega) h2⟩
  obtain ⟨x, c, rfl, _⟩ := own_slice own2.out
  have d1 := (hR2.cell 1).trans (rfl : _ = some lv)
  have f1 := hR2.frozen 1
  have HF : Hid _ := hfin
  clear hfin own2 hc2 hne hR2 hrow
  go_wp2
  go_end0
  exact ⟨⟨_, rfl⟩, _, HF.out, hcg.trans (ChgR.of_setCell _ _ _)⟩
end Go.Proofs.Ytlbapnecmhlgmaa
namespace Go.Proofs.Ytlbapnecmhlgmaa
open Go.RowKit

theorem one_ref (n : Int) (t : ByteArray) (w : World) : (Instr.buildSlice 73 1 #[(0, .agg #[.int .i64 n, .string t])]).run Try.prog w = .ok (.slice (some ⟨w.heap.size, 0, none⟩) 1 1) (w.alloc (.cells #[.int .i64 n, .string t] 96)) := by
  obtain ⟨i0, hi, hz0, hz1, _⟩ := info_parts Try.info96
  refine run_buildSlice w 73 96 1 _ _ i0 _ Try.underlying73 hi hz0 (by rw [hz1]; decide) (by rw [hz1]; decide) ?_
  have h := Go.Great.fill_whole (s := 2) (by decide) [.agg #[.int .i64 n, .string t]] ((Array.range (1 * i0.size)).map ((Value.agg #[.int .i64 0, .string ⟨#[]⟩]).cells[· % (Value.agg #[.int .i64 0, .string ⟨#[]⟩]).cells.size]!)) (fun v hv => by simp at hv; subst hv; rfl) (by simp [hz1])
  rw [hz1] at h ⊢
  simpa [Value.cells] using h

set_option maxRecDepth 20000 in
set_option maxHeartbeats 2000000 in
theorem refWrite_ok {w : World} {base g : Nat} {fv lv : Value} {R : Rk} (h : RefAt w base g fv lv R) (hbase : base ≤ w.heap.size) (hL : R.L.length ≤ 1000000) (n : Nat) (hn : n < R.F.length) (b off cap : Nat) (f : Nat → Int) (src : Array Value) (fr : Nat × Nat) (hsrc : w.heap[b]? = some (.cells src 5 fr)) (hcs : ∀ i, i < 256 → src[off + i]? = some (.int .u8 (f i))) :
    Calls Try.prog 20 #[.pointer (some ⟨g, 0, none⟩), .int .i64 n, .slice (some ⟨b, off, none⟩) 256 cap] w fun e w' => e = .returned (.int .i64 0) ∧ ∃ lv', RefAt w' base g fv lv' { R with L := R.L ++ [⟨n, sStr f⟩] } ∧ ChgR g lv w w' := by
  have H := refHas_any h n
  rw [show decide (0 ≤ (n : Int) ∧ (n : Int) < R.F.length) = true by simp; omega] at H
  have HR : Hid _ := h
  have HE : Hid _ := h.evs
  have hrow := h.row
  have HC : Hid _ := hcs
  obtain ⟨i0, hi, hz0, hz1, hz2⟩ := info_parts Try.info96
  obtain ⟨T, hT⟩ : ∃ T, sStr f = T := ⟨_, rfl⟩
  rw [hT]
  have HT : Hid _ := hT
  have HL : Hid _ := hL
  clear h hcs hn hT hL
  go_enter Try.func20, Try.ntmps20
  go_wp2_with fail
  refine H.mono ?_
  rintro e w' ⟨rfl, hw'⟩
  subst w'
  clear H
  go_wp2_with fail
  have hS : Row w.drew g #[fv, lv] 75 ∧ w.drew.heap[b]? = some (.cells src 5 fr) := ⟨hrow, hsrc⟩
  refine wp_region_perm [(false, 0), (false, 1), (false, 2), (false, 3), (false, 4), (false, 5), (false, 6), (false, 7), (false, 8), (true, 9), (true, 10), (true, 11), (true, 12), (true, 13)] (fun wx => Row wx g #[fv, lv] 75 ∧ wx.heap[b]? = some (.cells src 5 fr)) (by kernel_rfl) (by kernel_rfl) hS ?_
  refine p_move (some 16) _ rfl rfl rfl (by rfl) ?_
  simp only [Act.put, List.setIfInBounds_toArray, List.set_cons_zero, List.set_cons_succ]
  refine p_move (some 17) _ rfl rfl rfl (by rfl) ?_
  simp only [Act.put, List.setIfInBounds_toArray, List.set_cons_zero, List.set_cons_succ]
  refine p_value (some 18) ?_ rfl rfl (by rfl) (fun w hw => ?_) ?_
  rotate_left
  · go_simp
    with_reducible rfl
  simp only [Act.put, List.setIfInBounds_toArray, List.set_cons_zero, List.set_cons_succ]
  refine p_value (some 19) ?_ rfl rfl (by rfl) (fun w hw => ?_) ?_
  rotate_left
  · go_simp
    with_reducible rfl
  simp only [Act.put, List.setIfInBounds_toArray, List.set_cons_zero, List.set_cons_succ]
  refine p_value (some 20) ?_ rfl rfl (by rfl) (fun w hw => ?_) ?_
  rotate_left
  · have hc := (hw.1.cell 1).trans (rfl : _ = some lv)
    go_simp
    with_reducible rfl
  simp only [Act.put, List.setIfInBounds_toArray, List.set_cons_zero, List.set_cons_succ]
  refine p_move (some 21) _ rfl rfl rfl (by rfl) ?_
  simp only [Act.put, List.setIfInBounds_toArray, List.set_cons_zero, List.set_cons_succ]
  refine p_move (some 22) _ rfl rfl rfl (by rfl) ?_
  simp only [Act.put, List.setIfInBounds_toArray, List.set_cons_zero, List.set_cons_succ]
  refine p_value (some 23) ?_ rfl rfl (by rfl) (fun w hw => ?_) ?_
  rotate_left
  · have hcv : (convert 40 9 (.slice (some ⟨b, off, none⟩) 256 cap)).run Try.prog w = .ok (.string T) w := by rw [← HT.out]; exact conv256 w b off cap f (fun i hi => by rw [cell_of_row w b _ src 5 fr hw.2]; exact HC.out i hi)
    go_simp
    with_reducible rfl
  simp only [Act.put, List.setIfInBounds_toArray, List.set_cons_zero, List.set_cons_succ]
  refine p_value (some 24) ?_ rfl rfl (by rfl) (fun w hw => ?_) ?_
  rotate_left
  · go_simp
    with_reducible rfl
  simp only [Act.put, List.setIfInBounds_toArray, List.set_cons_zero, List.set_cons_succ]
  refine p_buildSlice (some 25) 73 1 _ #[(0, .agg #[.int .i64 n, .string T])] _ _ rfl rfl rfl (by rfl) (by simp only [List.map_toArray, List.map_cons, List.map_nil]; rfl) (one_ref n T _) (fun _ => ⟨hS.1.alloc _, (Below.heap_alloc _ _ _ (Array.getElem?_eq_some_iff.1 hS.2).1).trans hS.2⟩) ?_
  simp only [Act.put, List.setIfInBounds_toArray, List.set_cons_zero, List.set_cons_succ]
  have hb1 : Below w.heap.size w (w.drew.alloc (.cells #[.int .i64 n, .string T] 96)) := ((Below.refl _ _).drew).alloc (Nat.le_refl _) _
  have hev1 : (w.drew.alloc (.cells #[.int .i64 n, .string T] 96)).ownsRow base 96 2 lv R.L.length (rvCells R.L) := ownsRow_below HE.out hb1
  have hnew : ∀ j u, (Rv.cells ⟨n, T⟩)[j]? = some u → (w.drew.alloc (.cells #[.int .i64 n, .string T] 96)).cell? ((⟨w.drew.heap.size, 0, none⟩ : Addr).add j) = some u := fun j u hj => by
    rw [Addr.add_mid, Nat.zero_add, (Row.new w.drew #[.int .i64 n, .string T] 96).cell j]
    simpa [Rv.cells] using hj
  refine p_wp rfl (by rfl) ?_
  refine wp_append_own_wide _ (.tmp 20) (.tmp 25) 73 rfl base 96 i0 _ 2 24 Try.underlying73 hi hz0 hz1 hz2 rfl (by decide) lv R.L.length (rvCells R.L) rfl hev1 _ 1 1 (Rv.cells ⟨n, T⟩) rfl rfl hnew (fun u hu => by simp [Rv.cells] at hu; rcases hu with rfl | rfl <;> rfl) (by have := HL.out; unfold maxLen; omega) (by have := HL.out; omega) (by simp; omega) ?_
  intro lv' w3 hown hgr _
  have hc3 : ChgR w.heap.size lv w w3 := (ChgR.of_below hb1).trans (ChgR.of_grown hgr)
  have hc3' : ChgR g lv w w3 := (ChgR.of_below hb1).trans (ChgR.of_grown hgr)
  have hgev : lv.ownBlock ≠ some g := fun hq => by
    obtain ⟨_, _, cur', hr⟩ := ownsRow_lt HE.out g hq
    have := hr.symm.trans hrow
    simp at this
  have hbev : lv.ownBlock ≠ some b := fun hq => by
    obtain ⟨_, _, cur', hr⟩ := ownsRow_lt HE.out b hq
    have := hr.symm.trans hsrc
    simp at this
  have hR3 : Row w3 g #[fv, lv] 75 := (hc3.block g hrow.lt (by have := hrow.lt; omega) hgev).trans hrow
  have hbl := (Array.getElem?_eq_some_iff.1 hsrc).1
  have hS3 : w3.heap[b]? = some (.cells src 5 fr) := (hc3.block b hbl (by omega) hbev).trans hsrc
  refine ⟨fun _ => ⟨hR3, hS3⟩, ?_⟩
  show wpPerm _ _ _ _ _ (Act.put _ (some 26) lv') w3
  have hfin := HR.out.more ⟨n, T⟩ hc3 hown
  have HFN : Hid _ := hfin
  obtain ⟨xv, cv, rfl, _⟩ := own_slice hown
  have hcell := (hR3.cell 1).trans (rfl : _ = some lv)
  have hfz := hR3.frozen 1
  clear hfin hown hgr hc3 hev1 hnew hb1
  simp only [Act.put, List.setIfInBounds_toArray, List.set_cons_zero, List.set_cons_succ]
  refine p_alone (some 27) (.pointer (some ⟨g, 0, none⟩)) w3 rfl rfl (by rfl) (by go_simp) (fun _ => ⟨hR3, hS3⟩) ?_
  simp only [Act.put, List.setIfInBounds_toArray, List.set_cons_zero, List.set_cons_succ]
  refine p_alone (some 28) (.pointer (some ⟨g, 1, none⟩)) w3 rfl rfl (by rfl) (by go_simp) (fun _ => ⟨hR3, hS3⟩) ?_
  simp only [Act.put, List.setIfInBounds_toArray, List.set_cons_zero, List.set_cons_succ]
  refine p_store (w3.setCell ⟨g, 1, none⟩ (.slice xv (R.L.length + 1) cv)) rfl rfl (by rfl) (by go_simp) (fun h => absurd rfl h) ?_
  refine p_done ?_
  simp only [Exit.then]
  go_wp2
  go_ret
  exact ⟨rfl, _, HFN.out, hc3'.trans (ChgR.of_setCell _ _ _)⟩
end Go.Proofs.Ytlbapnecmhlgmaa
namespace Go.Proofs.Ytlbapnecmhlgmaa
open Go.RowKit

theorem row_grown {w w' : World} {B s n : Nat} {e : TypeId} {v : Value} {xs : List Value} (hown : w.ownsRow B e s v n xs) (hg : w.grownBy w' v.ownBlock) {k : Nat} {C : Array Value} {t : TypeId} (hr : Row w k C t) (ht : t ≠ e) : w'.heap[k]? = w.heap[k]? :=
  hg.block k hr.lt (fun hq => by
    obtain ⟨_, _, cur, h2⟩ := ownsRow_lt hown k hq.symm
    have := h2.symm.trans hr
    simp at this
    exact ht this.2.symm)
theorem row_ne {w : World} {k k' : Nat} {C C' : Array Value} {t t' : TypeId} (h : Row w k C t) (h' : Row w k' C' t') (ht : t ≠ t') : k ≠ k' := fun e => by
  subst e
  have := h.symm.trans h'
  simp at this
  exact ht this.2
theorem DiskAt.keepT {w w' : World} {base g g1 c1 g2 c2 : Nat} {ev : Value} {D : Dk} (h : DiskAt w base g g1 c1 g2 c2 ev D) (hk : ∀ k C t, Row w k C t → t = 64 ∨ t = 5 ∨ t = 95 → w'.heap[k]? = w.heap[k]?) : DiskAt w' base g g1 c1 g2 c2 ev D := by
  obtain ⟨_, _, _, _, cu1, r1, _⟩ := ownsRow_slice h.first
  obtain ⟨_, _, _, _, cu2, r2, _⟩ := ownsRow_slice h.now
  refine h.keep fun k hq => ?_
  rcases hq with rfl | rfl | rfl | hq
  · exact hk _ _ _ h.row (.inl rfl)
  · exact hk _ _ _ r1 (.inr (.inl rfl))
  · exact hk _ _ _ r2 (.inr (.inl rfl))
  · obtain ⟨_, _, cur, r3⟩ := ownsRow_lt h.evs k hq
    exact hk _ _ _ r3 (.inr (.inr rfl))
end Go.Proofs.Ytlbapnecmhlgmaa
namespace Go.Proofs.Ytlbapnecmhlgmaa
open Go.RowKit

theorem Try.info9 : (Try.prog.info? 9).map (fun i => (i.zero, i.size, i.bytes)) = some (some (.string ⟨#[]⟩), 1, 16) := by kernel_rfl
/-- The text of a sector of noughts. -/
def zText : ByteArray := sStr fun _ => 0

theorem refNew_bad (s : Int) (w : World) (h : s < 1 ∨ 2048 < s) : Calls Try.prog 8 #[.int .i64 s] w fun e w' => e = .returned (.tuple #[.pointer none, .int .i64 2]) ∧ w' = w := by
  by_cases h1 : s < 1
  · clear h
    go_enter Try.func8, Try.ntmps8
    go_wp2
    go_ret2
    exact ⟨rfl, rfl⟩
  · have h2 : 2048 < s := by omega
    clear h
    go_enter Try.func8, Try.ntmps8
    go_wp2
    go_ret2
    exact ⟨rfl, rfl⟩

set_option maxRecDepth 20000 in
set_option maxHeartbeats 4000000 in
theorem refNew_ok (s : Nat) (w : World) (h0 : 1 ≤ s) (h1 : s ≤ 2048) :
    Calls Try.prog 8 #[.int .i64 s] w fun e w' => ∃ g fv, e = .returned (.tuple #[.pointer (some ⟨g, 0, none⟩), .int .i64 0]) ∧ RefAt w' w.heap.size g fv (.slice none 0 0) ⟨List.replicate s zText, []⟩ ∧ Below w.heap.size w w' := by
  obtain ⟨i0, hi, hz0, hz1, hz2⟩ := info_parts Try.info9
  have hmk := fun w => run_make_row' (P := Try.prog) 40 5 (.int .u8 0) 1 Try.underlying40 Try.info5 rfl .i64 .i64 256 (by omega) (by omega) w
  simp only [show ((256 : Nat) : Int) = 256 from rfl] at hmk
  have hZb := made_byts 256
  generalize madeCells #[.int .u8 0] 256 = Z at *
  have HZb : Hid _ := hZb
  obtain ⟨z, hz⟩ : ∃ z, zText = z := ⟨_, rfl⟩
  rw [hz]
  have HZ : Hid _ := hz
  clear hZb hz
  go_enter Try.func8, Try.ntmps8
  go_wp2
  go_loopw [5] (fun iv wr => ∃ (k : Nat) (fv : Value), k ≤ s ∧ iv = .int .i64 k ∧ Hid (Row wr w.heap.size #[fv, .slice none 0 0] 75) ∧ Hid (wr.ownsRow w.heap.size 9 1 fv k (List.replicate k (.string z))) ∧ Below w.heap.size w wr) (fun iv _ => s - (intOf iv).toNat)
  case atStart => exact ⟨0, .slice none 0 0, Nat.zero_le _, rfl, Row.new w _ 75, World.ownsRow_nil _ _ _ _, (Below.refl _ _).alloc (Nat.le_refl _) _⟩
  case round =>
    obtain ⟨k, fv, hk, rfl, hR, hF, hb⟩ := hrel
    have hsz := hb.size
    by_cases hlt : k < s
    · have hR0 : Row wr w.heap.size #[fv, .slice none 0 0] 75 := hR
      have hF0 : wr.ownsRow w.heap.size 9 1 fv k (List.replicate k (.string z)) := hF
      have hRd : Row wr.drew w.heap.size #[fv, .slice none 0 0] 75 := hR0
      go_wp2_with fail
      refine wp_region_perm [(false, 0), (false, 1), (false, 2), (false, 3), (false, 4), (true, 5), (true, 6), (true, 7), (true, 8), (true, 9), (true, 10), (true, 11)] (fun wx => Row wx w.heap.size #[fv, .slice none 0 0] 75) (by kernel_rfl) (by kernel_rfl) hRd ?_
      refine p_move (some 19) _ rfl rfl rfl (by rfl) ?_
      simp only [Act.put, List.setIfInBounds_toArray, List.set_cons_zero, List.set_cons_succ]
      refine p_move (some 20) _ rfl rfl rfl (by rfl) ?_
      simp only [Act.put, List.setIfInBounds_toArray, List.set_cons_zero, List.set_cons_succ]
      refine p_value (some 21) ?_ rfl rfl (by rfl) (fun w hw => ?_) ?_
      rotate_left
      · go_simp
        with_reducible rfl
      simp only [Act.put, List.setIfInBounds_toArray, List.set_cons_zero, List.set_cons_succ]
      refine p_value (some 22) ?_ rfl rfl (by rfl) (fun w hw => ?_) ?_
      rotate_left
      · go_simp
        with_reducible rfl
      simp only [Act.put, List.setIfInBounds_toArray, List.set_cons_zero, List.set_cons_succ]
      refine p_value (some 23) ?_ rfl rfl (by rfl) (fun w hw => ?_) ?_
      rotate_left
      · have hc := (hw.cell 0).trans (rfl : _ = some fv)
        go_simp
        with_reducible rfl
      simp only [Act.put, List.setIfInBounds_toArray, List.set_cons_zero, List.set_cons_succ]
      refine p_alone (some 24) (.slice (some ⟨wr.drew.heap.size, 0, none⟩) 256 256) (wr.drew.alloc (.cells Z 5)) rfl rfl (by rfl) (by have hm0 := hmk wr.drew; go_simp) (fun _ => hRd.alloc _) ?_
      simp only [Act.put, List.setIfInBounds_toArray, List.set_cons_zero, List.set_cons_succ]
      have hcv : (convert 40 9 (.slice (some ⟨wr.drew.heap.size, 0, none⟩) 256 256)).run Try.prog (wr.drew.alloc (.cells Z 5)) = .ok (.string z) (wr.drew.alloc (.cells Z 5)) := by
        rw [← show zText = z from HZ.out]
        exact conv256 (wr.drew.alloc (.cells Z 5)) wr.drew.heap.size 0 256 (fun _ => 0) (fun i hi => by rw [Nat.zero_add, (Row.new wr.drew Z 5).cell i, ← Array.getElem?_toList, show Z.toList = _ from HZb.out, byts_at _ _ _ hi])
      have hR1 : Row (wr.drew.alloc (.cells Z 5)) w.heap.size #[fv, .slice none 0 0] 75 := hRd.alloc _
      have hF1 : (wr.drew.alloc (.cells Z 5)).ownsRow w.heap.size 9 1 fv k (List.replicate k (.string z)) := ownsRow_below hF0 (((Below.refl _ _).drew).alloc (Nat.le_refl _) _)
      have hb1 : Below w.heap.size w (wr.drew.alloc (.cells Z 5)) := hb.drew.alloc hsz _
      generalize wr.drew.alloc (.cells Z 5) = W1 at *
      generalize wr.drew.heap.size = q1 at *
      refine p_alone (some 25) (.string z) W1 rfl rfl (by rfl) (by go_simp) (fun _ => hR1) ?_
      simp only [Act.put, List.setIfInBounds_toArray, List.set_cons_zero, List.set_cons_succ]
      refine p_alone (some 26) (.slice (some ⟨W1.heap.size, 0, none⟩) 1 1) (W1.alloc (.cells #[.string z] 9)) rfl rfl (by rfl) (by go_simp) (fun _ => hR1.alloc _) ?_
      simp only [Act.put, List.setIfInBounds_toArray, List.set_cons_zero, List.set_cons_succ]
      have hF2 := hF1.alloc (.cells #[.string z] 9)
      have hs1 := hb1.size
      refine p_wp rfl (by rfl) ?_
      refine wp_append_own_wide _ (.tmp 23) (.tmp 26) 67 rfl w.heap.size 9 i0 (.string ⟨#[]⟩) 1 16 Try.underlying67 hi hz0 hz1 hz2 rfl (by decide) fv k _ rfl hF2 _ 1 1 [.string z] rfl rfl (cell_one_new _ _ _) (fun u hu => by simp at hu; subst hu; rfl) (by unfold maxLen; omega) (by omega) (by simp; omega) ?_
      intro fv' w3 hown hgr _
      have hR3 : Row w3 w.heap.size #[fv, .slice none 0 0] 75 := (row_grown hF2 hgr (hR1.alloc _) (by decide)).trans (hR1.alloc _)
      have hb3 : Below w.heap.size w w3 := own_grown hF2 (hb1.alloc hs1 _) (by simp; omega) hgr
      have hrep : List.replicate k (Value.string z) ++ [.string z] = List.replicate (k + 1) (.string z) := by rw [List.replicate_succ']
      rw [hrep] at hown
      refine ⟨fun _ => hR3, ?_⟩
      show wpPerm _ _ _ _ _ (Act.put _ (some 27) fv') w3
      have hR4 : Row (w3.setCell ⟨w.heap.size, 0, none⟩ fv') w.heap.size #[fv', .slice none 0 0] 75 := (hR3.setCell (i := 0) fv').trans (by simp)
      have hF4 : (w3.setCell ⟨w.heap.size, 0, none⟩ fv').ownsRow w.heap.size 9 1 fv' (k + 1) (List.replicate (k + 1) (.string z)) := ownsRow_keep hown fun q hq _ => by
        obtain ⟨_, _, cur, hr⟩ := ownsRow_lt hown q hq
        exact Below.heap_setCell _ _ _ _ (row_ne hr hR3 (by decide))
      have hb4 : Below w.heap.size w (w3.setCell ⟨w.heap.size, 0, none⟩ fv') := hb3.setCell (Nat.le_refl _) _
      obtain ⟨xv, cv, rfl, _⟩ := own_slice hown
      have hcell := (hR3.cell 0).trans (rfl : _ = some fv)
      have hfz := hR3.frozen 0
      have HR4 : Hid _ := hR4
      have HF4 : Hid _ := hF4
      clear hR4 hF4 hown hgr hF2 hF1 hrep hcv hmk
      simp only [Act.put, List.setIfInBounds_toArray, List.set_cons_zero, List.set_cons_succ]
      refine p_alone (some 28) (.pointer (some ⟨w.heap.size, 0, none⟩)) w3 rfl rfl (by rfl) (by go_simp) (fun _ => hR3) ?_
      simp only [Act.put, List.setIfInBounds_toArray, List.set_cons_zero, List.set_cons_succ]
      refine p_alone (some 29) (.pointer (some ⟨w.heap.size, 0, none⟩)) w3 rfl rfl (by rfl) (by go_simp) (fun _ => hR3) ?_
      simp only [Act.put, List.setIfInBounds_toArray, List.set_cons_zero, List.set_cons_succ]
      refine p_store (w3.setCell ⟨w.heap.size, 0, none⟩ (.slice xv (k + 1) cv)) rfl rfl (by rfl) (by go_simp) (fun h => absurd rfl h) ?_
      refine p_done ?_
      go_wp2
      go_roundw
      case rel => exact ⟨k + 1, _, by omega, by go_num, HR4, HF4, hb4⟩
      case measure => simp [intOf]; omega
    · have hks : s = k := by omega
      subst hks
      go_wp2
      go_ret2
      refine ⟨w.heap.size, fv, rfl, ⟨hR, ?_, World.ownsRow_nil _ _ _ _, Nat.le_refl _⟩, hb⟩
      show World.ownsRow _ _ _ _ _ (List.replicate s z).length ((List.replicate s z).map Value.string)
      rw [List.length_replicate, List.map_replicate]
      exact hF
end Go.Proofs.Ytlbapnecmhlgmaa
