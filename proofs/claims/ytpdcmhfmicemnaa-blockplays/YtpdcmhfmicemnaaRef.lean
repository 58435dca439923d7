/- The document's own disk in memory; the walks of its has, Read and of the writes that it refuses. -/
import Derived.Test.YtpdcmhfmicemnaaTexts
namespace Go.Proofs.Ytpdcmhfmicemnaa
open Go.RowKit

/-- An event of the document's disk: a number and a text. -/
structure Rv where
  n : Int
  t : ByteArray
def Rv.cells (e : Rv) : List Value := [.int .i64 e.n, .string e.t]
def rvCells (L : List Rv) : List Value := L.flatMap Rv.cells
theorem rvCells_len (L : List Rv) : (rvCells L).length = L.length * 2 := by
  induction L with
  | nil => rfl
  | cons e L ih => simp [rvCells, Rv.cells] at ih ⊢; omega
theorem rvCells_snoc (L : List Rv) (e : Rv) : rvCells (L ++ [e]) = rvCells L ++ e.cells := by simp [rvCells]
theorem rvCells_at (L : List Rv) (i : Nat) (e : Rv) (h : L[i]? = some e) : (rvCells L)[i * 2]? = some (.int .i64 e.n) ∧ (rvCells L)[i * 2 + 1]? = some (.string e.t) := by
  induction L generalizing i with
  | nil => simp at h
  | cons x L ih =>
    have hc : rvCells (x :: L) = x.cells ++ rvCells L := rfl
    cases i with
    | zero =>
      simp at h
      subst h
      rw [hc]
      exact ⟨rfl, rfl⟩
    | succ i =>
      have h2 := ih i (by simpa using h)
      rw [hc, List.getElem?_append_right (by simp [Rv.cells]; omega), List.getElem?_append_right (by simp [Rv.cells]; omega)]
      have e1 : (i + 1) * 2 - x.cells.length = i * 2 := by simp [Rv.cells]; omega
      have e2 : (i + 1) * 2 + 1 - x.cells.length = i * 2 + 1 := by simp [Rv.cells]; omega
      rw [e1, e2]
      exact h2

/-- The document's disk: its sectors' texts at first, and what happened. -/
structure Rk where
  F : List ByteArray
  L : List Rv
/-- It lies in memory. -/
structure RefAt (w : World) (base g : Nat) (fv lv : Value) (R : Rk) : Prop where
  row : Row w g #[fv, lv] 60
  first : w.ownsRow base 9 1 fv R.F.length (R.F.map Value.string)
  evs : w.ownsRow base 67 2 lv R.L.length (rvCells R.L)
  ge : base ≤ g
theorem RefAt.keep {w w' : World} {base g : Nat} {fv lv : Value} {R : Rk} (h : RefAt w base g fv lv R) (hb : ∀ k, k = g ∨ fv.ownBlock = some k ∨ lv.ownBlock = some k → w'.heap[k]? = w.heap[k]?) : RefAt w' base g fv lv R :=
  ⟨(hb g (.inl rfl)).trans h.row, ownsRow_keep h.first (fun k hk _ => hb k (.inr (.inl hk))), ownsRow_keep h.evs (fun k hk _ => hb k (.inr (.inr hk))), h.ge⟩
theorem RefAt.below {w w' : World} {base g : Nat} {fv lv : Value} {R : Rk} (h : RefAt w base g fv lv R) (hb : Below w.heap.size w w') : RefAt w' base g fv lv R :=
  h.keep fun k hk => hb.block k (by
    rcases hk with rfl | hk | hk
    · exact h.row.lt
    · exact (ownsRow_lt h.first k hk).1
    · exact (ownsRow_lt h.evs k hk).1)
theorem own_slice {w : World} {base n s : Nat} {e : TypeId} {v : Value} {xs : List Value} (h : w.ownsRow base e s v n xs) : ∃ a c, v = .slice a n c ∧ (0 < n → ∃ g, a = some ⟨g, 0, none⟩) := by
  obtain ⟨_, ⟨h1, h2⟩ | ⟨g, c, cur, h1, _⟩⟩ := h
  · exact ⟨none, 0, by rw [h1, h2], fun h => absurd h (by omega)⟩
  · exact ⟨_, _, h1, fun _ => ⟨g, rfl⟩⟩

theorem refHas_any {w : World} {base g : Nat} {fv lv : Value} {R : Rk} (h : RefAt w base g fv lv R) (n : Int) :
    Calls Try.prog 25 #[.pointer (some ⟨g, 0, none⟩), .int .i64 n] w fun e w' => e = .returned (.bool (decide (0 ≤ n ∧ n < R.F.length))) ∧ w' = w := by
  have hc := (h.row.cell 0).trans (rfl : _ = some fv)
  obtain ⟨a, c, rfl, _⟩ := own_slice h.first
  generalize R.F.length = s at *
  clear h
  by_cases hn : 0 ≤ n
  · have hd : decide (0 ≤ n ∧ n < s) = decide (n < s) := by simp [hn]
    rw [hd]
    clear hd
    go_enter Try.func25, Try.ntmps25
    go_wp2
    go_ret
    exact ⟨rfl, rfl⟩
  · have hd : decide (0 ≤ n ∧ n < (s : Int)) = false := by simp; omega
    rw [hd]
    clear hd
    go_enter Try.func25, Try.ntmps25
    go_wp2
    go_ret
    exact ⟨rfl, rfl⟩

theorem refRead_bad {w : World} {base g : Nat} {fv lv : Value} {R : Rk} (h : RefAt w base g fv lv R) (n : Int) (hn : ¬ (0 ≤ n ∧ n < R.F.length)) :
    Calls Try.prog 31 #[.pointer (some ⟨g, 0, none⟩), .int .i64 n] w fun e w' => e = .returned (.tuple #[.string ⟨#[]⟩, .int .i64 2]) ∧ w' = w := by
  have H := refHas_any h n
  rw [show decide (0 ≤ n ∧ n < (R.F.length : Int)) = false by simpa using hn] at H
  clear h hn
  go_enter Try.func31, Try.ntmps31
  go_wp2_with fail
  refine H.mono ?_
  rintro e w' ⟨rfl, rfl⟩
  go_wp2
  go_ret2
  exact ⟨rfl, rfl⟩

theorem refWrite_bad {w : World} {base g : Nat} {fv lv : Value} {R : Rk} (h : RefAt w base g fv lv R) (n : Int) (a : Option Addr) (len cap : Nat) (hn : ¬ (0 ≤ n ∧ n < R.F.length) ∨ len ≠ 256) :
    Calls Try.prog 12 #[.pointer (some ⟨g, 0, none⟩), .int .i64 n, .slice a len cap] w fun e w' => e = .returned (.int .i64 2) ∧ w' = w := by
  have H := refHas_any h n
  clear h
  by_cases hh : 0 ≤ n ∧ n < (R.F.length : Int)
  · have hl : len ≠ 256 := hn.resolve_left (fun h => h hh)
    rw [show decide (0 ≤ n ∧ n < (R.F.length : Int)) = true by simpa using hh] at H
    clear hn hh
    go_enter Try.func12, Try.ntmps12
    go_wp2_with fail
    refine H.mono ?_
    rintro e w' ⟨rfl, rfl⟩
    go_wp2
    go_ret
    exact ⟨rfl, rfl⟩
  · rw [show decide (0 ≤ n ∧ n < (R.F.length : Int)) = false by simpa using hh] at H
    clear hn hh
    go_enter Try.func12, Try.ntmps12
    go_wp2_with fail
    refine H.mono ?_
    rintro e w' ⟨rfl, rfl⟩
    go_wp2
    go_ret
    exact ⟨rfl, rfl⟩

/-- The text of sector n behind the first k events. -/
def refText (R : Rk) (n : Nat) : Nat → ByteArray
  | 0 => R.F.getD n ⟨#[]⟩
  | k + 1 => if (R.L.getD k ⟨-1, ⟨#[]⟩⟩).n = (n : Int) then (R.L.getD k ⟨-1, ⟨#[]⟩⟩).t else refText R n k

set_option maxRecDepth 20000 in
set_option maxHeartbeats 2000000 in
theorem refRead_ok {w : World} {base g : Nat} {fv lv : Value} {R : Rk} (h : RefAt w base g fv lv R) (n : Nat) (hn : n < R.F.length) (hL : R.L.length ≤ 1000000) (hF : R.F.length ≤ 1000000) :
    Calls Try.prog 31 #[.pointer (some ⟨g, 0, none⟩), .int .i64 n] w fun e w' => e = .returned (.tuple #[.string (refText R n R.L.length), .int .i64 0]) ∧ w' = w := by
  have H := refHas_any h n
  rw [show decide (0 ≤ (n : Int) ∧ (n : Int) < R.F.length) = true by simp; omega] at H
  have c0 := (h.row.cell 0).trans (rfl : _ = some fv)
  have c1 := (h.row.cell 1).trans (rfl : _ = some lv)
  have HR : Hid _ := h
  obtain ⟨a, c, rfl, ha⟩ := own_slice h.evs
  obtain ⟨fa, fc, rfl, hfa⟩ := own_slice h.first
  obtain ⟨gf, rfl⟩ := hfa (by omega)
  have cf : w.cell? ⟨gf, n, none⟩ = some (.string (R.F.getD n ⟨#[]⟩)) := by
    rw [h.first.cellAt n (by omega)]
    simp [List.getD, List.getElem?_eq_getElem hn]
  obtain ⟨zz, hzz⟩ : ∃ zz, R.F.getD n ⟨#[]⟩ = zz := ⟨_, rfl⟩
  rw [hzz] at cf
  have HZZ : Hid _ := hzz
  clear h hzz
  go_enter Try.func31, Try.ntmps31
  go_wp2_with fail
  refine H.mono ?_
  rintro e w' ⟨rfl, hw'⟩
  subst w'
  go_wp2
  go_loopw [6] (fun iv wr => ∃ k : Nat, k ≤ R.L.length ∧ iv = .int .i64 ((k : Int) - 1) ∧ Hid (refText R n R.L.length = refText R n k) ∧ wr = w) (fun iv _ => (intOf iv + 1).toNat)
  case atStart => exact ⟨R.L.length, Nat.le_refl _, by go_num, rfl, rfl⟩
  case round =>
    obtain ⟨k, hk, rfl, ht, rfl⟩ := hrel
    by_cases h0 : 0 < k
    · obtain ⟨i, rfl⟩ : ∃ i, k = i + 1 := ⟨k - 1, by omega⟩
      obtain ⟨gl, rfl⟩ := ha (by omega)
      have hiv : ((i + 1 : Nat) : Int) - 1 = (i : Int) := by omega
      rw [hiv]
      have hil : i < R.L.length := by omega
      have hev : R.L[i]? = some (R.L.getD i ⟨-1, ⟨#[]⟩⟩) := by simp [List.getD, List.getElem?_eq_getElem hil]
      obtain ⟨e1, e2⟩ := rvCells_at R.L i _ hev
      have d1 := (HR.out.evs.cellAt (i * 2) (by omega)).trans e1
      have d2 := (HR.out.evs.cellAt (i * 2 + 1) (by omega)).trans e2
      have hst : refText R n (i + 1) = if (R.L.getD i ⟨-1, ⟨#[]⟩⟩).n = (n : Int) then (R.L.getD i ⟨-1, ⟨#[]⟩⟩).t else refText R n i := rfl
      have HST : Hid _ := hst
      generalize R.L.getD i ⟨-1, ⟨#[]⟩⟩ = ee at *
      clear hst hev e1 e2 hiv
      by_cases hq : ee.n = (n : Int)
      · go_wp2
        go_ret2
        refine ⟨?_, rfl⟩
        rw [show refText R n R.L.length = _ from ht, show refText R n (i + 1) = _ from HST.out, if_pos hq]
        rfl
      · go_wp2
        go_roundw
        case rel => exact ⟨i, by omega, by go_num, by show _ = _; rw [show refText R n R.L.length = _ from ht, show refText R n (i + 1) = _ from HST.out, if_neg hq], by first | rfl | trivial⟩
        case measure => simp [intOf]
    · obtain rfl : k = 0 := by omega
      go_wp2
      go_ret2
      refine ⟨?_, rfl⟩
      rw [show refText R n R.L.length = _ from ht, show refText R n 0 = zz from HZZ.out]
      rfl
end Go.Proofs.Ytpdcmhfmicemnaa
