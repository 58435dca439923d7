/- The document's set in memory, and the walks of its New, Take and Set. -/
import Derived.Test.YthjmmlgcaigdfaaTakes
import Derived.Test.YthjmmlgcaigdfaaRead
namespace Go.Proofs.Ythjmmlgcaigdfaa
open Go.RowKit
variable {w : World} {gr gi n : Nat} {S : Nat → Bool}

/-- The document's set lies in block gr, its bools in gi. -/
structure RAt (w : World) (gr gi n : Nat) (S : Nat → Bool) : Prop where
  row : Row w gr #[.slice (some ⟨gi, 0, none⟩) n n] 46
  bits : Row w gi (bls S n) 4
  lo : 1 ≤ n
  hi : n ≤ 2048
theorem RAt.sl (h : RAt w gr gi n S) : w.cell? ⟨gr, 0, none⟩ = some (.slice (some ⟨gi, 0, none⟩) n n) := (h.row.cell 0).trans rfl
theorem RAt.ne (h : RAt w gr gi n S) : gr ≠ gi := fun e => by
  subst e
  have := h.row.symm.trans h.bits
  simp at this
theorem RAt.at (h : RAt w gr gi n S) (k : Nat) (hk : k < n) : w.cell? ⟨gi, k, none⟩ = some (.bool (S k)) := (h.bits.cell k).trans (bls_at S n k hk)
theorem RAt.below {w' : World} (h : RAt w gr gi n S) (hb : Below w.heap.size w w') : RAt w' gr gi n S := ⟨h.row.below hb h.row.lt, h.bits.below hb h.bits.lt, h.lo, h.hi⟩
theorem RAt.still {w' : World} (h : RAt w gr gi n S) (hb : Still w w') : RAt w' gr gi n S := h.below (hb.below _)
theorem RAt.chg {w' : World} {g : Nat} (h : RAt w gr gi n S) (hc : Chg g w w') (h1 : gr ≠ g) (h2 : gi ≠ g) : RAt w' gr gi n S := ⟨h.row.chg hc h1, h.bits.chg hc h2, h.lo, h.hi⟩
/-- A set that a call made is another block. -/
theorem RAt.apart {g m : Nat} {T : Nat → Bool} (h : RAt w gr gi n S) (hs : SetAt w g m T) : gr ≠ g ∧ gi ≠ g :=
  ⟨fun e => by subst e; have := h.row.symm.trans hs.row; simp at this, fun e => by subst e; have := h.bits.symm.trans hs.row; simp at this⟩
def upd (S : Nat → Bool) (k : Nat) (b : Bool) (j : Nat) : Bool := if j = k then b else S j
theorem RAt.upd (h : RAt w gr gi n S) (k : Nat) (b : Bool) : RAt (w.setCell ⟨gi, k, none⟩ (.bool b)) gr gi n (upd S k b) := by
  refine ⟨h.row.setCell_other h.ne _, ?_, h.lo, h.hi⟩
  rw [← bls_set S (Ythjmmlgcaigdfaa.upd S k b) n k b (by simp [Ythjmmlgcaigdfaa.upd]) (fun j hj => by simp [Ythjmmlgcaigdfaa.upd, hj])]
  exact h.bits.setCell _
theorem upd_fl (S : Nat → Bool) (k : Nat) (b : Bool) (h : S k = !b) : upd S k b = fl S k := by
  funext j
  by_cases e : j = k
  · subst e; simp [upd, fl, h]
  · simp [upd, fl, e]

set_option maxRecDepth 20000 in
theorem rnew_ok (n : Nat) (w : World) (h0 : 1 ≤ n) (h1 : n ≤ 2048) :
    Calls Try.prog 9 #[.int .i64 n] w fun e w' => ∃ gr gi, e = .returned (.tuple #[.pointer (some ⟨gr, 0, none⟩), .int .i64 0]) ∧ RAt w' gr gi n none' ∧ Below w.heap.size w w' ∧ w.heap.size ≤ gr ∧ w.heap.size ≤ gi := by
  have hmk := run_make_row' (P := Try.prog) 44 4 (.bool false) 1 Try.underlying44 Try.info4 rfl .i64 .i64 n (by omega) (by omega) w
  rw [made_bls] at hmk
  have hend : Hid (RAt ((w.alloc (.cells (bls none' n) 4)).alloc (.cells #[.slice (some ⟨w.heap.size, 0, none⟩) n n] 46)) (w.heap.size + 1) w.heap.size n none') := by
    refine ⟨?_, (Row.new w _ 4).alloc _, h0, h1⟩
    have h := Row.new (w.alloc (.cells (bls none' n) 4)) #[.slice (some ⟨w.heap.size, 0, none⟩) n n] 46
    simpa using h
  generalize bls none' n = Z at *
  go_enter Try.func9, Try.ntmps9
  go_wp2
  go_ret2
  exact ⟨w.heap.size + 1, w.heap.size, by simp, hend.out, ((Below.refl _ _).alloc (Nat.le_refl _) _).alloc (by simp) _, by omega, Nat.le_refl _⟩
theorem rnew_bad (n : Int) (w : World) (h : n < 1 ∨ 2048 < n) : Calls Try.prog 9 #[.int .i64 n] w fun e w' => e = .returned (.tuple #[.pointer none, .int .i64 2]) ∧ w' = w := by
  by_cases h1 : n < 1
  · clear h
    go_enter Try.func9, Try.ntmps9
    go_wp2
    go_ret2
    exact ⟨rfl, rfl⟩
  · have h2 : 2048 < n := by omega
    clear h
    go_enter Try.func9, Try.ntmps9
    go_wp2
    go_ret2
    exact ⟨rfl, rfl⟩

theorem rtake_ok (h : RAt w gr gi n S) (k : Nat) (hk : k < n) (hmin : ∀ j, j < k → S j = true) (hS : S k = false) :
    Calls Try.prog 12 #[.pointer (some ⟨gr, 0, none⟩)] w fun e w' => e = .returned (.tuple #[.int .i64 k, .int .i64 0]) ∧ RAt w' gr gi n (fl S k) ∧ Chg gi w w' := by
  have hc := h.sl
  have hn := h.hi
  have HH : Hid _ := h
  have HM : Hid _ := hmin
  clear h hmin
  go_enter Try.func12, Try.ntmps12
  go_wp2
  go_loopw [4] (fun i wr => ∃ j : Nat, j ≤ k ∧ i = .int .i64 j ∧ wr = w) (fun i _ => k - (intOf i).toNat)
  case atStart => exact ⟨0, by omega, rfl, rfl⟩
  case round =>
    obtain ⟨j, hj, rfl, rfl⟩ := hrel
    have hjn : (j : Int) < n := by omega
    have hcb := HH.out.at j (by omega)
    by_cases hjk : j < k
    · rw [HM.out j hjk] at hcb
      go_wp2
      go_roundw
      case rel => exact ⟨j + 1, by omega, by go_num, trivial⟩
      case measure => simp [intOf]; omega
    · obtain rfl : j = k := by omega
      rw [hS] at hcb
      have hfz := HH.out.bits.frozen j
      go_wp2
      go_ret2
      refine ⟨rfl, ?_, Chg.of_setCell _ _ _⟩
      rw [← upd_fl S j true (by rw [hS]; rfl)]
      exact HH.out.upd j true
theorem rtake_full (h : RAt w gr gi n S) (hall : ∀ j, j < n → S j = true) :
    Calls Try.prog 12 #[.pointer (some ⟨gr, 0, none⟩)] w fun e w' => e = .returned (.tuple #[.int .i64 0, .int .i64 15]) ∧ w' = w := by
  have hc := h.sl
  have hn := h.hi
  have HH : Hid _ := h
  have HM : Hid _ := hall
  clear h hall
  go_enter Try.func12, Try.ntmps12
  go_wp2
  go_loopw [4] (fun i wr => ∃ j : Nat, j ≤ n ∧ i = .int .i64 j ∧ wr = w) (fun i _ => n - (intOf i).toNat)
  case atStart => exact ⟨0, by omega, rfl, rfl⟩
  case round =>
    obtain ⟨j, hj, rfl, rfl⟩ := hrel
    by_cases hjk : j < n
    · have hjn : (j : Int) < n := by omega
      have hcb := HH.out.at j (by omega)
      rw [HM.out j hjk] at hcb
      go_wp2
      go_roundw
      case rel => exact ⟨j + 1, by omega, by go_num, trivial⟩
      case measure => simp [intOf]; omega
    · have hjn : ¬ (j : Int) < n := by omega
      go_wp2
      go_ret2
      exact ⟨rfl, rfl⟩
theorem rset_arg (h : RAt w gr gi n S) (k : Int) (b : Bool) (hk : ¬ (0 ≤ k ∧ k < n)) : Calls Try.prog 14 #[.pointer (some ⟨gr, 0, none⟩), .int .i64 k, .bool b] w fun e w' => e = .returned (.int .i64 2) ∧ w' = w := by
  have hc := h.sl
  clear h
  by_cases h0 : k < 0
  · go_enter Try.func14, Try.ntmps14
    go_wp2
    go_ret
    exact ⟨rfl, rfl⟩
  · have h1 : (n : Int) ≤ k := by omega
    go_enter Try.func14, Try.ntmps14
    go_wp2
    go_ret
    exact ⟨rfl, rfl⟩
theorem rset_same (h : RAt w gr gi n S) (k : Nat) (b : Bool) (hk : k < n) (hS : S k = b) : Calls Try.prog 14 #[.pointer (some ⟨gr, 0, none⟩), .int .i64 k, .bool b] w fun e w' => e = .returned (.int .i64 (if b then 13 else 14)) ∧ w' = w := by
  have hc := h.sl
  have hcb := h.at k hk
  rw [hS] at hcb
  clear h hS
  have h1 : ¬ (n : Int) ≤ k := by omega
  have h2 : (k : Int) < n := by omega
  cases b with
  | true =>
    go_enter Try.func14, Try.ntmps14
    go_wp2
    go_ret
    exact ⟨rfl, rfl⟩
  | false =>
    go_enter Try.func14, Try.ntmps14
    go_wp2
    go_ret
    exact ⟨rfl, rfl⟩
theorem rset_new (h : RAt w gr gi n S) (k : Nat) (b : Bool) (hk : k < n) (hS : S k = !b) : Calls Try.prog 14 #[.pointer (some ⟨gr, 0, none⟩), .int .i64 k, .bool b] w fun e w' => e = .returned (.int .i64 0) ∧ RAt w' gr gi n (fl S k) ∧ Chg gi w w' := by
  have hc := h.sl
  have hcb := h.at k hk
  have hfz := h.bits.frozen k
  have hend : Hid (RAt (w.setCell ⟨gi, k, none⟩ (.bool b)) gr gi n (fl S k)) := by rw [← upd_fl S k b hS]; exact h.upd k b
  rw [hS] at hcb
  clear h hS
  have h1 : ¬ (n : Int) ≤ k := by omega
  have h2 : (k : Int) < n := by omega
  cases b with
  | true =>
    go_enter Try.func14, Try.ntmps14
    go_wp2
    go_ret
    exact ⟨rfl, hend.out, Chg.of_setCell _ _ _⟩
  | false =>
    go_enter Try.func14, Try.ntmps14
    go_wp2
    go_ret
    exact ⟨rfl, hend.out, Chg.of_setCell _ _ _⟩
end Go.Proofs.Ythjmmlgcaigdfaa
