/- The walks of the document's Bytes and Read. -/
import Derived.Test.YthjmmlgcaigdfaaRef
namespace Go.Proofs.Ythjmmlgcaigdfaa
open Go.RowKit
variable {w : World} {gr gi n : Nat} {S : Nat → Bool}

theorem add_tab : ∀ b0 b1 b2 b3 b4 b5 b6 b7 : Bool, ∀ r, r < 8 → [b0, b1, b2, b3, b4, b5, b6, b7].getD r false = false → oct (fun j => [b0, b1, b2, b3, b4, b5, b6, b7].getD j false) + 2 ^ r = oct (fl (fun j => [b0, b1, b2, b3, b4, b5, b6, b7].getD j false) r) := by decide +kernel
theorem add_oct (f : Nat → Bool) (r : Nat) (h : r < 8) (hf : f r = false) : oct f + 2 ^ r = oct (fl f r) := by
  have h1 := add_tab (f 0) (f 1) (f 2) (f 3) (f 4) (f 5) (f 6) (f 7) r h (by rw [← oct_tab f r h, hf])
  rw [← oct_congr f _ (oct_tab f)] at h1
  rw [h1]
  refine oct_congr _ _ fun j hj => ?_
  unfold fl
  show (if j = r then !([f 0, f 1, f 2, f 3, f 4, f 5, f 6, f 7].getD r false) else [f 0, f 1, f 2, f 3, f 4, f 5, f 6, f 7].getD j false) = _
  rw [← oct_tab f r h, ← oct_tab f j hj]
theorem byt_add (S : Nat → Bool) (k : Nat) (hS : S k = false) : byt S (k / 8) + 2 ^ (k % 8) = byt (fl S k) (k / 8) := by
  unfold byt
  rw [add_oct _ _ (by omega) (by show S (8 * (k / 8) + k % 8) = false; rw [show 8 * (k / 8) + k % 8 = k by omega]; exact hS)]
  refine oct_congr _ _ fun j hj => ?_
  unfold fl
  by_cases h : j = k % 8
  · rw [if_pos h, if_pos (by omega)]
    show (!S (8 * (k / 8) + k % 8)) = !S k
    rw [show 8 * (k / 8) + k % 8 = k by omega]
  · rw [if_neg h, if_neg (by omega)]

/-- Those below i. -/
def cut (S : Nat → Bool) (i j : Nat) : Bool := S j && decide (j < i)
theorem cut_in (S : Nat → Bool) (i : Nat) (h : S i = true) : cut S (i + 1) = fl (cut S i) i := by
  funext j
  by_cases e : j = i
  · subst e; simp [cut, fl, h]
  · have e2 : (j < i + 1) ↔ (j < i) := by omega
    simp [cut, fl, e, e2]
theorem cut_out (S : Nat → Bool) (i : Nat) (h : S i = false) : cut S (i + 1) = cut S i := by
  funext j
  by_cases e : j = i
  · subst e; simp [cut, h]
  · have e2 : (j < i + 1) ↔ (j < i) := by omega
    simp [cut, e2]
theorem cut_all (S : Nat → Bool) (n : Nat) (h : ∀ k, n ≤ k → S k = false) : cut S n = S := by
  funext j
  by_cases e : j < n
  · simp [cut, e]
  · simp [cut, e, h j (by omega)]
theorem arr_zero (S : Nat → Bool) : madeCells #[.int .u8 0] 256 = arr (byt (cut S 0)) := by
  apply Array.ext_getElem?
  intro i
  by_cases h : i < 256
  · rw [arr_at _ _ h]
    have e : byt (cut S 0) i = 0 := by
      unfold byt
      rw [oct_congr _ (fun _ => false) (fun j _ => by simp [cut])]
      rfl
    rw [e]
    simp [madeCells, h, Nat.mod_one]
  · rw [Array.getElem?_eq_none (by rw [size_madeCells]; omega), Array.getElem?_eq_none (by rw [arr_size]; omega)]
theorem arr_fl (S : Nat → Bool) (k : Nat) (h : k < 2048) : (arr (byt S)).setIfInBounds (k / 8) (.int .u8 (byt (fl S k) (k / 8))) = arr (byt (fl S k)) := by
  apply Array.ext_getElem?
  intro i
  rw [Array.getElem?_setIfInBounds, arr_size]
  by_cases e : k / 8 = i
  · subst e
    rw [if_pos rfl, if_pos (by omega), arr_at _ _ (by omega)]
  · rw [if_neg e]
    by_cases hi : i < 256
    · rw [arr_at _ _ hi, arr_at _ _ hi, byt_other _ _ _ (by omega)]
    · rw [Array.getElem?_eq_none (by rw [arr_size]; omega), Array.getElem?_eq_none (by rw [arr_size]; omega)]
theorem pow_byte (k : Nat) : (2 : Int) ^ (k % 8) % 256 = 2 ^ (k % 8) := by
  have h : k % 8 < 8 := Nat.mod_lt _ (by decide)
  generalize k % 8 = r at h
  revert r
  decide

set_option maxRecDepth 20000 in
set_option maxHeartbeats 1000000 in
theorem rbytes_ok (h : RAt w gr gi n S) : Calls Try.prog 22 #[.pointer (some ⟨gr, 0, none⟩)] w fun e w' => e = .returned (.slice (some ⟨w.heap.size, 0, none⟩) 256 256) ∧ Row w' w.heap.size (arr (byt (cut S n))) 5 ∧ Below w.heap.size w w' := by
  have hmk := run_make_row' (P := Try.prog) 42 5 (.int .u8 0) 1 Try.underlying42 Try.info5 rfl .i64 .i64 256 (by omega) (by omega) w
  simp only [show ((256 : Nat) : Int) = 256 from rfl] at hmk
  rw [arr_zero S] at hmk
  have hn := h.hi
  have HH : Hid _ := h
  clear h
  go_enter Try.func22, Try.ntmps22
  go_wp2
  go_loopw [4] (fun i wr => ∃ j : Nat, j ≤ n ∧ i = .int .i64 j ∧ Row wr w.heap.size (arr (byt (cut S j))) 5 ∧ Below w.heap.size w wr) (fun i _ => n - (intOf i).toNat)
  case atStart => exact ⟨0, by omega, rfl, Row.new w _ 5, (Below.refl _ _).alloc (Nat.le_refl _) _⟩
  case round =>
    obtain ⟨j, hj, rfl, hR, hb⟩ := hrel
    clear hmk
    have hc := (HH.out.below hb).sl
    by_cases hjk : j < n
    · have hjn : (j : Int) < n := by omega
      have hcb := (HH.out.below hb).at j hjk
      cases hS : S j with
      | true =>
        rw [hS] at hcb
        have hq : (j : Int).tdiv 8 = ((j / 8 : Nat) : Int) := rfl
        have hv := (hR.cell (j / 8)).trans (arr_at _ (j / 8) (by omega))
        have hfz := hR.frozen (j / 8)
        have hadd := byt_add (cut S j) j (by simp [cut])
        have hbd := byt_bd (fl (cut S j) j) (j / 8)
        have hset := arr_fl (cut S j) j (by omega)
        have hpw := pow_byte j
        rw [← cut_in S j hS] at hadd hbd hset
        have hR2 := hR.setCell (i := j / 8) (.int .u8 (byt (cut S (j + 1)) (j / 8)))
        rw [hset] at hR2
        have hb2 : Below w.heap.size w (wr.setCell ⟨w.heap.size, j / 8, none⟩ (.int .u8 (byt (cut S (j + 1)) (j / 8)))) := hb.setCell (p := ⟨w.heap.size, j / 8, none⟩) (Nat.le_refl _) _
        have HR2 : Hid _ := hR2
        have HB2 : Hid _ := hb2
        clear hset hR2 hb2 hR
        generalize byt (cut S j) (j / 8) = v at *
        generalize byt (cut S (j + 1)) (j / 8) = v' at *
        have hm : j / 8 < 256 := by omega
        generalize j / 8 = q at *
        have hwr : IntKind.i64.wrap (q : Int) = q := by rw [IntKind.wrap_i64]; omega
        have hm' : (q : Int) < 256 := by omega
        go_wp2
        go_roundw
        case rel => exact ⟨j + 1, by omega, by go_num, HR2.out, HB2.out⟩
        case measure => simp [intOf]; omega
      | false =>
        rw [hS] at hcb
        go_wp2
        go_roundw
        case rel => exact ⟨j + 1, by omega, by go_num, by rw [cut_out S j hS]; exact hR, hb⟩
        case measure => simp [intOf]; omega
    · have hjn : ¬ (j : Int) < n := by omega
      obtain rfl : j = n := by omega
      go_wp2
      go_ret
      exact ⟨rfl, hR, hb⟩
end Go.Proofs.Ythjmmlgcaigdfaa
