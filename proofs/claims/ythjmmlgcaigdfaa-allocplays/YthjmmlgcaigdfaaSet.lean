/- A set as bits: its bytes, and the two operations on them; how it lies in memory. -/
import Derived.Test.YthjmmlgcaigdfaaPermA
namespace Go.Proofs.Ythjmmlgcaigdfaa
open Go.RowKit

/-- n bytes as cells. -/
def byts (f : Nat → Int) (n : Nat) : List Value := (List.range n).map fun i => Value.int .u8 (f i)
theorem byts_len (f : Nat → Int) (n : Nat) : (byts f n).length = n := by simp [byts]
theorem byts_at (f : Nat → Int) (n i : Nat) (h : i < n) : (byts f n)[i]? = some (.int .u8 (f i)) := by simp [byts, h]
theorem byts_congr (f g : Nat → Int) (n : Nat) (h : ∀ i, i < n → f i = g i) : byts f n = byts g n := by
  unfold byts
  apply List.map_congr_left
  intro i hi
  rw [List.mem_range] at hi
  rw [h i hi]
theorem byts_one (f : Nat → Int) (n : Nat) : ∀ u ∈ byts f n, u.oneCell' = true := by
  intro u hu
  simp only [byts, List.mem_map] at hu
  obtain ⟨i, _, rfl⟩ := hu
  rfl

/-- Eight bits as a byte. -/
def oct (f : Nat → Bool) : Int := ((f 0).toNat + 2 * (f 1).toNat + 4 * (f 2).toNat + 8 * (f 3).toNat + 16 * (f 4).toNat + 32 * (f 5).toNat + 64 * (f 6).toNat + 128 * (f 7).toNat : Nat)
theorem oct_bd (f : Nat → Bool) : 0 ≤ oct f ∧ oct f < 256 := by
  unfold oct
  have h : ∀ b : Bool, b.toNat ≤ 1 := fun b => by cases b <;> decide
  have := h (f 0); have := h (f 1); have := h (f 2); have := h (f 3); have := h (f 4); have := h (f 5); have := h (f 6); have := h (f 7)
  omega
def fl (f : Nat → Bool) (k : Nat) (j : Nat) : Bool := if j = k then !f k else f j

theorem and_tab : ∀ b0 b1 b2 b3 b4 b5 b6 b7 : Bool, ∀ r, r < 8 → bits .and .u8 (oct fun j => [b0, b1, b2, b3, b4, b5, b6, b7].getD j false) (2 ^ r) = if [b0, b1, b2, b3, b4, b5, b6, b7].getD r false then 2 ^ r else 0 := by decide +kernel
theorem xor_tab : ∀ b0 b1 b2 b3 b4 b5 b6 b7 : Bool, ∀ r, r < 8 → bits .xor .u8 (oct fun j => [b0, b1, b2, b3, b4, b5, b6, b7].getD j false) (2 ^ r) = oct (fl (fun j => [b0, b1, b2, b3, b4, b5, b6, b7].getD j false) r) := by decide +kernel
theorem oct_congr (f g : Nat → Bool) (h : ∀ j, j < 8 → f j = g j) : oct f = oct g := by
  unfold oct
  rw [h 0 (by decide), h 1 (by decide), h 2 (by decide), h 3 (by decide), h 4 (by decide), h 5 (by decide), h 6 (by decide), h 7 (by decide)]
theorem oct_tab (f : Nat → Bool) (j : Nat) (h : j < 8) : f j = [f 0, f 1, f 2, f 3, f 4, f 5, f 6, f 7].getD j false := by
  match j, h with
  | 0, _ => rfl
  | 1, _ => rfl
  | 2, _ => rfl
  | 3, _ => rfl
  | 4, _ => rfl
  | 5, _ => rfl
  | 6, _ => rfl
  | 7, _ => rfl
theorem and_oct (f : Nat → Bool) (r : Nat) (h : r < 8) : bits .and .u8 (oct f) (2 ^ r) = if f r then 2 ^ r else 0 := by
  have h1 := and_tab (f 0) (f 1) (f 2) (f 3) (f 4) (f 5) (f 6) (f 7) r h
  rw [← oct_tab f r h, ← oct_congr f _ (oct_tab f)] at h1
  exact h1
theorem xor_oct (f : Nat → Bool) (r : Nat) (h : r < 8) : bits .xor .u8 (oct f) (2 ^ r) = oct (fl f r) := by
  have h1 := xor_tab (f 0) (f 1) (f 2) (f 3) (f 4) (f 5) (f 6) (f 7) r h
  rw [← oct_congr f _ (oct_tab f)] at h1
  rw [h1]
  refine oct_congr _ _ fun j hj => ?_
  unfold fl
  show (if j = r then !([f 0, f 1, f 2, f 3, f 4, f 5, f 6, f 7].getD r false) else [f 0, f 1, f 2, f 3, f 4, f 5, f 6, f 7].getD j false) = _
  rw [← oct_tab f r h, ← oct_tab f j hj]

/-- The byte i of a set. -/
def byt (S : Nat → Bool) (i : Nat) : Int := oct fun j => S (8 * i + j)
theorem byt_bd (S : Nat → Bool) (i : Nat) : 0 ≤ byt S i ∧ byt S i < 256 := oct_bd _
theorem byt_and (S : Nat → Bool) (k : Nat) : bits .and .u8 (byt S (k / 8)) (2 ^ (k % 8)) = if S k then 2 ^ (k % 8) else 0 := by
  unfold byt
  rw [and_oct _ _ (by omega), show 8 * (k / 8) + k % 8 = k by omega]
theorem byt_xor (S : Nat → Bool) (k : Nat) : bits .xor .u8 (byt S (k / 8)) (2 ^ (k % 8)) = byt (fl S k) (k / 8) := by
  unfold byt
  rw [xor_oct _ _ (by omega)]
  refine oct_congr _ _ fun j hj => ?_
  unfold fl
  by_cases h : j = k % 8
  · rw [if_pos h, if_pos (by omega)]
    show (!S (8 * (k / 8) + k % 8)) = !S k
    rw [show 8 * (k / 8) + k % 8 = k by omega]
  · rw [if_neg h, if_neg (by omega)]
theorem byt_other (S : Nat → Bool) (k i : Nat) (h : i ≠ k / 8) : byt (fl S k) i = byt S i :=
  oct_congr _ _ fun j hj => by unfold fl; rw [if_neg (by omega)]

/-- A set's cells: how many, and 256 bytes. -/
def setC (n : Nat) (S : Nat → Bool) : Array Value := (Value.int .i64 n :: byts (byt S) 256).toArray
theorem setC_size (n : Nat) (S : Nat → Bool) : (setC n S).size = 257 := by simp [setC, byts_len]
theorem setC_n (n : Nat) (S : Nat → Bool) : (setC n S)[0]? = some (.int .i64 n) := rfl
theorem setC_at (n : Nat) (S : Nat → Bool) (i : Nat) (h : i < 256) : (setC n S)[i + 1]? = some (.int .u8 (byt S i)) := by
  simp only [setC, List.getElem?_toArray, List.getElem?_cons_succ]
  exact byts_at _ _ _ h
theorem setC_fl (n : Nat) (S : Nat → Bool) (k : Nat) (h : k < 2048) : (setC n S).setIfInBounds (k / 8 + 1) (.int .u8 (byt (fl S k) (k / 8))) = setC n (fl S k) := by
  apply Array.ext_getElem?
  intro i
  rw [Array.getElem?_setIfInBounds, setC_size]
  by_cases e : k / 8 + 1 = i
  · subst e
    rw [if_pos rfl, if_pos (by omega), setC_at _ _ _ (by omega)]
  · rw [if_neg e]
    match i, e with
    | 0, _ => rw [setC_n, setC_n]
    | i + 1, e =>
      by_cases hi : i < 256
      · rw [setC_at _ _ _ hi, setC_at _ _ _ hi, byt_other _ _ _ (by omega)]
      · rw [Array.getElem?_eq_none (by rw [setC_size]; omega), Array.getElem?_eq_none (by rw [setC_size]; omega)]

/-- A set that a call made lies in block g. -/
structure SetAt (w : World) (g n : Nat) (S : Nat → Bool) : Prop where
  row : Row w g (setC n S) 53
  lo : 1 ≤ n
  hi : n ≤ 2048
  top : ∀ k, n ≤ k → S k = false
variable {w : World} {g n : Nat} {S : Nat → Bool}
theorem SetAt.cn (h : SetAt w g n S) : w.cell? ⟨g, 0, none⟩ = some (.int .i64 n) := (h.row.cell 0).trans (setC_n n S)
theorem SetAt.byte (h : SetAt w g n S) (k : Nat) (hk : k < 2048) : w.cell? ⟨g, k / 8 + 1, none⟩ = some (.int .u8 (byt S (k / 8))) := (h.row.cell _).trans (setC_at n S _ (by omega))
end Go.Proofs.Ythjmmlgcaigdfaa
