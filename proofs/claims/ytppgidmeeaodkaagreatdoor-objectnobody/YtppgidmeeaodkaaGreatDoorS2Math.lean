/- The plain arithmetic of bits in groups that layer 1's proofs on signs use: no program in sight. -/
import Derived.WalkKit
namespace Go.Proofs.YtppgidmeeaodkaaGreatDoor.Math
set_option maxRecDepth 20000
open Go.RowKit

theorem two_pow_pos (k : Nat) : (0 : Int) < 2 ^ k := Int.pow_pos (by decide)

/-- The k-th bit of groups of `fr` bits, the highest of each first. -/
def bitAt (fr : Nat) (f : Nat → Int) (k : Nat) : Int := f (k / fr) / 2 ^ (fr - 1 - k % fr) % 2

/-- The number of the l bits from the k-th on, the highest first. -/
def val (g : Nat → Int) (k : Nat) : Nat → Int
  | 0 => 0
  | l + 1 => val g k l * 2 + g (k + l)

theorem bitAt_bd (fr : Nat) (f : Nat → Int) (k : Nat) : 0 ≤ bitAt fr f k ∧ bitAt fr f k ≤ 1 := by unfold bitAt; omega

theorem bitAt_in (fr : Nat) (f : Nat → Int) (i j : Nat) (hj : j < fr) : bitAt fr f (fr * i + j) = f i / 2 ^ (fr - 1 - j) % 2 := by
  unfold bitAt
  rw [Nat.mul_add_div (by omega), Nat.div_eq_of_lt hj, Nat.mul_add_mod, Nat.mod_eq_of_lt hj, Nat.add_zero]

theorem val_bd (g : Nat → Int) (hg : ∀ k, 0 ≤ g k ∧ g k ≤ 1) (k l : Nat) : 0 ≤ val g k l ∧ val g k l < 2 ^ l := by
  induction l with
  | zero => simp [val]
  | succ l ih =>
    have := hg (k + l)
    rw [Int.pow_succ]
    simp only [val]
    omega

theorem val_bd7 (g : Nat → Int) (hg : ∀ k, 0 ≤ g k ∧ g k ≤ 1) (k l : Nat) (hl : l ≤ 7) : 0 ≤ val g k l ∧ val g k l < 128 := by
  have h := val_bd g hg k l
  have h2 : 2 ^ l ≤ 128 := Nat.pow_le_pow_right (n := 2) (by decide) (show l ≤ 7 by omega)
  have e : ((2 ^ l : Nat) : Int) = (2 : Int) ^ l := by rw [Int.natCast_pow]; rfl
  omega

theorem val_congr (g h : Nat → Int) (k l : Nat) (e : ∀ i, i < l → g (k + i) = h (k + i)) : val g k l = val h k l := by
  induction l with
  | zero => rfl
  | succ l ih => simp only [val]; rw [ih (fun i hi => e i (by omega)), e l (by omega)]

theorem val_zero (g : Nat → Int) (k l : Nat) (e : ∀ i, i < l → g (k + i) = 0) : val g k l = 0 := by
  induction l with
  | zero => rfl
  | succ l ih => simp only [val]; rw [ih (fun i hi => e i (by omega)), e l (by omega)]; rfl

theorem val_zero_inv (g : Nat → Int) (hg : ∀ k, 0 ≤ g k ∧ g k ≤ 1) (k l : Nat) (h : val g k l = 0) : ∀ i, i < l → g (k + i) = 0 := by
  induction l with
  | zero => intro i hi; omega
  | succ l ih =>
    simp only [val] at h
    have hb := val_bd g hg k l
    have hc := hg (k + l)
    intro i hi
    by_cases e : i = l
    · subst e; omega
    · exact ih (by omega) i (by omega)

/-- Two runs of bits, one behind the other. -/
theorem val_add (g : Nat → Int) (k l m : Nat) : val g k (l + m) = val g k l * 2 ^ m + val g (k + l) m := by
  induction m with
  | zero => simp [val]
  | succ m ih =>
    rw [← Nat.add_assoc]
    simp only [val]
    rw [ih, Int.pow_succ, Int.add_mul, Int.mul_assoc, Nat.add_assoc, Int.add_assoc]

/-- A bit laid behind at most seven others, in a byte. -/
theorem or_bit (x c : Int) (h0 : 0 ≤ x) (h1 : x < 128) (h2 : 0 ≤ c) (h3 : c ≤ 1) : bits .or .u8 (x * 2) c = x * 2 + c :=
  bits_join .u8 8 (by decide) wraps_u8 1 (x * 2) c (by omega) (by omega) (by omega) h2 (by omega) (by omega)

theorem and_one (x : Int) (h0 : 0 ≤ x) (h1 : x < 256) : bits .and .u8 x 1 = x % 2 :=
  bits_mask .u8 8 (by decide) wraps_u8 1 (by decide) x h0 h1

end Go.Proofs.YtppgidmeeaodkaaGreatDoor.Math
