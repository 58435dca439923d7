/- The plain arithmetic of shifts, masks and rotations that layer 1's proofs use: no program in sight. -/
import Derived.WalkKit
namespace Go.Proofs.Ytonaefebgpohjaa.Math
open Go.RowKit

theorem two_pow_pos (k : Nat) : (0 : Int) < 2 ^ k := Int.pow_pos (by decide)

theorem and_i64 (x y : Int) : bits .and .i64 x y = IntKind.i64.wrap (((BitVec.ofInt 64 x).toNat &&& (BitVec.ofInt 64 y).toNat : Nat) : Int) := by
  show IntKind.i64.wrap ((BitVec.ofInt 64 x &&& BitVec.ofInt 64 y).toNat : Int) = _
  rw [BitVec.toNat_and]

/-- A mask of the i lowest bits, of a number of whatever sign. -/
theorem and_mask_i64 (i : Nat) (hi : i ≤ 62) (x : Int) : bits .and .i64 x (2 ^ i - 1) = x % 2 ^ i := by
  have hpos : 0 < 2 ^ i := Nat.two_pow_pos i
  have hle : 2 ^ i ≤ 2 ^ 62 := Nat.pow_le_pow_right (by decide) hi
  have hc : ((2 : Int) ^ i - 1) = ((2 ^ i - 1 : Nat) : Int) := by rw [Int.natCast_sub hpos]; simp
  have hm : (2 ^ i - 1) % 2 ^ 64 = 2 ^ i - 1 := Nat.mod_eq_of_lt (by omega)
  have hx : (BitVec.ofInt 64 x).toNat % 2 ^ i = (x % 2 ^ i).toNat := by
    rw [BitVec.toNat_ofInt]
    have h1 : ((x % ((2 ^ 64 : Nat) : Int)).toNat : Int) = x % 2 ^ 64 := by
      rw [Int.toNat_of_nonneg (Int.emod_nonneg _ (by decide))]; rfl
    have hd : ((2 : Int) ^ i) ∣ 2 ^ 64 := by
      refine ⟨2 ^ (64 - i), ?_⟩
      rw [← Int.pow_add]; congr 1; omega
    have h2 : (((x % ((2 ^ 64 : Nat) : Int)).toNat % 2 ^ i : Nat) : Int) = x % 2 ^ i := by
      rw [Int.natCast_emod, h1]
      have : ((2 ^ i : Nat) : Int) = 2 ^ i := by simp
      rw [this, Int.emod_emod_of_dvd _ hd]
    omega
  rw [hc, and_i64, BitVec.ofInt_natCast, BitVec.toNat_ofNat, hm, Nat.and_two_pow_sub_one_eq_mod, hx]
  have h0 : 0 ≤ x % 2 ^ i := Int.emod_nonneg _ (Int.ne_of_gt (two_pow_pos i))
  have h1 : x % 2 ^ i < 2 ^ i := Int.emod_lt_of_pos _ (two_pow_pos i)
  have h2 : (2 : Int) ^ i ≤ 2 ^ 62 := by exact_mod_cast hle
  rw [Int.toNat_of_nonneg h0, IntKind.wrap_i64]
  omega

theorem and_mask_u64 (i : Nat) (hi : i ≤ 64) (x : Int) (h0 : 0 ≤ x) (h1 : x < 18446744073709551616) : bits .and .u64 x (2 ^ i - 1) = x % 2 ^ i :=
  bits_mask .u64 64 (by decide) (fun n a b => by rw [IntKind.wrap_u64]; omega) i hi x h0 h1

/-- What bits.Narrow reckons, as the walk spells it. -/
def nar (v n : Int) : Int := wrap64 (IntKind.u64.wrap (v * 2 ^ (64 - n).toNat)) / 2 ^ (64 - n).toNat

theorem nar_eq (v : Int) (n : Nat) (h1 : 1 ≤ n) (h2 : n ≤ 64) : nar v n = (v + 2 ^ (n - 1)) % 2 ^ n - 2 ^ (n - 1) := by
  unfold nar
  have e : ((64 : Int) - n).toNat = 64 - n := by omega
  have hP := two_pow_pos (64 - n)
  have hH := two_pow_pos (n - 1)
  have hPM : (2 : Int) ^ (64 - n) * 2 ^ n = 18446744073709551616 := by
    rw [← Int.pow_add, show 64 - n + n = 64 by omega]; rfl
  have hPH : (2 : Int) ^ (64 - n) * 2 ^ (n - 1) = 9223372036854775808 := by
    rw [← Int.pow_add, show 64 - n + (n - 1) = 63 by omega]; rfl
  rw [e, IntKind.wrap_u64]
  generalize (2 : Int) ^ (64 - n) = P at *
  generalize (2 : Int) ^ n = M at *
  generalize (2 : Int) ^ (n - 1) = H at *
  rw [show wrap64 (v * P % 18446744073709551616) = (v * P % 18446744073709551616 + 9223372036854775808) % 18446744073709551616 - 9223372036854775808 by unfold wrap64; rfl]
  rw [Int.emod_add_emod, ← hPM, ← hPH, show v * P + P * H = P * (v + H) by rw [Int.mul_add, Int.mul_comm v P], Int.mul_emod_mul_of_pos _ _ hP, ← Int.mul_sub, Int.mul_ediv_cancel_left _ (Int.ne_of_gt hP)]

theorem pow_half (n : Nat) (h1 : 1 ≤ n) : (2 : Int) ^ n = 2 * 2 ^ (n - 1) := by
  obtain ⟨k, rfl⟩ : ∃ k, n = k + 1 := ⟨n - 1, by omega⟩
  rw [Int.pow_succ, Nat.add_sub_cancel]; omega

theorem dvd_word (n : Nat) (h : n ≤ 64) : ((2 : Int) ^ n) ∣ 18446744073709551616 := by
  refine ⟨2 ^ (64 - n), ?_⟩
  rw [← Int.pow_add, show n + (64 - n) = 64 by omega]; rfl

/-- The mask of the n lowest bits. -/
theorem mask_eq (n : Nat) (h : n ≤ 64) : (18446744073709551615 : Int) / 2 ^ (64 - n) = 2 ^ n - 1 := by
  have hP := two_pow_pos (64 - n)
  have hPM : (2 : Int) ^ (64 - n) * 2 ^ n = 18446744073709551616 := by
    rw [← Int.pow_add, show 64 - n + n = 64 by omega]; rfl
  generalize (2 : Int) ^ (64 - n) = P at *
  generalize (2 : Int) ^ n = M at *
  have e : (18446744073709551615 : Int) = (P - 1) + P * (M - 1) := by rw [Int.mul_sub, hPM]; omega
  rw [e, Int.add_mul_ediv_left _ _ (Int.ne_of_gt hP), Int.ediv_eq_zero_of_lt (by omega) (by omega)]
  omega

theorem nar_mod (v : Int) (n : Nat) (h1 : 1 ≤ n) (h2 : n ≤ 64) : nar v n % 2 ^ n = v % 2 ^ n := by
  rw [nar_eq v n h1 h2, Int.sub_emod, Int.emod_emod, ← Int.sub_emod, Int.add_sub_cancel]

theorem nar_bd (v : Int) (n : Nat) (h1 : 1 ≤ n) (h2 : n ≤ 64) : -2 ^ (n - 1) ≤ nar v n ∧ nar v n ≤ 2 ^ (n - 1) - 1 := by
  rw [nar_eq v n h1 h2, pow_half n h1]
  have hH := two_pow_pos (n - 1)
  generalize (2 : Int) ^ (n - 1) = H at *
  have a := Int.emod_nonneg (v + H) (b := 2 * H) (by omega)
  have b := Int.emod_lt_of_pos (v + H) (b := 2 * H) (by omega)
  omega

theorem nar_again (v : Int) (n : Nat) (h1 : 1 ≤ n) (h2 : n ≤ 64) : nar (IntKind.u64.wrap (nar v n)) n = nar v n := by
  rw [nar_eq (IntKind.u64.wrap (nar v n)) n h1 h2, IntKind.wrap_u64, Int.add_emod, Int.emod_emod_of_dvd _ (dvd_word n h2), nar_mod v n h1 h2, ← Int.add_emod, nar_eq v n h1 h2]

theorem and_same (v x : Int) (n : Nat) (h2 : n ≤ 64) (hv0 : 0 ≤ v) (hv1 : v < 18446744073709551616) (h : x % 2 ^ n = v % 2 ^ n) :
    (bits .and .u64 (IntKind.u64.wrap x) (2 ^ n - 1) != bits .and .u64 v (2 ^ n - 1)) = false := by
  rw [and_mask_u64 n h2 v hv0 hv1, IntKind.wrap_u64, and_mask_u64 n h2 _ (by omega) (by omega), Int.emod_emod_of_dvd _ (dvd_word n h2), h]
  simp

theorem lows (n : Nat) (h1 : 1 ≤ n) (h2 : n ≤ 63) : wrap64 (-wrap64 (2 ^ (n - 1))) = -2 ^ (n - 1) ∧ wrap64 (wrap64 (2 ^ (n - 1)) - 1) = 2 ^ (n - 1) - 1 := by
  have hH := two_pow_pos (n - 1)
  have hH' : (2 : Int) ^ (n - 1) ≤ 2 ^ 62 := by exact_mod_cast Nat.pow_le_pow_right (n := 2) (by decide) (show n - 1 ≤ 62 by omega)
  generalize (2 : Int) ^ (n - 1) = H at *
  unfold wrap64
  omega

end Go.Proofs.Ytonaefebgpohjaa.Math
