/- Bools in a row; a number narrowed to those that may be. -/
import Derived.Test.YthjmmlgcaigdfaaClone
import Derived.Test.YthjmmlgcaigdfaaKit
namespace Go.Proofs.Ythjmmlgcaigdfaa
open Go.RowKit

theorem two_pow_pos (k : Nat) : (0 : Int) < 2 ^ k := Int.pow_pos (by decide)
theorem and_i64 (x y : Int) : bits .and .i64 x y = IntKind.i64.wrap (((BitVec.ofInt 64 x).toNat &&& (BitVec.ofInt 64 y).toNat : Nat) : Int) := by
  show IntKind.i64.wrap ((BitVec.ofInt 64 x &&& BitVec.ofInt 64 y).toNat : Int) = _
  rw [BitVec.toNat_and]
/-- A mask of the i lowest bits, of a number of whatever sign. -/
theorem and_mask_i64 (i : Nat) (hi : i ≤ 62) (x : Int) : bits .and .i64 x (2 ^ i - 1) = x % 2 ^ i := by
  have hpos : 0 < 2 ^ i := Nat.two_pow_pos i
  have hle : 2 ^ i ≤ 2 ^ 62 := Nat.pow_le_pow_right (by decide) hi
  have hc : ((2 : Int) ^ i - 1) = ((2 ^ i - 1 : Nat) : Int) := by rw [Int.natCast_sub hpos]; simp
  have hm : (2 ^ i - 1) % 2 ^ 64 = 2 ^ i - 1 := Nat.mod_eq_of_lt (by omega)
  have hx : (BitVec.ofInt 64 x).toNat % 2 ^ i = (x % 2 ^ i).toNat := by
    rw [BitVec.toNat_ofInt]
    have h1 : ((x % ((2 ^ 64 : Nat) : Int)).toNat : Int) = x % 2 ^ 64 := by
      rw [Int.toNat_of_nonneg (Int.emod_nonneg _ (by decide))]; rfl
    have hd : ((2 : Int) ^ i) ∣ 2 ^ 64 := by
      refine ⟨2 ^ (64 - i), ?_⟩
      rw [← Int.pow_add]; congr 1; omega
    have h2 : (((x % ((2 ^ 64 : Nat) : Int)).toNat % 2 ^ i : Nat) : Int) = x % 2 ^ i := by
      rw [Int.natCast_emod, h1]
      have : ((2 ^ i : Nat) : Int) = 2 ^ i := by simp
      rw [this, Int.emod_emod_of_dvd _ hd]
    omega
  rw [hc, and_i64, BitVec.ofInt_natCast, BitVec.toNat_ofNat, hm, Nat.and_two_pow_sub_one_eq_mod, hx]
  have h0 : 0 ≤ x % 2 ^ i := Int.emod_nonneg _ (Int.ne_of_gt (two_pow_pos i))
  have h1 : x % 2 ^ i < 2 ^ i := Int.emod_lt_of_pos _ (two_pow_pos i)
  have h2 : (2 : Int) ^ i ≤ 2 ^ 62 := by exact_mod_cast hle
  rw [Int.toNat_of_nonneg h0, IntKind.wrap_i64]
  omega
/-- 1 + n & 2047: from 1 to 2048. -/
theorem and2047 (x : Int) : ∃ m : Nat, bits .and .i64 x 2047 = (m : Int) ∧ m < 2048 := by
  have h := and_mask_i64 11 (by decide) x
  have h4 : (2 : Int) ^ 11 = 2048 := by decide
  rw [h4] at h
  have e : bits .and .i64 x 2047 = x % 2048 := h
  refine ⟨(x % 2048).toNat, ?_, ?_⟩ <;> omega
theorem and63 (x : Int) : ∃ m : Nat, bits .and .i64 x 63 = (m : Int) ∧ m < 64 := by
  have h := and_mask_i64 6 (by decide) x
  have h4 : (2 : Int) ^ 6 = 64 := by decide
  rw [h4] at h
  have e : bits .and .i64 x 63 = x % 64 := h
  refine ⟨(x % 64).toNat, ?_, ?_⟩ <;> omega
/-- (x % m + m) % m: from 0 to m - 1. -/
theorem into (x : Int) (m : Nat) (hm : 1 ≤ m) : ∃ r : Int, x.tmod m = r ∧ -(m : Int) < r ∧ r < m ∧ ∃ k : Nat, k < m ∧ (r + m).tmod m = k := by
  have h1 : (0 : Int) < m := by omega
  have h2 := Int.tmod_lt_of_pos x h1
  have h3 : -(m : Int) < x.tmod m := by
    have h := Int.tmod_lt_of_pos (-x) h1
    rw [Int.neg_tmod] at h
    omega
  refine ⟨x.tmod m, rfl, h3, h2, ((x.tmod m + m).tmod m).toNat, ?_, ?_⟩
  · have := Int.tmod_lt_of_pos (x.tmod m + m) h1
    have := Int.tmod_nonneg (b := (m : Int)) (a := x.tmod m + m) (by omega)
    omega
  · have := Int.tmod_nonneg (b := (m : Int)) (a := x.tmod m + m) (by omega)
    omega

/-- n bools as cells. -/
def bls (S : Nat → Bool) (n : Nat) : Array Value := ((List.range n).map fun i => Value.bool (S i)).toArray
theorem bls_size (S : Nat → Bool) (n : Nat) : (bls S n).size = n := by simp [bls]
theorem bls_at (S : Nat → Bool) (n i : Nat) (h : i < n) : (bls S n)[i]? = some (.bool (S i)) := by simp [bls, h]
theorem bls_set (S T : Nat → Bool) (n k : Nat) (b : Bool) (hk : T k = b) (hT : ∀ j, j ≠ k → T j = S j) : (bls S n).setIfInBounds k (.bool b) = bls T n := by
  apply Array.ext_getElem?
  intro i
  rw [Array.getElem?_setIfInBounds, bls_size]
  by_cases e : k = i
  · subst e
    rw [if_pos rfl]
    by_cases h : k < n
    · rw [if_pos h, bls_at _ _ _ h, hk]
    · rw [if_neg h, Array.getElem?_eq_none (by rw [bls_size]; omega)]
  · rw [if_neg e]
    by_cases h : i < n
    · rw [bls_at _ _ _ h, bls_at _ _ _ h, hT i (by omega)]
    · rw [Array.getElem?_eq_none (by rw [bls_size]; omega), Array.getElem?_eq_none (by rw [bls_size]; omega)]
theorem made_bls (n : Nat) : madeCells #[.bool false] n = bls none' n := by
  apply Array.ext_getElem?
  intro i
  by_cases h : i < n
  · rw [bls_at _ _ _ h]
    simp [madeCells, none', h, Nat.mod_one]
  · rw [Array.getElem?_eq_none (by rw [size_madeCells]; omega), Array.getElem?_eq_none (by rw [bls_size]; omega)]
theorem Try.info4 : (Try.prog.info? 4).map (fun i => (i.zero, i.size, i.bytes)) = some (some (.bool false), 1, 1) := by kernel_rfl
end Go.Proofs.Ythjmmlgcaigdfaa
