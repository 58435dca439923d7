/- The plain facts on numbers in bytes and on rotated words. -/
import Derived.WalkKit
namespace Go.Proofs.YtppgidmeeaodkaaGreatDoor.Num
set_option maxRecDepth 20000
open Go.RowKit

theorem two_pow_pos (k : Nat) : (0 : Int) < 2 ^ k := Int.pow_pos (by decide)

theorem and_i64 (x y : Int) : bits .and .i64 x y = IntKind.i64.wrap (((BitVec.ofInt 64 x).toNat &&& (BitVec.ofInt 64 y).toNat : Nat) : Int) := by
  show IntKind.i64.wrap ((BitVec.ofInt 64 x &&& BitVec.ofInt 64 y).toNat : Int) = _
  rw [BitVec.toNat_and]

/-- A mask of the i lowest bits, of a number of whatever sign. -/
theorem and_mask_i64 (i : Nat) (hi : i ≤ 62) (x : Int) : bits .and .i64 x (2 ^ i - 1) = x % 2 ^ i := by
  have hpos : 0 < 2 ^ i := Nat.two_pow_pos i
  have hle : 2 ^ i ≤ 2 ^ 62 := Nat.pow_le_pow_right (by decide) hi
  have hc : ((2 : Int) ^ i - 1) = ((2 ^ i - 1 : Nat) : Int) := by rw [Int.natCast_sub hpos]; simp
  have hm : (2 ^ i - 1) % 2 ^ 64 = 2 ^ i - 1 := Nat.mod_eq_of_lt (by omega)
  have hx : (BitVec.ofInt 64 x).toNat % 2 ^ i = (x % 2 ^ i).toNat := by
    rw [BitVec.toNat_ofInt]
    have h1 : ((x % ((2 ^ 64 : Nat) : Int)).toNat : Int) = x % 2 ^ 64 := by
      rw [Int.toNat_of_nonneg (Int.emod_nonneg _ (by decide))]; rfl
    have hd : ((2 : Int) ^ i) ∣ 2 ^ 64 := by
      refine ⟨2 ^ (64 - i), ?_⟩
      rw [← Int.pow_add]; congr 1; omega
    have h2 : (((x % ((2 ^ 64 : Nat) : Int)).toNat % 2 ^ i : Nat) : Int) = x % 2 ^ i := by
      rw [Int.natCast_emod, h1]
      have : ((2 ^ i : Nat) : Int) = 2 ^ i := by simp
      rw [this, Int.emod_emod_of_dvd _ hd]
    omega
  rw [hc, and_i64, BitVec.ofInt_natCast, BitVec.toNat_ofNat, hm, Nat.and_two_pow_sub_one_eq_mod, hx]
  have h0 : 0 ≤ x % 2 ^ i := Int.emod_nonneg _ (Int.ne_of_gt (two_pow_pos i))
  have h1 : x % 2 ^ i < 2 ^ i := Int.emod_lt_of_pos _ (two_pow_pos i)
  have h2 : (2 : Int) ^ i ≤ 2 ^ 62 := by exact_mod_cast hle
  rw [Int.toNat_of_nonneg h0, IntKind.wrap_i64]
  omega

/-- The number of the first k bytes, the highest first. -/
def num (f : Nat → Int) : Nat → Int
  | 0 => 0
  | k + 1 => num f k * 256 + f k

theorem num_bd (f : Nat → Int) (hf : ∀ i, 0 ≤ f i ∧ f i < 256) (k : Nat) : 0 ≤ num f k ∧ num f k < 256 ^ k := by
  induction k with
  | zero => simp [num]
  | succ k ih =>
    have := hf k
    rw [Int.pow_succ]
    simp only [num]
    omega

theorem num_bd8 (f : Nat → Int) (hf : ∀ i, 0 ≤ f i ∧ f i < 256) (k : Nat) (hk : k < 8) : 0 ≤ num f k ∧ num f k < 72057594037927936 := by
  have h := num_bd f hf k
  have h2 : 256 ^ k ≤ 72057594037927936 := Nat.pow_le_pow_right (n := 256) (by decide) (show k ≤ 7 by omega)
  have e : ((256 ^ k : Nat) : Int) = (256 : Int) ^ k := by rw [Int.natCast_pow]; rfl
  omega

/-- A byte laid behind a number of at most seven. -/
theorem or_byte (x c : Int) (h0 : 0 ≤ x) (h1 : x < 72057594037927936) (h2 : 0 ≤ c) (h3 : c < 256) : bits .or .u64 (x * 256) c = x * 256 + c :=
  bits_join .u64 64 (by decide) (fun n a b => by rw [IntKind.wrap_u64]; omega) 8 (x * 256) c (by omega) (by omega) (by omega) h2 (by omega) (by omega)

/-- What bits.Rotate reckons, as the walk spells it. -/
def rot (x k : Int) : Int := bits .or .u32 (x / 2 ^ k.toNat) (x * 2 ^ (32 - k).toNat % 4294967296)

theorem or_comm_u32 (x y : Int) : bits .or .u32 x y = bits .or .u32 y x := by
  show IntKind.u32.wrap ((BitVec.ofInt 32 x ||| BitVec.ofInt 32 y).toNat : Int) = IntKind.u32.wrap ((BitVec.ofInt 32 y ||| BitVec.ofInt 32 x).toNat : Int)
  rw [BitVec.or_comm]

theorem pow_split (K : Nat) (hK : K ≤ 32) : (2 : Int) ^ (32 - K) * 2 ^ K = 4294967296 := by
  rw [← Int.pow_add, show 32 - K + K = 32 by omega]; rfl

theorem rot_eq (x : Int) (K : Nat) (hK : K ≤ 32) (h0 : 0 ≤ x) (h1 : x < 4294967296) : rot x K = x / 2 ^ K + 2 ^ (32 - K) * (x % 2 ^ K) := by
  unfold rot
  have e : ((32 : Int) - K).toNat = 32 - K := by omega
  have hP := two_pow_pos (32 - K)
  have hM := two_pow_pos K
  have hPM := pow_split K hK
  have hq0 : 0 ≤ x / 2 ^ K := Int.ediv_nonneg h0 (by omega)
  have hq1 : x / 2 ^ K < 2 ^ (32 - K) := Int.ediv_lt_of_lt_mul hM (by rw [hPM]; exact h1)
  have hr0 := Int.emod_nonneg x (b := 2 ^ K) (by omega)
  have hr1 := Int.emod_lt_of_pos x hM
  have hy0 : 0 ≤ 2 ^ (32 - K) * (x % 2 ^ K) := Int.mul_nonneg (by omega) hr0
  have hy1 : 2 ^ (32 - K) * (x % 2 ^ K) < 4294967296 := by
    rw [← hPM]; exact Int.mul_lt_mul_of_pos_left hr1 hP
  have hy2 : 2 ^ (32 - K) * (x % 2 ^ K) % 2 ^ (32 - K) = 0 := Int.mul_emod_right _ _
  have hj : (2 : Int) ^ (32 - K) ≤ 4294967296 := by
    have := Int.mul_le_mul_of_nonneg_left (show (1 : Int) ≤ 2 ^ K by omega) (Int.le_of_lt hP)
    rw [hPM] at this; omega
  rw [e, Int.toNat_natCast, show x * 2 ^ (32 - K) % 4294967296 = 2 ^ (32 - K) * (x % 2 ^ K) by rw [← hPM, Int.mul_comm x, Int.mul_emod_mul_of_pos _ _ hP], or_comm_u32]
  rw [bits_join .u32 32 (by decide) (fun n a b => by rw [IntKind.wrap_u32]; omega) (32 - K) _ _ hy0 hy2 hy1 hq0 hq1 (by omega)]
  omega

theorem rot_bd (x k : Int) : 0 ≤ rot x k ∧ rot x k < 4294967296 := by
  unfold rot
  show 0 ≤ IntKind.u32.wrap _ ∧ IntKind.u32.wrap _ < 4294967296
  rw [IntKind.wrap_u32]
  omega

theorem rot_zero (x : Int) (h0 : 0 ≤ x) (h1 : x < 4294967296) : rot x 0 = x := by
  have h := rot_eq x 0 (by decide) h0 h1
  simpa using h

theorem refrot (x : Int) (K : Nat) (hK : K ≤ 32) (h0 : 0 ≤ x) (h1 : x < 4294967296) : (x / 2 ^ K + x * 2 ^ (32 - K) % 4294967296) % 4294967296 = rot x K := by
  have hb := rot_bd x K
  have hP := two_pow_pos (32 - K)
  have hPM := pow_split K hK
  have e : x * 2 ^ (32 - K) % 4294967296 = 2 ^ (32 - K) * (x % 2 ^ K) := by rw [← hPM, Int.mul_comm x, Int.mul_emod_mul_of_pos _ _ hP]
  rw [e]
  rw [rot_eq x K hK h0 h1] at *
  exact Int.emod_eq_of_lt hb.1 hb.2

end Go.Proofs.YtppgidmeeaodkaaGreatDoor.Num
