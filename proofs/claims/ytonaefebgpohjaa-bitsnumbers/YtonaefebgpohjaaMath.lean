/- The plain arithmetic of shifts, masks and rotations that layer 1's proofs use: no program in sight. -/
import Derived.WalkKit
namespace Go.Proofs.Ytonaefebgpohjaa.Math
open Go.RowKit

theorem two_pow_pos (k : Nat) : (0 : Int) < 2 ^ k := Int.pow_pos (by decide)

theorem and_i64 (x y : Int) : bits .and .i64 x y = IntKind.i64.wrap (((BitVec.ofInt 64 x).toNat &&& (BitVec.ofInt 64 y).toNat : Nat) : Int) := by
  show IntKind.i64.wrap ((BitVec.ofInt 64 x &&& BitVec.ofInt 64 y).toNat : Int) = _
  rw [BitVec.toNat_and]

/-- A mask of the i lowest bits, of a number of whatever sign. -/
theorem and_mask_i64 (i : Nat) (hi : i ≤ 62) (x : Int) : bits .and .i64 x (2 ^ i - 1) = x % 2 ^ i := by
  have hpos : 0 < 2 ^ i := Nat.two_pow_pos i
  have hle : 2 ^ i ≤ 2 ^ 62 := Nat.pow_le_pow_right (by decide) hi
  have hc : ((2 : Int) ^ i - 1) = ((2 ^ i - 1 : Nat) : Int) := by rw [Int.natCast_sub hpos]; simp
  have hm : (2 ^ i - 1) % 2 ^ 64 = 2 ^ i - 1 := Nat.mod_eq_of_lt (by omega)
  have hx : (BitVec.ofInt 64 x).toNat % 2 ^ i = (x % 2 ^ i).toNat := by
    rw [BitVec.toNat_ofInt]
    have h1 : ((x % ((2 ^ 64 : Nat) : Int)).toNat : Int) = x % 2 ^ 64 := by
      rw [Int.toNat_of_nonneg (Int.emod_nonneg _ (by decide))]; rfl
    have hd : ((2 : Int) ^ i) ∣ 2 ^ 64 := by
      refine ⟨2 ^ (64 - i), ?_⟩
      rw [← Int.pow_add]; congr 1; omega
    have h2 : (((x % ((2 ^ 64 : Nat) : Int)).toNat % 2 ^ i : Nat) : Int) = x % 2 ^ i := by
      rw [Int.natCast_emod, h1]
      have : ((2 ^ i : Nat) : Int) = 2 ^ i := by simp
      rw [this, Int.emod_emod_of_dvd _ hd]
    omega
  rw [hc, and_i64, BitVec.ofInt_natCast, BitVec.toNat_ofNat, hm, Nat.and_two_pow_sub_one_eq_mod, hx]
  have h0 : 0 ≤ x % 2 ^ i := Int.emod_nonneg _ (Int.ne_of_gt (two_pow_pos i))
  have h1 : x % 2 ^ i < 2 ^ i := Int.emod_lt_of_pos _ (two_pow_pos i)
  have h2 : (2 : Int) ^ i ≤ 2 ^ 62 := by exact_mod_cast hle
  rw [Int.toNat_of_nonneg h0, IntKind.wrap_i64]
  omega

theorem and_mask_u64 (i : Nat) (hi : i ≤ 64) (x : Int) (h0 : 0 ≤ x) (h1 : x < 18446744073709551616) : bits .and .u64 x (2 ^ i - 1) = x % 2 ^ i :=
  bits_mask .u64 64 (by decide) (fun n a b => by rw [IntKind.wrap_u64]; omega) i hi x h0 h1

/-- What bits.Narrow reckons, as the walk spells it. -/
def nar (v n : Int) : Int := wrap64 (IntKind.u64.wrap (v * 2 ^ (64 - n).toNat)) / 2 ^ (64 - n).toNat

theorem nar_eq (v : Int) (n : Nat) (h1 : 1 ≤ n) (h2 : n ≤ 64) : nar v n = (v + 2 ^ (n - 1)) % 2 ^ n - 2 ^ (n - 1) := by
  unfold nar
  have e : ((64 : Int) - n).toNat = 64 - n := by omega
  have hP := two_pow_pos (64 - n)
  have hH := two_pow_pos (n - 1)
  have hPM : (2 : Int) ^ (64 - n) * 2 ^ n = 18446744073709551616 := by
    rw [← Int.pow_add, show 64 - n + n = 64 by omega]; rfl
  have hPH : (2 : Int) ^ (64 - n) * 2 ^ (n - 1) = 9223372036854775808 := by
    rw [← Int.pow_add, show 64 - n + (n - 1) = 63 by omega]; rfl
  rw [e, IntKind.wrap_u64]
  generalize (2 : Int) ^ (64 - n) = P at *
  generalize (2 : Int) ^ n = M at *
  generalize (2 : Int) ^ (n - 1) = H at *
  rw [show wrap64 (v * P % 18446744073709551616) = (v * P % 18446744073709551616 + 9223372036854775808) % 18446744073709551616 - 9223372036854775808 by unfold wrap64; rfl]
  rw [Int.emod_add_emod, ← hPM, ← hPH, show v * P + P * H = P * (v + H) by rw [Int.mul_add, Int.mul_comm v P], Int.mul_emod_mul_of_pos _ _ hP, ← Int.mul_sub, Int.mul_ediv_cancel_left _ (Int.ne_of_gt hP)]

theorem pow_half (n : Nat) (h1 : 1 ≤ n) : (2 : Int) ^ n = 2 * 2 ^ (n - 1) := by
  obtain ⟨k, rfl⟩ : ∃ k, n = k + 1 := ⟨n - 1, by omega⟩
  rw [Int.pow_succ, Nat.add_sub_cancel]; omega

theorem dvd_word (n : Nat) (h : n ≤ 64) : ((2 : Int) ^ n) ∣ 18446744073709551616 := by
  refine ⟨2 ^ (64 - n), ?_⟩
  rw [← Int.pow_add, show n + (64 - n) = 64 by omega]; rfl

/-- The mask of the n lowest bits. -/
theorem mask_eq (n : Nat) (h : n ≤ 64) : (18446744073709551615 : Int) / 2 ^ (64 - n) = 2 ^ n - 1 := by
  have hP := two_pow_pos (64 - n)
  have hPM : (2 : Int) ^ (64 - n) * 2 ^ n = 18446744073709551616 := by
    rw [← Int.pow_add, show 64 - n + n = 64 by omega]; rfl
  generalize (2 : Int) ^ (64 - n) = P at *
  generalize (2 : Int) ^ n = M at *
  have e : (18446744073709551615 : Int) = (P - 1) + P * (M - 1) := by rw [Int.mul_sub, hPM]; omega
  rw [e, Int.add_mul_ediv_left _ _ (Int.ne_of_gt hP), Int.ediv_eq_zero_of_lt (by omega) (by omega)]
  omega

theorem nar_mod (v : Int) (n : Nat) (h1 : 1 ≤ n) (h2 : n ≤ 64) : nar v n % 2 ^ n = v % 2 ^ n := by
  rw [nar_eq v n h1 h2, Int.sub_emod, Int.emod_emod, ← Int.sub_emod, Int.add_sub_cancel]

theorem nar_bd (v : Int) (n : Nat) (h1 : 1 ≤ n) (h2 : n ≤ 64) : -2 ^ (n - 1) ≤ nar v n ∧ nar v n ≤ 2 ^ (n - 1) - 1 := by
  rw [nar_eq v n h1 h2, pow_half n h1]
  have hH := two_pow_pos (n - 1)
  generalize (2 : Int) ^ (n - 1) = H at *
  have a := Int.emod_nonneg (v + H) (b := 2 * H) (by omega)
  have b := Int.emod_lt_of_pos (v + H) (b := 2 * H) (by omega)
  omega

theorem nar_again (v : Int) (n : Nat) (h1 : 1 ≤ n) (h2 : n ≤ 64) : nar (IntKind.u64.wrap (nar v n)) n = nar v n := by
  rw [nar_eq (IntKind.u64.wrap (nar v n)) n h1 h2, IntKind.wrap_u64, Int.add_emod, Int.emod_emod_of_dvd _ (dvd_word n h2), nar_mod v n h1 h2, ← Int.add_emod, nar_eq v n h1 h2]

theorem and_same (v x : Int) (n : Nat) (h2 : n ≤ 64) (hv0 : 0 ≤ v) (hv1 : v < 18446744073709551616) (h : x % 2 ^ n = v % 2 ^ n) :
    (bits .and .u64 (IntKind.u64.wrap x) (2 ^ n - 1) != bits .and .u64 v (2 ^ n - 1)) = false := by
  rw [and_mask_u64 n h2 v hv0 hv1, IntKind.wrap_u64, and_mask_u64 n h2 _ (by omega) (by omega), Int.emod_emod_of_dvd _ (dvd_word n h2), h]
  simp

theorem lows (n : Nat) (h1 : 1 ≤ n) (h2 : n ≤ 63) : wrap64 (-wrap64 (2 ^ (n - 1))) = -2 ^ (n - 1) ∧ wrap64 (wrap64 (2 ^ (n - 1)) - 1) = 2 ^ (n - 1) - 1 := by
  have hH := two_pow_pos (n - 1)
  have hH' : (2 : Int) ^ (n - 1) ≤ 2 ^ 62 := by exact_mod_cast Nat.pow_le_pow_right (n := 2) (by decide) (show n - 1 ≤ 62 by omega)
  generalize (2 : Int) ^ (n - 1) = H at *
  unfold wrap64
  omega

/-- The number of the first k bytes, the highest first. -/
def num (f : Nat → Int) : Nat → Int
  | 0 => 0
  | k + 1 => num f k * 256 + f k

theorem num_bd (f : Nat → Int) (hf : ∀ i, 0 ≤ f i ∧ f i < 256) (k : Nat) : 0 ≤ num f k ∧ num f k < 256 ^ k := by
  induction k with
  | zero => simp [num]
  | succ k ih =>
    have := hf k
    rw [Int.pow_succ]
    simp only [num]
    omega

theorem num_bd8 (f : Nat → Int) (hf : ∀ i, 0 ≤ f i ∧ f i < 256) (k : Nat) (hk : k < 8) : 0 ≤ num f k ∧ num f k < 72057594037927936 := by
  have h := num_bd f hf k
  have h2 : 256 ^ k ≤ 72057594037927936 := Nat.pow_le_pow_right (n := 256) (by decide) (show k ≤ 7 by omega)
  have e : ((256 ^ k : Nat) : Int) = (256 : Int) ^ k := by rw [Int.natCast_pow]; rfl
  omega

/-- A byte laid behind a number of at most seven. -/
theorem or_byte (x c : Int) (h0 : 0 ≤ x) (h1 : x < 72057594037927936) (h2 : 0 ≤ c) (h3 : c < 256) : bits .or .u64 (x * 256) c = x * 256 + c :=
  bits_join .u64 64 (by decide) (fun n a b => by rw [IntKind.wrap_u64]; omega) 8 (x * 256) c (by omega) (by omega) (by omega) h2 (by omega) (by omega)

/-- What bits.Rotate reckons, as the walk spells it. -/
def rot (x k : Int) : Int := bits .or .u32 (x / 2 ^ k.toNat) (x * 2 ^ (32 - k).toNat % 4294967296)

theorem or_comm_u32 (x y : Int) : bits .or .u32 x y = bits .or .u32 y x := by
  show IntKind.u32.wrap ((BitVec.ofInt 32 x ||| BitVec.ofInt 32 y).toNat : Int) = IntKind.u32.wrap ((BitVec.ofInt 32 y ||| BitVec.ofInt 32 x).toNat : Int)
  rw [BitVec.or_comm]

theorem pow_split (K : Nat) (hK : K ≤ 32) : (2 : Int) ^ (32 - K) * 2 ^ K = 4294967296 := by
  rw [← Int.pow_add, show 32 - K + K = 32 by omega]; rfl

theorem rot_eq (x : Int) (K : Nat) (hK : K ≤ 32) (h0 : 0 ≤ x) (h1 : x < 4294967296) : rot x K = x / 2 ^ K + 2 ^ (32 - K) * (x % 2 ^ K) := by
  unfold rot
  have e : ((32 : Int) - K).toNat = 32 - K := by omega
  have hP := two_pow_pos (32 - K)
  have hM := two_pow_pos K
  have hPM := pow_split K hK
  have hq0 : 0 ≤ x / 2 ^ K := Int.ediv_nonneg h0 (by omega)
  have hq1 : x / 2 ^ K < 2 ^ (32 - K) := Int.ediv_lt_of_lt_mul hM (by rw [hPM]; exact h1)
  have hr0 := Int.emod_nonneg x (b := 2 ^ K) (by omega)
  have hr1 := Int.emod_lt_of_pos x hM
  have hy0 : 0 ≤ 2 ^ (32 - K) * (x % 2 ^ K) := Int.mul_nonneg (by omega) hr0
  have hy1 : 2 ^ (32 - K) * (x % 2 ^ K) < 4294967296 := by
    rw [← hPM]; exact Int.mul_lt_mul_of_pos_left hr1 hP
  have hy2 : 2 ^ (32 - K) * (x % 2 ^ K) % 2 ^ (32 - K) = 0 := Int.mul_emod_right _ _
  have hj : (2 : Int) ^ (32 - K) ≤ 4294967296 := by
    have := Int.mul_le_mul_of_nonneg_left (show (1 : Int) ≤ 2 ^ K by omega) (Int.le_of_lt hP)
    rw [hPM] at this; omega
  rw [e, Int.toNat_natCast, show x * 2 ^ (32 - K) % 4294967296 = 2 ^ (32 - K) * (x % 2 ^ K) by rw [← hPM, Int.mul_comm x, Int.mul_emod_mul_of_pos _ _ hP], or_comm_u32]
  rw [bits_join .u32 32 (by decide) (fun n a b => by rw [IntKind.wrap_u32]; omega) (32 - K) _ _ hy0 hy2 hy1 hq0 hq1 (by omega)]
  omega

theorem rot_bd (x k : Int) : 0 ≤ rot x k ∧ rot x k < 4294967296 := by
  unfold rot
  show 0 ≤ IntKind.u32.wrap _ ∧ IntKind.u32.wrap _ < 4294967296
  rw [IntKind.wrap_u32]
  omega

theorem rot_zero (x : Int) (h0 : 0 ≤ x) (h1 : x < 4294967296) : rot x 0 = x := by
  have h := rot_eq x 0 (by decide) h0 h1
  simpa using h

theorem rot_back (x : Int) (K : Nat) (hK : K ≤ 32) (h0 : 0 ≤ x) (h1 : x < 4294967296) : rot (rot x K) ((32 - K : Nat) : Int) = x := by
  have hb := rot_bd x K
  rw [rot_eq (rot x K) (32 - K) (by omega) hb.1 hb.2, rot_eq x K hK h0 h1, show 32 - (32 - K) = K by omega]
  have hP := two_pow_pos (32 - K)
  have hM := two_pow_pos K
  have hPM := pow_split K hK
  have hq0 : 0 ≤ x / 2 ^ K := Int.ediv_nonneg h0 (by omega)
  have hq1 : x / 2 ^ K < 2 ^ (32 - K) := Int.ediv_lt_of_lt_mul hM (by rw [hPM]; exact h1)
  rw [Int.add_mul_ediv_left _ _ (Int.ne_of_gt hP), Int.add_mul_emod_self_left, Int.ediv_eq_zero_of_lt hq0 hq1, Int.emod_eq_of_lt hq0 hq1, Int.zero_add]
  exact Int.emod_add_mul_ediv x (2 ^ K)

theorem half_up (u H : Int) (h : H ≤ u) (h' : u < 2 * H) : (u + H) % (2 * H) - H = u - H - H := by
  rw [show u + H = (u - H) + (2 * H) * 1 by omega, Int.add_mul_emod_self_left, Int.emod_eq_of_lt (by omega) (by omega)]

theorem refrot (x : Int) (K : Nat) (hK : K ≤ 32) (h0 : 0 ≤ x) (h1 : x < 4294967296) : (x / 2 ^ K + x * 2 ^ (32 - K) % 4294967296) % 4294967296 = rot x K := by
  have hb := rot_bd x K
  have hP := two_pow_pos (32 - K)
  have hPM := pow_split K hK
  have e : x * 2 ^ (32 - K) % 4294967296 = 2 ^ (32 - K) * (x % 2 ^ K) := by rw [← hPM, Int.mul_comm x, Int.mul_emod_mul_of_pos _ _ hP]
  rw [e]
  rw [rot_eq x K hK h0 h1] at *
  exact Int.emod_eq_of_lt hb.1 hb.2

/-- A number's lowest n bytes, the highest first, are the number modulo 256 to the n. -/
theorem num_bytes_upto (v : Int) (n k : Nat) (hk : k ≤ n) : num (fun j => v / 2 ^ (8 * (n - 1 - j)) % 256) k = v / 2 ^ (8 * (n - k)) % 2 ^ (8 * k) := by
  induction k with
  | zero => simp [num]
  | succ k ih =>
    simp only [num]
    rw [ih (by omega), show n - 1 - k = n - (k + 1) by omega]
    have e1 : v / 2 ^ (8 * (n - k)) = v / 2 ^ (8 * (n - (k + 1))) / 256 := by
      rw [Int.ediv_ediv_of_nonneg (Int.le_of_lt (two_pow_pos _)), show (256 : Int) = 2 ^ 8 by rfl, ← Int.pow_add]
      congr 2; omega
    have e2 : (2 : Int) ^ (8 * (k + 1)) = 256 * 2 ^ (8 * k) := by
      rw [show 8 * (k + 1) = 8 + 8 * k by omega, Int.pow_add]; rfl
    rw [e1, e2]
    generalize v / 2 ^ (8 * (n - (k + 1))) = u
    have hM := two_pow_pos (8 * k)
    generalize (2 : Int) ^ (8 * k) = M at *
    have a := Int.emod_nonneg (u / 256) (b := M) (by omega)
    have b := Int.emod_lt_of_pos (u / 256) hM
    have c := Int.emod_add_mul_ediv (u / 256) M
    have d : u = (u / 256 % M * 256 + u % 256) + 256 * M * (u / 256 / M) := by
      rw [Int.mul_assoc]
      generalize M * (u / 256 / M) = z at *
      omega
    have hlt : u / 256 % M * 256 + u % 256 < 256 * M := by omega
    have h0 : 0 ≤ u / 256 % M * 256 + u % 256 := by omega
    generalize hz : u / 256 % M * 256 + u % 256 = z at *
    rw [d, Int.add_mul_emod_self_left, Int.emod_eq_of_lt h0 hlt]

theorem num_bytes (v : Int) (n : Nat) : num (fun j => v / 2 ^ (8 * (n - 1 - j)) % 256) n = v % 2 ^ (8 * n) := by
  rw [num_bytes_upto v n n (Nat.le_refl _)]; simp

/-- A word shifted to the left and back keeps its lowest bits. -/
theorem shift_back (v : Int) (j : Nat) (hj : j ≤ 64) : IntKind.u64.wrap (v * 2 ^ (64 - j)) / 2 ^ (64 - j) = v % 2 ^ j := by
  have hP := two_pow_pos (64 - j)
  have hPM : (2 : Int) ^ (64 - j) * 2 ^ j = 18446744073709551616 := by
    rw [← Int.pow_add, show 64 - j + j = 64 by omega]; rfl
  rw [IntKind.wrap_u64, ← hPM, Int.mul_comm v, Int.mul_emod_mul_of_pos _ _ hP, Int.mul_ediv_cancel_left _ (Int.ne_of_gt hP)]

end Go.Proofs.Ytonaefebgpohjaa.Math
