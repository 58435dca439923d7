/- The plain facts on signs: what Decode's two ends mean, that signs are read back, and that their order is the bytes'. -/
import Derived.Test.YtimiginpdkokiaaDoorS2Encode
namespace Go.Proofs.YtimiginpdkokiaaDoor.S2
set_option maxRecDepth 20000
open Go.RowKit Math

theorem pow_pos' (k : Nat) : (0 : Int) < 2 ^ k := two_pow_pos k

/-- The bits of a group are the group. -/
theorem val_group_upto (fr : Nat) (f : Nat → Int) (i l : Nat) (hl : l ≤ fr) (h0 : 0 ≤ f i) (h1 : f i < 2 ^ fr) : val (bitAt fr f) (fr * i) l = f i / 2 ^ (fr - l) := by
  induction l with
  | zero => simp only [val, Nat.sub_zero]; exact (Int.ediv_eq_zero_of_lt h0 h1).symm
  | succ l ih =>
    simp only [val]
    rw [ih (by omega), bitAt_in fr f i l (by omega), show fr - 1 - l = fr - (l + 1) by omega]
    have e : f i / 2 ^ (fr - l) = f i / 2 ^ (fr - (l + 1)) / 2 := by
      rw [Int.ediv_ediv_of_nonneg (Int.le_of_lt (two_pow_pos _)), ← Int.pow_succ]
      congr 2; omega
    rw [e]; omega
theorem val_group (fr : Nat) (f : Nat → Int) (i : Nat) (h0 : 0 ≤ f i) (h1 : f i < 2 ^ fr) : val (bitAt fr f) (fr * i) fr = f i := by
  rw [val_group_upto fr f i fr (Nat.le_refl _) h0 h1]; simp

/-- The bits of a number of bits are these. -/
theorem val_bit (h : Nat → Int) (hh : ∀ k, 0 ≤ h k ∧ h k ≤ 1) (k l j : Nat) (hj : j < l) : val h k l / 2 ^ (l - 1 - j) % 2 = h (k + j) := by
  have e := val_add h k (j + 1) (l - 1 - j)
  rw [show j + 1 + (l - 1 - j) = l by omega] at e
  have hb := val_bd h hh (k + (j + 1)) (l - 1 - j)
  have hP := two_pow_pos (l - 1 - j)
  rw [e, Int.add_comm, Int.mul_comm, Int.add_mul_ediv_left _ _ (Int.ne_of_gt hP), Int.ediv_eq_zero_of_lt hb.1 hb.2]
  simp only [val]
  have := hh (k + j)
  omega

/-- Groups made of bits have these bits. -/
theorem bitAt_val (h : Nat → Int) (hh : ∀ k, 0 ≤ h k ∧ h k ≤ 1) (fr : Nat) (hfr : 0 < fr) (k : Nat) : bitAt fr (fun i => val h (fr * i) fr) k = h k := by
  have hk : fr * (k / fr) + k % fr = k := Nat.div_add_mod k fr
  have hm := Nat.mod_lt k hfr
  have e := bitAt_in fr (fun i => val h (fr * i) fr) (k / fr) (k % fr) hm
  rw [hk] at e
  rw [e, val_bit h hh _ _ _ hm, hk]

theorem strOfNums_toList (xs : List Int) : (strOfNums xs).toList = xs.map fun n => UInt8.ofNat n.toNat := by
  rw [ByteArray.toList_eq]; exact strOfNums_data xs

end Go.Proofs.YtimiginpdkokiaaDoor.S2
