/- The plain facts on signs: what Decode's two ends mean, that signs are read back, and that their order is the bytes'. -/
import Derived.Test.YtppgidmeeaodkaaGreatDoorS2Encode
namespace Go.Proofs.YtppgidmeeaodkaaGreatDoor.S2
set_option maxRecDepth 20000
open Go.RowKit Math

theorem pow_pos' (k : Nat) : (0 : Int) < 2 ^ k := two_pow_pos k

/-- The bits of a group are the group. -/
theorem val_group_upto (fr : Nat) (f : Nat → Int) (i l : Nat) (hl : l ≤ fr) (h0 : 0 ≤ f i) (h1 : f i < 2 ^ fr) : val (bitAt fr f) (fr * i) l = f i / 2 ^ (fr - l) := by
  induction l with
  | zero => simp only [val, Nat.sub_zero]; exact (Int.ediv_eq_zero_of_lt h0 h1).symm
  | succ l ih =>
    simp only [val]
    rw [ih (by omega), bitAt_in fr f i l (by omega), show fr - 1 - l = fr - (l + 1) by omega]
    have e : f i / 2 ^ (fr - l) = f i / 2 ^ (fr - (l + 1)) / 2 := by
      rw [Int.ediv_ediv_of_nonneg (Int.le_of_lt (two_pow_pos _)), ← Int.pow_succ]
      congr 2; omega
    rw [e]; omega
theorem val_group (fr : Nat) (f : Nat → Int) (i : Nat) (h0 : 0 ≤ f i) (h1 : f i < 2 ^ fr) : val (bitAt fr f) (fr * i) fr = f i := by
  rw [val_group_upto fr f i fr (Nat.le_refl _) h0 h1]; simp

/-- The bits of a number of bits are these. -/
theorem val_bit (h : Nat → Int) (hh : ∀ k, 0 ≤ h k ∧ h k ≤ 1) (k l j : Nat) (hj : j < l) : val h k l / 2 ^ (l - 1 - j) % 2 = h (k + j) := by
  have e := val_add h k (j + 1) (l - 1 - j)
  rw [show j + 1 + (l - 1 - j) = l by omega] at e
  have hb := val_bd h hh (k + (j + 1)) (l - 1 - j)
  have hP := two_pow_pos (l - 1 - j)
  rw [e, Int.add_comm, Int.mul_comm, Int.add_mul_ediv_left _ _ (Int.ne_of_gt hP), Int.ediv_eq_zero_of_lt hb.1 hb.2]
  simp only [val]
  have := hh (k + j)
  omega

/-- Groups made of bits have these bits. -/
theorem bitAt_val (h : Nat → Int) (hh : ∀ k, 0 ≤ h k ∧ h k ≤ 1) (fr : Nat) (hfr : 0 < fr) (k : Nat) : bitAt fr (fun i => val h (fr * i) fr) k = h k := by
  have hk : fr * (k / fr) + k % fr = k := Nat.div_add_mod k fr
  have hm := Nat.mod_lt k hfr
  have e := bitAt_in fr (fun i => val h (fr * i) fr) (k / fr) (k % fr) hm
  rw [hk] at e
  rw [e, val_bit h hh _ _ _ hm, hk]

theorem sgU_inj (x y : Nat) (hx : x < 32) (hy : y < 32) (h : UInt8.ofNat (sg x).toNat = UInt8.ofNat (sg y).toNat) : x = y := by
  have bx := sg_lt x
  have bY := sg_lt y
  have h2 := congrArg UInt8.toNat h
  rw [UInt8.toNat_ofNat_of_lt' (by simp; omega), UInt8.toNat_ofNat_of_lt' (by simp; omega)] at h2
  exact sg_inj x y hx hy (by omega)

theorem strOfNums_toList (xs : List Int) : (strOfNums xs).toList = xs.map fun n => UInt8.ofNat n.toNat := by
  rw [ByteArray.toList_eq]; exact strOfNums_data xs

/-- A text whose bytes are signs, as their list. -/
theorem text_list (s : ByteArray) (vs : Nat → Nat) (hvs : ∀ k, (h : k < s.size) → sg (vs k) = (s[k].toNat : Int)) : s.toList = (List.range s.size).map fun j => UInt8.ofNat (sg (vs j)).toNat := by
  rw [ByteArray.toList_eq]
  apply List.ext_getElem
  · simp
  · intro i h1 h2
    have hi : i < s.size := by simpa using h1
    simp only [List.getElem_map, List.getElem_range]
    rw [hvs i hi, Int.toNat_natCast, UInt8.ofNat_toNat]
    rfl

/-- WHEN A TEXT OF SIGNS IS THAT OF ITS BYTES: less than a sign is over, and its bits are 0. -/
theorem same_iff (s : ByteArray) (vs : Nat → Nat) (hvs : ∀ k, (h : k < s.size) → sg (vs k) = (s[k].toNat : Int)) (h32 : ∀ k, vs k < 32) (h : Nat → Int) (hh : h = bitAt 5 (fun i => (vs i : Int)))
    (q l N : Nat) (hql : 5 * s.size = 8 * q + l) (hl : l < 8) (f : Nat → Int) (hf : ∀ j, f j = if j < q then val h (8 * j) 8 else 0) (hN1 : 5 * N ≤ 8 * q + 4) (hN2 : 8 * q ≤ 5 * N) :
    ((strOfNums (enc (bitAt 8 f) N)).toList == s.toList) = true ↔ (l < 5 ∧ val h (8 * q) l = 0) := by
  have hhb : ∀ k, 0 ≤ h k ∧ h k ≤ 1 := by rw [hh]; exact bitAt_bd 5 _
  have hgb := bitAt_bd 8 f
  have hv : ∀ j, val h (5 * j) 5 = vs j := fun j => by rw [hh]; exact val_group 5 (fun i => (vs i : Int)) j (by omega) (by have := h32 j; omega)
  have g1 : ∀ k, k < 8 * q → bitAt 8 f k = h k := fun k hk => by
    have e := bitAt_val h hhb 8 (by decide) k
    rw [← e]
    unfold bitAt
    rw [hf, if_pos (by omega)]
  have g2 : ∀ k, 8 * q ≤ k → bitAt 8 f k = 0 := fun k hk => by
    unfold bitAt; rw [hf, if_neg (by omega)]; simp
  rw [beq_iff_eq, strOfNums_toList, text_list s vs hvs]
  unfold enc
  rw [List.map_map]
  constructor
  · intro e
    have hlen := congrArg List.length e
    simp at hlen
    subst hlen
    have hl5 : l < 5 := by omega
    refine ⟨hl5, val_zero h (8 * q) l (fun i hi => ?_)⟩
    rw [List.map_inj_left] at e
    have hk : 8 * q + i < 5 * s.size := by omega
    have ej := e ((8 * q + i) / 5) (by rw [List.mem_range]; omega)
    have hb5 := val_bd (bitAt 8 f) hgb (5 * ((8 * q + i) / 5)) 5
    have ex := sgU_inj _ _ (by omega) (h32 _) ej
    have ev : val (bitAt 8 f) (5 * ((8 * q + i) / 5)) 5 = val h (5 * ((8 * q + i) / 5)) 5 := by rw [hv]; omega
    have b1 := val_bit (bitAt 8 f) hgb (5 * ((8 * q + i) / 5)) 5 ((8 * q + i) % 5) (by omega)
    have b2 := val_bit h hhb (5 * ((8 * q + i) / 5)) 5 ((8 * q + i) % 5) (by omega)
    rw [Nat.div_add_mod] at b1 b2
    rw [← b2, ← ev, b1, g2 _ (by omega)]
  · rintro ⟨hl5, hz⟩
    obtain rfl : N = s.size := by omega
    apply List.map_congr_left
    intro j hj
    rw [List.mem_range] at hj
    simp only [Function.comp]
    have e : val (bitAt 8 f) (5 * j) 5 = val h (5 * j) 5 := val_congr _ _ _ _ (fun i hi => by
      by_cases hk : 5 * j + i < 8 * q
      · exact g1 _ hk
      · have hz' := val_zero_inv h hhb (8 * q) l hz (5 * j + i - 8 * q) (by omega)
        rw [show 8 * q + (5 * j + i - 8 * q) = 5 * j + i by omega] at hz'
        rw [g2 _ (by omega), hz'])
    rw [e, hv, Int.toNat_natCast]
end Go.Proofs.YtppgidmeeaodkaaGreatDoor.S2
