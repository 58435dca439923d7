/- The plain facts on bytes laid over one another. -/
import Derived.Test.YtihemceilmcekaaDoorTexts
import Derived.Laws.BitsAllLaws
namespace Go.Proofs.YtihemceilmcekaaDoor
open Go.RowKit Math

theorem fold_at0 (f : Nat → Int) (j k : Nat) (h : k ≤ j) (hj : j < 20) : fold f k j = 0 := by
  induction k with
  | zero => rfl
  | succ k ih => simp only [fold]; rw [if_neg (by omega), ih (by omega)]
theorem fold_at1 (f : Nat → Int) (j k : Nat) (h1 : j < k) (h2 : k ≤ j + 20) (hj : j < 20) : fold f k j = bits .xor .u8 0 (f j) := by
  induction k with
  | zero => omega
  | succ k ih =>
    simp only [fold]
    by_cases e : k = j
    · subst e; rw [if_pos (by omega), fold_at0 f k k (Nat.le_refl _) hj]
    · rw [if_neg (by omega), ih (by omega) (by omega)]
theorem fold_at2 (f : Nat → Int) (j k : Nat) (h1 : j + 20 < k) (h2 : k ≤ j + 40) (hj : j < 20) : fold f k j = bits .xor .u8 (bits .xor .u8 0 (f j)) (f (j + 20)) := by
  induction k with
  | zero => omega
  | succ k ih =>
    simp only [fold]
    by_cases e : k = j + 20
    · subst e; rw [if_pos (by omega), fold_at1 f j (j + 20) (by omega) (by omega) hj]
    · rw [if_neg (by omega), ih (by omega) (by omega)]

theorem xor_lt8 (a b : Nat) (ha : a < 256) (hb : b < 256) : a ^^^ b < 256 := Nat.xor_lt_two_pow (n := 8) ha hb

/-- The short bytes, told of plain numbers. -/
theorem short_val (f : Nat → Int) (F : Nat → Nat) (hf : ∀ i, f i = F i) (hF : ∀ i, F i < 256) (j : Nat) :
    short f j = ((if j < 12 then F j ^^^ F (j + 20) else if j < 20 then F j else 0 : Nat) : Int) := by
  unfold short
  by_cases h2 : j < 20
  · rw [if_pos h2]
    by_cases h1 : j < 12
    · rw [if_pos h1, fold_at2 f j 32 (by omega) (by omega) h2, hf, hf]
      have e := u8_xor_nat 0 (F j) (by decide) (hF j)
      rw [Nat.zero_xor] at e
      have e' : bits .xor .u8 0 (F j : Int) = (F j : Int) := e
      rw [e', u8_xor_nat _ _ (hF j) (hF (j + 20))]
    · rw [if_neg h1, if_pos h2, fold_at1 f j 32 (by omega) (by omega) h2, hf]
      have e := u8_xor_nat 0 (F j) (by decide) (hF j)
      rw [Nat.zero_xor] at e
      exact e
  · rw [if_neg h2, if_neg (by omega), if_neg h2]; rfl

theorem xor_one (a b : Nat) : a ^^^ b = a ↔ b = 0 := by
  constructor
  · intro h
    have h2 := congrArg (a ^^^ ·) h
    simpa [← Nat.xor_assoc] using h2
  · rintro rfl; simp
theorem xor_both (a b c : Nat) : (a ^^^ c) ^^^ (b ^^^ c) = a ^^^ b := by
  rw [Nat.xor_comm b c, Nat.xor_assoc, ← Nat.xor_assoc c c b, Nat.xor_self, Nat.zero_xor]
theorem xor_mid (a b c : Nat) : (a ^^^ c) ^^^ b = (a ^^^ b) ^^^ c := by rw [Nat.xor_assoc, Nat.xor_comm c b, ← Nat.xor_assoc]

/-- One byte is changed: the signs stay just where it is changed by nothing. -/
theorem folds_one (f x : Nat → Int) (K : Nat) (b : Int) (hf : ∀ i, 0 ≤ f i ∧ f i < 256) (hb0 : 0 ≤ b) (hb1 : b < 256) (hK : K < 32)
    (hx : ∀ i, x i = if i = K then bits .xor .u8 (f K) b else f i) : same 20 (short x) (short f) = (b == 0) := by
  obtain ⟨F, hF⟩ : ∃ F : Nat → Nat, ∀ i, f i = F i := ⟨fun i => (f i).toNat, fun i => by have := hf i; show f i = ((f i).toNat : Int); omega⟩
  have hF8 : ∀ i, F i < 256 := fun i => by have := hf i; have := hF i; omega
  obtain ⟨B, rfl⟩ : ∃ B : Nat, b = B := ⟨b.toNat, by omega⟩
  have hB : B < 256 := by omega
  have hX : ∀ i, x i = ((if i = K then F K ^^^ B else F i : Nat) : Int) := fun i => by
    rw [hx i]
    by_cases e : i = K
    · rw [if_pos e, if_pos e, hF K, u8_xor_nat _ _ (hF8 K) hB]
    · rw [if_neg e, if_neg e, hF i]
  have hX8 : ∀ i, (if i = K then F K ^^^ B else F i) < 256 := fun i => by
    split
    · exact xor_lt8 _ _ (hF8 K) hB
    · exact hF8 i
  rw [Bool.eq_iff_iff, same_iff_all, beq_iff_eq]
  have sx := short_val x _ hX hX8
  have sf := short_val f F hF hF8
  constructor
  · intro h
    have hk := h (K % 20) (by omega)
    rw [sx, sf] at hk
    have hk' := Int.ofNat.inj hk
    have hz : B = 0 := by
      by_cases h1 : K < 12
      · rw [Nat.mod_eq_of_lt (by omega), if_pos h1, if_pos h1, if_pos rfl, if_neg (by omega), xor_mid, xor_one] at hk'
        exact hk'
      · by_cases h2 : K < 20
        · rw [Nat.mod_eq_of_lt h2, if_neg h1, if_neg h1, if_pos h2, if_pos h2, if_pos rfl, xor_one] at hk'
          exact hk'
        · obtain ⟨j, hj⟩ : ∃ j, K = j + 20 := ⟨K - 20, by omega⟩
          have e : K % 20 = j := by omega
          rw [e, if_pos (show j < 12 by omega), if_pos (show j < 12 by omega), if_neg (show ¬ j = K by omega), if_pos (show j + 20 = K by omega), ← hj, ← Nat.xor_assoc, xor_one] at hk'
          exact hk'
    rw [hz]; rfl
  · intro h
    have hz : B = 0 := by omega
    intro i _
    rw [sx, sf, hz]
    congr 2
    all_goals simp only [Nat.xor_zero]
    all_goals
      have e : ∀ i, (if i = K then F K else F i) = F i := fun i => by split <;> simp_all
      simp only [e]

/-- Two bytes that are laid over one another are changed alike: the signs stay. -/
theorem folds_two (f y : Nat → Int) (J : Nat) (b : Int) (hf : ∀ i, 0 ≤ f i ∧ f i < 256) (hb0 : 0 ≤ b) (hb1 : b < 256) (hJ : J < 12)
    (hy : ∀ i, y i = if i = J then bits .xor .u8 (f J) b else if i = J + 20 then bits .xor .u8 (f (J + 20)) b else f i) : short y = short f := by
  obtain ⟨F, hF⟩ : ∃ F : Nat → Nat, ∀ i, f i = F i := ⟨fun i => (f i).toNat, fun i => by have := hf i; show f i = ((f i).toNat : Int); omega⟩
  have hF8 : ∀ i, F i < 256 := fun i => by have := hf i; have := hF i; omega
  obtain ⟨B, rfl⟩ : ∃ B : Nat, b = B := ⟨b.toNat, by omega⟩
  have hB : B < 256 := by omega
  have hX : ∀ i, y i = ((if i = J then F J ^^^ B else if i = J + 20 then F (J + 20) ^^^ B else F i : Nat) : Int) := fun i => by
    rw [hy i]
    by_cases e : i = J
    · rw [if_pos e, if_pos e, hF J, u8_xor_nat _ _ (hF8 J) hB]
    · rw [if_neg e, if_neg e]
      by_cases e2 : i = J + 20
      · rw [if_pos e2, if_pos e2, hF (J + 20), u8_xor_nat _ _ (hF8 _) hB]
      · rw [if_neg e2, if_neg e2, hF i]
  have hX8 : ∀ i, (if i = J then F J ^^^ B else if i = J + 20 then F (J + 20) ^^^ B else F i) < 256 := fun i => by
    split
    · exact xor_lt8 _ _ (hF8 J) hB
    · split
      · exact xor_lt8 _ _ (hF8 _) hB
      · exact hF8 i
  funext j
  rw [short_val y _ hX hX8, short_val f F hF hF8]
  congr 1
  by_cases h1 : j < 12
  · rw [if_pos h1, if_pos h1]
    by_cases e : j = J
    · subst e
      rw [if_pos rfl, if_neg (by omega), if_pos rfl, xor_both]
    · rw [if_neg e, if_neg (by omega), if_neg (by omega), if_neg (by omega)]
  · rw [if_neg h1, if_neg h1]
    by_cases h2 : j < 20
    · rw [if_pos h2, if_pos h2, if_neg (by omega), if_neg (by omega)]
    · rw [if_neg h2, if_neg h2]
end Go.Proofs.YtihemceilmcekaaDoor
