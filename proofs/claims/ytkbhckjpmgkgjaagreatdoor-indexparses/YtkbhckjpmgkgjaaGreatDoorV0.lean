/- My own work: versions: their numbers' texts, what a text of one is, and their order. -/
import Derived.Lib.ItoaNum
import Derived.Lib.Join
import Derived.Lib.Bytealg
namespace Go.Proofs.YtkbhckjpmgkgjaaGreatDoor

abbrev By := List UInt8
/-- What compares: three answers, turned about the other one, and one behind another. -/
structure Pre {α : Type} (c : α → α → Int) : Prop where
  sgn : ∀ a b, c a b = -1 ∨ c a b = 0 ∨ c a b = 1
  anti : ∀ a b, c b a = - c a b
  tr : ∀ a b d, c a b ≤ 0 → c b d ≤ 0 → c a d ≤ 0
/-- By the first, and where that tells nothing by the second. -/
def lex {α : Type} (c d : α → α → Int) (a b : α) : Int := if c a b = 0 then d a b else c a b
theorem lex_le {α : Type} {c d : α → α → Int} {a b : α} (h : lex c d a b ≤ 0) : c a b ≤ 0 := by
  unfold lex at h
  by_cases e : c a b = 0
  · omega
  · rw [if_neg e] at h; exact h
theorem Pre.lex {α : Type} {c d : α → α → Int} (hc : Pre c) (hd : Pre d) : Pre (lex c d) where
  sgn a b := by
    unfold Go.Proofs.YtkbhckjpmgkgjaaGreatDoor.lex
    split
    · exact hd.sgn a b
    · exact hc.sgn a b
  anti a b := by
    unfold Go.Proofs.YtkbhckjpmgkgjaaGreatDoor.lex
    have h := hc.anti a b
    have k := hd.anti a b
    by_cases e : c a b = 0
    · rw [if_pos e, if_pos (by omega), k]
    · rw [if_neg e, if_neg (by omega), h]
  tr a b x h k := by
    have h1 := lex_le h
    have k1 := lex_le k
    have h2 := hc.tr a b x h1 k1
    unfold Go.Proofs.YtkbhckjpmgkgjaaGreatDoor.lex at h k ⊢
    by_cases e : c a x = 0
    · rw [if_pos e]
      have ha := hc.anti a x
      have hb := hc.anti b x
      have hd1 := hc.anti a b
      have h3 := hc.tr x a b (by omega) h1
      have h4 := hc.tr b x a k1 (by omega)
      rw [if_pos (by omega)] at h k
      exact hd.tr a b x h k
    · rw [if_neg e]
      exact h2
theorem Pre.at {α β : Type} {c : α → α → Int} (h : Pre c) (f : β → α) : Pre fun a b => c (f a) (f b) where
  sgn _ _ := h.sgn _ _
  anti _ _ := h.anti _ _
  tr _ _ _ := h.tr _ _ _
theorem Pre.turn {α : Type} {c : α → α → Int} (h : Pre c) : Pre fun a b => c b a where
  sgn _ _ := h.sgn _ _
  anti _ _ := h.anti _ _
  tr _ _ _ h1 h2 := h.tr _ _ _ h2 h1
/-- Numbers compared. -/
def cmpI (a b : Int) : Int := if a < b then -1 else if b < a then 1 else 0
theorem cmpI_zero (a b : Int) : cmpI a b = 0 ↔ a = b := by unfold cmpI; split <;> (try split) <;> omega
theorem preI : Pre cmpI where
  sgn a b := by unfold cmpI; split <;> (try split) <;> simp
  anti a b := by unfold cmpI; split <;> split <;> (try split) <;> omega
  tr a b d := by unfold cmpI; (repeat' split) <;> omega
/-- Bytes compared. -/
def cmpB (a b : By) : Int := if a < b then -1 else if b < a then 1 else 0
theorem lt_or {a b : By} (h : ¬ a < b) (k : ¬ b < a) : a = b := List.le_antisymm (List.not_lt.1 k) (List.not_lt.1 h)
theorem cmpB_zero (a b : By) : cmpB a b = 0 ↔ a = b := by
  unfold cmpB
  by_cases h : a < b
  · rw [if_pos h]; exact ⟨fun e => by omega, fun e => absurd (e ▸ h) (List.lt_irrefl b)⟩
  · by_cases k : b < a
    · rw [if_neg h, if_pos k]; exact ⟨fun e => by omega, fun e => absurd (e ▸ k) (List.lt_irrefl b)⟩
    · rw [if_neg h, if_neg k]; exact ⟨fun _ => lt_or h k, fun _ => rfl⟩
theorem preB : Pre cmpB where
  sgn a b := by unfold cmpB; split <;> (try split) <;> simp
  anti a b := by
    unfold cmpB
    by_cases h : a < b
    · rw [if_pos h, if_neg (fun k => List.lt_irrefl _ (List.lt_trans h k)), if_pos h]; rfl
    · by_cases k : b < a
      · rw [if_pos k, if_neg h, if_pos k]
      · rw [if_neg h, if_neg k, if_neg k, if_neg h]; rfl
  tr a b d h k := by
    have h1 : a ≤ b := fun e => by
      unfold cmpB at h
      rw [if_neg (fun x => List.lt_irrefl _ (List.lt_trans e x)), if_pos e] at h
      omega
    have k1 : b ≤ d := fun e => by
      unfold cmpB at k
      rw [if_neg (fun x => List.lt_irrefl _ (List.lt_trans e x)), if_pos e] at k
      omega
    have : a ≤ d := List.le_trans h1 k1
    unfold cmpB
    split
    · omega
    · rw [if_neg this]; omega
/-- A tag held against another one, or none. -/
def cmpT (a b : By) : Int := if a = [] ∨ b = [] then cmpB b a else cmpB a b
theorem nil_lt {a : By} (h : a ≠ []) : ([] : By) < a := by
  cases a with
  | nil => exact absurd rfl h
  | cons x r => exact List.nil_lt_cons x r
theorem cmpB_nil {a : By} (h : a ≠ []) : cmpB [] a = -1 := by unfold cmpB; rw [if_pos (nil_lt h)]
theorem cmpB_nil' {a : By} (h : a ≠ []) : cmpB a [] = 1 := by rw [preB.anti [] a, cmpB_nil h]; rfl
theorem cmpB_self (a : By) : cmpB a a = 0 := (cmpB_zero a a).2 rfl
theorem cmpT_zero (a b : By) : cmpT a b = 0 ↔ a = b := by
  unfold cmpT
  split
  · rw [cmpB_zero]; exact ⟨Eq.symm, Eq.symm⟩
  · exact cmpB_zero a b
theorem preT : Pre cmpT where
  sgn a b := by unfold cmpT; split <;> exact preB.sgn _ _
  anti a b := by
    unfold cmpT
    by_cases h : a = [] ∨ b = []
    · rw [if_pos h, if_pos (by rcases h with h | h; exact Or.inr h; exact Or.inl h)]; exact preB.anti b a
    · rw [if_neg h, if_neg (fun k => h (by rcases k with k | k; exact Or.inr k; exact Or.inl k))]; exact preB.anti a b
  tr a b d h k := by
    unfold cmpT at h k ⊢
    by_cases ha : a = []
    · subst ha
      rw [if_pos (Or.inl rfl)] at h ⊢
      by_cases hb : b = []
      · subst hb
        rw [if_pos (Or.inl rfl)] at k
        exact k
      · rw [cmpB_nil' hb] at h
        omega
    · by_cases hd : d = []
      · subst hd
        rw [if_pos (Or.inr rfl), cmpB_nil ha]
        omega
      · rw [if_neg (by simp [ha, hd])]
        by_cases hb : b = []
        · subst hb
          rw [if_pos (Or.inl rfl), cmpB_nil' hd] at k
          omega
        · rw [if_neg (by simp [ha, hb])] at h
          rw [if_neg (by simp [hb, hd])] at k
          exact preB.tr a b d h k
/-- A version. -/
structure Ver where
  n0 : Int
  n1 : Int
  n2 : Int
  n3 : Int
  cnt : Int
  tag : ByteArray
/-- A text's bytes. -/
abbrev vb (s : ByteArray) : By := s.data.toList
theorem vb_inj {a b : ByteArray} (h : vb a = vb b) : a = b := by
  obtain ⟨x⟩ := a
  obtain ⟨y⟩ := b
  have : x = y := Array.toList_inj.1 h
  rw [this]
theorem vb_len (s : ByteArray) : (vb s).length = s.size := by rw [Array.length_toList]; rfl
/-- The order. -/
def cmpV : Ver → Ver → Int :=
  lex (fun a b => cmpI a.n0 b.n0) (lex (fun a b => cmpI a.n1 b.n1) (lex (fun a b => cmpI a.n2 b.n2) (lex (fun a b => cmpI a.n3 b.n3) (lex (fun a b => cmpT (vb a.tag) (vb b.tag)) fun a b => cmpI a.cnt b.cnt))))
theorem preV : Pre cmpV := (preI.at _).lex ((preI.at _).lex ((preI.at _).lex ((preI.at _).lex ((preT.at _).lex (preI.at _)))))
theorem lex_zero {α : Type} {c d : α → α → Int} {a b : α} : lex c d a b = 0 ↔ c a b = 0 ∧ d a b = 0 := by
  unfold lex
  by_cases h : c a b = 0
  · rw [if_pos h]; exact ⟨fun k => ⟨h, k⟩, fun k => k.2⟩
  · rw [if_neg h]; exact ⟨fun k => absurd k h, fun k => absurd k.1 h⟩
theorem cmpV_zero (a b : Ver) : cmpV a b = 0 ↔ a = b := by
  unfold cmpV
  rw [lex_zero, lex_zero, lex_zero, lex_zero, lex_zero, cmpI_zero, cmpI_zero, cmpI_zero, cmpI_zero, cmpT_zero, cmpI_zero]
  constructor
  · rintro ⟨h0, h1, h2, h3, h4, h5⟩
    obtain ⟨a0, a1, a2, a3, ac, at'⟩ := a
    obtain ⟨b0, b1, b2, b3, bc, bt⟩ := b
    simp only at h0 h1 h2 h3 h4 h5
    rw [h0, h1, h2, h3, h5, vb_inj h4]
  · rintro rfl
    exact ⟨rfl, rfl, rfl, rfl, rfl, rfl⟩
end Go.Proofs.YtkbhckjpmgkgjaaGreatDoor
