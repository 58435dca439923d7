/- My own work: what replacing all instances means: step by step from the left; its length; what is found in it. -/
import Derived.Test.YtpkbfljoakodoaaDoorBRep
namespace Go.Proofs.YtpkbfljoakodoaaDoor
open Go.RowKit

section
variable {old new : List UInt8}
theorem rpl_eq (ho : old ≠ []) (l : List UInt8) : rpl old new l = if Lib.index l old = -1 then l else l.take (Lib.index l old).toNat ++ new ++ rpl old new (l.drop ((Lib.index l old).toNat + old.length)) := by
  by_cases h : Lib.index l old = -1
  · rw [if_pos h]
    unfold rpl
    rw [Lib.count_miss h]
    rfl
  · rw [if_neg h]
    have hge := Lib.index_ge l old
    obtain ⟨i, hi⟩ : ∃ i : Nat, Lib.index l old = i := ⟨(Lib.index l old).toNat, by omega⟩
    have hc := Lib.count_hit ho hi
    have e : (Lib.index l old).toNat = i := by omega
    rw [e]
    unfold rpl
    rw [hc, Nat.add_comm 1, Lib.replaceK_hit old new _ _ i hi]
theorem rpl_nil (ho : old ≠ []) : rpl old new [] = [] := by
  rw [rpl_eq ho, if_pos]
  unfold Lib.index
  rw [if_neg (by cases old with | nil => exact absurd rfl ho | cons => simp)]
/-- The bytes stand here: they are replaced, and it goes on behind them. -/
theorem rpl_yes (ho : old ≠ []) (l : List UInt8) (h : old.isPrefixOf l = true) : rpl old new l = new ++ rpl old new (l.drop old.length) := by
  have hi : Lib.index l old = 0 := by
    cases l with
    | nil => cases old with | nil => exact absurd rfl ho | cons => simp at h
    | cons x t =>
      unfold Lib.index
      rw [if_pos h]
  rw [rpl_eq ho, if_neg (by omega), hi]
  simp
/-- They do not stand here: one byte stays. -/
theorem rpl_no (ho : old ≠ []) (x : UInt8) (t : List UInt8) (h : old.isPrefixOf (x :: t) = false) : rpl old new (x :: t) = x :: rpl old new t := by
  have hix : Lib.index (x :: t) old = if Lib.index t old = -1 then -1 else Lib.index t old + 1 := by
    conv => lhs; unfold Lib.index
    rw [if_neg (by simp [h])]
    by_cases e : Lib.index t old = -1
    · rw [if_pos e, if_pos (by rw [e]; rfl)]
    · rw [if_neg e, if_neg (by simpa using e)]
  have hge := Lib.index_ge t old
  rw [rpl_eq ho (x :: t), rpl_eq ho t, hix]
  by_cases e : Lib.index t old = -1
  · rw [if_pos e, if_pos e, if_pos rfl]
  · rw [if_neg e, if_neg e, if_neg (by omega)]
    obtain ⟨i, hi⟩ : ∃ i : Nat, Lib.index t old = i := ⟨(Lib.index t old).toNat, by omega⟩
    rw [hi]
    have e1 : ((i : Int) + 1).toNat = i + 1 := by omega
    have e2 : i + 1 + old.length = (i + old.length) + 1 := by omega
    rw [e1, e2, Int.toNat_natCast]
    simp
/-- As many bytes as before. -/
theorem rpl_len (ho : old ≠ []) (hn : new.length = old.length) : ∀ (n : Nat) (l : List UInt8), l.length ≤ n → (rpl old new l).length = l.length
  | _, [], _ => by rw [rpl_nil ho]
  | 0, _ :: _, h => by simp at h
  | n + 1, x :: t, h => by
    cases hp : old.isPrefixOf (x :: t) with
    | true =>
      have hle := (List.isPrefixOf_iff_prefix.1 hp).length_le
      have h1 : 0 < old.length := List.length_pos_iff.2 ho
      rw [rpl_yes ho _ hp, List.length_append, rpl_len ho hn n _ (by rw [List.length_drop]; simp at h ⊢; omega), List.length_drop, hn]
      omega
    | false =>
      rw [rpl_no ho x t hp, List.length_cons, rpl_len ho hn n t (by simpa using h), List.length_cons]
theorem rpl_length (ho : old ≠ []) (hn : new.length = old.length) (l : List UInt8) : (rpl old new l).length = l.length := rpl_len ho hn _ l (Nat.le_refl _)
/-- Where Index tells no place the bytes stand nowhere. -/
theorem index_no : ∀ (s sub : List UInt8), sub ≠ [] → Lib.index s sub = -1 → ∀ i, sub.isPrefixOf (s.drop i) = false
  | [], sub, hs, _, i => by
    cases sub with
    | nil => exact absurd rfl hs
    | cons => simp
  | b :: l, sub, hs, h, i => by
    unfold Lib.index at h
    by_cases hp : sub.isPrefixOf (b :: l) = true
    · rw [if_pos hp] at h
      omega
    · rw [if_neg hp] at h
      by_cases hq : (Lib.index l sub == -1) = true
      · cases i with
        | zero => rw [List.drop_zero]; exact Bool.eq_false_iff.2 hp
        | succ i => exact index_no l sub hs (by simpa using hq) i
      · rw [if_neg hq] at h
        have hge := Lib.index_ge l sub
        have : Lib.index l sub ≠ -1 := fun e => hq (by rw [e]; rfl)
        omega
/-- What stood there is found, in the others' place. -/
theorem occ_rpl (h32 : old.length = 32) (hn : new.length = 32) {l : List UInt8} (h : occ old l = true) : occ new (rpl old new l) = true := by
  have ho : old ≠ [] := fun e => by rw [e] at h32; cases h32
  unfold occ at h
  obtain ⟨j, hj, he⟩ := List.any_eq_true.1 h
  have hj' := List.mem_range.1 hj
  have he' : old = win l j := by simpa using he
  have hne : Lib.index l old ≠ -1 := fun e => by
    have hx := index_no l old ho e j
    have : old.isPrefixOf (l.drop j) = true := by
      refine List.isPrefixOf_iff_prefix.2 (List.prefix_iff_eq_take.2 ?_)
      rw [h32]
      exact he'
    rw [this] at hx
    cases hx
  have hge := Lib.index_ge l old
  obtain ⟨i, hi⟩ : ∃ i : Nat, Lib.index l old = i := ⟨(Lib.index l old).toNat, by omega⟩
  have hat := (index_at l old i ho hi).1
  have hlen := rpl_length ho (hn.trans h32.symm) l
  unfold occ
  refine List.any_eq_true.2 ⟨i, List.mem_range.2 (by rw [hlen]; omega), ?_⟩
  have hit : (l.take i).length = i := by rw [List.length_take]; omega
  have e : (Lib.index l old).toNat = i := by omega
  rw [rpl_eq ho, if_neg hne, e]
  unfold win
  rw [List.append_assoc, List.drop_append_of_le_length (by omega), List.drop_of_length_le (by omega), List.nil_append, List.take_append_of_le_length (by omega), List.take_of_length_le (by omega)]
  simp
end
end Go.Proofs.YtpkbfljoakodoaaDoor
