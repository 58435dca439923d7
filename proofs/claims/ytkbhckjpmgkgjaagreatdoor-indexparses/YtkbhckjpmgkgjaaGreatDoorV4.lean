/- My own work: a text parted at one byte: IndexByte and Index of one byte, Cut. -/
import Derived.Test.YtkbhckjpmgkgjaaGreatDoorV3
import Derived.Test.YtkbhckjpmgkgjaaGreatDoorG0
import Derived.Lib.Bytealg
namespace Go.Proofs.YtkbhckjpmgkgjaaGreatDoor
open Go.RowKit

set_option maxRecDepth 20000 in
theorem indexByte_in (s : ByteArray) (c : UInt8) (w : World) : Calls Tryz.prog 102 #[.string s, .int .u8 c.toNat] w fun e w' => e = .returned (.int .i64 (Lib.indexByte (vb s) c)) ∧ w' = w := by
  go_enter Tryz.func102, Tryz.ntmps102
  go_wp2
  rw [run_callFunc_extern Tryz.func133 (by kernel_rfl) (by kernel_rfl) (by kernel_rfl) (e := Extern.BytealgIndexByte.indexByte) (by kernel_rfl), Lib.run_indexByteString]
  simp only [Result.andThen]
  rw [Oper.upon_value]
  go_wp2
  go_ret
  exact ⟨rfl, rfl⟩
set_option maxRecDepth 100000 in
set_option maxHeartbeats 2000000 in
theorem index_in (s : ByteArray) (c : UInt8) (w : World) : Calls Tryz.prog 139 #[.string s, .string ⟨#[c]⟩] w fun e w' => e = .returned (.int .i64 (Lib.indexByte (vb s) c)) ∧ w' = w := by
  have hI := indexByte_in s c w
  by_cases h : s = ⟨#[c]⟩
  · subst h
    have HE : Hid (Lib.indexByte (vb ⟨#[c]⟩) c = 0) := by show _ = _; simp [Lib.indexByte]
    go_enter Tryz.func139, Tryz.ntmps139
    go_wp2_with (go_at_call 102; refine hI.mono ?_; rintro e w1 ⟨rfl, hw1⟩; rw [hw1]; clear hw1)
    go_ret
    exact ⟨by rw [HE.out]; rfl, rfl⟩
  · have hb : ((([c] : List UInt8) == s.toList) = false) := by
      refine beq_false_of_ne (fun e => h ?_)
      apply ByteArray.ext
      rw [ByteArray.toList_eq] at e
      rw [← Array.toArray_toList (xs := s.data), ← e]
    go_enter Tryz.func139, Tryz.ntmps139
    go_wp2_with (go_at_call 102; refine hI.mono ?_; rintro e w1 ⟨rfl, hw1⟩; rw [hw1]; clear hw1)
    go_ret
    exact ⟨rfl, rfl⟩
theorem index_ok (s : ByteArray) (c : UInt8) (w : World) : Calls Tryz.prog 137 #[.string s, .string ⟨#[c]⟩] w fun e w' => e = .returned (.int .i64 (Lib.indexByte (vb s) c)) ∧ w' = w := by
  have hI := index_in s c w
  go_enter Tryz.func137, Tryz.ntmps137
  go_wp2_with (go_at_call 139; refine hI.mono ?_; rintro e w1 ⟨rfl, hw1⟩; rw [hw1]; clear hw1)
  go_ret
  exact ⟨rfl, rfl⟩
/-- Where a byte stands first, and what is parted there. -/
theorem index_cut (l : By) (c : UInt8) : (Lib.indexByte l c = -1 ∧ cutAt c l = none) ∨ ∃ k : Nat, Lib.indexByte l c = k ∧ k < l.length ∧ cutAt c l = some (l.take k, l.drop (k + 1)) := by
  induction l with
  | nil => exact Or.inl ⟨rfl, rfl⟩
  | cons b r ih =>
    rw [show Lib.indexByte (b :: r) c = (if b == c then 0 else if Lib.indexByte r c == -1 then -1 else Lib.indexByte r c + 1) from rfl]
    unfold cutAt
    by_cases h : b = c
    · subst h
      rw [beq_self_eq_true]
      exact Or.inr ⟨0, rfl, by simp, rfl⟩
    · rw [beq_false_of_ne h]
      rcases ih with ⟨h1, h2⟩ | ⟨k, h1, h2, h3⟩
      · rw [h1, h2]
        exact Or.inl ⟨rfl, rfl⟩
      · rw [h1, h3]
        refine Or.inr ⟨k + 1, ?_, by rw [List.length_cons]; omega, rfl⟩
        rw [if_neg (by decide), if_neg (by simp)]
        simp
theorem vb_extract (s : ByteArray) (i j : Nat) : vb (s.extract i j) = ((vb s).take j).drop i := by
  show (s.extract i j).data.toList = _
  rw [ByteArray.data_extract, Array.toList_extract, List.extract_eq_take_drop, List.drop_take]
/-- What Cut tells. -/
def CutPost (s : ByteArray) (c : UInt8) (w : World) (e : Ending) (w' : World) : Prop :=
  (cutAt c (vb s) = none ∧ e = .returned (.tuple #[.string s, .string ⟨#[]⟩, .bool false]) ∧ ∃ q, w' = w.drewN q) ∨
  (∃ x y : ByteArray, cutAt c (vb s) = some (vb x, vb y) ∧ x.size ≤ s.size ∧ y.size ≤ s.size ∧ e = .returned (.tuple #[.string x, .string y, .bool true]) ∧ ∃ q, w' = w.drewN q)
set_option maxRecDepth 20000 in
set_option maxHeartbeats 2000000 in
theorem cut_in (s : ByteArray) (c : UInt8) (w : World) (hs : s.size < 9223372036854775807) : Calls Tryz.prog 108 #[.string s, .string ⟨#[c]⟩] w (CutPost s c w) := by
  have hI := index_in s c w
  have hlen := vb_len s
  rcases index_cut (vb s) c with ⟨h1, h2⟩ | ⟨k, h1, h2, h3⟩
  · rw [h1] at hI
    have HP : Hid (∀ q, CutPost s c w (.returned (.tuple #[.string s, .string ⟨#[]⟩, .bool false])) (w.drewN q)) := fun q => Or.inl ⟨h2, rfl, q, rfl⟩
    clear h1 h2 hlen
    go_enter Tryz.func108, Tryz.ntmps108
    go_wp2_with (go_at_call 139; refine hI.mono ?_; rintro e w1 ⟨rfl, hw1⟩; rw [hw1]; clear hw1)
    go_ret3
    exact HP.out 0
  · rw [h1] at hI
    rw [hlen] at h2
    have HP : Hid (∀ q, CutPost s c w (.returned (.tuple #[.string (s.extract 0 k), .string (s.extract (k + 1) s.size), .bool true])) (w.drewN q)) := fun q => Or.inr ⟨_, _, by
      rw [h3, vb_extract, vb_extract, List.drop_zero, List.take_of_length_le (by omega : (vb s).length ≤ s.size)], by rw [ByteArray.size_extract]; omega, by rw [ByteArray.size_extract]; omega, rfl, q, rfl⟩
    clear h1 h3 hlen
    go_enter Tryz.func108, Tryz.ntmps108
    go_wp2_with (go_at_call 139; refine hI.mono ?_; rintro e w1 ⟨rfl, hw1⟩; rw [hw1]; clear hw1)
    go_quiet (fail)
    go_wp2
    go_ret3
    exact HP.out _
end Go.Proofs.YtkbhckjpmgkgjaaGreatDoor
