/- My own work: what path asks of the library: beginnings that are cut off, copies of texts, one byte in a text. -/
import Derived.Test.YthidlckipiamkaaDoorPName
import Derived.Lib.Strings
import Derived.Lib.Slices
import Derived.Lib.Walk
import Derived.Lib.Bytealg
import Derived.Lib.BufferWrite
import Derived.Lib.UnsafeStr
namespace Go.Proofs.YthidlckipiamkaaDoor.S2
open Go.RowKit Math

/-- Is it a beginning? -/
def preB (p t : List UInt8) : Bool := t.take p.length == p
theorem preB_no {p t : List UInt8} (h : t.length < p.length) : preB p t = false := by
  unfold preB
  refine beq_false_of_ne (fun e => ?_)
  have := congrArg List.length e
  rw [List.length_take] at this
  omega
set_option maxRecDepth 20000 in
set_option maxHeartbeats 2000000 in
theorem hasPrefix_in (a b : ByteArray) (w : World) : Calls Tryd.prog 61 #[.string a, .string b] w fun e w' => e = .returned (.bool (preB (bl b) (bl a))) ∧ w' = w := by
  have h1 := bl_len a
  have h2 := bl_len b
  by_cases h : b.size ≤ a.size
  · have HE : Hid (((a.extract 0 b.size).toList == b.toList) = preB (bl b) (bl a)) := by
      show _ = _
      unfold preB
      rw [h2, ByteArray.toList_eq, ByteArray.toList_eq]
      have e : (a.extract 0 b.size).data.toList = (bl a).take b.size := by
        simp [ByteArray.data_extract]
      rw [e]
    go_enter Tryd.func61, Tryd.ntmps61
    go_wp2
    go_ret
    exact ⟨by rw [← HE.out]; rfl, rfl⟩
  · have HE : Hid (preB (bl b) (bl a) = false) := preB_no (by omega)
    go_enter Tryd.func61, Tryd.ntmps61
    go_wp2
    go_ret
    exact ⟨by rw [HE.out]; rfl, rfl⟩
theorem preB_le {a b : ByteArray} (h : preB (bl b) (bl a) = true) : b.size ≤ a.size := by
  rw [← bl_len a, ← bl_len b]
  refine Nat.le_of_not_lt (fun hl => ?_)
  rw [preB_no hl] at h
  cases h
/-- What is left of a text whose beginning is cut off. -/
def cutE (a b : ByteArray) : ByteArray := if preB (bl b) (bl a) then a.extract b.size a.size else a
set_option maxRecDepth 20000 in
set_option maxHeartbeats 2000000 in
theorem cutPrefix_in (a b : ByteArray) (w : World) : Calls Tryd.prog 58 #[.string a, .string b] w fun e w' => e = .returned (.tuple #[.string (cutE a b), .bool (preB (bl b) (bl a))]) ∧ w' = w := by
  have hP := hasPrefix_in a b w
  cases hp : preB (bl b) (bl a) with
  | true =>
    have hle := preB_le hp
    have HC : Hid (cutE a b = a.extract b.size a.size) := by show _ = _; unfold cutE; rw [hp]; rfl
    rw [hp] at hP
    go_enter Tryd.func58, Tryd.ntmps58
    go_wp2_with (go_at_call 61; refine hP.mono ?_; rintro e w1 ⟨rfl, hw1⟩; rw [hw1]; clear hw1)
    go_ret2
    exact ⟨by rw [HC.out]; rfl, rfl⟩
  | false =>
    have HC : Hid (cutE a b = a) := by show _ = _; unfold cutE; rw [hp]; rfl
    rw [hp] at hP
    go_enter Tryd.func58, Tryd.ntmps58
    go_wp2_with (go_at_call 61; refine hP.mono ?_; rintro e w1 ⟨rfl, hw1⟩; rw [hw1]; clear hw1)
    go_ret2
    exact ⟨by rw [HC.out]; rfl, rfl⟩
set_option maxRecDepth 20000 in
theorem cutPrefix_ok (a b : ByteArray) (w : World) : Calls Tryd.prog 52 #[.string a, .string b] w fun e w' => e = .returned (.tuple #[.string (cutE a b), .bool (preB (bl b) (bl a))]) ∧ w' = w := by
  have hP := cutPrefix_in a b w
  go_enter Tryd.func52, Tryd.ntmps52
  go_wp2_with (go_at_call 58; refine hP.mono ?_; rintro e w1 ⟨rfl, hw1⟩; rw [hw1]; clear hw1)
  go_ret2
  exact ⟨rfl, rfl⟩
theorem info5c : (Tryd.prog.info? 5).map (·.size) = some 1 := by kernel_rfl
set_option maxRecDepth 20000 in
set_option maxHeartbeats 2000000 in
theorem clone_in (s : ByteArray) (w : World) (hs : s.size ≤ 140737488355328) : Calls Tryd.prog 27 #[.string s] w fun e w' => e = .returned (.string s) ∧ Below w.heap.size w w' := by
  by_cases h0 : s.size = 0
  · obtain rfl : s = ⟨#[]⟩ := ByteArray.ext (Array.eq_empty_of_size_eq_zero h0)
    go_enter Tryd.func27, Tryd.ntmps27
    go_wp2
    go_ret
    exact ⟨rfl, Below.refl _ _⟩
  · have hlen := bl_len s
    have hmk := run_make_row' (P := Tryd.prog) 38 5 (.int .u8 0) 1 Tryd.underlying38 Tryd.info5 rfl .i64 .i64 s.size (by omega) (by omega)
    obtain ⟨M, hM⟩ : ∃ M, M = madeCells #[Value.int .u8 0] s.size := ⟨_, rfl⟩
    have hMs : M.size = s.size := by rw [hM, size_madeCells]
    rw [← hM] at hmk
    clear hM
    obtain ⟨C, hC⟩ : ∃ C : Array Value, C = (Lib.byteCells (bl s)).toArray := ⟨_, rfl⟩
    have hcp := Lib.run_copy_row_string (P := Tryd.prog) (w.alloc (.cells M 5)) 38 9 3 5 w.heap.size 0 s.size s.size s M 5 Tryd.underlying38 info5c (heap_alloc_new w _) (Nat.le_refl _) (by omega)
    rw [List.take_zero, List.nil_append, List.drop_of_length_le (by rw [Array.length_toList]; omega), List.append_nil, ← hC] at hcp
    have hCl : C.toList = Lib.byteCells (bl s) := by rw [hC]
    have hCs : C.size = s.size := by rw [← Array.length_toList, hCl, Lib.byteCells_length, hlen]
    have hrow : ((w.alloc (.cells M 5)).setRow w.heap.size C).heap[w.heap.size]? = some (.cells C 5 (0, 0)) := setRow_heap _ _ M _ 5 (0, 0) (heap_alloc_new w _)
    have hus := Lib.run_unsafeString_row (P := Tryd.prog) (w := (w.alloc (.cells M 5)).setRow w.heap.size C) 67 3 9 5 Tryd.underlying67 (by kernel_rfl) w.heap.size C.size (by unfold World.shape?; rw [hrow]) (bl s) (fun e => h0 (by rw [← hlen, e]; rfl)) (by omega) (by omega)
      (fun j x hx => Lib.cells_of_row hrow C.size j _ (by rw [List.take_of_length_le (by rw [Array.length_toList]; exact Nat.le_refl _), hCl]; simp [Lib.byteCells, hx]))
    rw [hlen] at hus
    clear hC
    go_enter Tryd.func27, Tryd.ntmps27
    go_wp2
    go_ret
    have b1 : Below w.heap.size w (w.alloc (.cells M 5)) := (Below.refl _ w).alloc (Nat.le_refl _) _
    exact ⟨rfl, Lib.below_freeze (below_setRow b1 (Nat.le_refl _) _) (p := ⟨w.heap.size, 0, none⟩) (Nat.le_refl _) _⟩
theorem clone_ok (s : ByteArray) (w : World) (hs : s.size ≤ 140737488355328) : Calls Tryd.prog 13 #[.string s] w fun e w' => e = .returned (.string s) ∧ Below w.heap.size w w' := by
  have hC := clone_in s w hs
  go_enter Tryd.func13, Tryd.ntmps13
  go_wp2_with fail
  refine hC.mono ?_
  rintro e w1 ⟨rfl, hb⟩
  go_wp2
  go_ret
  exact ⟨rfl, hb⟩
set_option maxRecDepth 20000 in
theorem indexByte_in (s : ByteArray) (c : UInt8) (w : World) : Calls Tryd.prog 38 #[.string s, .int .u8 c.toNat] w fun e w' => e = .returned (.int .i64 (Lib.indexByte (bl s) c)) ∧ w' = w := by
  go_enter Tryd.func38, Tryd.ntmps38
  go_wp2
  rw [run_callFunc_extern Tryd.func48 (by kernel_rfl) (by kernel_rfl) (by kernel_rfl) (e := Extern.BytealgIndexByte.indexByte) (by kernel_rfl), Lib.run_indexByteString]
  simp only [Result.andThen]
  rw [Oper.upon_value]
  go_wp2
  go_ret
  exact ⟨rfl, rfl⟩
set_option maxRecDepth 100000 in
set_option maxHeartbeats 2000000 in
theorem index_in (s : ByteArray) (c : UInt8) (w : World) : Calls Tryd.prog 39 #[.string s, .string ⟨#[c]⟩] w fun e w' => e = .returned (.int .i64 (Lib.indexByte (bl s) c)) ∧ w' = w := by
  have hI := indexByte_in s c w
  by_cases h : s = ⟨#[c]⟩
  · subst h
    have HE : Hid (Lib.indexByte (bl ⟨#[c]⟩) c = 0) := by show _ = _; simp [Lib.indexByte]
    go_enter Tryd.func39, Tryd.ntmps39
    go_wp2_with (go_at_call 38; refine hI.mono ?_; rintro e w1 ⟨rfl, hw1⟩; rw [hw1]; clear hw1)
    go_ret
    exact ⟨by rw [HE.out]; rfl, rfl⟩
  · have hb : ((([c] : List UInt8) == s.toList) = false) := by
      refine beq_false_of_ne (fun e => h ?_)
      apply ByteArray.ext
      rw [ByteArray.toList_eq] at e
      rw [← Array.toArray_toList (xs := s.data), ← e]
    go_enter Tryd.func39, Tryd.ntmps39
    go_wp2_with (go_at_call 38; refine hI.mono ?_; rintro e w1 ⟨rfl, hw1⟩; rw [hw1]; clear hw1)
    go_ret
    exact ⟨rfl, rfl⟩
/-- Is a byte in a text? -/
def hasB (l : List UInt8) (c : UInt8) : Bool := l.contains c
theorem indexByte_has (l : List UInt8) (c : UInt8) : decide (0 ≤ Lib.indexByte l c) = hasB l c := by
  unfold hasB
  induction l with
  | nil => rfl
  | cons b r ih =>
    have hg := Lib.indexByte_ge r c
    rw [List.contains_cons, ← ih, show Lib.indexByte (b :: r) c = (if b == c then 0 else if Lib.indexByte r c == -1 then -1 else Lib.indexByte r c + 1) from rfl]
    by_cases h : b = c
    · subst h; simp
    · have h1 : (b == c) = false := beq_false_of_ne h
      have h2 : (c == b) = false := beq_false_of_ne (fun e => h e.symm)
      rw [h1, h2, Bool.false_or]
      by_cases h3 : Lib.indexByte r c = -1
      · simp [h3]
      · simp [h3]
        omega
/-- May a kind be? -/
def kindB (l : List UInt8) : Bool := decide (1 ≤ l.length ∧ l.length ≤ 20) && !hasB l 58
end Go.Proofs.YthidlckipiamkaaDoor.S2
