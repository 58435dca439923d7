/- My own work: strings.Clone (after stage 9's text). -/
import Derived.Test.YtkbhckjpmgkgjaaGreatDoorBase
import Derived.Lib.Strings
import Derived.Deep.OwnRows
import Derived.Lib.Slices
import Derived.Lib.Walk
import Derived.Lib.BufferWrite
import Derived.Lib.UnsafeStr
namespace Go.Proofs.YtkbhckjpmgkgjaaGreatDoor
open Go.RowKit

abbrev bl (s : ByteArray) : List UInt8 := s.data.toList
theorem bl_len (s : ByteArray) : (bl s).length = s.size := by rw [Array.length_toList]; rfl
theorem info5z : (Tryz.prog.info? 5).map (fun i => (i.zero, i.size, i.bytes)) = some (some (.int .u8 0), 1, 1) := by kernel_rfl
theorem info5c : (Tryz.prog.info? 5).map (·.size) = some 1 := by kernel_rfl
set_option maxRecDepth 20000 in
set_option maxHeartbeats 2000000 in
theorem clone_in (s : ByteArray) (w : World) (hs : s.size ≤ 140737488355328) : Calls Tryz.prog 90 #[.string s] w fun e w' => e = .returned (.string s) ∧ Below w.heap.size w w' := by
  by_cases h0 : s.size = 0
  · obtain rfl : s = ⟨#[]⟩ := ByteArray.ext (Array.eq_empty_of_size_eq_zero h0)
    go_enter Tryz.func90, Tryz.ntmps90
    go_wp2
    go_ret
    exact ⟨rfl, Below.refl _ _⟩
  · have hlen := bl_len s
    have hmk := run_make_row' (P := Tryz.prog) 69 5 (.int .u8 0) 1 Tryz.underlying69 info5z rfl .i64 .i64 s.size (by omega) (by omega)
    obtain ⟨M, hM⟩ : ∃ M, M = madeCells #[Value.int .u8 0] s.size := ⟨_, rfl⟩
    have hMs : M.size = s.size := by rw [hM, size_madeCells]
    rw [← hM] at hmk
    clear hM
    obtain ⟨C, hC⟩ : ∃ C : Array Value, C = (Lib.byteCells (bl s)).toArray := ⟨_, rfl⟩
    have hcp := Lib.run_copy_row_string (P := Tryz.prog) (w.alloc (.cells M 5)) 69 9 3 5 w.heap.size 0 s.size s.size s M 5 Tryz.underlying69 info5c (heap_alloc_new w _) (Nat.le_refl _) (by omega)
    rw [List.take_zero, List.nil_append, List.drop_of_length_le (by rw [Array.length_toList]; omega), List.append_nil, ← hC] at hcp
    have hCl : C.toList = Lib.byteCells (bl s) := by rw [hC]
    have hCs : C.size = s.size := by rw [← Array.length_toList, hCl, Lib.byteCells_length, hlen]
    have hrow : ((w.alloc (.cells M 5)).setRow w.heap.size C).heap[w.heap.size]? = some (.cells C 5 (0, 0)) := setRow_heap _ _ M _ 5 (0, 0) (heap_alloc_new w _)
    have hus := Lib.run_unsafeString_row (P := Tryz.prog) (w := (w.alloc (.cells M 5)).setRow w.heap.size C) 192 3 9 5 Tryz.underlying192 (by kernel_rfl) w.heap.size C.size (by unfold World.shape?; rw [hrow]) (bl s) (fun e => h0 (by rw [← hlen, e]; rfl)) (by omega) (by omega)
      (fun j x hx => Lib.cells_of_row hrow C.size j _ (by rw [List.take_of_length_le (by rw [Array.length_toList]; exact Nat.le_refl _), hCl]; simp [Lib.byteCells, hx]))
    rw [hlen] at hus
    clear hC
    go_enter Tryz.func90, Tryz.ntmps90
    go_wp2
    go_ret
    have b1 : Below w.heap.size w (w.alloc (.cells M 5)) := (Below.refl _ w).alloc (Nat.le_refl _) _
    exact ⟨rfl, Lib.below_freeze (below_setRow b1 (Nat.le_refl _) _) (p := ⟨w.heap.size, 0, none⟩) (Nat.le_refl _) _⟩
theorem clone_ok (s : ByteArray) (w : World) (hs : s.size ≤ 140737488355328) : Calls Tryz.prog 58 #[.string s] w fun e w' => e = .returned (.string s) ∧ Below w.heap.size w w' := by
  have hC := clone_in s w hs
  go_enter Tryz.func58, Tryz.ntmps58
  go_wp2_with fail
  refine hC.mono ?_
  rintro e w1 ⟨rfl, hb⟩
  go_wp2
  go_ret
  exact ⟨rfl, hb⟩
end Go.Proofs.YtkbhckjpmgkgjaaGreatDoor
