/- My own work: the closures of the program's Read. -/
import Derived.Test.YthidlckipiamkaaDoorOT8
namespace Go.Proofs.YthidlckipiamkaaDoor
open Go.RowKit
open S2 (bl bl_len bl_inj)

set_option maxHeartbeats 1000000 in
/-- What is said of the hash. -/
theorem say_hash (w1 : World) (p h d x : ByteArray) (rs : List ByteArray) (v : Value) (wx : World) (H : DR w1 p h d rs v wx) : Calls Tryd.prog 14 #[.string x, .pointer (some ⟨w1.heap.size, 0, none⟩)] wx fun e w' => (∃ r, e = .returned r) ∧ DR w1 p x d rs v w' := by
  have q1 := (H.row.cell 1).trans (rfl : _ = some (Value.string h))
  have f1 := H.row.frozen 1
  have HD : Hid _ := H.setH x
  clear H
  go_enter Tryd.func14, Tryd.ntmps14
  go_wp2
  refine bodyPost_end (results_none rfl _ _ _) rfl ?_
  exact ⟨⟨_, rfl⟩, HD.out⟩
set_option maxHeartbeats 1000000 in
/-- What is said of the deriver. -/
theorem say_der (w1 : World) (p h d x : ByteArray) (rs : List ByteArray) (v : Value) (wx : World) (H : DR w1 p h d rs v wx) : Calls Tryd.prog 15 #[.string x, .pointer (some ⟨w1.heap.size, 0, none⟩)] wx fun e w' => (∃ r, e = .returned r) ∧ DR w1 p h x rs v w' := by
  have q1 := (H.row.cell 2).trans (rfl : _ = some (Value.string d))
  have f1 := H.row.frozen 2
  have HD : Hid _ := H.setD x
  clear H
  go_enter Tryd.func15, Tryd.ntmps15
  go_wp2
  refine bodyPost_end (results_none rfl _ _ _) rfl ?_
  exact ⟨⟨_, rfl⟩, HD.out⟩
end Go.Proofs.YthidlckipiamkaaDoor
