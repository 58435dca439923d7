/- The disk's calls where there is no disk: nil, or one that no call made. -/
import Derived.Test.YtdbnnljlbfjobaaGreatDoorBase
namespace Go.Proofs.YtdbnnljlbfjobaaGreatDoor
open Go.RowKit

/-- No disk: nil, or three slices that are nil. -/
def NoDisk (w : World) (d : Value) : Prop := d = .pointer none ∨ ∃ g, d = .pointer (some ⟨g, 0, none⟩) ∧ Row w g #[.slice none 0 0, .slice none 0 0, .slice none 0 0] 60

theorem made_no (d : Value) (w : World) (h : NoDisk w d) : Calls Tryz.prog 60 #[d] w fun e w' => e = .returned (.bool false) ∧ w' = w := by
  rcases h with rfl | ⟨g, rfl, hR⟩
  · go_enter Tryz.func60, Tryz.ntmps60
    go_wp2
    go_ret
    exact ⟨rfl, rfl⟩
  · have hc : w.cell? ⟨g, 1, none⟩ = some (.slice none 0 0) := (hR.cell 1).trans rfl
    clear hR
    go_enter Tryz.func60, Tryz.ntmps60
    go_wp2
    go_ret
    exact ⟨rfl, rfl⟩

theorem sectors_no (d : Value) (w : World) (h : NoDisk w d) : Calls Tryz.prog 65 #[d] w fun e w' => e = .returned (.int .i64 0) ∧ w' = w := by
  have H := made_no d w h
  clear h
  go_enter Tryz.func65, Tryz.ntmps65
  go_wp2_with fail
  refine H.mono ?_
  rintro e w' ⟨rfl, rfl⟩
  go_wp2
  go_ret
  exact ⟨rfl, rfl⟩
theorem events_no (d : Value) (w : World) (h : NoDisk w d) : Calls Tryz.prog 24 #[d] w fun e w' => e = .returned (.int .i64 0) ∧ w' = w := by
  have H := made_no d w h
  clear h
  go_enter Tryz.func24, Tryz.ntmps24
  go_wp2_with fail
  refine H.mono ?_
  rintro e w' ⟨rfl, rfl⟩
  go_wp2
  go_ret
  exact ⟨rfl, rfl⟩
theorem flush_no (d : Value) (w : World) (h : NoDisk w d) : Calls Tryz.prog 37 #[d] w fun e w' => e = .returned (.int .i64 1) ∧ w' = w := by
  have H := made_no d w h
  clear h
  go_enter Tryz.func37, Tryz.ntmps37
  go_wp2_with fail
  refine H.mono ?_
  rintro e w' ⟨rfl, rfl⟩
  go_wp2
  go_ret
  exact ⟨rfl, rfl⟩
theorem read_no (d n : Value) (w : World) (h : NoDisk w d) : Calls Tryz.prog 107 #[d, n] w fun e w' => e = .returned (.tuple #[.slice none 0 0, .int .i64 1]) ∧ w' = w := by
  have H := made_no d w h
  clear h
  go_enter Tryz.func107, Tryz.ntmps107
  go_wp2_with fail
  refine H.mono ?_
  rintro e w' ⟨rfl, rfl⟩
  go_wp2
  go_ret2
  exact ⟨rfl, rfl⟩
theorem write_no (d n b : Value) (w : World) (h : NoDisk w d) : Calls Tryz.prog 89 #[d, n, b] w fun e w' => e = .returned (.int .i64 1) ∧ w' = w := by
  have H := made_no d w h
  clear h
  go_enter Tryz.func89, Tryz.ntmps89
  go_wp2_with fail
  refine H.mono ?_
  rintro e w' ⟨rfl, rfl⟩
  go_wp2
  go_ret
  exact ⟨rfl, rfl⟩
theorem after_no (d n k : Value) (w : World) (h : NoDisk w d) : Calls Tryz.prog 25 #[d, n, k] w fun e w' => e = .returned (.tuple #[.pointer none, .int .i64 1]) ∧ w' = w := by
  have H := made_no d w h
  clear h
  go_enter Tryz.func25, Tryz.ntmps25
  go_wp2_with fail
  refine H.mono ?_
  rintro e w' ⟨rfl, rfl⟩
  go_wp2
  go_ret2
  exact ⟨rfl, rfl⟩
end Go.Proofs.YtdbnnljlbfjobaaGreatDoor
