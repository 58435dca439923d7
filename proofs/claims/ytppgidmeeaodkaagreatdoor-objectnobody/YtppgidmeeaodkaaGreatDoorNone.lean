/- The disk's calls where there is no disk: nil, or one that no call made. -/
import Derived.Test.YtppgidmeeaodkaaGreatDoorBase
namespace Go.Proofs.YtppgidmeeaodkaaGreatDoor
open Go.RowKit

/-- No disk: nil, or three slices that are nil. -/
def NoDisk (w : World) (d : Value) : Prop := d = .pointer none ∨ ∃ g, d = .pointer (some ⟨g, 0, none⟩) ∧ Row w g #[.slice none 0 0, .slice none 0 0, .slice none 0 0] 138

theorem made_no (d : Value) (w : World) (h : NoDisk w d) : Calls Tryz.prog 121 #[d] w fun e w' => e = .returned (.bool false) ∧ w' = w := by
  rcases h with rfl | ⟨g, rfl, hR⟩
  · go_enter Tryz.func121, Tryz.ntmps121
    go_wp2
    go_ret
    exact ⟨rfl, rfl⟩
  · have hc : w.cell? ⟨g, 1, none⟩ = some (.slice none 0 0) := (hR.cell 1).trans rfl
    clear hR
    go_enter Tryz.func121, Tryz.ntmps121
    go_wp2
    go_ret
    exact ⟨rfl, rfl⟩

theorem sectors_no (d : Value) (w : World) (h : NoDisk w d) : Calls Tryz.prog 86 #[d] w fun e w' => e = .returned (.int .i64 0) ∧ w' = w := by
  have H := made_no d w h
  clear h
  go_enter Tryz.func86, Tryz.ntmps86
  go_wp2_with fail
  refine H.mono ?_
  rintro e w' ⟨rfl, rfl⟩
  go_wp2
  go_ret
  exact ⟨rfl, rfl⟩
theorem flush_no (d : Value) (w : World) (h : NoDisk w d) : Calls Tryz.prog 63 #[d] w fun e w' => e = .returned (.int .i64 1) ∧ w' = w := by
  have H := made_no d w h
  clear h
  go_enter Tryz.func63, Tryz.ntmps63
  go_wp2_with fail
  refine H.mono ?_
  rintro e w' ⟨rfl, rfl⟩
  go_wp2
  go_ret
  exact ⟨rfl, rfl⟩
theorem read_no (d n : Value) (w : World) (h : NoDisk w d) : Calls Tryz.prog 148 #[d, n] w fun e w' => e = .returned (.tuple #[.slice none 0 0, .int .i64 1]) ∧ w' = w := by
  have H := made_no d w h
  clear h
  go_enter Tryz.func148, Tryz.ntmps148
  go_wp2_with fail
  refine H.mono ?_
  rintro e w' ⟨rfl, rfl⟩
  go_wp2
  go_ret2
  exact ⟨rfl, rfl⟩
theorem write_no (d n b : Value) (w : World) (h : NoDisk w d) : Calls Tryz.prog 128 #[d, n, b] w fun e w' => e = .returned (.int .i64 1) ∧ w' = w := by
  have H := made_no d w h
  clear h
  go_enter Tryz.func128, Tryz.ntmps128
  go_wp2_with fail
  refine H.mono ?_
  rintro e w' ⟨rfl, rfl⟩
  go_wp2
  go_ret
  exact ⟨rfl, rfl⟩
end Go.Proofs.YtppgidmeeaodkaaGreatDoor
