/- The journal's calls where there is no journal: nil, or one that no call made; and Open where there is no disk. -/
import Derived.Test.YtdbnnljlbfjobaaGreatDoorNone
namespace Go.Proofs.YtdbnnljlbfjobaaGreatDoor
open Go.RowKit

/-- No journal: nil, or one that no call made. -/
def NoJ (w : World) (j : Value) : Prop := j = .pointer none ∨ ∃ g, j = .pointer (some ⟨g, 0, none⟩) ∧ Row w g #[.pointer none, .int .i64 0, .int .i64 0, .map none] 132

theorem jmade_no (j : Value) (w : World) (h : NoJ w j) : Calls Tryz.prog 84 #[j] w fun e w' => e = .returned (.bool false) ∧ w' = w := by
  rcases h with rfl | ⟨g, rfl, hR⟩
  · go_enter Tryz.func84, Tryz.ntmps84
    go_wp2
    go_ret
    exact ⟨rfl, rfl⟩
  · have hc : w.cell? ⟨g, 0, none⟩ = some (.pointer none) := (hR.cell 0).trans rfl
    have H := sectors_no (.pointer none) w (.inl rfl)
    clear hR
    go_enter Tryz.func84, Tryz.ntmps84
    go_wp2_with fail
    refine H.mono ?_
    rintro e w' ⟨rfl, rfl⟩
    go_wp2
    go_ret
    exact ⟨rfl, rfl⟩
theorem put_no (j n b : Value) (w : World) (h : NoJ w j) : Calls Tryz.prog 38 #[j, n, b] w fun e w' => e = .returned (.int .i64 1) ∧ w' = w := by
  have H := jmade_no j w h
  clear h
  go_enter Tryz.func38, Tryz.ntmps38
  go_wp2_with fail
  refine H.mono ?_
  rintro e w' ⟨rfl, rfl⟩
  go_wp2
  go_ret
  exact ⟨rfl, rfl⟩
theorem commit_no (j : Value) (w : World) (h : NoJ w j) : Calls Tryz.prog 40 #[j] w fun e w' => e = .returned (.int .i64 1) ∧ w' = w := by
  have H := jmade_no j w h
  clear h
  go_enter Tryz.func40, Tryz.ntmps40
  go_wp2_with fail
  refine H.mono ?_
  rintro e w' ⟨rfl, rfl⟩
  go_wp2
  go_ret
  exact ⟨rfl, rfl⟩
theorem pending_no (j : Value) (w : World) (h : NoJ w j) : Calls Tryz.prog 88 #[j] w fun e w' => e = .returned (.slice none 0 0) ∧ w' = w := by
  have H := jmade_no j w h
  clear h
  go_enter Tryz.func88, Tryz.ntmps88
  go_wp2_with fail
  refine H.mono ?_
  rintro e w' ⟨rfl, rfl⟩
  go_wp2
  go_ret
  exact ⟨rfl, rfl⟩
theorem most_no (j : Value) (w : World) (h : NoJ w j) : Calls Tryz.prog 87 #[j] w fun e w' => e = .returned (.int .i64 0) ∧ w' = w := by
  have H := jmade_no j w h
  clear h
  go_enter Tryz.func87, Tryz.ntmps87
  go_wp2_with fail
  refine H.mono ?_
  rintro e w' ⟨rfl, rfl⟩
  go_wp2
  go_ret
  exact ⟨rfl, rfl⟩
theorem open_no (d at' s : Value) (w : World) (h : NoDisk w d) : Calls Tryz.prog 66 #[d, at', s] w fun e w' => e = .returned (.tuple #[.pointer none, .int .i64 1]) ∧ w' = w := by
  have H := sectors_no d w h
  clear h
  go_enter Tryz.func66, Tryz.ntmps66
  go_wp2_with fail
  refine H.mono ?_
  rintro e w' ⟨rfl, rfl⟩
  go_wp2
  go_ret2
  exact ⟨rfl, rfl⟩
end Go.Proofs.YtdbnnljlbfjobaaGreatDoor
