/- The journal's calls where there is no journal: nil, or one that no call made; and Open where there is no disk. -/
import Derived.Test.YtlbapnecmhlgmaaNone
namespace Go.Proofs.Ytlbapnecmhlgmaa
open Go.RowKit

/-- No journal: nil, or one that no call made. -/
def NoJ (w : World) (j : Value) : Prop := j = .pointer none ∨ ∃ g, j = .pointer (some ⟨g, 0, none⟩) ∧ Row w g #[.pointer none, .int .i64 0, .int .i64 0, .map none] 56

theorem jmade_no (j : Value) (w : World) (h : NoJ w j) : Calls Try.prog 36 #[j] w fun e w' => e = .returned (.bool false) ∧ w' = w := by
  rcases h with rfl | ⟨g, rfl, hR⟩
  · go_enter Try.func36, Try.ntmps36
    go_wp2
    go_ret
    exact ⟨rfl, rfl⟩
  · have hc : w.cell? ⟨g, 0, none⟩ = some (.pointer none) := (hR.cell 0).trans rfl
    have H := sectors_no (.pointer none) w (.inl rfl)
    clear hR
    go_enter Try.func36, Try.ntmps36
    go_wp2_with fail
    refine H.mono ?_
    rintro e w' ⟨rfl, rfl⟩
    go_wp2
    go_ret
    exact ⟨rfl, rfl⟩
theorem get_no (j n : Value) (w : World) (h : NoJ w j) : Calls Try.prog 23 #[j, n] w fun e w' => e = .returned (.tuple #[.slice none 0 0, .int .i64 1]) ∧ w' = w := by
  have H := jmade_no j w h
  clear h
  go_enter Try.func23, Try.ntmps23
  go_wp2_with fail
  refine H.mono ?_
  rintro e w' ⟨rfl, rfl⟩
  go_wp2
  go_ret2
  exact ⟨rfl, rfl⟩
theorem put_no (j n b : Value) (w : World) (h : NoJ w j) : Calls Try.prog 13 #[j, n, b] w fun e w' => e = .returned (.int .i64 1) ∧ w' = w := by
  have H := jmade_no j w h
  clear h
  go_enter Try.func13, Try.ntmps13
  go_wp2_with fail
  refine H.mono ?_
  rintro e w' ⟨rfl, rfl⟩
  go_wp2
  go_ret
  exact ⟨rfl, rfl⟩
theorem commit_no (j : Value) (w : World) (h : NoJ w j) : Calls Try.prog 15 #[j] w fun e w' => e = .returned (.int .i64 1) ∧ w' = w := by
  have H := jmade_no j w h
  clear h
  go_enter Try.func15, Try.ntmps15
  go_wp2_with fail
  refine H.mono ?_
  rintro e w' ⟨rfl, rfl⟩
  go_wp2
  go_ret
  exact ⟨rfl, rfl⟩
theorem abort_no (j : Value) (w : World) (h : NoJ w j) : Calls Try.prog 17 #[j] w fun e w' => e = .returned (.int .i64 1) ∧ w' = w := by
  have H := jmade_no j w h
  clear h
  go_enter Try.func17, Try.ntmps17
  go_wp2_with fail
  refine H.mono ?_
  rintro e w' ⟨rfl, rfl⟩
  go_wp2
  go_ret
  exact ⟨rfl, rfl⟩
theorem pending_no (j : Value) (w : World) (h : NoJ w j) : Calls Try.prog 24 #[j] w fun e w' => e = .returned (.slice none 0 0) ∧ w' = w := by
  have H := jmade_no j w h
  clear h
  go_enter Try.func24, Try.ntmps24
  go_wp2_with fail
  refine H.mono ?_
  rintro e w' ⟨rfl, rfl⟩
  go_wp2
  go_ret
  exact ⟨rfl, rfl⟩
theorem most_no (j : Value) (w : World) (h : NoJ w j) : Calls Try.prog 22 #[j] w fun e w' => e = .returned (.int .i64 0) ∧ w' = w := by
  have H := jmade_no j w h
  clear h
  go_enter Try.func22, Try.ntmps22
  go_wp2_with fail
  refine H.mono ?_
  rintro e w' ⟨rfl, rfl⟩
  go_wp2
  go_ret
  exact ⟨rfl, rfl⟩
theorem open_no (d at' s : Value) (w : World) (h : NoDisk w d) : Calls Try.prog 10 #[d, at', s] w fun e w' => e = .returned (.tuple #[.pointer none, .int .i64 1]) ∧ w' = w := by
  have H := sectors_no d w h
  clear h
  go_enter Try.func10, Try.ntmps10
  go_wp2_with fail
  refine H.mono ?_
  rintro e w' ⟨rfl, rfl⟩
  go_wp2
  go_ret2
  exact ⟨rfl, rfl⟩
end Go.Proofs.Ytlbapnecmhlgmaa
