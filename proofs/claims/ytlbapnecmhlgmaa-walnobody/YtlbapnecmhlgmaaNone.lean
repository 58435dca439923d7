/- The disk's calls where there is no disk: nil, or one that no call made. -/
import Derived.Test.YtlbapnecmhlgmaaBase
namespace Go.Proofs.Ytlbapnecmhlgmaa
open Go.RowKit

/-- No disk: nil, or three slices that are nil. -/
def NoDisk (w : World) (d : Value) : Prop := d = .pointer none ∨ ∃ g, d = .pointer (some ⟨g, 0, none⟩) ∧ Row w g #[.slice none 0 0, .slice none 0 0, .slice none 0 0] 64

theorem made_no (d : Value) (w : World) (h : NoDisk w d) : Calls Try.prog 46 #[d] w fun e w' => e = .returned (.bool false) ∧ w' = w := by
  rcases h with rfl | ⟨g, rfl, hR⟩
  · go_enter Try.func46, Try.ntmps46
    go_wp2
    go_ret
    exact ⟨rfl, rfl⟩
  · have hc : w.cell? ⟨g, 1, none⟩ = some (.slice none 0 0) := (hR.cell 1).trans rfl
    clear hR
    go_enter Try.func46, Try.ntmps46
    go_wp2
    go_ret
    exact ⟨rfl, rfl⟩

theorem sectors_no (d : Value) (w : World) (h : NoDisk w d) : Calls Try.prog 30 #[d] w fun e w' => e = .returned (.int .i64 0) ∧ w' = w := by
  have H := made_no d w h
  clear h
  go_enter Try.func30, Try.ntmps30
  go_wp2_with fail
  refine H.mono ?_
  rintro e w' ⟨rfl, rfl⟩
  go_wp2
  go_ret
  exact ⟨rfl, rfl⟩
theorem events_no (d : Value) (w : World) (h : NoDisk w d) : Calls Try.prog 26 #[d] w fun e w' => e = .returned (.int .i64 0) ∧ w' = w := by
  have H := made_no d w h
  clear h
  go_enter Try.func26, Try.ntmps26
  go_wp2_with fail
  refine H.mono ?_
  rintro e w' ⟨rfl, rfl⟩
  go_wp2
  go_ret
  exact ⟨rfl, rfl⟩
theorem flush_no (d : Value) (w : World) (h : NoDisk w d) : Calls Try.prog 41 #[d] w fun e w' => e = .returned (.int .i64 1) ∧ w' = w := by
  have H := made_no d w h
  clear h
  go_enter Try.func41, Try.ntmps41
  go_wp2_with fail
  refine H.mono ?_
  rintro e w' ⟨rfl, rfl⟩
  go_wp2
  go_ret
  exact ⟨rfl, rfl⟩
theorem read_no (d n : Value) (w : World) (h : NoDisk w d) : Calls Try.prog 28 #[d, n] w fun e w' => e = .returned (.tuple #[.slice none 0 0, .int .i64 1]) ∧ w' = w := by
  have H := made_no d w h
  clear h
  go_enter Try.func28, Try.ntmps28
  go_wp2_with fail
  refine H.mono ?_
  rintro e w' ⟨rfl, rfl⟩
  go_wp2
  go_ret2
  exact ⟨rfl, rfl⟩
theorem write_no (d n b : Value) (w : World) (h : NoDisk w d) : Calls Try.prog 19 #[d, n, b] w fun e w' => e = .returned (.int .i64 1) ∧ w' = w := by
  have H := made_no d w h
  clear h
  go_enter Try.func19, Try.ntmps19
  go_wp2_with fail
  refine H.mono ?_
  rintro e w' ⟨rfl, rfl⟩
  go_wp2
  go_ret
  exact ⟨rfl, rfl⟩
theorem after_no (d n k : Value) (w : World) (h : NoDisk w d) : Calls Try.prog 27 #[d, n, k] w fun e w' => e = .returned (.tuple #[.pointer none, .int .i64 1]) ∧ w' = w := by
  have H := made_no d w h
  clear h
  go_enter Try.func27, Try.ntmps27
  go_wp2_with fail
  refine H.mono ?_
  rintro e w' ⟨rfl, rfl⟩
  go_wp2
  go_ret2
  exact ⟨rfl, rfl⟩
end Go.Proofs.Ytlbapnecmhlgmaa
