/- The walks of slices.Sort and of what it calls, on at most twelve ints. -/
import Derived.Test.YtdbnnljlbfjobaaGreatDoorSort
namespace Go.Proofs.YtdbnnljlbfjobaaGreatDoor
open Go.RowKit

set_option maxRecDepth 20000 in
set_option maxHeartbeats 4000000 in
theorem pdq_ok (b n c : Nat) (F0 : Nat → Int) (lim : Int) (w : World) (hn : n ≤ 12) (hI : Ints w b n F0) :
    Calls Tryz.prog 141 #[.slice (some ⟨b, 0, none⟩) n c, .int .i64 0, .int .i64 n, .int .i64 lim] w fun e w' => (∃ v, e = .returned v) ∧ ∃ F, Ints w' b n F ∧ Alike n F F0 ∧ (∀ p q, p < q → q < n → F p ≤ F q) ∧ One b w w' := by
  have H := ins_ok b n c F0 w hn hI
  have HH : Hid _ := H
  clear H hI
  go_enter Tryz.func141, Tryz.ntmps141
  go_wp2
  go_loopw [1, 2] (fun av bv wx => av = .int .i64 0 ∧ bv = .int .i64 n ∧ wx = w) (fun _ _ _ => 0)
  case atStart => exact ⟨rfl, rfl, rfl⟩
  case round =>
    obtain ⟨rfl, rfl, rfl⟩ := hrel
    have hn12 : (n : Int) ≤ 12 := by omega
    go_wp2_with fail
    refine Calls.mono HH.out ?_
    rintro e w' ⟨⟨v, rfl⟩, F, h1, h2, h3, h4⟩
    go_wp2
    (try simp only [Exit.inBlock, Exit.then])
    refine bodyPost_ret (results_none rfl _ _ _) rfl ?_
    exact ⟨⟨_, rfl⟩, F, h1, h2, h3, h4⟩
set_option maxHeartbeats 4000000 in
set_option maxRecDepth 100000 in
theorem len64_some (n : Nat) (w : World) (hn : n ≤ 12) : Calls Tryz.prog 158 #[.int .u64 n] w fun e w' => (∃ k, e = .returned (.int .i64 k)) ∧ w' = w := by
  have h1 : ¬ (4294967296 : Int) ≤ n := by omega
  have h2 : ¬ (65536 : Int) ≤ n := by omega
  have h3 : ¬ (256 : Int) ≤ n := by omega
  go_enter Tryz.func158, Tryz.ntmps158
  go_wp2
  all_goals (go_ret; exact ⟨⟨_, rfl⟩, rfl⟩)
theorem len_some (n : Nat) (w : World) (hn : n ≤ 12) : Calls Tryz.prog 131 #[.int .u64 n] w fun e w' => (∃ k, e = .returned (.int .i64 k)) ∧ w' = w := by
  have H := len64_some n w hn
  go_enter Tryz.func131, Tryz.ntmps131
  go_wp2_with fail
  refine H.mono ?_
  rintro e w' ⟨⟨k, rfl⟩, rfl⟩
  go_wp2
  go_ret
  exact ⟨⟨_, rfl⟩, rfl⟩
set_option maxRecDepth 20000 in
theorem sort_ok (b n c : Nat) (F0 : Nat → Int) (w : World) (hn : n ≤ 12) (hI : Ints w b n F0) :
    Calls Tryz.prog 122 #[.slice (some ⟨b, 0, none⟩) n c] w fun e w' => (∃ v, e = .returned v) ∧ ∃ F, Ints w' b n F ∧ Alike n F F0 ∧ (∀ p q, p < q → q < n → F p ≤ F q) ∧ One b w w' := by
  have H := fun k => pdq_ok b n c F0 k w hn hI
  have HH : Hid _ := H
  have HL := len_some n w hn
  clear H hI
  go_enter Tryz.func122, Tryz.ntmps122
  go_wp2_with fail
  refine HL.mono ?_
  rintro e w' ⟨⟨k, rfl⟩, hw'⟩
  subst w'
  go_wp2_with fail
  refine Calls.mono (HH.out k) ?_
  rintro e w' ⟨⟨v, rfl⟩, h⟩
  go_wp2
  go_end0
  exact ⟨⟨_, rfl⟩, h⟩
end Go.Proofs.YtdbnnljlbfjobaaGreatDoor
