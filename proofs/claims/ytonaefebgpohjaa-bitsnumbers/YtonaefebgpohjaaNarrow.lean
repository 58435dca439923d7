/- The walks of bits.Narrow and of the law over it: what each call answers, in any world; nothing in memory turns. -/
import Derived.Test.YtonaefebgpohjaaRows
import Derived.Test.YtonaefebgpohjaaMath
import Derived.WalkKit
import Derived.WalkSpells
import Derived.WalkLawsBesides
namespace Go.Proofs.Ytonaefebgpohjaa
open Go.RowKit Math
set_option maxHeartbeats 400000 in
theorem narrow_any (v n : Int) (w : World) (hn : 1 ≤ n) (hn' : n ≤ 64) :
    Calls Try.prog 11 #[.int .u64 v, .int .i64 n] w fun e w' => e = .returned (.tuple #[.int .i64 (nar v n), .int .i64 0]) ∧ w' = w := by
  unfold nar
  go_enter Try.func11, Try.ntmps11
  go_wp2
  go_ret2
  exact ⟨rfl, rfl⟩
set_option maxHeartbeats 400000 in
theorem law_narrow1 (v a m x mk lo hi : Int) (w : World) (hm : bits .and .i64 a 63 = m) (hm0 : 0 ≤ m) (hm' : m ≤ 62)
    (hx : nar v (1 + m) = x) (hx2 : nar (IntKind.u64.wrap x) (1 + m) = x) (hs : (18446744073709551615 : Int) / 2 ^ (64 - (1 + m)).toNat = mk)
    (F1 : (bits .and .u64 (IntKind.u64.wrap x) mk != bits .and .u64 v mk) = false) (hlo : wrap64 (-wrap64 (2 ^ ((1 + m).toNat - 1))) = lo) (hhi : wrap64 (wrap64 (2 ^ ((1 + m).toNat - 1)) - 1) = hi) (h1 : lo ≤ x) (h2 : x ≤ hi) :
    Calls Try.prog 5 #[.int .u64 v, .int .i64 a] w fun e w' => e = .returned (.bool true) ∧ w' = w := by
  go_enter Try.func5, Try.ntmps5
  go_wp2_with (go_at_call 11; refine (narrow_any _ _ _ (by omega) (by omega)).mono ?_; rintro e w' ⟨rfl, rfl⟩)
  go_ret
  exact ⟨rfl, rfl⟩
set_option maxHeartbeats 400000 in
theorem law_narrow2 (v a x : Int) (w : World) (hm : bits .and .i64 a 63 = 63) 
    (hx : nar v 64 = x) (hx2 : nar (IntKind.u64.wrap x) 64 = x) 
    (F1 : (bits .and .u64 (IntKind.u64.wrap x) 18446744073709551615 != bits .and .u64 v 18446744073709551615) = false) :
    Calls Try.prog 5 #[.int .u64 v, .int .i64 a] w fun e w' => e = .returned (.bool true) ∧ w' = w := by
  go_enter Try.func5, Try.ntmps5
  go_wp2_with (go_at_call 11; refine (narrow_any _ _ _ (by omega) (by omega)).mono ?_; rintro e w' ⟨rfl, rfl⟩)
  go_ret
  exact ⟨rfl, rfl⟩
end Go.Proofs.Ytonaefebgpohjaa
