/- My own work: the document's own Bump. -/
import Derived.Test.YtdhmlcelofnkgaaGreatDoorR2
import Derived.Test.YtdhmlcelofnkgaaGreatDoorVB
namespace Go.Proofs.YtdhmlcelofnkgaaGreatDoor
open Go.RowKit

/-- The first k numbers of a version, of a count. -/
def headV (v : Ver) (m k : Nat) : Ver := ⟨if 0 < k then v.n0 else 0, if 1 < k then v.n1 else 0, if 2 < k then v.n2 else 0, if 3 < k then v.n3 else 0, m, ⟨#[]⟩⟩
theorem headV_more (v : Ver) (m k : Nat) (hk : k < 4) : setN (headV v m k) k (nAt v k) = headV v m (k + 1) := by
  match k, hk with
  | 0, _ => rfl
  | 1, _ => rfl
  | 2, _ => rfl
  | 3, _ => rfl
theorem headV_bump (v : Ver) (m : Nat) (hm : 1 ≤ m ∧ m ≤ 4) : setN (headV v m m) (m - 1) (nAt v (m - 1) + 1) = bumpV v m := by
  have h4 : m = 1 ∨ m = 2 ∨ m = 3 ∨ m = 4 := by omega
  rcases h4 with rfl | rfl | rfl | rfl <;> rfl
theorem headV_at (v : Ver) (m : Nat) (hm : 1 ≤ m ∧ m ≤ 4) : nAt (headV v m m) (m - 1) = nAt v (m - 1) := by
  have h4 : m = 1 ∨ m = 2 ∨ m = 3 ∨ m = 4 := by omega
  rcases h4 with rfl | rfl | rfl | rfl <;> rfl
theorem ver_cell (o : Ver) (k : Nat) (hk : k < 4) : (verC o)[k]? = some (.int .i64 (nAt o k)) := by
  match k, hk with
  | 0, _ => rfl
  | 1, _ => rfl
  | 2, _ => rfl
  | 3, _ => rfl
theorem setN_same (o : Ver) (k : Nat) (y : Int) (hk : k < 4) : nAt (setN o k y) k = y := by
  match k, hk with
  | 0, _ => rfl
  | 1, _ => rfl
  | 2, _ => rfl
  | 3, _ => rfl
end Go.Proofs.YtdhmlcelofnkgaaGreatDoor
