/- The walks of entries, rightNames and rightAlone: what is wrong with one node by itself. -/
import Derived.Test.YthidlckipiamkaaDoorSizes
import Derived.Test.YthidlckipiamkaaDoorPermA
namespace Go.Proofs.YthidlckipiamkaaDoor
open Go.RowKit

/-- One text is at or ahead of another one. -/
def sLe (a b : ByteArray) : Bool := Op.bytesLess a.toList b.toList || a.toList == b.toList
/-- Is what stands there a name, behind the one ahead of it? -/
def nmOk (ns : List ByteArray) (i : Nat) : Bool := nameB (ns.getD i ⟨#[]⟩) && (decide (i = 0) || !sLe (ns.getD i ⟨#[]⟩) (ns.getD (i - 1) ⟨#[]⟩))
def namesB (ns : List ByteArray) : Bool := (List.range ns.length).all fun i => nmOk ns i
theorem namesB_no (ns : List ByteArray) (k : Nat) (h : k < ns.length) (hb : nmOk ns k = false) : namesB ns = false := by
  unfold namesB
  rw [List.all_eq_false]
  exact ⟨k, List.mem_range.2 h, by simp [hb]⟩
theorem namesB_yes (ns : List ByteArray) (h : ∀ k, k < ns.length → nmOk ns k = true) : namesB ns = true := by
  unfold namesB
  rw [List.all_eq_true]
  exact fun k hk => h k (List.mem_range.1 hk)
theorem getD_at (ns : List ByteArray) (i : Nat) (h : i < ns.length) : ns.getD i ⟨#[]⟩ = ns[i] := by simp [List.getD, List.getElem?_eq_getElem h]

end Go.Proofs.YthidlckipiamkaaDoor
