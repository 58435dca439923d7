/- The walks of isName and Name: is a text a name? -/
import Derived.Test.YthidlckipiamkaaDoorNd
namespace Go.Proofs.YthidlckipiamkaaDoor
open Go.RowKit

/-- A byte that a name may have. -/
def okB (c : Int) : Bool := !decide (c < 33) && !decide (126 < c) && !decide (c = 47)
def bytesOk (s : ByteArray) : Bool := (List.range s.size).all fun i => okB (bf s i)
/-- Is it a name? -/
def nameB (s : ByteArray) : Bool := decide (1 ≤ s.size) && decide (s.size ≤ 60) && !decide (s = ⟨#[46]⟩) && !decide (s = ⟨#[46, 46]⟩) && bytesOk s
theorem bf_at (s : ByteArray) (k : Nat) (h : k < s.size) : bf s k = (s[k].toNat : Int) := by
  unfold bf
  have h' : k < s.data.size := h
  rw [Array.getElem?_eq_getElem h']
  rfl
theorem str_ne {s t : ByteArray} (h : s ≠ t) : (s.toList == t.data.toList) = false := by
  rw [ByteArray.toList_eq]
  apply beq_false_of_ne
  intro e
  apply h
  cases s
  cases t
  congr
  exact Array.ext' e
theorem str_eq {s t : ByteArray} (h : s = t) : (s.toList == t.data.toList) = true := by
  rw [ByteArray.toList_eq, h]
  simp
theorem bytesOk_no (s : ByteArray) (k : Nat) (h : k < s.size) (hb : okB (bf s k) = false) : bytesOk s = false := by
  unfold bytesOk
  rw [List.all_eq_false]
  exact ⟨k, List.mem_range.2 h, by simp [hb]⟩
theorem bytesOk_yes (s : ByteArray) (h : ∀ k, k < s.size → okB (bf s k) = true) : bytesOk s = true := by
  unfold bytesOk
  rw [List.all_eq_true]
  exact fun k hk => h k (List.mem_range.1 hk)

end Go.Proofs.YthidlckipiamkaaDoor
