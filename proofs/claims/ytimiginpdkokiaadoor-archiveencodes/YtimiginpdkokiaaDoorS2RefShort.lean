/- The walk of the document's own Short. -/
import Derived.Test.YtimiginpdkokiaaDoorS2Quiet
import Derived.Test.YtimiginpdkokiaaDoorS2RefEncode
namespace Go.Proofs.YtimiginpdkokiaaDoor.S2
set_option maxRecDepth 20000
open Go.RowKit Math

theorem Row.setCell {w : World} {g i : Nat} {C : Array Value} {t : TypeId} (h : Row w g C t) (v : Value) : Row (w.setCell ⟨g, i, none⟩ v) g (C.setIfInBounds i v) t := by
  rw [setCell_eq_setRow w g i C t (0, 0) v h]
  exact h.setRow
theorem Row.setCell_other {w : World} {g k i : Nat} {C : Array Value} {t : TypeId} (h : Row w g C t) (hk : g ≠ k) (v : Value) : Row (w.setCell ⟨k, i, none⟩ v) g C t := (heap_setCell_other w ⟨k, i, none⟩ g v hk).trans h
theorem Row.cell {w : World} {g : Nat} {C : Array Value} {t : TypeId} (h : Row w g C t) (i : Nat) : w.cell? ⟨g, i, none⟩ = C[i]? := cell_of_row w g i C t (0, 0) h
theorem Row.frozen {w : World} {g : Nat} {C : Array Value} {t : TypeId} (h : Row w g C t) (i : Nat) : w.frozen? ⟨g, i, none⟩ = false := frozen_of_row w g i C t h

theorem Row.drew {w : World} {g : Nat} {C : Array Value} {t : TypeId} (h : Row w g C t) : Row w.drew g C t := h
theorem made20 (f : Nat → Int) : madeCells #[.int .u8 0] 20 = arr (fold f 0) 20 := by kernel_rfl

end Go.Proofs.YtimiginpdkokiaaDoor.S2
