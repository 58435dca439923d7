/- Signs of equally many bytes are the same just where the bytes are; signs are read as the bytes that they tell. -/
import Derived.Test.YtimiginpdkokiaaDoorS2Plain
import Derived.Test.YtimiginpdkokiaaDoorS2Same
namespace Go.Proofs.YtimiginpdkokiaaDoor.S2
set_option maxRecDepth 20000
open Go.RowKit Math

theorem byte_of (f : Nat → Int) (j : Nat) (hf : ∀ i, 0 ≤ f i ∧ f i < 256) : val (bitAt 8 f) (8 * j) 8 = f j := val_group 8 f j (hf j).1 (by have := (hf j).2; omega)

end Go.Proofs.YtimiginpdkokiaaDoor.S2
