/- What the proofs of the cards share: the tables out of the rows' lists, arguments opened. -/
import Derived.Test.YtimiginpdkokiaaDoorCards
import Derived.Test.YtimiginpdkokiaaDoorTie
import Derived.Test.YtimiginpdkokiaaDoorS2Texts
import Derived.ProofKit
import Derived.OpenShut
import Derived.ShutString
import Derived.ChangeOld
import Derived.Below
import Derived.SizedLaws
import Derived.Deep.DeepHandedRow
import Derived.Lib.LaidTab
namespace Go.Proofs.YtimiginpdkokiaaDoor.S2
set_option maxRecDepth 20000
open Go.ChangeShapes Go.WideShapes Go.ChangeAt Go.RowKit

theorem own : ownKnob Tryd.prog.godebug = none := by kernel_rfl
theorem laidOut : laidOutB Tryd.prog = true := by kernel_rfl
theorem cells23 : Tryd.prog.cellsOf 33 = 32 := by kernel_rfl
theorem cells5 : Tryd.prog.cellsOf 5 = 1 := by kernel_rfl
theorem bytes5 : Tryd.prog.bytesOf 5 = 1 := by kernel_rfl

/-- Bytes that came in: their numbers by the place, 0 behind them. -/
structure Bs (w : World) (a : Option Addr) (b off len : Nat) (f : Nat → Int) : Prop where
  at' : 0 < len → a = some ⟨b, off, none⟩
  cell : ∀ i, i < len → w.cell? ⟨b, off + i, none⟩ = some (.int .u8 (f i))
  bd : ∀ i, 0 ≤ f i ∧ f i < 256
  past : ∀ i, len ≤ i → f i = 0

theorem Bs.below {w wr : World} {a : Option Addr} {b off len : Nat} {f : Nat → Int} (h : Bs w a b off len f) (hb : Below w.heap.size w wr) : Bs wr a b off len f :=
  ⟨h.at', fun i hi => by rw [hb.cell (p := ⟨b, off + i, none⟩) (World.block_lt_of_cell? _ _ (h.cell i hi))]; exact h.cell i hi, h.bd, h.past⟩

end Go.Proofs.YtimiginpdkokiaaDoor.S2
