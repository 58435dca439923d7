/- The walks of Get and Put. -/
import Derived.Test.YtdbnnljlbfjobaaGreatDoorDo
namespace Go.Proofs.YtdbnnljlbfjobaaGreatDoor
open Go.RowKit

theorem i83 (f : Nat → Int) : (Tryz.prog.info? 99).map (·.size) = some (byts f 256).toArray.size := by
  rw [show (byts f 256).toArray.size = 256 by simp [byts_len]]
  exact info63
theorem z83s (f : Nat → Int) : Tryz.zeroCells99.size = (byts f 256).toArray.size := by
  rw [show (byts f 256).toArray.size = 256 by simp [byts_len], zc83]
  simp [byts_len]
theorem one83 (f : Nat → Int) : (byts f 256).toArray.all (·.oneCell') = true := all_oneCell_toArray (byts_one f 256)
/-- The bytes of a sector as the transaction has it. -/
def seen (J : Jn) (D : Dk) (n : Nat) : Nat → Int := (lookL J.L n).getD (secF D.B n)

section
variable {w : World} {base g1 c1 g2 c2 gd : Nat} {ev : Value} {D : Dk} {jb gj gm : Nat} {J : Jn}

end
end Go.Proofs.YtdbnnljlbfjobaaGreatDoor
