/- My own work: Has. -/
import Derived.Test.YtdhmlcelofnkgaaGreatDoorSP3
namespace Go.Proofs.YtdhmlcelofnkgaaGreatDoor
open Go.RowKit

abbrev boxV (w : World) (v : Ver) : World := w.alloc (.cells (verC v) 98)
/-- What Has tells of a set that a call made. -/
def hasV (L : List Cut) (v : Ver) : Bool := mayV v && inn false L ⟨1, v⟩
end Go.Proofs.YtdhmlcelofnkgaaGreatDoor
