/- The event that stands for a flush is itself. -/
import Derived.Test.YtdbnnljlbfjobaaGreatDoorEvent
namespace Go.Proofs.YtdbnnljlbfjobaaGreatDoor
open Go.RowKit
theorem eq_flush (w : World) : (Op.equalIn 10000 101 (.agg (evA flushEv)) (.agg (evA flushEv))).run Tryz.prog w = .ok true w := by
  kernel_rfl
end Go.Proofs.YtdbnnljlbfjobaaGreatDoor
