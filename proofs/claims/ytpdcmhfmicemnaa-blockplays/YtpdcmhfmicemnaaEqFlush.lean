/- The event that stands for a flush is itself. -/
import Derived.Test.YtpdcmhfmicemnaaEvent
namespace Go.Proofs.Ytpdcmhfmicemnaa
open Go.RowKit
theorem eq_flush (w : World) : (Op.equalIn 10000 65 (.agg (evA flushEv)) (.agg (evA flushEv))).run Try.prog w = .ok true w := by
  kernel_rfl
end Go.Proofs.Ytpdcmhfmicemnaa
