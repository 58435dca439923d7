/- The event that stands for a flush is itself. -/
import Derived.Test.YtlbapnecmhlgmaaEvent
namespace Go.Proofs.Ytlbapnecmhlgmaa
open Go.RowKit
theorem eq_flush (w : World) : (Op.equalIn 10000 95 (.agg (evA flushEv)) (.agg (evA flushEv))).run Try.prog w = .ok true w := by
  kernel_rfl
end Go.Proofs.Ytlbapnecmhlgmaa
