/- The walks of census and Right, of needs and Sectors. -/
import Derived.Test.YthidlckipiamkaaDoorRight
namespace Go.Proofs.YthidlckipiamkaaDoor
open Go.RowKit

/-- What is wrong with a node. -/
def rightE (n : Nd) : Int := if (cen n 0 1).2 = false then 3 else eachE n
end Go.Proofs.YthidlckipiamkaaDoor
