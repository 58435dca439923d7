/- The walks of the document's own bit and Encode. -/
import Derived.Test.YtimiginpdkokiaaDoorS2Decode
namespace Go.Proofs.YtimiginpdkokiaaDoor.S2
set_option maxRecDepth 20000
open Go.RowKit Math

end Go.Proofs.YtimiginpdkokiaaDoor.S2
