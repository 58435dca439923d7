/- The table of signs and the walks of bits.valueOf and of the document's own sign and bit. -/
import Derived.Test.YtimiginpdkokiaaDoorS2Regroup
namespace Go.Proofs.YtimiginpdkokiaaDoor.S2
set_option maxRecDepth 20000
open Go.RowKit Math

end Go.Proofs.YtimiginpdkokiaaDoor.S2
