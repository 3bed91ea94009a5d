
/- The contract of KnownOk of the program. -/
import Derived.Test.YtmlmlmcmhpahpaaDoorKnown
namespace Go.Proofs.YtmlmlmcmhpahpaaDoor
open Go.RowKit

end Go.Proofs.YtmlmlmcmhpahpaaDoor
