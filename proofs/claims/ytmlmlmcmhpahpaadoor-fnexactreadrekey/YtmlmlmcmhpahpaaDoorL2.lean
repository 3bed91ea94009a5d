
/- Contracts of the model's helpers on rising keys: l2Has, l2Put. -/
import Derived.Test.YtmlmlmcmhpahpaaDoorKnown2
namespace Go.Proofs.YtmlmlmcmhpahpaaDoor
open Go.RowKit

end Go.Proofs.YtmlmlmcmhpahpaaDoor
