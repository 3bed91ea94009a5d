
/- Contracts of the model's helpers on rising keys: l2Has, l2Put. -/
import Derived.Test.YthfgiabkafdbdaaKnown2
namespace Go.Proofs.Ythfgiabkafdbdaa
open Go.RowKit

end Go.Proofs.Ythfgiabkafdbdaa
