
/- markWrapS: it writes into its own row alone. -/
import Derived.Test.YthfgiabkafdbdaaLm
import Derived.Test.YthfgiabkafdbdaaToWraps
namespace Go.Proofs.Ythfgiabkafdbdaa
open Go.RowKit

end Go.Proofs.Ythfgiabkafdbdaa
