
/- GroupKeyOf of both. -/
import Derived.Test.YtplinjepeahahaaMem4a
namespace Go.Proofs.Ytplinjepeahahaa
open Go.RowKit

/-- The group's key of a member. -/
def groupB (id ep : Int) (ks : List (Int × Int)) : Bool := memberB id ep ks && rootB ks
def groupK (id ep : Int) (ks : List (Int × Int)) : Int × Int := if memberB id ep ks = true then rootK ks else (0, 0)

end Go.Proofs.Ytplinjepeahahaa
