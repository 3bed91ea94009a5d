
/- The walk of the exact law of ServerOk: it answers true at every server, and nothing that lay there turns. -/
import Derived.Test.YtplinjepeahahaaSrv4
import Derived.Test.YtplinjepeahahaaBel
namespace Go.Proofs.Ytplinjepeahahaa
open Go.RowKit

theorem szV_ok {n m : Nat} (h : n + m ≤ 1048576) : szV 1048576 n m = 1048576 - (n : Int) - (m : Int) := by unfold szV; rw [if_neg (by omega), if_neg (by omega)]
theorem szV_no {n m : Nat} (h : ¬ n + m ≤ 1048576) : szV 1048576 n m = -1 := by
  unfold szV
  by_cases h1 : (1048576 : Int) - (n : Int) < 0
  · rw [if_pos h1]
  · rw [if_neg h1, if_pos (by omega)]
end Go.Proofs.Ytplinjepeahahaa
