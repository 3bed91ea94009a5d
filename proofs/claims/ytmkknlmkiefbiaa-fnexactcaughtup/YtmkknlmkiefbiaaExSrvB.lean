
/- The walk of the exact law of ServerOk: it answers true at every server, and nothing that lay there turns. -/
import Derived.Test.YtmkknlmkiefbiaaSrv4
namespace Go.Proofs.Ytmkknlmkiefbiaa
open Go.RowKit

theorem later6 {w W W' : World} {p1 p2 p3 p4 p5 p6 : Addr} {v1 v2 v3 v4 v5 v6 : Value} (h : W.cell? p1 = some v1 ∧ W.cell? p2 = some v2 ∧ W.cell? p3 = some v3 ∧ W.cell? p4 = some v4 ∧ W.cell? p5 = some v5 ∧ W.cell? p6 = some v6 ∧ Below w.heap.size w W) (hb : Below W.heap.size W W') :
    W'.cell? p1 = some v1 ∧ W'.cell? p2 = some v2 ∧ W'.cell? p3 = some v3 ∧ W'.cell? p4 = some v4 ∧ W'.cell? p5 = some v5 ∧ W'.cell? p6 = some v6 ∧ Below w.heap.size w W' :=
  ⟨cell_later2 h.1 hb, cell_later2 h.2.1 hb, cell_later2 h.2.2.1 hb, cell_later2 h.2.2.2.1 hb, cell_later2 h.2.2.2.2.1 hb, cell_later2 h.2.2.2.2.2.1 hb, h.2.2.2.2.2.2.trans (hb.mono h.2.2.2.2.2.2.size)⟩
theorem szV_ok {n m : Nat} (h : n + m ≤ 1048576) : szV 1048576 n m = 1048576 - (n : Int) - (m : Int) := by unfold szV; rw [if_neg (by omega), if_neg (by omega)]
theorem szV_no {n m : Nat} (h : ¬ n + m ≤ 1048576) : szV 1048576 n m = -1 := by
  unfold szV
  by_cases h1 : (1048576 : Int) - (n : Int) < 0
  · rw [if_pos h1]
  · rw [if_neg h1, if_pos (by omega)]
end Go.Proofs.Ytmkknlmkiefbiaa
