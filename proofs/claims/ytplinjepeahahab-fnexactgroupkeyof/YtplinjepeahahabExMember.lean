
/- The walk of the exact law of MemberOk: it answers true at every member, and nothing that lay there turns. -/
import Derived.Test.YtplinjepeahahabMem4
namespace Go.Proofs.Ytplinjepeahahab
open Go.RowKit

theorem lcell3 (w : World) (x y : Int) (v : Value) : (w.alloc (lmb x y v)).cell? ⟨w.heap.size, 0, none⟩ = some (.int .i64 x) ∧ (w.alloc (lmb x y v)).cell? ⟨w.heap.size, 1, none⟩ = some (.int .i64 y) ∧ (w.alloc (lmb x y v)).cell? ⟨w.heap.size, 2, none⟩ = some v := by simp
theorem later6 {w W W' : World} {p1 p2 p3 p4 p5 p6 : Addr} {v1 v2 v3 v4 v5 v6 : Value} (h : W.cell? p1 = some v1 ∧ W.cell? p2 = some v2 ∧ W.cell? p3 = some v3 ∧ W.cell? p4 = some v4 ∧ W.cell? p5 = some v5 ∧ W.cell? p6 = some v6 ∧ Below w.heap.size w W) (hb : Below W.heap.size W W') :
    W'.cell? p1 = some v1 ∧ W'.cell? p2 = some v2 ∧ W'.cell? p3 = some v3 ∧ W'.cell? p4 = some v4 ∧ W'.cell? p5 = some v5 ∧ W'.cell? p6 = some v6 ∧ Below w.heap.size w W' :=
  ⟨cell_later2 h.1 hb, cell_later2 h.2.1 hb, cell_later2 h.2.2.1 hb, cell_later2 h.2.2.2.1 hb, cell_later2 h.2.2.2.2.1 hb, cell_later2 h.2.2.2.2.2.1 hb, h.2.2.2.2.2.2.trans (hb.mono h.2.2.2.2.2.2.size)⟩

end Go.Proofs.Ytplinjepeahahab
