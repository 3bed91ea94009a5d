
/- Structs of five cells in memory: what is read there, and what a store makes of them; a world's value. -/
import Derived.Test.YtplinjepeahahabBox3
namespace Go.Proofs.Ytplinjepeahahab
open Go.RowKit

/-- A world's cells: the server's three, the members, the mail. -/
abbrev wlv (ep : Int) (x y m l : Value) : Value := .agg #[.int .i64 ep, x, y, m, l]
abbrev wlb (ep : Int) (x y m l : Value) : Obj := .cells #[.int .i64 ep, x, y, m, l] 44
theorem box5 {R : Nat} {W : World} {a b c d e : Value} {t : TypeId} (h : W.heap[R]? = some (.cells #[a, b, c, d, e] t)) :
    (W.cell? ⟨R, 0, none⟩ = some a ∧ W.cell? ⟨R, 1, none⟩ = some b ∧ W.cell? ⟨R, 2, none⟩ = some c ∧ W.cell? ⟨R, 3, none⟩ = some d ∧ W.cell? ⟨R, 4, none⟩ = some e) ∧ W.frozen? ⟨R, 0, none⟩ = false ∧ W.frozen? ⟨R, 1, none⟩ = false ∧ W.frozen? ⟨R, 2, none⟩ = false ∧ W.frozen? ⟨R, 3, none⟩ = false ∧ W.frozen? ⟨R, 4, none⟩ = false := by
  simp [World.cell?, World.frozen?, h]
/-- All five written over. -/
def put5 (W : World) (R : Nat) (a b c d e : Value) : World := ((((W.setCell ⟨R, 0, none⟩ a).setCell ⟨R, 1, none⟩ b).setCell ⟨R, 2, none⟩ c).setCell ⟨R, 3, none⟩ d).setCell ⟨R, 4, none⟩ e
theorem put5_box {R : Nat} {W : World} {a b c d e : Value} {t : TypeId} (h : W.heap[R]? = some (.cells #[a, b, c, d, e] t)) (a' b' c' d' e' : Value) : (put5 W R a' b' c' d' e').heap[R]? = some (.cells #[a', b', c', d', e'] t) := by
  simp [put5, World.setCell, Array.getElem?_modify, h]
theorem put5_grown (W : World) (R : Nat) (a b c d e : Value) : W.grownBy (put5 W R a b c d e) (some R) :=
  ((((grown_set _ _ _ _).trans (grown_set _ _ _ _)).trans (grown_set _ _ _ _)).trans (grown_set _ _ _ _)).trans (grown_set _ _ _ _)
theorem wcell5 (w : World) (ep : Int) (x y m l : Value) (t : TypeId) : (w.alloc (.cells #[.int .i64 ep, x, y, m, l] t)).cell? ⟨w.heap.size, 0, none⟩ = some (.int .i64 ep) ∧ (w.alloc (.cells #[.int .i64 ep, x, y, m, l] t)).cell? ⟨w.heap.size, 1, none⟩ = some x ∧ (w.alloc (.cells #[.int .i64 ep, x, y, m, l] t)).cell? ⟨w.heap.size, 2, none⟩ = some y ∧ (w.alloc (.cells #[.int .i64 ep, x, y, m, l] t)).cell? ⟨w.heap.size, 3, none⟩ = some m ∧ (w.alloc (.cells #[.int .i64 ep, x, y, m, l] t)).cell? ⟨w.heap.size, 4, none⟩ = some l := by simp
end Go.Proofs.Ytplinjepeahahab
