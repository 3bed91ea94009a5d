
/- Copies of members: ownMember of the program, l4Copy of the model. -/
import Derived.Test.YtplinjepeahahaaCpy
namespace Go.Proofs.Ytplinjepeahahaa
open Go.RowKit

theorem laterM {w W W' : World} {p1 p2 p3 : Addr} {v1 v2 v3 : Value} (h : W.cell? p1 = some v1 ∧ W.cell? p2 = some v2 ∧ W.cell? p3 = some v3 ∧ Below w.heap.size w W) (hb : Below W.heap.size W W') :
    W'.cell? p1 = some v1 ∧ W'.cell? p2 = some v2 ∧ W'.cell? p3 = some v3 ∧ Below w.heap.size w W' := ⟨cell_since h.1 hb, cell_since h.2.1 hb, cell_since h.2.2.1 hb, h.2.2.2.trans (hb.mono h.2.2.2.size)⟩

theorem emptyC (W : World) {S : Nat} (h : W.heap.size = S) : Keys S (.slice (some ⟨S, 0, none⟩) 0 0) [] (W.alloc (.cells #[] 38)) := by
  subst h
  exact World.ownsRow_lit (base := W.heap.size) (size := 2) W #[] 0 (Nat.le_refl _) (by decide) rfl
theorem blkC {W W' : World} {o x : Obj} {R : Nat} {row : Option Nat} (hg : (W.alloc o).grownBy W' row) (h : W.heap[R]? = some x) (hne : row ≠ some R) : W'.heap[R]? = some x := by
  have hl := (Array.getElem?_eq_some_iff.1 h).1
  rw [hg.block R (by simp; omega) (fun e => hne e.symm), Below.heap_alloc _ _ _ hl]
  exact h

end Go.Proofs.Ytplinjepeahahaa
