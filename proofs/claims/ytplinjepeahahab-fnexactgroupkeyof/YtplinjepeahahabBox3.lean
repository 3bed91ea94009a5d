
/- Structs of three cells in memory: what is read there, and what a store makes of them. -/
import Derived.Test.YtplinjepeahahabKeys
import Derived.OpenShut
namespace Go.Proofs.Ytplinjepeahahab
open Go.RowKit

theorem box3 {R : Nat} {W : World} {u v x : Value} {t : TypeId} (h : W.heap[R]? = some (.cells #[u, v, x] t)) :
    (W.cell? ⟨R, 0, none⟩ = some u ∧ W.cell? ⟨R, 1, none⟩ = some v ∧ W.cell? ⟨R, 2, none⟩ = some x) ∧ W.frozen? ⟨R, 0, none⟩ = false ∧ W.frozen? ⟨R, 1, none⟩ = false ∧ W.frozen? ⟨R, 2, none⟩ = false := by
  simp [World.cell?, World.frozen?, h]
theorem box3_set0 {R : Nat} {W : World} {u v x : Value} {t : TypeId} (h : W.heap[R]? = some (.cells #[u, v, x] t)) (y : Value) : (W.setCell ⟨R, 0, none⟩ y).heap[R]? = some (.cells #[y, v, x] t) := by
  simp [World.setCell, Array.getElem?_modify, h]
theorem box3_set1 {R : Nat} {W : World} {u v x : Value} {t : TypeId} (h : W.heap[R]? = some (.cells #[u, v, x] t)) (y : Value) : (W.setCell ⟨R, 1, none⟩ y).heap[R]? = some (.cells #[u, y, x] t) := by
  simp [World.setCell, Array.getElem?_modify, h]
theorem box3_set2 {R : Nat} {W : World} {u v x : Value} {t : TypeId} (h : W.heap[R]? = some (.cells #[u, v, x] t)) (y : Value) : (W.setCell ⟨R, 2, none⟩ y).heap[R]? = some (.cells #[u, v, y] t) := by
  simp [World.setCell, Array.getElem?_modify, h]
theorem grown_set (W : World) (b o : Nat) (v : Value) : W.grownBy (W.setCell ⟨b, o, none⟩ v) (some b) :=
  ⟨rfl, rfl, rfl, by simp, fun k _ hne => by simp [World.setCell, Array.getElem?_modify, show b ≠ k from fun e => hne (by rw [e])]⟩
theorem blk' {W W' : World} {R k : Nat} {o : Obj} (hg : W.grownBy W' (some R)) (h : W.heap[k]? = some o) (hne : k ≠ R) : W'.heap[k]? = some o :=
  (hg.block k (Array.getElem?_eq_some_iff.1 h).1 (fun e => hne (by cases e; rfl))).trans h
/-- A store into memory of the call's own turns nothing below. -/
theorem below_set {n : Nat} {w W : World} (h : Below n w W) (b o : Nat) (v : Value) (hb : n ≤ b) (hn : n ≤ W.heap.size) : Below n w (W.setCell ⟨b, o, none⟩ v) :=
  h.grown (grown_set W b o v) hn (fun k e => by cases e; exact hb)
end Go.Proofs.Ytplinjepeahahab
