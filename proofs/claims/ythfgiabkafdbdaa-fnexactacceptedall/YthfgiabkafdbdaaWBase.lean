
/- Worlds that only grow: small laws that the walks over windows lean on. -/
import Derived.Test.YthfgiabkafdbdaaRegS
import Derived.WalkKit
import Derived.WalkSpells
import Derived.WalkLawsBesides
import Derived.Maps.Range
import Derived.Maps.RangeWalk
import Derived.Maps.AppendAt
import Derived.Deep.AppendLies
import Derived.Deep.RegionHeld3
import Derived.OpenShut
namespace Go.Proofs.Ythfgiabkafdbdaa.Wn
open Go.RowKit

theorem more {w W W' : World} (h : Below w.heap.size w W) (hb : Below W.heap.size W W') : Below w.heap.size w W' := h.trans (hb.mono h.size)
theorem one_below (w : World) (o : Obj) : Below w.heap.size w (w.alloc o) := (Below.refl _ _).alloc (Nat.le_refl _) o
theorem two_below (w : World) (o o' : Obj) : Below w.heap.size w ((w.alloc o).alloc o') := ((Below.refl _ _).alloc (Nat.le_refl _) o).alloc (by simp) o'
theorem below_grown {W W' : World} (h : W.grownBy W' none) : Below W.heap.size W W' := ⟨h.os, h.tape, h.output, h.size, fun k hk => h.block k hk (by simp)⟩
theorem hidOf {p : Prop} (h : p) : Hid p := h
theorem below_drewN {n : Nat} {w W : World} (h : Below n w W) (k : Nat) : Below n w (W.drewN k) := ⟨h.os, h.tape, h.output, h.size, h.block⟩
theorem box2 {R : Nat} {W : World} {u v : Value} {t : TypeId} (h : W.heap[R]? = some (.cells #[u, v] t)) :
    (W.cell? ⟨R, 0, none⟩ = some u ∧ W.cell? ⟨R, 1, none⟩ = some v) ∧ W.frozen? ⟨R, 0, none⟩ = false ∧ W.frozen? ⟨R, 1, none⟩ = false := by
  simp [World.cell?, World.frozen?, h]
theorem box2_set0 {R : Nat} {W : World} {u v : Value} {t : TypeId} (h : W.heap[R]? = some (.cells #[u, v] t)) (y : Value) : (W.setCell ⟨R, 0, none⟩ y).heap[R]? = some (.cells #[y, v] t) := by
  simp [World.setCell, Array.getElem?_modify, h]
theorem box2_set1 {R : Nat} {W : World} {u v : Value} {t : TypeId} (h : W.heap[R]? = some (.cells #[u, v] t)) (y : Value) : (W.setCell ⟨R, 1, none⟩ y).heap[R]? = some (.cells #[u, y] t) := by
  simp [World.setCell, Array.getElem?_modify, h]
theorem grown_set (W : World) (b o : Nat) (v : Value) : W.grownBy (W.setCell ⟨b, o, none⟩ v) (some b) :=
  ⟨rfl, rfl, rfl, by simp, fun k _ hne => by simp [World.setCell, Array.getElem?_modify, show b ≠ k from fun e => hne (by rw [e])]⟩
theorem blk {W W' : World} {R k : Nat} {o : Obj} (hg : W.grownBy W' (some R)) (h : W.heap[k]? = some o) (hne : k ≠ R) : W'.heap[k]? = some o :=
  (hg.block k (Array.getElem?_eq_some_iff.1 h).1 (fun e => hne (by cases e; rfl))).trans h
theorem below_set {n : Nat} {w W : World} (h : Below n w W) (b o : Nat) (v : Value) (hb : n ≤ b) (hn : n ≤ W.heap.size) : Below n w (W.setCell ⟨b, o, none⟩ v) :=
  h.grown (grown_set W b o v) hn (fun k e => by cases e; exact hb)
end Go.Proofs.Ythfgiabkafdbdaa.Wn
