
/- Small lemmas on worlds, members and the bundle's rows of keys. -/
import Derived.Test.YtplinjepeahahaaKit2
import Derived.Test.YtplinjepeahahaaCpy2
namespace Go.Proofs.Ytplinjepeahahaa
open Go.RowKit

theorem three_below (w : World) (o1 o2 o3 : Obj) : Below w.heap.size w (((w.alloc o1).alloc o2).alloc o3) := (two_below w o1 o2).alloc (by simp; omega) o3
theorem memberB_few {id me : Int} {ks : List (Int × Int)} (h : memberB id me ks = true) : ks.length ≤ 200 := by
  unfold memberB headB knownB at h
  simp only [Bool.and_eq_true, decide_eq_true_eq] at h
  exact h.1.2.2.1
theorem later4M {w W W' : World} {p1 p2 p3 p4 : Addr} {v1 v2 v3 v4 : Value} (h : W.cell? p1 = some v1 ∧ W.cell? p2 = some v2 ∧ W.cell? p3 = some v3 ∧ W.cell? p4 = some v4 ∧ Below w.heap.size w W) (hb : Below W.heap.size W W') :
    W'.cell? p1 = some v1 ∧ W'.cell? p2 = some v2 ∧ W'.cell? p3 = some v3 ∧ W'.cell? p4 = some v4 ∧ Below w.heap.size w W' := ⟨cell_since h.1 hb, cell_since h.2.1 hb, cell_since h.2.2.1 hb, cell_since h.2.2.2.1 hb, h.2.2.2.2.trans (hb.mono h.2.2.2.2.size)⟩
theorem grown_any {W W' : World} (h : Below W.heap.size W W') (r : Option Nat) : W.grownBy W' r := ⟨h.os, h.tape, h.output, h.size, fun k hk _ => h.block k hk⟩
theorem grown_d (W : World) (row : Option Nat) : W.grownBy W.drew row := ⟨rfl, rfl, rfl, Nat.le_refl _, fun _ _ _ => rfl⟩
theorem later6 {w W W' : World} {p1 p2 p3 p4 p5 p6 : Addr} {v1 v2 v3 v4 v5 v6 : Value} (h : W.cell? p1 = some v1 ∧ W.cell? p2 = some v2 ∧ W.cell? p3 = some v3 ∧ W.cell? p4 = some v4 ∧ W.cell? p5 = some v5 ∧ W.cell? p6 = some v6 ∧ Below w.heap.size w W) (hb : Below W.heap.size W W') :
    W'.cell? p1 = some v1 ∧ W'.cell? p2 = some v2 ∧ W'.cell? p3 = some v3 ∧ W'.cell? p4 = some v4 ∧ W'.cell? p5 = some v5 ∧ W'.cell? p6 = some v6 ∧ Below w.heap.size w W' :=
  ⟨cell_later2 h.1 hb, cell_later2 h.2.1 hb, cell_later2 h.2.2.1 hb, cell_later2 h.2.2.2.1 hb, cell_later2 h.2.2.2.2.1 hb, cell_later2 h.2.2.2.2.2.1 hb, h.2.2.2.2.2.2.trans (hb.mono h.2.2.2.2.2.2.size)⟩
theorem six {w W : World} {p1 p2 p3 p4 p5 p6 : Addr} {v1 v2 v3 v4 v5 v6 : Value} (h : W.cell? p1 = some v1 ∧ W.cell? p2 = some v2 ∧ W.cell? p3 = some v3 ∧ W.cell? p4 = some v4 ∧ W.cell? p5 = some v5 ∧ W.cell? p6 = some v6 ∧ Below w.heap.size w W) : Below w.heap.size w W := h.2.2.2.2.2.2
theorem keysSet3 {B C p : Nat} {v : Value} {ks : List (Int × Int)} {W : World} (h : Keys B v ks W) (hp : p < B) (hC : C ≤ B) (x y z : Value) : Keys C v ks (((W.setCell ⟨p, 0, none⟩ x).setCell ⟨p, 1, none⟩ y).setCell ⟨p, 2, none⟩ z) := by
  have hne : ∀ k, some p = some k → v.ownBlock ≠ some k := fun k e e' => by
    cases e
    have := (h.lt _ e').1
    omega
  exact (((h.kept (grown_set _ _ _ _) hne).kept (grown_set _ _ _ _) hne).kept (grown_set _ _ _ _) hne).mono hC
abbrev rK (B : Nat) (v : Value) (ks : List (Int × Int)) : RowF := ⟨B, 38, 2, v, ks.length, kcells ks⟩
theorem Kit.k0 {w0 W : World} {cs : List (Addr × Value)} {rs : List RowF} {B : Nat} {v : Value} {ks : List (Int × Int)} (K : Kit w0 cs (rK B v ks :: rs) W) : Keys B v ks W := K.row _ (.head _)
theorem Kit.k1 {w0 W : World} {cs : List (Addr × Value)} {rs : List RowF} {x0 : RowF} {B : Nat} {v : Value} {ks : List (Int × Int)} (K : Kit w0 cs (x0 :: rK B v ks :: rs) W) : Keys B v ks W := K.row _ (.tail _ (.head _))
theorem Kit.k2 {w0 W : World} {cs : List (Addr × Value)} {rs : List RowF} {x0 x1 : RowF} {B : Nat} {v : Value} {ks : List (Int × Int)} (K : Kit w0 cs (x0 :: x1 :: rK B v ks :: rs) W) : Keys B v ks W := K.row _ (.tail _ (.tail _ (.head _)))
theorem Kit.k3 {w0 W : World} {cs : List (Addr × Value)} {rs : List RowF} {x0 x1 x2 : RowF} {B : Nat} {v : Value} {ks : List (Int × Int)} (K : Kit w0 cs (x0 :: x1 :: x2 :: rK B v ks :: rs) W) : Keys B v ks W := K.row _ (.tail _ (.tail _ (.tail _ (.head _))))
theorem Kit.k4 {w0 W : World} {cs : List (Addr × Value)} {rs : List RowF} {x0 x1 x2 x3 : RowF} {B : Nat} {v : Value} {ks : List (Int × Int)} (K : Kit w0 cs (x0 :: x1 :: x2 :: x3 :: rK B v ks :: rs) W) : Keys B v ks W := K.row _ (.tail _ (.tail _ (.tail _ (.tail _ (.head _)))))
theorem Kit.k5 {w0 W : World} {cs : List (Addr × Value)} {rs : List RowF} {x0 x1 x2 x3 x4 : RowF} {B : Nat} {v : Value} {ks : List (Int × Int)} (K : Kit w0 cs (x0 :: x1 :: x2 :: x3 :: x4 :: rK B v ks :: rs) W) : Keys B v ks W := K.row _ (.tail _ (.tail _ (.tail _ (.tail _ (.tail _ (.head _))))))
theorem Kit.k6 {w0 W : World} {cs : List (Addr × Value)} {rs : List RowF} {x0 x1 x2 x3 x4 x5 : RowF} {B : Nat} {v : Value} {ks : List (Int × Int)} (K : Kit w0 cs (x0 :: x1 :: x2 :: x3 :: x4 :: x5 :: rK B v ks :: rs) W) : Keys B v ks W := K.row _ (.tail _ (.tail _ (.tail _ (.tail _ (.tail _ (.tail _ (.head _)))))))
theorem Kit.k7 {w0 W : World} {cs : List (Addr × Value)} {rs : List RowF} {x0 x1 x2 x3 x4 x5 x6 : RowF} {B : Nat} {v : Value} {ks : List (Int × Int)} (K : Kit w0 cs (x0 :: x1 :: x2 :: x3 :: x4 :: x5 :: x6 :: rK B v ks :: rs) W) : Keys B v ks W := K.row _ (.tail _ (.tail _ (.tail _ (.tail _ (.tail _ (.tail _ (.tail _ (.head _))))))))
theorem Kit.k8 {w0 W : World} {cs : List (Addr × Value)} {rs : List RowF} {x0 x1 x2 x3 x4 x5 x6 x7 : RowF} {B : Nat} {v : Value} {ks : List (Int × Int)} (K : Kit w0 cs (x0 :: x1 :: x2 :: x3 :: x4 :: x5 :: x6 :: x7 :: rK B v ks :: rs) W) : Keys B v ks W := K.row _ (.tail _ (.tail _ (.tail _ (.tail _ (.tail _ (.tail _ (.tail _ (.tail _ (.head _)))))))))
end Go.Proofs.Ytplinjepeahahaa
