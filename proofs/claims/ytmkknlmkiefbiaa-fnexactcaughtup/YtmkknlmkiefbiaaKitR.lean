
/- The bundle's rows of keys, numbers and seats. -/
import Derived.Test.YtmkknlmkiefbiaaKit2
import Derived.Test.YtmkknlmkiefbiaaCU2
import Derived.Test.YtmkknlmkiefbiaaExSrvB
namespace Go.Proofs.Ytmkknlmkiefbiaa
open Go.RowKit

abbrev rK (B : Nat) (v : Value) (ks : List (Int × Int)) : RowF := ⟨B, 37, 2, v, ks.length, kcells ks⟩
abbrev rI (B : Nat) (v : Value) (xs : List Int) : RowF := ⟨B, 2, 1, v, xs.length, xs.map (Value.int .i64)⟩
abbrev rS (B : Nat) (v : Value) (ks : List (Int × Int)) : RowF := ⟨B, 102, 2, v, ks.length, kcells ks⟩
theorem six {w W : World} {p1 p2 p3 p4 p5 p6 : Addr} {v1 v2 v3 v4 v5 v6 : Value} (h : W.cell? p1 = some v1 ∧ W.cell? p2 = some v2 ∧ W.cell? p3 = some v3 ∧ W.cell? p4 = some v4 ∧ W.cell? p5 = some v5 ∧ W.cell? p6 = some v6 ∧ Below w.heap.size w W) : Below w.heap.size w W := h.2.2.2.2.2.2
theorem keysSet3 {B C p : Nat} {v : Value} {ks : List (Int × Int)} {W : World} (h : Keys B v ks W) (hp : p < B) (hC : C ≤ B) (x y z : Value) : Keys C v ks (((W.setCell ⟨p, 0, none⟩ x).setCell ⟨p, 1, none⟩ y).setCell ⟨p, 2, none⟩ z) := by
  have hne : ∀ k, some p = some k → v.ownBlock ≠ some k := fun k e e' => by
    cases e
    have := (h.lt _ e').1
    omega
  exact (((h.kept (grown_set _ _ _ _) hne).kept (grown_set _ _ _ _) hne).kept (grown_set _ _ _ _) hne).mono hC
theorem cuK_len (id me : Int) (ks : List (Int × Int)) (ep : Int) (vs : List Int) (ss : List (Int × Int)) : (cuK id me ks ep vs ss).length ≤ ks.length + 4 := by
  unfold cuK
  split
  · split
    · have := kfL_len ep vs ss id
      omega
    · omega
  · simp
theorem Kit.k0 {w0 W : World} {cs : List (Addr × Value)} {rs : List RowF} {B : Nat} {v : Value} {ks : List (Int × Int)} (K : Kit w0 cs (rK B v ks :: rs) W) : Keys B v ks W := K.row _ (.head _)
theorem Kit.k1 {w0 W : World} {cs : List (Addr × Value)} {rs : List RowF} {x0 : RowF} {B : Nat} {v : Value} {ks : List (Int × Int)} (K : Kit w0 cs (x0 :: rK B v ks :: rs) W) : Keys B v ks W := K.row _ (.tail _ (.head _))
theorem Kit.k2 {w0 W : World} {cs : List (Addr × Value)} {rs : List RowF} {x0 x1 : RowF} {B : Nat} {v : Value} {ks : List (Int × Int)} (K : Kit w0 cs (x0 :: x1 :: rK B v ks :: rs) W) : Keys B v ks W := K.row _ (.tail _ (.tail _ (.head _)))
theorem Kit.k3 {w0 W : World} {cs : List (Addr × Value)} {rs : List RowF} {x0 x1 x2 : RowF} {B : Nat} {v : Value} {ks : List (Int × Int)} (K : Kit w0 cs (x0 :: x1 :: x2 :: rK B v ks :: rs) W) : Keys B v ks W := K.row _ (.tail _ (.tail _ (.tail _ (.head _))))
theorem Kit.k4 {w0 W : World} {cs : List (Addr × Value)} {rs : List RowF} {x0 x1 x2 x3 : RowF} {B : Nat} {v : Value} {ks : List (Int × Int)} (K : Kit w0 cs (x0 :: x1 :: x2 :: x3 :: rK B v ks :: rs) W) : Keys B v ks W := K.row _ (.tail _ (.tail _ (.tail _ (.tail _ (.head _)))))
theorem Kit.k5 {w0 W : World} {cs : List (Addr × Value)} {rs : List RowF} {x0 x1 x2 x3 x4 : RowF} {B : Nat} {v : Value} {ks : List (Int × Int)} (K : Kit w0 cs (x0 :: x1 :: x2 :: x3 :: x4 :: rK B v ks :: rs) W) : Keys B v ks W := K.row _ (.tail _ (.tail _ (.tail _ (.tail _ (.tail _ (.head _))))))
theorem Kit.k6 {w0 W : World} {cs : List (Addr × Value)} {rs : List RowF} {x0 x1 x2 x3 x4 x5 : RowF} {B : Nat} {v : Value} {ks : List (Int × Int)} (K : Kit w0 cs (x0 :: x1 :: x2 :: x3 :: x4 :: x5 :: rK B v ks :: rs) W) : Keys B v ks W := K.row _ (.tail _ (.tail _ (.tail _ (.tail _ (.tail _ (.tail _ (.head _)))))))
theorem Kit.k7 {w0 W : World} {cs : List (Addr × Value)} {rs : List RowF} {x0 x1 x2 x3 x4 x5 x6 : RowF} {B : Nat} {v : Value} {ks : List (Int × Int)} (K : Kit w0 cs (x0 :: x1 :: x2 :: x3 :: x4 :: x5 :: x6 :: rK B v ks :: rs) W) : Keys B v ks W := K.row _ (.tail _ (.tail _ (.tail _ (.tail _ (.tail _ (.tail _ (.tail _ (.head _))))))))
theorem Kit.k8 {w0 W : World} {cs : List (Addr × Value)} {rs : List RowF} {x0 x1 x2 x3 x4 x5 x6 x7 : RowF} {B : Nat} {v : Value} {ks : List (Int × Int)} (K : Kit w0 cs (x0 :: x1 :: x2 :: x3 :: x4 :: x5 :: x6 :: x7 :: rK B v ks :: rs) W) : Keys B v ks W := K.row _ (.tail _ (.tail _ (.tail _ (.tail _ (.tail _ (.tail _ (.tail _ (.tail _ (.head _)))))))))
theorem Kit.i0 {w0 W : World} {cs : List (Addr × Value)} {rs : List RowF} {B : Nat} {v : Value} {ks : List Int} (K : Kit w0 cs (rI B v ks :: rs) W) : Ints B v ks W := K.row _ (.head _)
theorem Kit.i1 {w0 W : World} {cs : List (Addr × Value)} {rs : List RowF} {x0 : RowF} {B : Nat} {v : Value} {ks : List Int} (K : Kit w0 cs (x0 :: rI B v ks :: rs) W) : Ints B v ks W := K.row _ (.tail _ (.head _))
theorem Kit.i2 {w0 W : World} {cs : List (Addr × Value)} {rs : List RowF} {x0 x1 : RowF} {B : Nat} {v : Value} {ks : List Int} (K : Kit w0 cs (x0 :: x1 :: rI B v ks :: rs) W) : Ints B v ks W := K.row _ (.tail _ (.tail _ (.head _)))
theorem Kit.i3 {w0 W : World} {cs : List (Addr × Value)} {rs : List RowF} {x0 x1 x2 : RowF} {B : Nat} {v : Value} {ks : List Int} (K : Kit w0 cs (x0 :: x1 :: x2 :: rI B v ks :: rs) W) : Ints B v ks W := K.row _ (.tail _ (.tail _ (.tail _ (.head _))))
theorem Kit.i4 {w0 W : World} {cs : List (Addr × Value)} {rs : List RowF} {x0 x1 x2 x3 : RowF} {B : Nat} {v : Value} {ks : List Int} (K : Kit w0 cs (x0 :: x1 :: x2 :: x3 :: rI B v ks :: rs) W) : Ints B v ks W := K.row _ (.tail _ (.tail _ (.tail _ (.tail _ (.head _)))))
theorem Kit.i5 {w0 W : World} {cs : List (Addr × Value)} {rs : List RowF} {x0 x1 x2 x3 x4 : RowF} {B : Nat} {v : Value} {ks : List Int} (K : Kit w0 cs (x0 :: x1 :: x2 :: x3 :: x4 :: rI B v ks :: rs) W) : Ints B v ks W := K.row _ (.tail _ (.tail _ (.tail _ (.tail _ (.tail _ (.head _))))))
theorem Kit.i6 {w0 W : World} {cs : List (Addr × Value)} {rs : List RowF} {x0 x1 x2 x3 x4 x5 : RowF} {B : Nat} {v : Value} {ks : List Int} (K : Kit w0 cs (x0 :: x1 :: x2 :: x3 :: x4 :: x5 :: rI B v ks :: rs) W) : Ints B v ks W := K.row _ (.tail _ (.tail _ (.tail _ (.tail _ (.tail _ (.tail _ (.head _)))))))
theorem Kit.i7 {w0 W : World} {cs : List (Addr × Value)} {rs : List RowF} {x0 x1 x2 x3 x4 x5 x6 : RowF} {B : Nat} {v : Value} {ks : List Int} (K : Kit w0 cs (x0 :: x1 :: x2 :: x3 :: x4 :: x5 :: x6 :: rI B v ks :: rs) W) : Ints B v ks W := K.row _ (.tail _ (.tail _ (.tail _ (.tail _ (.tail _ (.tail _ (.tail _ (.head _))))))))
theorem Kit.i8 {w0 W : World} {cs : List (Addr × Value)} {rs : List RowF} {x0 x1 x2 x3 x4 x5 x6 x7 : RowF} {B : Nat} {v : Value} {ks : List Int} (K : Kit w0 cs (x0 :: x1 :: x2 :: x3 :: x4 :: x5 :: x6 :: x7 :: rI B v ks :: rs) W) : Ints B v ks W := K.row _ (.tail _ (.tail _ (.tail _ (.tail _ (.tail _ (.tail _ (.tail _ (.tail _ (.head _)))))))))
theorem Kit.s0 {w0 W : World} {cs : List (Addr × Value)} {rs : List RowF} {B : Nat} {v : Value} {ks : List (Int × Int)} (K : Kit w0 cs (rS B v ks :: rs) W) : Seats B v ks W := K.row _ (.head _)
theorem Kit.s1 {w0 W : World} {cs : List (Addr × Value)} {rs : List RowF} {x0 : RowF} {B : Nat} {v : Value} {ks : List (Int × Int)} (K : Kit w0 cs (x0 :: rS B v ks :: rs) W) : Seats B v ks W := K.row _ (.tail _ (.head _))
theorem Kit.s2 {w0 W : World} {cs : List (Addr × Value)} {rs : List RowF} {x0 x1 : RowF} {B : Nat} {v : Value} {ks : List (Int × Int)} (K : Kit w0 cs (x0 :: x1 :: rS B v ks :: rs) W) : Seats B v ks W := K.row _ (.tail _ (.tail _ (.head _)))
theorem Kit.s3 {w0 W : World} {cs : List (Addr × Value)} {rs : List RowF} {x0 x1 x2 : RowF} {B : Nat} {v : Value} {ks : List (Int × Int)} (K : Kit w0 cs (x0 :: x1 :: x2 :: rS B v ks :: rs) W) : Seats B v ks W := K.row _ (.tail _ (.tail _ (.tail _ (.head _))))
theorem Kit.s4 {w0 W : World} {cs : List (Addr × Value)} {rs : List RowF} {x0 x1 x2 x3 : RowF} {B : Nat} {v : Value} {ks : List (Int × Int)} (K : Kit w0 cs (x0 :: x1 :: x2 :: x3 :: rS B v ks :: rs) W) : Seats B v ks W := K.row _ (.tail _ (.tail _ (.tail _ (.tail _ (.head _)))))
theorem Kit.s5 {w0 W : World} {cs : List (Addr × Value)} {rs : List RowF} {x0 x1 x2 x3 x4 : RowF} {B : Nat} {v : Value} {ks : List (Int × Int)} (K : Kit w0 cs (x0 :: x1 :: x2 :: x3 :: x4 :: rS B v ks :: rs) W) : Seats B v ks W := K.row _ (.tail _ (.tail _ (.tail _ (.tail _ (.tail _ (.head _))))))
theorem Kit.s6 {w0 W : World} {cs : List (Addr × Value)} {rs : List RowF} {x0 x1 x2 x3 x4 x5 : RowF} {B : Nat} {v : Value} {ks : List (Int × Int)} (K : Kit w0 cs (x0 :: x1 :: x2 :: x3 :: x4 :: x5 :: rS B v ks :: rs) W) : Seats B v ks W := K.row _ (.tail _ (.tail _ (.tail _ (.tail _ (.tail _ (.tail _ (.head _)))))))
theorem Kit.s7 {w0 W : World} {cs : List (Addr × Value)} {rs : List RowF} {x0 x1 x2 x3 x4 x5 x6 : RowF} {B : Nat} {v : Value} {ks : List (Int × Int)} (K : Kit w0 cs (x0 :: x1 :: x2 :: x3 :: x4 :: x5 :: x6 :: rS B v ks :: rs) W) : Seats B v ks W := K.row _ (.tail _ (.tail _ (.tail _ (.tail _ (.tail _ (.tail _ (.tail _ (.head _))))))))
theorem Kit.s8 {w0 W : World} {cs : List (Addr × Value)} {rs : List RowF} {x0 x1 x2 x3 x4 x5 x6 x7 : RowF} {B : Nat} {v : Value} {ks : List (Int × Int)} (K : Kit w0 cs (x0 :: x1 :: x2 :: x3 :: x4 :: x5 :: x6 :: x7 :: rS B v ks :: rs) W) : Seats B v ks W := K.row _ (.tail _ (.tail _ (.tail _ (.tail _ (.tail _ (.tail _ (.tail _ (.tail _ (.head _)))))))))
end Go.Proofs.Ytmkknlmkiefbiaa
