
/- The bundle's rows of keys, numbers and seats. -/
import Derived.Test.YtkkjpkldfllfiaaKit2
import Derived.Test.YtkkjpkldfllfiaaCU2
import Derived.Test.YtkkjpkldfllfiaaExSrvB
namespace Go.Proofs.Ytkkjpkldfllfiaa
open Go.RowKit

abbrev rI (B : Nat) (v : Value) (xs : List Int) : RowF := ⟨B, 2, 1, v, xs.length, xs.map (Value.int .i64)⟩
abbrev rS (B : Nat) (v : Value) (ks : List (Int × Int)) : RowF := ⟨B, 136, 2, v, ks.length, kcells ks⟩
theorem cuK_len (id me : Int) (ks : List (Int × Int)) (ep : Int) (vs : List Int) (ss : List (Int × Int)) : (cuK id me ks ep vs ss).length ≤ ks.length + 4 := by
  unfold cuK
  split
  · split
    · have := kfL_len ep vs ss id
      omega
    · omega
  · simp
theorem Kit.i0 {w0 W : World} {cs : List (Addr × Value)} {rs : List RowF} {B : Nat} {v : Value} {ks : List Int} (K : Kit w0 cs (rI B v ks :: rs) W) : Ints B v ks W := K.row _ (.head _)
theorem Kit.i1 {w0 W : World} {cs : List (Addr × Value)} {rs : List RowF} {x0 : RowF} {B : Nat} {v : Value} {ks : List Int} (K : Kit w0 cs (x0 :: rI B v ks :: rs) W) : Ints B v ks W := K.row _ (.tail _ (.head _))
theorem Kit.i2 {w0 W : World} {cs : List (Addr × Value)} {rs : List RowF} {x0 x1 : RowF} {B : Nat} {v : Value} {ks : List Int} (K : Kit w0 cs (x0 :: x1 :: rI B v ks :: rs) W) : Ints B v ks W := K.row _ (.tail _ (.tail _ (.head _)))
theorem Kit.i3 {w0 W : World} {cs : List (Addr × Value)} {rs : List RowF} {x0 x1 x2 : RowF} {B : Nat} {v : Value} {ks : List Int} (K : Kit w0 cs (x0 :: x1 :: x2 :: rI B v ks :: rs) W) : Ints B v ks W := K.row _ (.tail _ (.tail _ (.tail _ (.head _))))
theorem Kit.i4 {w0 W : World} {cs : List (Addr × Value)} {rs : List RowF} {x0 x1 x2 x3 : RowF} {B : Nat} {v : Value} {ks : List Int} (K : Kit w0 cs (x0 :: x1 :: x2 :: x3 :: rI B v ks :: rs) W) : Ints B v ks W := K.row _ (.tail _ (.tail _ (.tail _ (.tail _ (.head _)))))
theorem Kit.i5 {w0 W : World} {cs : List (Addr × Value)} {rs : List RowF} {x0 x1 x2 x3 x4 : RowF} {B : Nat} {v : Value} {ks : List Int} (K : Kit w0 cs (x0 :: x1 :: x2 :: x3 :: x4 :: rI B v ks :: rs) W) : Ints B v ks W := K.row _ (.tail _ (.tail _ (.tail _ (.tail _ (.tail _ (.head _))))))
theorem Kit.i6 {w0 W : World} {cs : List (Addr × Value)} {rs : List RowF} {x0 x1 x2 x3 x4 x5 : RowF} {B : Nat} {v : Value} {ks : List Int} (K : Kit w0 cs (x0 :: x1 :: x2 :: x3 :: x4 :: x5 :: rI B v ks :: rs) W) : Ints B v ks W := K.row _ (.tail _ (.tail _ (.tail _ (.tail _ (.tail _ (.tail _ (.head _)))))))
theorem Kit.i7 {w0 W : World} {cs : List (Addr × Value)} {rs : List RowF} {x0 x1 x2 x3 x4 x5 x6 : RowF} {B : Nat} {v : Value} {ks : List Int} (K : Kit w0 cs (x0 :: x1 :: x2 :: x3 :: x4 :: x5 :: x6 :: rI B v ks :: rs) W) : Ints B v ks W := K.row _ (.tail _ (.tail _ (.tail _ (.tail _ (.tail _ (.tail _ (.tail _ (.head _))))))))
theorem Kit.i8 {w0 W : World} {cs : List (Addr × Value)} {rs : List RowF} {x0 x1 x2 x3 x4 x5 x6 x7 : RowF} {B : Nat} {v : Value} {ks : List Int} (K : Kit w0 cs (x0 :: x1 :: x2 :: x3 :: x4 :: x5 :: x6 :: x7 :: rI B v ks :: rs) W) : Ints B v ks W := K.row _ (.tail _ (.tail _ (.tail _ (.tail _ (.tail _ (.tail _ (.tail _ (.tail _ (.head _)))))))))
theorem Kit.s0 {w0 W : World} {cs : List (Addr × Value)} {rs : List RowF} {B : Nat} {v : Value} {ks : List (Int × Int)} (K : Kit w0 cs (rS B v ks :: rs) W) : Seats B v ks W := K.row _ (.head _)
theorem Kit.s1 {w0 W : World} {cs : List (Addr × Value)} {rs : List RowF} {x0 : RowF} {B : Nat} {v : Value} {ks : List (Int × Int)} (K : Kit w0 cs (x0 :: rS B v ks :: rs) W) : Seats B v ks W := K.row _ (.tail _ (.head _))
theorem Kit.s2 {w0 W : World} {cs : List (Addr × Value)} {rs : List RowF} {x0 x1 : RowF} {B : Nat} {v : Value} {ks : List (Int × Int)} (K : Kit w0 cs (x0 :: x1 :: rS B v ks :: rs) W) : Seats B v ks W := K.row _ (.tail _ (.tail _ (.head _)))
theorem Kit.s3 {w0 W : World} {cs : List (Addr × Value)} {rs : List RowF} {x0 x1 x2 : RowF} {B : Nat} {v : Value} {ks : List (Int × Int)} (K : Kit w0 cs (x0 :: x1 :: x2 :: rS B v ks :: rs) W) : Seats B v ks W := K.row _ (.tail _ (.tail _ (.tail _ (.head _))))
theorem Kit.s4 {w0 W : World} {cs : List (Addr × Value)} {rs : List RowF} {x0 x1 x2 x3 : RowF} {B : Nat} {v : Value} {ks : List (Int × Int)} (K : Kit w0 cs (x0 :: x1 :: x2 :: x3 :: rS B v ks :: rs) W) : Seats B v ks W := K.row _ (.tail _ (.tail _ (.tail _ (.tail _ (.head _)))))
theorem Kit.s5 {w0 W : World} {cs : List (Addr × Value)} {rs : List RowF} {x0 x1 x2 x3 x4 : RowF} {B : Nat} {v : Value} {ks : List (Int × Int)} (K : Kit w0 cs (x0 :: x1 :: x2 :: x3 :: x4 :: rS B v ks :: rs) W) : Seats B v ks W := K.row _ (.tail _ (.tail _ (.tail _ (.tail _ (.tail _ (.head _))))))
theorem Kit.s6 {w0 W : World} {cs : List (Addr × Value)} {rs : List RowF} {x0 x1 x2 x3 x4 x5 : RowF} {B : Nat} {v : Value} {ks : List (Int × Int)} (K : Kit w0 cs (x0 :: x1 :: x2 :: x3 :: x4 :: x5 :: rS B v ks :: rs) W) : Seats B v ks W := K.row _ (.tail _ (.tail _ (.tail _ (.tail _ (.tail _ (.tail _ (.head _)))))))
theorem Kit.s7 {w0 W : World} {cs : List (Addr × Value)} {rs : List RowF} {x0 x1 x2 x3 x4 x5 x6 : RowF} {B : Nat} {v : Value} {ks : List (Int × Int)} (K : Kit w0 cs (x0 :: x1 :: x2 :: x3 :: x4 :: x5 :: x6 :: rS B v ks :: rs) W) : Seats B v ks W := K.row _ (.tail _ (.tail _ (.tail _ (.tail _ (.tail _ (.tail _ (.tail _ (.head _))))))))
theorem Kit.s8 {w0 W : World} {cs : List (Addr × Value)} {rs : List RowF} {x0 x1 x2 x3 x4 x5 x6 x7 : RowF} {B : Nat} {v : Value} {ks : List (Int × Int)} (K : Kit w0 cs (x0 :: x1 :: x2 :: x3 :: x4 :: x5 :: x6 :: x7 :: rS B v ks :: rs) W) : Seats B v ks W := K.row _ (.tail _ (.tail _ (.tail _ (.tail _ (.tail _ (.tail _ (.tail _ (.tail _ (.head _)))))))))
end Go.Proofs.Ytkkjpkldfllfiaa
