/- The bundle's blocks and rows by their places. -/
import Derived.Test.YtjilbfohfgalkaaPart2
import Derived.Test.YtjilbfohfgalkaaPart1
import Derived.Test.YtjilbfohfgalkaaPart0
import Derived.Deep.RegionHeld3
namespace Go.Proofs.Ytjilbfohfgalkaa
open Go.RowKit

theorem Home.b0 {w0 W : World} {bs : List (Nat × Obj)} {rs : List RowF} {p : Nat} {o : Obj} (H : Home w0 ((p, o) :: bs) rs W) : W.heap[p]? = some o := H.box (p, o) (.head _)
theorem Home.p0 {w0 W : World} {bs : List (Nat × Obj)} {rs : List RowF} {p : Nat} {o : Obj} (H : Home w0 ((p, o) :: bs) rs W) : w0.heap.size ≤ p := H.new (p, o) (.head _)
theorem Home.set0 {w0 W : World} {bs : List (Nat × Obj)} {rs : List RowF} {p j : Nat} {o o' : Obj} {x : Value} (H : Home w0 ((p, o) :: bs) rs W) (ho : (W.setCell ⟨p, j, none⟩ x).heap[p]? = some o') : Home w0 ((p, o') :: bs) rs (W.setCell ⟨p, j, none⟩ x) := Home.set (pre := []) H ho
theorem Home.s200 {w0 W : World} {bs : List (Nat × Obj)} {rs : List RowF} {p : Nat} {u v : Value} {t : TypeId} (H : Home w0 ((p, .cells #[u, v] t) :: bs) rs W) (y : Value) : Home w0 ((p, .cells #[y, v] t) :: bs) rs (W.setCell ⟨p, 0, none⟩ y) := H.set0 (by simp [World.setCell, Array.getElem?_modify, H.b0])
theorem Home.s201 {w0 W : World} {bs : List (Nat × Obj)} {rs : List RowF} {p : Nat} {u v : Value} {t : TypeId} (H : Home w0 ((p, .cells #[u, v] t) :: bs) rs W) (y : Value) : Home w0 ((p, .cells #[u, y] t) :: bs) rs (W.setCell ⟨p, 1, none⟩ y) := H.set0 (by simp [World.setCell, Array.getElem?_modify, H.b0])
theorem Home.s300 {w0 W : World} {bs : List (Nat × Obj)} {rs : List RowF} {p : Nat} {u v x : Value} {t : TypeId} (H : Home w0 ((p, .cells #[u, v, x] t) :: bs) rs W) (y : Value) : Home w0 ((p, .cells #[y, v, x] t) :: bs) rs (W.setCell ⟨p, 0, none⟩ y) := H.set0 (by simp [World.setCell, Array.getElem?_modify, H.b0])
theorem Home.s301 {w0 W : World} {bs : List (Nat × Obj)} {rs : List RowF} {p : Nat} {u v x : Value} {t : TypeId} (H : Home w0 ((p, .cells #[u, v, x] t) :: bs) rs W) (y : Value) : Home w0 ((p, .cells #[u, y, x] t) :: bs) rs (W.setCell ⟨p, 1, none⟩ y) := H.set0 (by simp [World.setCell, Array.getElem?_modify, H.b0])
theorem Home.s302 {w0 W : World} {bs : List (Nat × Obj)} {rs : List RowF} {p : Nat} {u v x : Value} {t : TypeId} (H : Home w0 ((p, .cells #[u, v, x] t) :: bs) rs W) (y : Value) : Home w0 ((p, .cells #[u, v, y] t) :: bs) rs (W.setCell ⟨p, 2, none⟩ y) := H.set0 (by simp [World.setCell, Array.getElem?_modify, H.b0])
theorem Home.dropb0 {w0 W : World} {bs : List (Nat × Obj)} {rs : List RowF} {p : Nat × Obj} (H : Home w0 (p :: bs) rs W) : Home w0 (bs) rs W := H.sub (.cons _ (List.Sublist.refl _)) (List.Sublist.refl _)
theorem Home.b1 {w0 W : World} {bs : List (Nat × Obj)} {rs : List RowF} {x0 : Nat × Obj} {p : Nat} {o : Obj} (H : Home w0 (x0 :: (p, o) :: bs) rs W) : W.heap[p]? = some o := H.box (p, o) (.tail _ (.head _))
theorem Home.p1 {w0 W : World} {bs : List (Nat × Obj)} {rs : List RowF} {x0 : Nat × Obj} {p : Nat} {o : Obj} (H : Home w0 (x0 :: (p, o) :: bs) rs W) : w0.heap.size ≤ p := H.new (p, o) (.tail _ (.head _))
theorem Home.set1 {w0 W : World} {bs : List (Nat × Obj)} {rs : List RowF} {x0 : Nat × Obj} {p j : Nat} {o o' : Obj} {x : Value} (H : Home w0 (x0 :: (p, o) :: bs) rs W) (ho : (W.setCell ⟨p, j, none⟩ x).heap[p]? = some o') : Home w0 (x0 :: (p, o') :: bs) rs (W.setCell ⟨p, j, none⟩ x) := Home.set (pre := [x0]) H ho
theorem Home.s210 {w0 W : World} {bs : List (Nat × Obj)} {rs : List RowF} {x0 : Nat × Obj} {p : Nat} {u v : Value} {t : TypeId} (H : Home w0 (x0 :: (p, .cells #[u, v] t) :: bs) rs W) (y : Value) : Home w0 (x0 :: (p, .cells #[y, v] t) :: bs) rs (W.setCell ⟨p, 0, none⟩ y) := H.set1 (by simp [World.setCell, Array.getElem?_modify, H.b1])
theorem Home.s211 {w0 W : World} {bs : List (Nat × Obj)} {rs : List RowF} {x0 : Nat × Obj} {p : Nat} {u v : Value} {t : TypeId} (H : Home w0 (x0 :: (p, .cells #[u, v] t) :: bs) rs W) (y : Value) : Home w0 (x0 :: (p, .cells #[u, y] t) :: bs) rs (W.setCell ⟨p, 1, none⟩ y) := H.set1 (by simp [World.setCell, Array.getElem?_modify, H.b1])
theorem Home.s310 {w0 W : World} {bs : List (Nat × Obj)} {rs : List RowF} {x0 : Nat × Obj} {p : Nat} {u v x : Value} {t : TypeId} (H : Home w0 (x0 :: (p, .cells #[u, v, x] t) :: bs) rs W) (y : Value) : Home w0 (x0 :: (p, .cells #[y, v, x] t) :: bs) rs (W.setCell ⟨p, 0, none⟩ y) := H.set1 (by simp [World.setCell, Array.getElem?_modify, H.b1])
theorem Home.s311 {w0 W : World} {bs : List (Nat × Obj)} {rs : List RowF} {x0 : Nat × Obj} {p : Nat} {u v x : Value} {t : TypeId} (H : Home w0 (x0 :: (p, .cells #[u, v, x] t) :: bs) rs W) (y : Value) : Home w0 (x0 :: (p, .cells #[u, y, x] t) :: bs) rs (W.setCell ⟨p, 1, none⟩ y) := H.set1 (by simp [World.setCell, Array.getElem?_modify, H.b1])
theorem Home.s312 {w0 W : World} {bs : List (Nat × Obj)} {rs : List RowF} {x0 : Nat × Obj} {p : Nat} {u v x : Value} {t : TypeId} (H : Home w0 (x0 :: (p, .cells #[u, v, x] t) :: bs) rs W) (y : Value) : Home w0 (x0 :: (p, .cells #[u, v, y] t) :: bs) rs (W.setCell ⟨p, 2, none⟩ y) := H.set1 (by simp [World.setCell, Array.getElem?_modify, H.b1])
theorem Home.dropb1 {w0 W : World} {bs : List (Nat × Obj)} {rs : List RowF} {x0 : Nat × Obj} {p : Nat × Obj} (H : Home w0 (x0 :: p :: bs) rs W) : Home w0 (x0 :: bs) rs W := H.sub (.cons_cons _ (.cons _ (List.Sublist.refl _))) (List.Sublist.refl _)
theorem Home.b2 {w0 W : World} {bs : List (Nat × Obj)} {rs : List RowF} {x0 x1 : Nat × Obj} {p : Nat} {o : Obj} (H : Home w0 (x0 :: x1 :: (p, o) :: bs) rs W) : W.heap[p]? = some o := H.box (p, o) (.tail _ (.tail _ (.head _)))
theorem Home.p2 {w0 W : World} {bs : List (Nat × Obj)} {rs : List RowF} {x0 x1 : Nat × Obj} {p : Nat} {o : Obj} (H : Home w0 (x0 :: x1 :: (p, o) :: bs) rs W) : w0.heap.size ≤ p := H.new (p, o) (.tail _ (.tail _ (.head _)))
theorem Home.set2 {w0 W : World} {bs : List (Nat × Obj)} {rs : List RowF} {x0 x1 : Nat × Obj} {p j : Nat} {o o' : Obj} {x : Value} (H : Home w0 (x0 :: x1 :: (p, o) :: bs) rs W) (ho : (W.setCell ⟨p, j, none⟩ x).heap[p]? = some o') : Home w0 (x0 :: x1 :: (p, o') :: bs) rs (W.setCell ⟨p, j, none⟩ x) := Home.set (pre := [x0, x1]) H ho
theorem Home.s220 {w0 W : World} {bs : List (Nat × Obj)} {rs : List RowF} {x0 x1 : Nat × Obj} {p : Nat} {u v : Value} {t : TypeId} (H : Home w0 (x0 :: x1 :: (p, .cells #[u, v] t) :: bs) rs W) (y : Value) : Home w0 (x0 :: x1 :: (p, .cells #[y, v] t) :: bs) rs (W.setCell ⟨p, 0, none⟩ y) := H.set2 (by simp [World.setCell, Array.getElem?_modify, H.b2])
theorem Home.s221 {w0 W : World} {bs : List (Nat × Obj)} {rs : List RowF} {x0 x1 : Nat × Obj} {p : Nat} {u v : Value} {t : TypeId} (H : Home w0 (x0 :: x1 :: (p, .cells #[u, v] t) :: bs) rs W) (y : Value) : Home w0 (x0 :: x1 :: (p, .cells #[u, y] t) :: bs) rs (W.setCell ⟨p, 1, none⟩ y) := H.set2 (by simp [World.setCell, Array.getElem?_modify, H.b2])
theorem Home.s320 {w0 W : World} {bs : List (Nat × Obj)} {rs : List RowF} {x0 x1 : Nat × Obj} {p : Nat} {u v x : Value} {t : TypeId} (H : Home w0 (x0 :: x1 :: (p, .cells #[u, v, x] t) :: bs) rs W) (y : Value) : Home w0 (x0 :: x1 :: (p, .cells #[y, v, x] t) :: bs) rs (W.setCell ⟨p, 0, none⟩ y) := H.set2 (by simp [World.setCell, Array.getElem?_modify, H.b2])
theorem Home.s321 {w0 W : World} {bs : List (Nat × Obj)} {rs : List RowF} {x0 x1 : Nat × Obj} {p : Nat} {u v x : Value} {t : TypeId} (H : Home w0 (x0 :: x1 :: (p, .cells #[u, v, x] t) :: bs) rs W) (y : Value) : Home w0 (x0 :: x1 :: (p, .cells #[u, y, x] t) :: bs) rs (W.setCell ⟨p, 1, none⟩ y) := H.set2 (by simp [World.setCell, Array.getElem?_modify, H.b2])
theorem Home.s322 {w0 W : World} {bs : List (Nat × Obj)} {rs : List RowF} {x0 x1 : Nat × Obj} {p : Nat} {u v x : Value} {t : TypeId} (H : Home w0 (x0 :: x1 :: (p, .cells #[u, v, x] t) :: bs) rs W) (y : Value) : Home w0 (x0 :: x1 :: (p, .cells #[u, v, y] t) :: bs) rs (W.setCell ⟨p, 2, none⟩ y) := H.set2 (by simp [World.setCell, Array.getElem?_modify, H.b2])
theorem Home.dropb2 {w0 W : World} {bs : List (Nat × Obj)} {rs : List RowF} {x0 x1 : Nat × Obj} {p : Nat × Obj} (H : Home w0 (x0 :: x1 :: p :: bs) rs W) : Home w0 (x0 :: x1 :: bs) rs W := H.sub (.cons_cons _ (.cons_cons _ (.cons _ (List.Sublist.refl _)))) (List.Sublist.refl _)
theorem Home.b3 {w0 W : World} {bs : List (Nat × Obj)} {rs : List RowF} {x0 x1 x2 : Nat × Obj} {p : Nat} {o : Obj} (H : Home w0 (x0 :: x1 :: x2 :: (p, o) :: bs) rs W) : W.heap[p]? = some o := H.box (p, o) (.tail _ (.tail _ (.tail _ (.head _))))
theorem Home.p3 {w0 W : World} {bs : List (Nat × Obj)} {rs : List RowF} {x0 x1 x2 : Nat × Obj} {p : Nat} {o : Obj} (H : Home w0 (x0 :: x1 :: x2 :: (p, o) :: bs) rs W) : w0.heap.size ≤ p := H.new (p, o) (.tail _ (.tail _ (.tail _ (.head _))))
theorem Home.set3 {w0 W : World} {bs : List (Nat × Obj)} {rs : List RowF} {x0 x1 x2 : Nat × Obj} {p j : Nat} {o o' : Obj} {x : Value} (H : Home w0 (x0 :: x1 :: x2 :: (p, o) :: bs) rs W) (ho : (W.setCell ⟨p, j, none⟩ x).heap[p]? = some o') : Home w0 (x0 :: x1 :: x2 :: (p, o') :: bs) rs (W.setCell ⟨p, j, none⟩ x) := Home.set (pre := [x0, x1, x2]) H ho
theorem Home.s230 {w0 W : World} {bs : List (Nat × Obj)} {rs : List RowF} {x0 x1 x2 : Nat × Obj} {p : Nat} {u v : Value} {t : TypeId} (H : Home w0 (x0 :: x1 :: x2 :: (p, .cells #[u, v] t) :: bs) rs W) (y : Value) : Home w0 (x0 :: x1 :: x2 :: (p, .cells #[y, v] t) :: bs) rs (W.setCell ⟨p, 0, none⟩ y) := H.set3 (by simp [World.setCell, Array.getElem?_modify, H.b3])
theorem Home.s231 {w0 W : World} {bs : List (Nat × Obj)} {rs : List RowF} {x0 x1 x2 : Nat × Obj} {p : Nat} {u v : Value} {t : TypeId} (H : Home w0 (x0 :: x1 :: x2 :: (p, .cells #[u, v] t) :: bs) rs W) (y : Value) : Home w0 (x0 :: x1 :: x2 :: (p, .cells #[u, y] t) :: bs) rs (W.setCell ⟨p, 1, none⟩ y) := H.set3 (by simp [World.setCell, Array.getElem?_modify, H.b3])
theorem Home.s330 {w0 W : World} {bs : List (Nat × Obj)} {rs : List RowF} {x0 x1 x2 : Nat × Obj} {p : Nat} {u v x : Value} {t : TypeId} (H : Home w0 (x0 :: x1 :: x2 :: (p, .cells #[u, v, x] t) :: bs) rs W) (y : Value) : Home w0 (x0 :: x1 :: x2 :: (p, .cells #[y, v, x] t) :: bs) rs (W.setCell ⟨p, 0, none⟩ y) := H.set3 (by simp [World.setCell, Array.getElem?_modify, H.b3])
theorem Home.s331 {w0 W : World} {bs : List (Nat × Obj)} {rs : List RowF} {x0 x1 x2 : Nat × Obj} {p : Nat} {u v x : Value} {t : TypeId} (H : Home w0 (x0 :: x1 :: x2 :: (p, .cells #[u, v, x] t) :: bs) rs W) (y : Value) : Home w0 (x0 :: x1 :: x2 :: (p, .cells #[u, y, x] t) :: bs) rs (W.setCell ⟨p, 1, none⟩ y) := H.set3 (by simp [World.setCell, Array.getElem?_modify, H.b3])
theorem Home.s332 {w0 W : World} {bs : List (Nat × Obj)} {rs : List RowF} {x0 x1 x2 : Nat × Obj} {p : Nat} {u v x : Value} {t : TypeId} (H : Home w0 (x0 :: x1 :: x2 :: (p, .cells #[u, v, x] t) :: bs) rs W) (y : Value) : Home w0 (x0 :: x1 :: x2 :: (p, .cells #[u, v, y] t) :: bs) rs (W.setCell ⟨p, 2, none⟩ y) := H.set3 (by simp [World.setCell, Array.getElem?_modify, H.b3])
theorem Home.dropb3 {w0 W : World} {bs : List (Nat × Obj)} {rs : List RowF} {x0 x1 x2 : Nat × Obj} {p : Nat × Obj} (H : Home w0 (x0 :: x1 :: x2 :: p :: bs) rs W) : Home w0 (x0 :: x1 :: x2 :: bs) rs W := H.sub (.cons_cons _ (.cons_cons _ (.cons_cons _ (.cons _ (List.Sublist.refl _))))) (List.Sublist.refl _)
theorem Home.b4 {w0 W : World} {bs : List (Nat × Obj)} {rs : List RowF} {x0 x1 x2 x3 : Nat × Obj} {p : Nat} {o : Obj} (H : Home w0 (x0 :: x1 :: x2 :: x3 :: (p, o) :: bs) rs W) : W.heap[p]? = some o := H.box (p, o) (.tail _ (.tail _ (.tail _ (.tail _ (.head _)))))
theorem Home.p4 {w0 W : World} {bs : List (Nat × Obj)} {rs : List RowF} {x0 x1 x2 x3 : Nat × Obj} {p : Nat} {o : Obj} (H : Home w0 (x0 :: x1 :: x2 :: x3 :: (p, o) :: bs) rs W) : w0.heap.size ≤ p := H.new (p, o) (.tail _ (.tail _ (.tail _ (.tail _ (.head _)))))
theorem Home.set4 {w0 W : World} {bs : List (Nat × Obj)} {rs : List RowF} {x0 x1 x2 x3 : Nat × Obj} {p j : Nat} {o o' : Obj} {x : Value} (H : Home w0 (x0 :: x1 :: x2 :: x3 :: (p, o) :: bs) rs W) (ho : (W.setCell ⟨p, j, none⟩ x).heap[p]? = some o') : Home w0 (x0 :: x1 :: x2 :: x3 :: (p, o') :: bs) rs (W.setCell ⟨p, j, none⟩ x) := Home.set (pre := [x0, x1, x2, x3]) H ho
theorem Home.s240 {w0 W : World} {bs : List (Nat × Obj)} {rs : List RowF} {x0 x1 x2 x3 : Nat × Obj} {p : Nat} {u v : Value} {t : TypeId} (H : Home w0 (x0 :: x1 :: x2 :: x3 :: (p, .cells #[u, v] t) :: bs) rs W) (y : Value) : Home w0 (x0 :: x1 :: x2 :: x3 :: (p, .cells #[y, v] t) :: bs) rs (W.setCell ⟨p, 0, none⟩ y) := H.set4 (by simp [World.setCell, Array.getElem?_modify, H.b4])
theorem Home.s241 {w0 W : World} {bs : List (Nat × Obj)} {rs : List RowF} {x0 x1 x2 x3 : Nat × Obj} {p : Nat} {u v : Value} {t : TypeId} (H : Home w0 (x0 :: x1 :: x2 :: x3 :: (p, .cells #[u, v] t) :: bs) rs W) (y : Value) : Home w0 (x0 :: x1 :: x2 :: x3 :: (p, .cells #[u, y] t) :: bs) rs (W.setCell ⟨p, 1, none⟩ y) := H.set4 (by simp [World.setCell, Array.getElem?_modify, H.b4])
theorem Home.s340 {w0 W : World} {bs : List (Nat × Obj)} {rs : List RowF} {x0 x1 x2 x3 : Nat × Obj} {p : Nat} {u v x : Value} {t : TypeId} (H : Home w0 (x0 :: x1 :: x2 :: x3 :: (p, .cells #[u, v, x] t) :: bs) rs W) (y : Value) : Home w0 (x0 :: x1 :: x2 :: x3 :: (p, .cells #[y, v, x] t) :: bs) rs (W.setCell ⟨p, 0, none⟩ y) := H.set4 (by simp [World.setCell, Array.getElem?_modify, H.b4])
theorem Home.s341 {w0 W : World} {bs : List (Nat × Obj)} {rs : List RowF} {x0 x1 x2 x3 : Nat × Obj} {p : Nat} {u v x : Value} {t : TypeId} (H : Home w0 (x0 :: x1 :: x2 :: x3 :: (p, .cells #[u, v, x] t) :: bs) rs W) (y : Value) : Home w0 (x0 :: x1 :: x2 :: x3 :: (p, .cells #[u, y, x] t) :: bs) rs (W.setCell ⟨p, 1, none⟩ y) := H.set4 (by simp [World.setCell, Array.getElem?_modify, H.b4])
theorem Home.s342 {w0 W : World} {bs : List (Nat × Obj)} {rs : List RowF} {x0 x1 x2 x3 : Nat × Obj} {p : Nat} {u v x : Value} {t : TypeId} (H : Home w0 (x0 :: x1 :: x2 :: x3 :: (p, .cells #[u, v, x] t) :: bs) rs W) (y : Value) : Home w0 (x0 :: x1 :: x2 :: x3 :: (p, .cells #[u, v, y] t) :: bs) rs (W.setCell ⟨p, 2, none⟩ y) := H.set4 (by simp [World.setCell, Array.getElem?_modify, H.b4])
theorem Home.dropb4 {w0 W : World} {bs : List (Nat × Obj)} {rs : List RowF} {x0 x1 x2 x3 : Nat × Obj} {p : Nat × Obj} (H : Home w0 (x0 :: x1 :: x2 :: x3 :: p :: bs) rs W) : Home w0 (x0 :: x1 :: x2 :: x3 :: bs) rs W := H.sub (.cons_cons _ (.cons_cons _ (.cons_cons _ (.cons_cons _ (.cons _ (List.Sublist.refl _)))))) (List.Sublist.refl _)
theorem Home.b5 {w0 W : World} {bs : List (Nat × Obj)} {rs : List RowF} {x0 x1 x2 x3 x4 : Nat × Obj} {p : Nat} {o : Obj} (H : Home w0 (x0 :: x1 :: x2 :: x3 :: x4 :: (p, o) :: bs) rs W) : W.heap[p]? = some o := H.box (p, o) (.tail _ (.tail _ (.tail _ (.tail _ (.tail _ (.head _))))))
theorem Home.p5 {w0 W : World} {bs : List (Nat × Obj)} {rs : List RowF} {x0 x1 x2 x3 x4 : Nat × Obj} {p : Nat} {o : Obj} (H : Home w0 (x0 :: x1 :: x2 :: x3 :: x4 :: (p, o) :: bs) rs W) : w0.heap.size ≤ p := H.new (p, o) (.tail _ (.tail _ (.tail _ (.tail _ (.tail _ (.head _))))))
theorem Home.set5 {w0 W : World} {bs : List (Nat × Obj)} {rs : List RowF} {x0 x1 x2 x3 x4 : Nat × Obj} {p j : Nat} {o o' : Obj} {x : Value} (H : Home w0 (x0 :: x1 :: x2 :: x3 :: x4 :: (p, o) :: bs) rs W) (ho : (W.setCell ⟨p, j, none⟩ x).heap[p]? = some o') : Home w0 (x0 :: x1 :: x2 :: x3 :: x4 :: (p, o') :: bs) rs (W.setCell ⟨p, j, none⟩ x) := Home.set (pre := [x0, x1, x2, x3, x4]) H ho
theorem Home.s250 {w0 W : World} {bs : List (Nat × Obj)} {rs : List RowF} {x0 x1 x2 x3 x4 : Nat × Obj} {p : Nat} {u v : Value} {t : TypeId} (H : Home w0 (x0 :: x1 :: x2 :: x3 :: x4 :: (p, .cells #[u, v] t) :: bs) rs W) (y : Value) : Home w0 (x0 :: x1 :: x2 :: x3 :: x4 :: (p, .cells #[y, v] t) :: bs) rs (W.setCell ⟨p, 0, none⟩ y) := H.set5 (by simp [World.setCell, Array.getElem?_modify, H.b5])
theorem Home.s251 {w0 W : World} {bs : List (Nat × Obj)} {rs : List RowF} {x0 x1 x2 x3 x4 : Nat × Obj} {p : Nat} {u v : Value} {t : TypeId} (H : Home w0 (x0 :: x1 :: x2 :: x3 :: x4 :: (p, .cells #[u, v] t) :: bs) rs W) (y : Value) : Home w0 (x0 :: x1 :: x2 :: x3 :: x4 :: (p, .cells #[u, y] t) :: bs) rs (W.setCell ⟨p, 1, none⟩ y) := H.set5 (by simp [World.setCell, Array.getElem?_modify, H.b5])
theorem Home.s350 {w0 W : World} {bs : List (Nat × Obj)} {rs : List RowF} {x0 x1 x2 x3 x4 : Nat × Obj} {p : Nat} {u v x : Value} {t : TypeId} (H : Home w0 (x0 :: x1 :: x2 :: x3 :: x4 :: (p, .cells #[u, v, x] t) :: bs) rs W) (y : Value) : Home w0 (x0 :: x1 :: x2 :: x3 :: x4 :: (p, .cells #[y, v, x] t) :: bs) rs (W.setCell ⟨p, 0, none⟩ y) := H.set5 (by simp [World.setCell, Array.getElem?_modify, H.b5])
theorem Home.s351 {w0 W : World} {bs : List (Nat × Obj)} {rs : List RowF} {x0 x1 x2 x3 x4 : Nat × Obj} {p : Nat} {u v x : Value} {t : TypeId} (H : Home w0 (x0 :: x1 :: x2 :: x3 :: x4 :: (p, .cells #[u, v, x] t) :: bs) rs W) (y : Value) : Home w0 (x0 :: x1 :: x2 :: x3 :: x4 :: (p, .cells #[u, y, x] t) :: bs) rs (W.setCell ⟨p, 1, none⟩ y) := H.set5 (by simp [World.setCell, Array.getElem?_modify, H.b5])
theorem Home.s352 {w0 W : World} {bs : List (Nat × Obj)} {rs : List RowF} {x0 x1 x2 x3 x4 : Nat × Obj} {p : Nat} {u v x : Value} {t : TypeId} (H : Home w0 (x0 :: x1 :: x2 :: x3 :: x4 :: (p, .cells #[u, v, x] t) :: bs) rs W) (y : Value) : Home w0 (x0 :: x1 :: x2 :: x3 :: x4 :: (p, .cells #[u, v, y] t) :: bs) rs (W.setCell ⟨p, 2, none⟩ y) := H.set5 (by simp [World.setCell, Array.getElem?_modify, H.b5])
theorem Home.dropb5 {w0 W : World} {bs : List (Nat × Obj)} {rs : List RowF} {x0 x1 x2 x3 x4 : Nat × Obj} {p : Nat × Obj} (H : Home w0 (x0 :: x1 :: x2 :: x3 :: x4 :: p :: bs) rs W) : Home w0 (x0 :: x1 :: x2 :: x3 :: x4 :: bs) rs W := H.sub (.cons_cons _ (.cons_cons _ (.cons_cons _ (.cons_cons _ (.cons_cons _ (.cons _ (List.Sublist.refl _))))))) (List.Sublist.refl _)
theorem Home.b6 {w0 W : World} {bs : List (Nat × Obj)} {rs : List RowF} {x0 x1 x2 x3 x4 x5 : Nat × Obj} {p : Nat} {o : Obj} (H : Home w0 (x0 :: x1 :: x2 :: x3 :: x4 :: x5 :: (p, o) :: bs) rs W) : W.heap[p]? = some o := H.box (p, o) (.tail _ (.tail _ (.tail _ (.tail _ (.tail _ (.tail _ (.head _)))))))
theorem Home.p6 {w0 W : World} {bs : List (Nat × Obj)} {rs : List RowF} {x0 x1 x2 x3 x4 x5 : Nat × Obj} {p : Nat} {o : Obj} (H : Home w0 (x0 :: x1 :: x2 :: x3 :: x4 :: x5 :: (p, o) :: bs) rs W) : w0.heap.size ≤ p := H.new (p, o) (.tail _ (.tail _ (.tail _ (.tail _ (.tail _ (.tail _ (.head _)))))))
theorem Home.set6 {w0 W : World} {bs : List (Nat × Obj)} {rs : List RowF} {x0 x1 x2 x3 x4 x5 : Nat × Obj} {p j : Nat} {o o' : Obj} {x : Value} (H : Home w0 (x0 :: x1 :: x2 :: x3 :: x4 :: x5 :: (p, o) :: bs) rs W) (ho : (W.setCell ⟨p, j, none⟩ x).heap[p]? = some o') : Home w0 (x0 :: x1 :: x2 :: x3 :: x4 :: x5 :: (p, o') :: bs) rs (W.setCell ⟨p, j, none⟩ x) := Home.set (pre := [x0, x1, x2, x3, x4, x5]) H ho
theorem Home.s260 {w0 W : World} {bs : List (Nat × Obj)} {rs : List RowF} {x0 x1 x2 x3 x4 x5 : Nat × Obj} {p : Nat} {u v : Value} {t : TypeId} (H : Home w0 (x0 :: x1 :: x2 :: x3 :: x4 :: x5 :: (p, .cells #[u, v] t) :: bs) rs W) (y : Value) : Home w0 (x0 :: x1 :: x2 :: x3 :: x4 :: x5 :: (p, .cells #[y, v] t) :: bs) rs (W.setCell ⟨p, 0, none⟩ y) := H.set6 (by simp [World.setCell, Array.getElem?_modify, H.b6])
theorem Home.s261 {w0 W : World} {bs : List (Nat × Obj)} {rs : List RowF} {x0 x1 x2 x3 x4 x5 : Nat × Obj} {p : Nat} {u v : Value} {t : TypeId} (H : Home w0 (x0 :: x1 :: x2 :: x3 :: x4 :: x5 :: (p, .cells #[u, v] t) :: bs) rs W) (y : Value) : Home w0 (x0 :: x1 :: x2 :: x3 :: x4 :: x5 :: (p, .cells #[u, y] t) :: bs) rs (W.setCell ⟨p, 1, none⟩ y) := H.set6 (by simp [World.setCell, Array.getElem?_modify, H.b6])
theorem Home.s360 {w0 W : World} {bs : List (Nat × Obj)} {rs : List RowF} {x0 x1 x2 x3 x4 x5 : Nat × Obj} {p : Nat} {u v x : Value} {t : TypeId} (H : Home w0 (x0 :: x1 :: x2 :: x3 :: x4 :: x5 :: (p, .cells #[u, v, x] t) :: bs) rs W) (y : Value) : Home w0 (x0 :: x1 :: x2 :: x3 :: x4 :: x5 :: (p, .cells #[y, v, x] t) :: bs) rs (W.setCell ⟨p, 0, none⟩ y) := H.set6 (by simp [World.setCell, Array.getElem?_modify, H.b6])
theorem Home.s361 {w0 W : World} {bs : List (Nat × Obj)} {rs : List RowF} {x0 x1 x2 x3 x4 x5 : Nat × Obj} {p : Nat} {u v x : Value} {t : TypeId} (H : Home w0 (x0 :: x1 :: x2 :: x3 :: x4 :: x5 :: (p, .cells #[u, v, x] t) :: bs) rs W) (y : Value) : Home w0 (x0 :: x1 :: x2 :: x3 :: x4 :: x5 :: (p, .cells #[u, y, x] t) :: bs) rs (W.setCell ⟨p, 1, none⟩ y) := H.set6 (by simp [World.setCell, Array.getElem?_modify, H.b6])
theorem Home.s362 {w0 W : World} {bs : List (Nat × Obj)} {rs : List RowF} {x0 x1 x2 x3 x4 x5 : Nat × Obj} {p : Nat} {u v x : Value} {t : TypeId} (H : Home w0 (x0 :: x1 :: x2 :: x3 :: x4 :: x5 :: (p, .cells #[u, v, x] t) :: bs) rs W) (y : Value) : Home w0 (x0 :: x1 :: x2 :: x3 :: x4 :: x5 :: (p, .cells #[u, v, y] t) :: bs) rs (W.setCell ⟨p, 2, none⟩ y) := H.set6 (by simp [World.setCell, Array.getElem?_modify, H.b6])
theorem Home.dropb6 {w0 W : World} {bs : List (Nat × Obj)} {rs : List RowF} {x0 x1 x2 x3 x4 x5 : Nat × Obj} {p : Nat × Obj} (H : Home w0 (x0 :: x1 :: x2 :: x3 :: x4 :: x5 :: p :: bs) rs W) : Home w0 (x0 :: x1 :: x2 :: x3 :: x4 :: x5 :: bs) rs W := H.sub (.cons_cons _ (.cons_cons _ (.cons_cons _ (.cons_cons _ (.cons_cons _ (.cons_cons _ (.cons _ (List.Sublist.refl _)))))))) (List.Sublist.refl _)
theorem Home.b7 {w0 W : World} {bs : List (Nat × Obj)} {rs : List RowF} {x0 x1 x2 x3 x4 x5 x6 : Nat × Obj} {p : Nat} {o : Obj} (H : Home w0 (x0 :: x1 :: x2 :: x3 :: x4 :: x5 :: x6 :: (p, o) :: bs) rs W) : W.heap[p]? = some o := H.box (p, o) (.tail _ (.tail _ (.tail _ (.tail _ (.tail _ (.tail _ (.tail _ (.head _))))))))
theorem Home.p7 {w0 W : World} {bs : List (Nat × Obj)} {rs : List RowF} {x0 x1 x2 x3 x4 x5 x6 : Nat × Obj} {p : Nat} {o : Obj} (H : Home w0 (x0 :: x1 :: x2 :: x3 :: x4 :: x5 :: x6 :: (p, o) :: bs) rs W) : w0.heap.size ≤ p := H.new (p, o) (.tail _ (.tail _ (.tail _ (.tail _ (.tail _ (.tail _ (.tail _ (.head _))))))))
theorem Home.set7 {w0 W : World} {bs : List (Nat × Obj)} {rs : List RowF} {x0 x1 x2 x3 x4 x5 x6 : Nat × Obj} {p j : Nat} {o o' : Obj} {x : Value} (H : Home w0 (x0 :: x1 :: x2 :: x3 :: x4 :: x5 :: x6 :: (p, o) :: bs) rs W) (ho : (W.setCell ⟨p, j, none⟩ x).heap[p]? = some o') : Home w0 (x0 :: x1 :: x2 :: x3 :: x4 :: x5 :: x6 :: (p, o') :: bs) rs (W.setCell ⟨p, j, none⟩ x) := Home.set (pre := [x0, x1, x2, x3, x4, x5, x6]) H ho
theorem Home.s270 {w0 W : World} {bs : List (Nat × Obj)} {rs : List RowF} {x0 x1 x2 x3 x4 x5 x6 : Nat × Obj} {p : Nat} {u v : Value} {t : TypeId} (H : Home w0 (x0 :: x1 :: x2 :: x3 :: x4 :: x5 :: x6 :: (p, .cells #[u, v] t) :: bs) rs W) (y : Value) : Home w0 (x0 :: x1 :: x2 :: x3 :: x4 :: x5 :: x6 :: (p, .cells #[y, v] t) :: bs) rs (W.setCell ⟨p, 0, none⟩ y) := H.set7 (by simp [World.setCell, Array.getElem?_modify, H.b7])
theorem Home.s271 {w0 W : World} {bs : List (Nat × Obj)} {rs : List RowF} {x0 x1 x2 x3 x4 x5 x6 : Nat × Obj} {p : Nat} {u v : Value} {t : TypeId} (H : Home w0 (x0 :: x1 :: x2 :: x3 :: x4 :: x5 :: x6 :: (p, .cells #[u, v] t) :: bs) rs W) (y : Value) : Home w0 (x0 :: x1 :: x2 :: x3 :: x4 :: x5 :: x6 :: (p, .cells #[u, y] t) :: bs) rs (W.setCell ⟨p, 1, none⟩ y) := H.set7 (by simp [World.setCell, Array.getElem?_modify, H.b7])
theorem Home.s370 {w0 W : World} {bs : List (Nat × Obj)} {rs : List RowF} {x0 x1 x2 x3 x4 x5 x6 : Nat × Obj} {p : Nat} {u v x : Value} {t : TypeId} (H : Home w0 (x0 :: x1 :: x2 :: x3 :: x4 :: x5 :: x6 :: (p, .cells #[u, v, x] t) :: bs) rs W) (y : Value) : Home w0 (x0 :: x1 :: x2 :: x3 :: x4 :: x5 :: x6 :: (p, .cells #[y, v, x] t) :: bs) rs (W.setCell ⟨p, 0, none⟩ y) := H.set7 (by simp [World.setCell, Array.getElem?_modify, H.b7])
theorem Home.s371 {w0 W : World} {bs : List (Nat × Obj)} {rs : List RowF} {x0 x1 x2 x3 x4 x5 x6 : Nat × Obj} {p : Nat} {u v x : Value} {t : TypeId} (H : Home w0 (x0 :: x1 :: x2 :: x3 :: x4 :: x5 :: x6 :: (p, .cells #[u, v, x] t) :: bs) rs W) (y : Value) : Home w0 (x0 :: x1 :: x2 :: x3 :: x4 :: x5 :: x6 :: (p, .cells #[u, y, x] t) :: bs) rs (W.setCell ⟨p, 1, none⟩ y) := H.set7 (by simp [World.setCell, Array.getElem?_modify, H.b7])
theorem Home.s372 {w0 W : World} {bs : List (Nat × Obj)} {rs : List RowF} {x0 x1 x2 x3 x4 x5 x6 : Nat × Obj} {p : Nat} {u v x : Value} {t : TypeId} (H : Home w0 (x0 :: x1 :: x2 :: x3 :: x4 :: x5 :: x6 :: (p, .cells #[u, v, x] t) :: bs) rs W) (y : Value) : Home w0 (x0 :: x1 :: x2 :: x3 :: x4 :: x5 :: x6 :: (p, .cells #[u, v, y] t) :: bs) rs (W.setCell ⟨p, 2, none⟩ y) := H.set7 (by simp [World.setCell, Array.getElem?_modify, H.b7])
theorem Home.dropb7 {w0 W : World} {bs : List (Nat × Obj)} {rs : List RowF} {x0 x1 x2 x3 x4 x5 x6 : Nat × Obj} {p : Nat × Obj} (H : Home w0 (x0 :: x1 :: x2 :: x3 :: x4 :: x5 :: x6 :: p :: bs) rs W) : Home w0 (x0 :: x1 :: x2 :: x3 :: x4 :: x5 :: x6 :: bs) rs W := H.sub (.cons_cons _ (.cons_cons _ (.cons_cons _ (.cons_cons _ (.cons_cons _ (.cons_cons _ (.cons_cons _ (.cons _ (List.Sublist.refl _))))))))) (List.Sublist.refl _)
theorem Home.r0 {w0 W : World} {bs : List (Nat × Obj)} {rs : List RowF} {r : RowF} (H : Home w0 bs (r :: rs) W) : r.on W := H.row r (.head _)
theorem Home.turn0 {w0 W W' : World} {bs : List (Nat × Obj)} {rs : List RowF} {r r' : RowF} (H : Home w0 bs (r :: rs) W) (hg : W.grownBy W' r.v.ownBlock) (h : r'.on W') (hB : r'.B = r.B) (hd : r'.v.ownBlock = r.v.ownBlock ∨ ((∀ s, s ∈ rs → s.t ≠ r'.t) ∧ ∀ p, p ∈ bs → objType p.2 ≠ some r'.t)) : Home w0 bs (r' :: rs) W' := Home.turn (pre := []) H hg h hB hd
theorem Home.dropr0 {w0 W : World} {bs : List (Nat × Obj)} {rs : List RowF} {r : RowF} (H : Home w0 bs (r :: rs) W) : Home w0 bs (rs) W := H.sub (List.Sublist.refl _) (.cons _ (List.Sublist.refl _))
theorem Home.r1 {w0 W : World} {bs : List (Nat × Obj)} {rs : List RowF} {x0 : RowF} {r : RowF} (H : Home w0 bs (x0 :: r :: rs) W) : r.on W := H.row r (.tail _ (.head _))
theorem Home.turn1 {w0 W W' : World} {bs : List (Nat × Obj)} {rs : List RowF} {x0 : RowF} {r r' : RowF} (H : Home w0 bs (x0 :: r :: rs) W) (hg : W.grownBy W' r.v.ownBlock) (h : r'.on W') (hB : r'.B = r.B) (hd : r'.v.ownBlock = r.v.ownBlock ∨ ((∀ s, s ∈ x0 :: rs → s.t ≠ r'.t) ∧ ∀ p, p ∈ bs → objType p.2 ≠ some r'.t)) : Home w0 bs (x0 :: r' :: rs) W' := Home.turn (pre := [x0]) H hg h hB hd
theorem Home.dropr1 {w0 W : World} {bs : List (Nat × Obj)} {rs : List RowF} {x0 : RowF} {r : RowF} (H : Home w0 bs (x0 :: r :: rs) W) : Home w0 bs (x0 :: rs) W := H.sub (List.Sublist.refl _) (.cons_cons _ (.cons _ (List.Sublist.refl _)))
theorem Home.r2 {w0 W : World} {bs : List (Nat × Obj)} {rs : List RowF} {x0 x1 : RowF} {r : RowF} (H : Home w0 bs (x0 :: x1 :: r :: rs) W) : r.on W := H.row r (.tail _ (.tail _ (.head _)))
theorem Home.turn2 {w0 W W' : World} {bs : List (Nat × Obj)} {rs : List RowF} {x0 x1 : RowF} {r r' : RowF} (H : Home w0 bs (x0 :: x1 :: r :: rs) W) (hg : W.grownBy W' r.v.ownBlock) (h : r'.on W') (hB : r'.B = r.B) (hd : r'.v.ownBlock = r.v.ownBlock ∨ ((∀ s, s ∈ x0 :: x1 :: rs → s.t ≠ r'.t) ∧ ∀ p, p ∈ bs → objType p.2 ≠ some r'.t)) : Home w0 bs (x0 :: x1 :: r' :: rs) W' := Home.turn (pre := [x0, x1]) H hg h hB hd
theorem Home.dropr2 {w0 W : World} {bs : List (Nat × Obj)} {rs : List RowF} {x0 x1 : RowF} {r : RowF} (H : Home w0 bs (x0 :: x1 :: r :: rs) W) : Home w0 bs (x0 :: x1 :: rs) W := H.sub (List.Sublist.refl _) (.cons_cons _ (.cons_cons _ (.cons _ (List.Sublist.refl _))))
theorem Home.r3 {w0 W : World} {bs : List (Nat × Obj)} {rs : List RowF} {x0 x1 x2 : RowF} {r : RowF} (H : Home w0 bs (x0 :: x1 :: x2 :: r :: rs) W) : r.on W := H.row r (.tail _ (.tail _ (.tail _ (.head _))))
theorem Home.turn3 {w0 W W' : World} {bs : List (Nat × Obj)} {rs : List RowF} {x0 x1 x2 : RowF} {r r' : RowF} (H : Home w0 bs (x0 :: x1 :: x2 :: r :: rs) W) (hg : W.grownBy W' r.v.ownBlock) (h : r'.on W') (hB : r'.B = r.B) (hd : r'.v.ownBlock = r.v.ownBlock ∨ ((∀ s, s ∈ x0 :: x1 :: x2 :: rs → s.t ≠ r'.t) ∧ ∀ p, p ∈ bs → objType p.2 ≠ some r'.t)) : Home w0 bs (x0 :: x1 :: x2 :: r' :: rs) W' := Home.turn (pre := [x0, x1, x2]) H hg h hB hd
theorem Home.dropr3 {w0 W : World} {bs : List (Nat × Obj)} {rs : List RowF} {x0 x1 x2 : RowF} {r : RowF} (H : Home w0 bs (x0 :: x1 :: x2 :: r :: rs) W) : Home w0 bs (x0 :: x1 :: x2 :: rs) W := H.sub (List.Sublist.refl _) (.cons_cons _ (.cons_cons _ (.cons_cons _ (.cons _ (List.Sublist.refl _)))))
theorem Home.r4 {w0 W : World} {bs : List (Nat × Obj)} {rs : List RowF} {x0 x1 x2 x3 : RowF} {r : RowF} (H : Home w0 bs (x0 :: x1 :: x2 :: x3 :: r :: rs) W) : r.on W := H.row r (.tail _ (.tail _ (.tail _ (.tail _ (.head _)))))
theorem Home.turn4 {w0 W W' : World} {bs : List (Nat × Obj)} {rs : List RowF} {x0 x1 x2 x3 : RowF} {r r' : RowF} (H : Home w0 bs (x0 :: x1 :: x2 :: x3 :: r :: rs) W) (hg : W.grownBy W' r.v.ownBlock) (h : r'.on W') (hB : r'.B = r.B) (hd : r'.v.ownBlock = r.v.ownBlock ∨ ((∀ s, s ∈ x0 :: x1 :: x2 :: x3 :: rs → s.t ≠ r'.t) ∧ ∀ p, p ∈ bs → objType p.2 ≠ some r'.t)) : Home w0 bs (x0 :: x1 :: x2 :: x3 :: r' :: rs) W' := Home.turn (pre := [x0, x1, x2, x3]) H hg h hB hd
theorem Home.dropr4 {w0 W : World} {bs : List (Nat × Obj)} {rs : List RowF} {x0 x1 x2 x3 : RowF} {r : RowF} (H : Home w0 bs (x0 :: x1 :: x2 :: x3 :: r :: rs) W) : Home w0 bs (x0 :: x1 :: x2 :: x3 :: rs) W := H.sub (List.Sublist.refl _) (.cons_cons _ (.cons_cons _ (.cons_cons _ (.cons_cons _ (.cons _ (List.Sublist.refl _))))))
theorem Home.r5 {w0 W : World} {bs : List (Nat × Obj)} {rs : List RowF} {x0 x1 x2 x3 x4 : RowF} {r : RowF} (H : Home w0 bs (x0 :: x1 :: x2 :: x3 :: x4 :: r :: rs) W) : r.on W := H.row r (.tail _ (.tail _ (.tail _ (.tail _ (.tail _ (.head _))))))
theorem Home.turn5 {w0 W W' : World} {bs : List (Nat × Obj)} {rs : List RowF} {x0 x1 x2 x3 x4 : RowF} {r r' : RowF} (H : Home w0 bs (x0 :: x1 :: x2 :: x3 :: x4 :: r :: rs) W) (hg : W.grownBy W' r.v.ownBlock) (h : r'.on W') (hB : r'.B = r.B) (hd : r'.v.ownBlock = r.v.ownBlock ∨ ((∀ s, s ∈ x0 :: x1 :: x2 :: x3 :: x4 :: rs → s.t ≠ r'.t) ∧ ∀ p, p ∈ bs → objType p.2 ≠ some r'.t)) : Home w0 bs (x0 :: x1 :: x2 :: x3 :: x4 :: r' :: rs) W' := Home.turn (pre := [x0, x1, x2, x3, x4]) H hg h hB hd
theorem Home.dropr5 {w0 W : World} {bs : List (Nat × Obj)} {rs : List RowF} {x0 x1 x2 x3 x4 : RowF} {r : RowF} (H : Home w0 bs (x0 :: x1 :: x2 :: x3 :: x4 :: r :: rs) W) : Home w0 bs (x0 :: x1 :: x2 :: x3 :: x4 :: rs) W := H.sub (List.Sublist.refl _) (.cons_cons _ (.cons_cons _ (.cons_cons _ (.cons_cons _ (.cons_cons _ (.cons _ (List.Sublist.refl _)))))))
theorem Home.r6 {w0 W : World} {bs : List (Nat × Obj)} {rs : List RowF} {x0 x1 x2 x3 x4 x5 : RowF} {r : RowF} (H : Home w0 bs (x0 :: x1 :: x2 :: x3 :: x4 :: x5 :: r :: rs) W) : r.on W := H.row r (.tail _ (.tail _ (.tail _ (.tail _ (.tail _ (.tail _ (.head _)))))))
theorem Home.turn6 {w0 W W' : World} {bs : List (Nat × Obj)} {rs : List RowF} {x0 x1 x2 x3 x4 x5 : RowF} {r r' : RowF} (H : Home w0 bs (x0 :: x1 :: x2 :: x3 :: x4 :: x5 :: r :: rs) W) (hg : W.grownBy W' r.v.ownBlock) (h : r'.on W') (hB : r'.B = r.B) (hd : r'.v.ownBlock = r.v.ownBlock ∨ ((∀ s, s ∈ x0 :: x1 :: x2 :: x3 :: x4 :: x5 :: rs → s.t ≠ r'.t) ∧ ∀ p, p ∈ bs → objType p.2 ≠ some r'.t)) : Home w0 bs (x0 :: x1 :: x2 :: x3 :: x4 :: x5 :: r' :: rs) W' := Home.turn (pre := [x0, x1, x2, x3, x4, x5]) H hg h hB hd
theorem Home.dropr6 {w0 W : World} {bs : List (Nat × Obj)} {rs : List RowF} {x0 x1 x2 x3 x4 x5 : RowF} {r : RowF} (H : Home w0 bs (x0 :: x1 :: x2 :: x3 :: x4 :: x5 :: r :: rs) W) : Home w0 bs (x0 :: x1 :: x2 :: x3 :: x4 :: x5 :: rs) W := H.sub (List.Sublist.refl _) (.cons_cons _ (.cons_cons _ (.cons_cons _ (.cons_cons _ (.cons_cons _ (.cons_cons _ (.cons _ (List.Sublist.refl _))))))))
end Go.Proofs.Ytjilbfohfgalkaa
/- l3Raise of the model: it writes into the versions alone. -/
namespace Go.Proofs.Ytjilbfohfgalkaa
open Go.RowKit

theorem hidS {p : Prop} (h : p) : Hid p := h
theorem grown_out {w W : World} {row : Option Nat} (h : w.grownBy W row) (b o : Nat) (v : Value) (hb : w.heap.size ≤ b) : w.grownBy (W.setCell ⟨b, o, none⟩ v) row :=
  ⟨h.os, h.tape, h.output, by simpa [World.setCell] using h.size, fun k hk hne => by rw [Below.heap_setCell _ _ _ _ (show k ≠ b by omega)]; exact h.block k hk hne⟩
theorem grown_drew {w W : World} {row : Option Nat} (h : w.grownBy W row) : w.grownBy W.drew row := ⟨h.os, h.tape, h.output, h.size, h.block⟩
theorem grown_below {w W : World} (h : Below w.heap.size w W) (row : Option Nat) : w.grownBy W row := ⟨h.os, h.tape, h.output, h.size, fun k hk _ => h.block k hk⟩
theorem intsKeep {B b o : Nat} {v : Value} {xs : List Int} {W : World} (h : Ints B v xs W) (u : Value) (hb : v.ownBlock ≠ some b) : Ints B v xs (W.setCell ⟨b, o, none⟩ u) := h.kept (grown_set W b o u) (fun k e e' => by cases e; exact hb e')
theorem seatsKeep {B b o : Nat} {v : Value} {xs : List (Int × Int)} {W : World} (h : Seats B v xs W) (u : Value) (hb : v.ownBlock ≠ some b) : Seats B v xs (W.setCell ⟨b, o, none⟩ u) := h.kept (grown_set W b o u) (fun k e e' => by cases e; exact hb e')

set_option maxRecDepth 100000 in
set_option maxHeartbeats 2000000 in
theorem l3Raise_eq {B : Nat} {x : Value} {vs : List Int} {w : World} (ep : Int) (ay : Option Addr) (ny cy : Nat) (j : Nat) (hj : j < 15) (hl : vs.length = 15) (hx : Ints B x vs w) :
    Calls Try.prog 85 #[svv ep x (.slice ay ny cy), .int .i64 ((j : Int) + 1)] w fun e w' => e = .returned (svv ep x (.slice ay ny cy)) ∧ Ints B x (vs.set j (wrap64 (vAt vs j + 1))) w' ∧ w.grownBy w' x.ownBlock := by
  obtain ⟨a, c, hv, _, hrow⟩ := hx.row
  subst hv
  obtain ⟨g, rfl, hg, hseg⟩ : ∃ g, a = some ⟨g, 0, none⟩ ∧ g < w.heap.size ∧ ISeg g 0 vs w := by
    rcases hrow with e | e
    · rw [e] at hl; simp at hl
    · exact e
  have hfr : w.frozen? ⟨g, j, none⟩ = false := by
    rcases hx.form with ⟨e, _⟩ | ⟨g', cap, e, _, _, _, _, hf⟩
    · cases e
    · cases e
      exact (hf j (by omega)).2
  have a1 := hseg j (by omega)
  rw [Nat.zero_add] at a1
  rw [hl] at hx ⊢
  have H1 := ((Home.start w).alloc (svb ep (.slice (some ⟨g, 0, none⟩) 15 c) (.slice ay ny cy))).alloc (svb 0 (.slice none 0 0) (.slice none 0 0))
  have hB1 := H1.bel
  have a1 := cell_since a1 hB1
  have hfr := (hB1.frozen (p := ⟨g, j, none⟩) hg).trans hfr
  have HX := hidS (hx.since hB1)
  simp only [World.size_alloc] at H1
  rw [← vAt_get vs j (by omega)] at a1
  generalize vAt vs j = z at a1 ⊢
  have b0 := H1.b1
  have b1 := H1.b0
  have HH := hidS H1
  obtain ⟨⟨p0, p1, p2⟩, f0, f1, f2⟩ := box3 b0
  obtain ⟨⟨q0, q1, q2⟩, h0, h1, h2⟩ := box3 b1
  clear hseg hrow H1 hx b0 b1
  go_enter Try.func85, Try.ntmps85
  go_wp2
  generalize (w.alloc (svb ep (.slice (some ⟨g, 0, none⟩) 15 c) (.slice ay ny cy))).alloc (svb 0 (.slice none 0 0) (.slice none 0 0)) = w1 at *
  go_region
  all_goals
    have st := Ints.stored (n := 15) hl HX.out j (by omega) (wrap64 (z + 1))
    have g2 := grown_drew st.2
    have k2 : Ints B (.slice (some ⟨g, 0, none⟩) 15 c) (vs.set j (wrap64 (z + 1))) (w1.setCell ⟨g, j, none⟩ (.int .i64 (wrap64 (z + 1)))).drew := st.1
    have hs1 := hB1.size
    have b0 := (g2.block _ (blkLt HH.out.b1) (fun e => by cases e; have := HH.out.p1; omega)).trans HH.out.b1
    have b1 := (g2.block _ (blkLt HH.out.b0) (fun e => by cases e; have := HH.out.p0; omega)).trans HH.out.b0
    have G2 := hidS (show w.grownBy (w1.setCell ⟨g, j, none⟩ (.int .i64 (wrap64 (z + 1)))).drew (some g) from (grown_below hB1 (some g)).trans g2)
    have K2 := hidS k2
    clear st g2 k2 HX HH a1 hfr p0 p1 p2 f0 f1 f2 q0 q1 q2 h0 h1 h2
    generalize (w1.setCell ⟨g, j, none⟩ (.int .i64 (wrap64 (z + 1)))).drew = w2 at *
    obtain ⟨⟨p0, p1, p2⟩, f0, f1, f2⟩ := box3 b0
    obtain ⟨⟨q0, q1, q2⟩, h0, h1, h2⟩ := box3 b1
    have HF := hidS (box3_set2 (box3_set1 (box3_set0 b1 (.int .i64 ep)) (.slice (some ⟨g, 0, none⟩) 15 c)) (.slice ay ny cy))
    have hgne : (Value.slice (some ⟨g, 0, none⟩) 15 c).ownBlock ≠ some (w.heap.size + 1) := fun e => by have := Option.some.inj (show some g = some _ from e); omega
    have K3 := hidS (intsKeep (o := 2) (intsKeep (o := 1) (intsKeep (o := 0) K2.out (.int .i64 ep) hgne) (.slice (some ⟨g, 0, none⟩) 15 c) hgne) (.slice ay ny cy) hgne)
    have G3 := hidS (grown_out (grown_out (grown_out G2.out (w.heap.size + 1) 0 (.int .i64 ep) (by omega)) (w.heap.size + 1) 1 (.slice (some ⟨g, 0, none⟩) 15 c) (by omega)) (w.heap.size + 1) 2 (.slice ay ny cy) (by omega))
    clear K2 G2 b0 b1 hgne
    go_wp2
    have bF := HF.out
    have gK := K3.out
    have gG := G3.out
    clear HF K3 G3
    generalize ((w2.setCell ⟨w.heap.size + 1, 0, none⟩ (.int .i64 ep)).setCell ⟨w.heap.size + 1, 1, none⟩ (.slice (some ⟨g, 0, none⟩) 15 c)).setCell ⟨w.heap.size + 1, 2, none⟩ (.slice ay ny cy) = WF at bF gK gG ⊢
    obtain ⟨⟨z0, z1, z2⟩, _, _, _⟩ := box3 bF
    exact bodyPost_ret (v := svv ep (.slice (some ⟨g, 0, none⟩) 15 c) (.slice ay ny cy)) (by simp [results, Try.results85, go_sem, z0, z1, z2]) rfl ⟨rfl, gK, gG⟩
theorem l3Raise_any {B : Nat} {x : Value} {vs : List Int} {w : World} (ep : Int) (ay : Option Addr) (ny cy : Nat) (j : Nat) (hj : j < 15) (hl : vs.length = 15) (hx : Ints B x vs w) :
    Calls Try.prog 85 #[svv ep x (.slice ay ny cy), .int .i64 ((j : Int) + 1)] w fun e w' => e = .returned (svv ep x (.slice ay ny cy)) ∧ ∃ z, Ints B x (vs.set j z) w' ∧ w.grownBy w' x.ownBlock :=
  (l3Raise_eq ep ay ny cy j hj hl hx).mono fun _ _ ⟨h1, h2, h3⟩ => ⟨h1, _, h2, h3⟩
end Go.Proofs.Ytjilbfohfgalkaa
/- l3Some, l3Room, l3Form of the model: they answer, and turn nothing that was there. -/
namespace Go.Proofs.Ytjilbfohfgalkaa
open Go.RowKit

/-- Does somebody sit below a node? -/
def someB (ss : List (Int × Int)) (node : Int) : Bool := (List.range ss.length).any fun i => decide (node ∈ path (kAt ss i).2)
theorem someB_true {ss : List (Int × Int)} {node : Int} {k : Nat} (hk : k < ss.length) (h : node ∈ path (kAt ss k).2) : someB ss node = true := by
  unfold someB
  rw [List.any_eq_true]
  exact ⟨k, List.mem_range.2 hk, decide_eq_true h⟩
theorem someB_false {ss : List (Int × Int)} {node : Int} (h : ∀ i, i < ss.length → ¬ node ∈ path (kAt ss i).2) : someB ss node = false := by
  unfold someB
  rw [List.any_eq_false]
  intro i hi
  simpa using h i (List.mem_range.1 hi)
set_option maxRecDepth 100000 in
set_option maxHeartbeats 2000000 in
theorem l3Some_eq {C : Nat} {x y : Value} {ss : List (Int × Int)} {w : World} (ep node : Int) (hy : Seats C y ss w) :
    Calls Try.prog 91 #[svv ep x y, .int .i64 node] w fun e w' => e = .returned (.bool (someB ss node)) ∧ Below w.heap.size w w' := by
  obtain ⟨a, c, hv, hm, hrow⟩ := hy.row
  subst hv
  unfold maxLen at hm
  have HR := hidS hrow
  have hB1 := one_below w (svb ep x (.slice a ss.length c))
  obtain ⟨c0, c1, c2⟩ := scell3 w ep x (.slice a ss.length c)
  clear hrow hy
  generalize hn : ss.length = n at *
  have HN := hidS hn
  clear hn
  go_enter Try.func91, Try.ntmps91
  go_wp2
  generalize w.alloc (svb ep x (.slice a n c)) = w1 at *
  go_loopw [5] (fun i wr => ∃ k : Nat, k ≤ n ∧ i = .int .i64 (k : Int) ∧ Hid (∀ i, i < k → ¬ node ∈ path (kAt ss i).2) ∧ Below w1.heap.size w1 wr) (fun i _ => n - (intOf i).toNat)
  case atStart => exact ⟨0, Nat.zero_le _, rfl, (fun i h => absurd h (Nat.not_lt_zero _)), Below.refl _ _⟩
  case round =>
    obtain ⟨k, hk, rfl, HNo, hB⟩ := hrel
    have d2 := cell_since c2 hB
    have hs1 := hB1.size
    by_cases hlt : k < n
    · obtain ⟨g, ha, hg, hseg⟩ : ∃ g, a = some ⟨g, 0, none⟩ ∧ g < w.heap.size ∧ KSeg g 0 ss w := by
        rcases HR.out with e | e
        · have := HN.out; rw [e] at this; simp at this; omega
        · exact e
      subst ha
      have hlk : k < ss.length := by have := HN.out; omega
      have a2 := cell_since (cell_since (hseg k hlk).2 hB1) hB
      simp only [Nat.zero_add] at a2
      have HLk := hidS (show (kAt ss k).2 = ss[k].2 by rw [kAt_get ss k hlk])
      have HLk2 := hidS hlk
      generalize ss[k].2 = lf at a2 HLk
      clear hseg
      go_wp2_with fail
      refine (specPathOf_any _ _).mono ?_
      rintro e w2 ⟨pv, rfl, hP, hb2⟩
      have hB2 := hidS (more hB hb2)
      obtain ⟨ap, cp, hvp, hmp, hprow⟩ := hP.row
      subst hvp
      unfold maxLen at hmp
      have HP := hidS hprow
      have hpl := path_len lf
      clear hB hb2 hP hprow a2 d2
      have HPs := hidS (show path (kAt ss k).2 = path lf by rw [HLk.out])
      generalize path lf = ps at *
      generalize hm2 : ps.length = m at *
      have HM := hidS hm2
      clear hm2
      go_wp2
      go_loopw [7] (fun j w' => ∃ q : Nat, q ≤ m ∧ j = .int .i64 (q : Int) ∧ Hid (¬ node ∈ ps.take q) ∧ w' = w2) (fun j _ => m - (intOf j).toNat)
      case atStart => exact ⟨0, Nat.zero_le _, rfl, (by show ¬ _; simp), rfl⟩
      case round =>
        obtain ⟨q, hq, rfl, HQn, rfl⟩ := hrel
        by_cases hql : q < m
        · obtain ⟨gp, hap, hgp, hpseg⟩ : ∃ g, ap = some ⟨g, 0, none⟩ ∧ g < wr.heap.size ∧ ISeg g 0 ps wr := by
            rcases HP.out with e | e
            · have := HM.out; rw [e] at this; simp at this; omega
            · exact e
          subst hap
          have hqk : q < ps.length := by have := HM.out; omega
          have e1 := hpseg q hqk
          rw [Nat.zero_add] at e1
          have HTk := hidS (List.take_succ_eq_append_getElem hqk)
          have HMem := hidS (List.getElem_mem hqk)
          generalize ps[q] = z at e1 HTk HMem
          clear hpseg
          by_cases hz : z = node
          · have hz' : (z == node) = true := by simpa using hz
            go_wp2
            go_ret
            exact ⟨by rw [someB_true HLk2.out (by rw [HPs.out, ← hz]; exact HMem.out)]; rfl, more hB1 hB2.out⟩
          · have hz' : (z == node) = false := by simpa using hz
            go_wp2
            go_roundw
            case rel => exact ⟨q + 1, by omega, by go_num, (by show ¬ _; rw [HTk.out]; intro h; rcases List.mem_append.1 h with h | h; exact HQn.out h; simp at h; exact hz h.symm), trivial⟩
            case measure => simp [intOf] <;> omega
        · go_wp2
          go_roundw
          case rel => exact ⟨k + 1, by omega, by go_num, (fun i hi => by
            rcases Nat.lt_succ_iff_lt_or_eq.1 hi with h | h
            · exact HNo.out i h
            · subst h
              have hq' : q = m := by omega
              have := HQn.out
              rw [hq', ← HM.out, List.take_length] at this
              rw [HPs.out]
              exact this), hB2.out⟩
          case measure => simp [intOf] <;> omega
    · go_wp2
      go_ret
      exact ⟨by rw [someB_false (fun i hi => HNo.out i (by have := HN.out; omega))]; rfl, more hB1 hB⟩
theorem l3Some_any {C : Nat} {x y : Value} {ss : List (Int × Int)} {w : World} (ep node : Int) (hy : Seats C y ss w) :
    Calls Try.prog 91 #[svv ep x y, .int .i64 node] w fun e w' => ∃ b, e = .returned (.bool b) ∧ Below w.heap.size w w' := (l3Some_eq ep node hy).mono fun _ _ ⟨h1, h2⟩ => ⟨_, h1, h2⟩

/-- Are there versions enough? -/
def roomB (ep : Int) (vs : List Int) : Bool := (List.range vs.length).all (fun i => decide (vAt vs i ≠ 1000000000)) && decide (ep < 1000000000)
theorem roomB_no {ep : Int} {vs : List Int} {k : Nat} (hk : k < vs.length) (h : vAt vs k = 1000000000) : roomB ep vs = false := by
  unfold roomB
  rw [Bool.and_eq_false_iff]
  refine .inl ?_
  rw [List.all_eq_false]
  exact ⟨k, List.mem_range.2 hk, by simp [h]⟩
theorem roomB_yes {ep : Int} {vs : List Int} (h : ∀ i, i < vs.length → vAt vs i ≠ 1000000000) : roomB ep vs = decide (ep < 1000000000) := by
  unfold roomB
  rw [show ((List.range vs.length).all fun i => decide (vAt vs i ≠ 1000000000)) = true from List.all_eq_true.2 fun i hi => by simpa using h i (List.mem_range.1 hi), Bool.true_and]
set_option maxRecDepth 100000 in
set_option maxHeartbeats 2000000 in
theorem l3Room_eq {B : Nat} {x y : Value} {vs : List Int} {w : World} (ep : Int) (hx : Ints B x vs w) :
    Calls Try.prog 82 #[svv ep x y] w fun e w' => e = .returned (.bool (roomB ep vs)) ∧ Below w.heap.size w w' := by
  obtain ⟨a, c, hv, hm, hrow⟩ := hx.row
  subst hv
  unfold maxLen at hm
  have HR := hidS hrow
  have hB1 := one_below w (svb ep (.slice a vs.length c) y)
  obtain ⟨c0, c1, c2⟩ := scell3 w ep (.slice a vs.length c) y
  clear hrow hx
  generalize hn : vs.length = n at *
  have HN := hidS hn
  clear hn
  go_enter Try.func82, Try.ntmps82
  go_wp2
  generalize w.alloc (svb ep (.slice a n c) y) = w1 at *
  go_loopw [3] (fun i wr => ∃ k : Nat, k ≤ n ∧ i = .int .i64 (k : Int) ∧ Hid (∀ i, i < k → vAt vs i ≠ 1000000000) ∧ wr = w1) (fun i _ => n - (intOf i).toNat)
  case atStart => exact ⟨0, Nat.zero_le _, rfl, (fun i h => absurd h (Nat.not_lt_zero _)), rfl⟩
  case round =>
    obtain ⟨k, hk, rfl, HNo, rfl⟩ := hrel
    by_cases hlt : k < n
    · obtain ⟨g, ha, hg, hseg⟩ : ∃ g, a = some ⟨g, 0, none⟩ ∧ g < w.heap.size ∧ ISeg g 0 vs w := by
        rcases HR.out with e | e
        · have := HN.out; rw [e] at this; simp at this; omega
        · exact e
      subst ha
      have hlk : k < vs.length := by have := HN.out; omega
      have a2 := cell_since (hseg k hlk) hB1
      rw [Nat.zero_add] at a2
      rw [← vAt_get vs k hlk] at a2
      have HZ := hidS (rfl : vAt vs k = vAt vs k)
      generalize hzk : vAt vs k = z at a2
      have HZk := hidS hzk
      clear hzk HZ
      have HLk2 := hidS hlk
      clear hseg
      by_cases hz : z = 1000000000
      · have hz' : (z == 1000000000) = true := by simpa using hz
        go_wp2
        go_ret
        exact ⟨by rw [roomB_no HLk2.out (by rw [HZk.out]; exact hz)]; rfl, hB1⟩
      · have hz' : (z == 1000000000) = false := by simpa using hz
        go_wp2
        go_roundw
        case rel => exact ⟨k + 1, by omega, by go_num, (fun i hi => by
          rcases Nat.lt_succ_iff_lt_or_eq.1 hi with h | h
          · exact HNo.out i h
          · subst h
            rw [HZk.out]
            exact hz), trivial⟩
        case measure => simp [intOf] <;> omega
    · go_wp2
      go_ret
      exact ⟨by rw [roomB_yes (ep := ep) (fun i hi => HNo.out i (by have := HN.out; omega))]; rfl, hB1⟩
theorem l3Room_any {B : Nat} {x y : Value} {vs : List Int} {w : World} (ep : Int) (hx : Ints B x vs w) :
    Calls Try.prog 82 #[svv ep x y] w fun e w' => ∃ b, e = .returned (.bool b) ∧ Below w.heap.size w w' := (l3Room_eq ep hx).mono fun _ _ ⟨h1, h2⟩ => ⟨_, h1, h2⟩

abbrev opb (k m : Int) : Obj := .cells #[.int .i64 k, .int .i64 m] 80
/-- Is an op of a right form? -/
def formB (k m : Int) : Bool := if k = 1 ∨ k = 2 then decide (1 ≤ m ∧ m ≤ 20) else decide (k = 3 ∧ m = 0)
set_option maxRecDepth 100000 in
theorem l3Form_eq (k m : Int) (w : World) :
    Calls Try.prog 81 #[kv k m] w fun e w' => e = .returned (.bool (formB k m)) ∧ Below w.heap.size w w' := by
  by_cases h1 : k = 1
  · have h1' : (k == 1) = true := by simpa using h1
    have HF := hidS (show formB k m = (decide (1 ≤ m) && decide (m ≤ 20)) by simp [formB, h1])
    go_enter Try.func81, Try.ntmps81
    go_wp2_with fail
    refine (l1InK_any _ _ _ _).mono ?_
    rintro e w' ⟨rfl, rfl⟩
    go_wp2
    go_ret
    exact ⟨by rw [HF.out]; rfl, one_below _ _⟩
  have h1' : (k == 1) = false := by simpa using h1
  by_cases h2 : k = 2
  · have h2' : (k == 2) = true := by simpa using h2
    have HF := hidS (show formB k m = (decide (1 ≤ m) && decide (m ≤ 20)) by simp [formB, h2])
    go_enter Try.func81, Try.ntmps81
    go_wp2_with fail
    refine (l1InK_any _ _ _ _).mono ?_
    rintro e w' ⟨rfl, rfl⟩
    go_wp2
    go_ret
    exact ⟨by rw [HF.out]; rfl, one_below _ _⟩
  have h2' : (k == 2) = false := by simpa using h2
  by_cases h3 : k = 3
  · have h3' : (k == 3) = true := by simpa using h3
    by_cases h4 : m = 0
    · have h4' : (m == 0) = true := by simpa using h4
      have HF := hidS (show formB k m = true by simp [formB, h3, h4])
      go_enter Try.func81, Try.ntmps81
      go_wp2
      go_ret
      exact ⟨by rw [HF.out]; rfl, one_below _ _⟩
    · have h4' : (m == 0) = false := by simpa using h4
      have HF := hidS (show formB k m = false by simp [formB, h1, h2, h4])
      go_enter Try.func81, Try.ntmps81
      go_wp2
      go_ret
      exact ⟨by rw [HF.out]; rfl, one_below _ _⟩
  have h3' : (k == 3) = false := by simpa using h3
  have HF := hidS (show formB k m = false by simp [formB, h1, h2, h3])
  go_enter Try.func81, Try.ntmps81
  go_wp2
  go_ret
  exact ⟨by rw [HF.out]; rfl, one_below _ _⟩
theorem l3Form_any (k m : Int) (w : World) :
    Calls Try.prog 81 #[kv k m] w fun e w' => ∃ b, e = .returned (.bool b) ∧ Below w.heap.size w w' := (l3Form_eq k m w).mono fun _ _ ⟨h1, h2⟩ => ⟨_, h1, h2⟩
end Go.Proofs.Ytjilbfohfgalkaa
/- Contracts of KidsOf, of the program and of the model: both answer the kids of a node, in new memory. -/
namespace Go.Proofs.Ytjilbfohfgalkaa
open Go.RowKit

def kids (n : Int) : List Int := if 1 ≤ n ∧ n ≤ 7 then [2 * n, 2 * n + 1] else []
def kidsTo (n : Int) (k : Nat) : List Int := ((List.range k).filter fun j => decide (par j = n)).map fun (j : Nat) => (j : Int)
theorem kidsTo_le (n : Int) (k : Nat) : (kidsTo n k).length ≤ k := by
  unfold kidsTo
  have := List.length_filter_le (fun j => decide (par j = n)) (List.range k)
  simp at this ⊢
  exact this
theorem kidsTo_hit (n : Int) (k : Nat) (h : par k = n) : kidsTo n (k + 1) = kidsTo n k ++ [(k : Int)] := by simp [kidsTo, List.range_succ, h]
theorem kidsTo_miss (n : Int) (k : Nat) (h : par k ≠ n) : kidsTo n (k + 1) = kidsTo n k := by simp [kidsTo, List.range_succ, h]
theorem kidsTo_end (n : Int) (h0 : 1 ≤ n) (h1 : n ≤ 15) : kidsTo n 16 = kids n := by
  have : n = 1 ∨ n = 2 ∨ n = 3 ∨ n = 4 ∨ n = 5 ∨ n = 6 ∨ n = 7 ∨ n = 8 ∨ n = 9 ∨ n = 10 ∨ n = 11 ∨ n = 12 ∨ n = 13 ∨ n = 14 ∨ n = 15 := by omega
  rcases this with rfl | rfl | rfl | rfl | rfl | rfl | rfl | rfl | rfl | rfl | rfl | rfl | rfl | rfl | rfl <;> decide
theorem index_tree0 (w : World) : (Instr.index 97 (.agg treeCells) (.int .i64 0)).run Try.prog w = .ok (.int .i64 0) w := by kernel_rfl
theorem index_tree1 (w : World) : (Instr.index 97 (.agg treeCells) (.int .i64 1)).run Try.prog w = .ok (.int .i64 0) w := by kernel_rfl
theorem index_tree2 (w : World) : (Instr.index 97 (.agg treeCells) (.int .i64 2)).run Try.prog w = .ok (.int .i64 1) w := by kernel_rfl
theorem index_tree3 (w : World) : (Instr.index 97 (.agg treeCells) (.int .i64 3)).run Try.prog w = .ok (.int .i64 1) w := by kernel_rfl
theorem index_tree4 (w : World) : (Instr.index 97 (.agg treeCells) (.int .i64 4)).run Try.prog w = .ok (.int .i64 2) w := by kernel_rfl
theorem index_tree5 (w : World) : (Instr.index 97 (.agg treeCells) (.int .i64 5)).run Try.prog w = .ok (.int .i64 2) w := by kernel_rfl
theorem index_tree6 (w : World) : (Instr.index 97 (.agg treeCells) (.int .i64 6)).run Try.prog w = .ok (.int .i64 3) w := by kernel_rfl
theorem index_tree7 (w : World) : (Instr.index 97 (.agg treeCells) (.int .i64 7)).run Try.prog w = .ok (.int .i64 3) w := by kernel_rfl
theorem index_tree8 (w : World) : (Instr.index 97 (.agg treeCells) (.int .i64 8)).run Try.prog w = .ok (.int .i64 4) w := by kernel_rfl
theorem index_tree9 (w : World) : (Instr.index 97 (.agg treeCells) (.int .i64 9)).run Try.prog w = .ok (.int .i64 4) w := by kernel_rfl
theorem index_tree10 (w : World) : (Instr.index 97 (.agg treeCells) (.int .i64 10)).run Try.prog w = .ok (.int .i64 5) w := by kernel_rfl
theorem index_tree11 (w : World) : (Instr.index 97 (.agg treeCells) (.int .i64 11)).run Try.prog w = .ok (.int .i64 5) w := by kernel_rfl
theorem index_tree12 (w : World) : (Instr.index 97 (.agg treeCells) (.int .i64 12)).run Try.prog w = .ok (.int .i64 6) w := by kernel_rfl
theorem index_tree13 (w : World) : (Instr.index 97 (.agg treeCells) (.int .i64 13)).run Try.prog w = .ok (.int .i64 6) w := by kernel_rfl
theorem index_tree14 (w : World) : (Instr.index 97 (.agg treeCells) (.int .i64 14)).run Try.prog w = .ok (.int .i64 7) w := by kernel_rfl
theorem index_tree15 (w : World) : (Instr.index 97 (.agg treeCells) (.int .i64 15)).run Try.prog w = .ok (.int .i64 7) w := by kernel_rfl
theorem index_tree (k : Nat) (h : k < 16) (w : World) : (Instr.index 97 (.agg treeCells) (.int .i64 (k : Int))).run Try.prog w = .ok (.int .i64 (par k)) w := by
  have : k = 0 ∨ k = 1 ∨ k = 2 ∨ k = 3 ∨ k = 4 ∨ k = 5 ∨ k = 6 ∨ k = 7 ∨ k = 8 ∨ k = 9 ∨ k = 10 ∨ k = 11 ∨ k = 12 ∨ k = 13 ∨ k = 14 ∨ k = 15 := by omega
  rcases this with rfl | rfl | rfl | rfl | rfl | rfl | rfl | rfl | rfl | rfl | rfl | rfl | rfl | rfl | rfl | rfl
  · exact index_tree0 w
  · exact index_tree1 w
  · exact index_tree2 w
  · exact index_tree3 w
  · exact index_tree4 w
  · exact index_tree5 w
  · exact index_tree6 w
  · exact index_tree7 w
  · exact index_tree8 w
  · exact index_tree9 w
  · exact index_tree10 w
  · exact index_tree11 w
  · exact index_tree12 w
  · exact index_tree13 w
  · exact index_tree14 w
  · exact index_tree15 w

theorem specKidsOf_any (n : Int) (w : World) :
    Calls Try.prog 92 #[.int .i64 n] w fun e w' => ∃ v, e = .returned v ∧ Ints w.heap.size v (kids n) w' ∧ Below w.heap.size w w' := by
  by_cases hn : 1 ≤ n ∧ n ≤ 7
  · have hd : decide (1 ≤ n ∧ n ≤ 7) = true := decide_eq_true hn
    have hk : kids n = [2 * n, 2 * n + 1] := by unfold kids; rw [if_pos hn]
    rw [hk]
    obtain ⟨h1, h2⟩ := hn
    go_enter Try.func92, Try.ntmps92
    go_wp2_with fail
    refine (l1In_any _ _ _ _).mono ?_
    rintro e w' ⟨rfl, rfl⟩
    rw [hd]
    go_wp2
    go_ret
    exact ⟨_, rfl, World.ownsRow_lit w' #[.int .i64 (2 * n), .int .i64 (2 * n + 1)] 2 (Nat.le_refl _) (by decide) rfl, (Below.refl _ _).alloc (Nat.le_refl _) _⟩
  · have hd : decide (1 ≤ n ∧ n ≤ 7) = false := decide_eq_false hn
    have hk : kids n = [] := by unfold kids; rw [if_neg hn]
    rw [hk]
    go_enter Try.func92, Try.ntmps92
    go_wp2_with fail
    refine (l1In_any _ _ _ _).mono ?_
    rintro e w' ⟨rfl, rfl⟩
    rw [hd]
    go_wp2
    go_ret
    exact ⟨_, rfl, World.ownsRow_lit w' #[] 0 (Nat.le_refl _) (by decide) rfl, (Below.refl _ _).alloc (Nat.le_refl _) _⟩
end Go.Proofs.Ytjilbfohfgalkaa
/- Lists of wraps in memory; the contracts of WrapsOk, of the program and of the model. -/
namespace Go.Proofs.Ytjilbfohfgalkaa
open Go.RowKit

/-- A wrap: the key under which, the key. -/
abbrev W4 := Int × Int × Int × Int
abbrev wv (a b c d : Int) : Value := .agg #[.int .i64 a, .int .i64 b, .int .i64 c, .int .i64 d]
abbrev wb (a b c d : Int) : Obj := .cells #[.int .i64 a, .int .i64 b, .int .i64 c, .int .i64 d] 112
def wcells (ws : List W4) : List Value := ws.flatMap fun k => [.int .i64 k.1, .int .i64 k.2.1, .int .i64 k.2.2.1, .int .i64 k.2.2.2]
theorem wcells_length (ws : List W4) : (wcells ws).length = ws.length * 4 := by
  induction ws with
  | nil => rfl
  | cons k ws ih => simp only [wcells, List.flatMap_cons, List.length_append, List.length_cons, List.length_nil] at ih ⊢; omega
theorem wcells_append (a b : List W4) : wcells (a ++ b) = wcells a ++ wcells b := by simp [wcells]
theorem wcells_get (ws : List W4) : ∀ i (hi : i < ws.length), (wcells ws)[i * 4]? = some (.int .i64 ws[i].1) ∧ (wcells ws)[i * 4 + 1]? = some (.int .i64 ws[i].2.1) ∧ (wcells ws)[i * 4 + 2]? = some (.int .i64 ws[i].2.2.1) ∧ (wcells ws)[i * 4 + 3]? = some (.int .i64 ws[i].2.2.2) := by
  induction ws with
  | nil => intro i hi; simp at hi
  | cons k ws ih =>
    intro i hi
    match i, hi with
    | 0, _ => simp [wcells]
    | i + 1, hi =>
      have := ih i (by simpa using hi)
      have e0 : (i + 1) * 4 = i * 4 + 1 + 1 + 1 + 1 := by omega
      have e1 : (i + 1) * 4 + 1 = i * 4 + 1 + 1 + 1 + 1 + 1 := by omega
      have e2 : (i + 1) * 4 + 2 = i * 4 + 2 + 1 + 1 + 1 + 1 := by omega
      have e3 : (i + 1) * 4 + 3 = i * 4 + 3 + 1 + 1 + 1 + 1 := by omega
      rw [e1, e2, e3, e0]
      simpa [wcells] using this

/-- The slice v holds the wraps ws, in a block at or beyond B. -/
def Wraps (B : Nat) (v : Value) (ws : List W4) (W : World) : Prop := W.ownsRow B 112 4 v ws.length (wcells ws)
theorem Wraps.mono {B B' : Nat} {v : Value} {ws : List W4} {W : World} (h : Wraps B v ws W) (hB : B' ≤ B) : Wraps B' v ws W := by
  refine ⟨h.1, ?_⟩
  rcases h.2 with hn | ⟨g, cap, cur, e, hb, rest⟩
  · exact .inl hn
  · exact .inr ⟨g, cap, cur, e, by omega, rest⟩
theorem Wraps.lt {B : Nat} {v : Value} {ws : List W4} {W : World} (h : Wraps B v ws W) : ∀ k, v.ownBlock = some k → B ≤ k ∧ k < W.heap.size := World.ownsRow.lt h
theorem Wraps.below {B C : Nat} {v : Value} {ws : List W4} {W W' : World} (h : Wraps B v ws W) (hb : Below C W W') (hC : ∀ k, v.ownBlock = some k → k < C) : Wraps B v ws W' := by
  refine ⟨h.1, ?_⟩
  rcases h.2 with hn | ⟨g, cap, cur, rfl, hb', hg, rest⟩
  · exact .inl hn
  · refine .inr ⟨g, cap, cur, rfl, hb', ?_, rest⟩
    rw [hb.block g (hC g rfl)]
    exact hg
/-- Wraps lie in block b from offset 'off' on. -/
def WSeg (b off : Nat) (ws : List W4) (W : World) : Prop :=
  ∀ i (hi : i < ws.length), W.cell? ⟨b, off + i * 4, none⟩ = some (.int .i64 ws[i].1) ∧ W.cell? ⟨b, off + i * 4 + 1, none⟩ = some (.int .i64 ws[i].2.1) ∧ W.cell? ⟨b, off + i * 4 + 2, none⟩ = some (.int .i64 ws[i].2.2.1) ∧ W.cell? ⟨b, off + i * 4 + 3, none⟩ = some (.int .i64 ws[i].2.2.2)
theorem WSeg.kept {b off : Nat} {ws : List W4} {W W' : World} (h : WSeg b off ws W) (hb : W'.heap[b]? = W.heap[b]?) : WSeg b off ws W' := fun i hi =>
  ⟨(World.cell?_of_block (a := ⟨b, off + i * 4, none⟩) hb).trans (h i hi).1, (World.cell?_of_block (a := ⟨b, off + i * 4 + 1, none⟩) hb).trans (h i hi).2.1,
    (World.cell?_of_block (a := ⟨b, off + i * 4 + 2, none⟩) hb).trans (h i hi).2.2.1, (World.cell?_of_block (a := ⟨b, off + i * 4 + 3, none⟩) hb).trans (h i hi).2.2.2⟩

theorem Wraps.form {B : Nat} {v : Value} {ws : List W4} {W : World} (h : Wraps B v ws W) :
    (v = .slice none 0 0 ∧ ws = []) ∨ ∃ g cap, v = .slice (some ⟨g, 0, none⟩) ws.length cap ∧ B ≤ g ∧ g < W.heap.size ∧ ws.length ≤ cap ∧ cap ≤ maxLen ∧ WSeg g 0 ws W ∧ ∀ o, W.frozen? ⟨g, o, none⟩ = false := by
  obtain ⟨_, h2⟩ := h
  rcases h2 with ⟨e, hn⟩ | ⟨g, cap, cur, e, hb, hg, h1, h3, h4, h5⟩
  · exact .inl ⟨e, List.length_eq_zero_iff.1 hn⟩
  · refine .inr ⟨g, cap, e, hb, (Array.getElem?_eq_some_iff.1 hg).1, h1, h3, fun i hi => ?_, fun o => by simp [World.frozen?, hg]⟩
    have hk := wcells_get ws i hi
    have cc : ∀ j u, j < ws.length * 4 → (wcells ws)[j]? = some u → cur[j]? = some u := fun j u hj h => by
      rw [← h5, List.getElem?_take_of_lt hj] at h
      simpa using h
    have c0 := cc _ _ (by omega) hk.1
    have c1 := cc _ _ (by omega) hk.2.1
    have c2 := cc _ _ (by omega) hk.2.2.1
    have c3 := cc _ _ (by omega) hk.2.2.2
    exact ⟨by simp [World.cell?, hg, c0], by simp [World.cell?, hg, c1], by simp [World.cell?, hg, c2], by simp [World.cell?, hg, c3]⟩

def wAt (ws : List W4) (i : Nat) : W4 := ws.getD i (0, 0, 0, 0)
def okW (k : W4) : Bool := okK k.1 k.2.1 && okK k.2.2.1 k.2.2.2
def wrapsTo (ws : List W4) (m : Nat) : Bool := (ws.take m).all okW
theorem wrapsTo_succ (ws : List W4) (m : Nat) (h : m < ws.length) : wrapsTo ws (m + 1) = (wrapsTo ws m && okW ws[m]) := by
  unfold wrapsTo
  rw [List.take_succ_eq_append_getElem h, List.all_append]
  simp only [List.all_cons, List.all_nil, Bool.and_true]
def wrapsB (ws : List W4) : Bool := decide (ws.length ≤ 400) && ws.all okW
theorem wrapsB_false {ws : List W4} {m : Nat} (hm : m < ws.length) (h : okW ws[m] = false) : wrapsB ws = false := by
  have : ws.all okW = false := by
    simp only [List.all_eq_false]
    exact ⟨ws[m], List.getElem_mem hm, by simp [h]⟩
  simp [wrapsB, this]

theorem specWrapsOk_none (a : Option Addr) (c : Nat) (w : World) :
    Calls Try.prog 73 #[.slice a 0 c] w fun e w' => e = .returned (.bool true) ∧ w' = w := by
  go_enter Try.func73, Try.ntmps73
  go_wp2
  refine wp_loop_rounds 1 ?_
  rw [rounds_succ]
  go_wp2
  go_ret
  exact ⟨by simp, rfl⟩
theorem wrapsOk_none (a : Option Addr) (c : Nat) (w : World) :
    Calls Try.prog 68 #[.slice a 0 c] w fun e w' => e = .returned (.bool true) ∧ w' = w := by
  go_enter Try.func68, Try.ntmps68
  go_wp2
  refine wp_loop_rounds 1 ?_
  rw [rounds_succ]
  go_wp2
  go_ret
  exact ⟨by simp, rfl⟩

set_option maxHeartbeats 1000000 in
theorem specWrapsOk_row (g c : Nat) (ws : List W4) (w : World) (hm : ws.length ≤ maxLen) (hg : g < w.heap.size) (h1 : WSeg g 0 ws w) :
    Calls Try.prog 73 #[.slice (some ⟨g, 0, none⟩) ws.length c] w fun e w' => e = .returned (.bool (wrapsB ws)) ∧ Below w.heap.size w w' := by
  unfold maxLen at hm
  generalize hn : ws.length = n at hm ⊢
  go_enter Try.func73, Try.ntmps73
  go_wp2
  go_loopw [3] (fun i wr => ∃ k : Nat, k ≤ n ∧ i = .int .i64 k ∧ wrapsTo ws k = true ∧ Below w.heap.size w wr) (fun i _ => n - (intOf i).toNat)
  case atStart => exact ⟨0, Nat.zero_le _, rfl, rfl, Below.refl _ _⟩
  case round =>
    obtain ⟨k, hk, rfl, hpre, hB⟩ := hrel
    have HP : Hid (wrapsTo ws k = true) := hpre
    have H1 : Hid (WSeg g 0 ws w) := h1
    clear hpre h1
    by_cases hlt : k < n
    · have hlk : k < ws.length := by omega
      obtain ⟨a1, a2, a3, a4⟩ := H1.out k hlk
      simp only [Nat.zero_add] at a1 a2 a3 a4
      have c1 : wr.cell? ⟨g, k * 4, none⟩ = some (.int .i64 ws[k].1) := (hB.cell (p := ⟨g, k * 4, none⟩) hg).trans a1
      have c2 : wr.cell? ⟨g, k * 4 + 1, none⟩ = some (.int .i64 ws[k].2.1) := (hB.cell (p := ⟨g, k * 4 + 1, none⟩) hg).trans a2
      have c3 : wr.cell? ⟨g, k * 4 + 2, none⟩ = some (.int .i64 ws[k].2.2.1) := (hB.cell (p := ⟨g, k * 4 + 2, none⟩) hg).trans a3
      have c4 : wr.cell? ⟨g, k * 4 + 3, none⟩ = some (.int .i64 ws[k].2.2.2) := (hB.cell (p := ⟨g, k * 4 + 3, none⟩) hg).trans a4
      have hsz := hB.size
      have HO : Hid (okW ws[k] = (okK ws[k].1 ws[k].2.1 && okK ws[k].2.2.1 ws[k].2.2.2)) := show okW ws[k] = _ from rfl
      have HS : Hid (wrapsTo ws (k + 1) = (wrapsTo ws k && okW ws[k])) := wrapsTo_succ ws k hlk
      have HF : Hid (okW ws[k] = false → wrapsB ws = false) := wrapsB_false hlk
      clear a1 a2 a3 a4
      generalize okW ws[k] = okw at HO HS HF
      generalize ws[k].1 = x1 at c1 HO
      generalize ws[k].2.1 = x2 at c2 HO
      generalize ws[k].2.2.1 = x3 at c3 HO
      generalize ws[k].2.2.2 = x4 at c4 HO
      go_wp2_with fail
      refine (l2Key_below x1 x2 _).mono ?_
      rintro e w1 ⟨rfl, hb1⟩
      cases hok : okK x1 x2 with
      | false =>
        have hBf := hB.trans (hb1.mono hsz)
        go_wp2
        go_ret
        refine ⟨?_, hBf⟩
        show Ending.returned (.bool false) = _
        rw [HF.out (by rw [HO.out, hok]; rfl)]
      | true =>
        have d3 := cell_since c3 hb1
        have d4 := cell_since c4 hb1
        have hBf := hB.trans (hb1.mono hsz)
        clear c1 c2 c3 c4 hB
        go_wp2_with fail
        refine (l2Key_below x3 x4 _).mono ?_
        rintro e w2 ⟨rfl, hb2⟩
        have hBg := hBf.trans (hb2.mono hBf.size)
        clear d3 d4 hBf
        cases hok2 : okK x3 x4 with
        | false =>
          go_wp2
          go_ret
          refine ⟨?_, hBg⟩
          show Ending.returned (.bool false) = _
          rw [HF.out (by rw [HO.out, hok, hok2]; rfl)]
        | true =>
          have HA : Hid (wrapsTo ws (k + 1) = true) := by
            show wrapsTo ws (k + 1) = true
            rw [HS.out, HP.out, HO.out, hok, hok2]; rfl
          go_wp2
          go_roundw
          case rel => exact ⟨k + 1, by omega, by go_num, HA.out, hBg⟩
          case measure => simp [intOf]; omega
    · have hke : k = n := by omega
      have hkb : wrapsB ws = decide (n ≤ 400) := by
        have : ws.all okW = true := by have := HP.out; unfold wrapsTo at this; rwa [List.take_of_length_le (by omega)] at this
        unfold wrapsB; rw [hn, this]; simp
      have HKB : Hid _ := hkb
      clear hkb
      go_wp2
      go_ret
      refine ⟨?_, hB⟩
      rw [HKB.out]
      have e : decide ((n : Int) ≤ 400) = decide (n ≤ 400) := by rw [decide_eq_decide]; omega
      rw [← e]
      rfl
end Go.Proofs.Ytjilbfohfgalkaa
/- The contract of WrapsOk of the program. -/
namespace Go.Proofs.Ytjilbfohfgalkaa
open Go.RowKit

set_option maxHeartbeats 1000000 in
theorem wrapsOk_row (g c : Nat) (ws : List W4) (w : World) (hm : ws.length ≤ maxLen) (hg : g < w.heap.size) (h1 : WSeg g 0 ws w) :
    Calls Try.prog 68 #[.slice (some ⟨g, 0, none⟩) ws.length c] w fun e w' => e = .returned (.bool (wrapsB ws)) ∧ Below w.heap.size w w' := by
  unfold maxLen at hm
  generalize hn : ws.length = n at hm ⊢
  by_cases h400 : (400 : Int) < (n : Int)
  · have hkf : wrapsB ws = false := by unfold wrapsB; rw [hn, decide_eq_false (by omega)]; rfl
    rw [hkf]
    go_enter Try.func68, Try.ntmps68
    go_wp2
    go_ret
    exact ⟨rfl, Below.refl _ _⟩
  go_enter Try.func68, Try.ntmps68
  go_wp2
  go_loopw [10] (fun i wr => ∃ k : Nat, k ≤ n ∧ i = .int .i64 k ∧ wrapsTo ws k = true ∧ Below w.heap.size w wr) (fun i _ => n - (intOf i).toNat)
  case atStart => exact ⟨0, Nat.zero_le _, rfl, rfl, Below.refl _ _⟩
  case round =>
    obtain ⟨k, hk, rfl, hpre, hB⟩ := hrel
    have HP : Hid (wrapsTo ws k = true) := hpre
    have H1 : Hid (WSeg g 0 ws w) := h1
    clear hpre h1
    by_cases hlt : k < n
    · have hlk : k < ws.length := by omega
      obtain ⟨a1, a2, a3, a4⟩ := H1.out k hlk
      simp only [Nat.zero_add] at a1 a2 a3 a4
      have c1 : wr.cell? ⟨g, k * 4, none⟩ = some (.int .i64 ws[k].1) := (hB.cell (p := ⟨g, k * 4, none⟩) hg).trans a1
      have c2 : wr.cell? ⟨g, k * 4 + 1, none⟩ = some (.int .i64 ws[k].2.1) := (hB.cell (p := ⟨g, k * 4 + 1, none⟩) hg).trans a2
      have c3 : wr.cell? ⟨g, k * 4 + 2, none⟩ = some (.int .i64 ws[k].2.2.1) := (hB.cell (p := ⟨g, k * 4 + 2, none⟩) hg).trans a3
      have c4 : wr.cell? ⟨g, k * 4 + 3, none⟩ = some (.int .i64 ws[k].2.2.2) := (hB.cell (p := ⟨g, k * 4 + 3, none⟩) hg).trans a4
      have hsz := hB.size
      have HO : Hid (okW ws[k] = (okK ws[k].1 ws[k].2.1 && okK ws[k].2.2.1 ws[k].2.2.2)) := show okW ws[k] = _ from rfl
      have HS : Hid (wrapsTo ws (k + 1) = (wrapsTo ws k && okW ws[k])) := wrapsTo_succ ws k hlk
      have HF : Hid (okW ws[k] = false → wrapsB ws = false) := wrapsB_false hlk
      clear a1 a2 a3 a4
      generalize okW ws[k] = okw at HO HS HF
      generalize ws[k].1 = x1 at c1 HO
      generalize ws[k].2.1 = x2 at c2 HO
      generalize ws[k].2.2.1 = x3 at c3 HO
      generalize ws[k].2.2.2 = x4 at c4 HO
      go_wp2_with fail
      refine (keyOk_below x1 x2 _).mono ?_
      rintro e w1 ⟨rfl, hb1⟩
      cases hok : okK x1 x2 with
      | false =>
        have hBf := (hB.alloc hsz (wb x1 x2 x3 x4)).trans (hb1.mono (by simp; omega))
        go_wp2
        go_ret
        refine ⟨?_, hBf⟩
        show Ending.returned (.bool false) = _
        rw [HF.out (by rw [HO.out, hok]; rfl)]
      | true =>
        have d3 : w1.cell? ⟨wr.heap.size, 2, none⟩ = some (.int .i64 x3) := cell_since (W := wr.alloc (wb x1 x2 x3 x4)) (by simp) hb1
        have d4 : w1.cell? ⟨wr.heap.size, 3, none⟩ = some (.int .i64 x4) := cell_since (W := wr.alloc (wb x1 x2 x3 x4)) (by simp) hb1
        have hBf := (hB.alloc hsz (wb x1 x2 x3 x4)).trans (hb1.mono (by simp; omega))
        clear c1 c2 c3 c4 hB
        go_wp2_with fail
        refine (keyOk_below x3 x4 _).mono ?_
        rintro e w2 ⟨rfl, hb2⟩
        have hBg := hBf.trans (hb2.mono hBf.size)
        clear d3 d4 hBf
        cases hok2 : okK x3 x4 with
        | false =>
          go_wp2
          go_ret
          refine ⟨?_, hBg⟩
          show Ending.returned (.bool false) = _
          rw [HF.out (by rw [HO.out, hok, hok2]; rfl)]
        | true =>
          have HA : Hid (wrapsTo ws (k + 1) = true) := by
            show wrapsTo ws (k + 1) = true
            rw [HS.out, HP.out, HO.out, hok, hok2]; rfl
          go_wp2
          go_roundw
          case rel => exact ⟨k + 1, by omega, by go_num, HA.out, hBg⟩
          case measure => simp [intOf]; omega
    · have hke : k = n := by omega
      have hkb : wrapsB ws = true := by
        have : ws.all okW = true := by have := HP.out; unfold wrapsTo at this; rwa [List.take_of_length_le (by omega)] at this
        unfold wrapsB; rw [hn, this, decide_eq_true (by omega)]; rfl
      have HKB : Hid _ := hkb
      clear hkb
      go_wp2
      go_ret
      refine ⟨?_, hB⟩
      rw [HKB.out]
      rfl

theorem specWrapsOk_any {B : Nat} {v : Value} {ws : List W4} {w : World} (h : Wraps B v ws w) :
    Calls Try.prog 73 #[v] w fun e w' => e = .returned (.bool (wrapsB ws)) ∧ Below w.heap.size w w' := by
  rcases h.form with ⟨rfl, rfl⟩ | ⟨g, cap, rfl, _, g1, h1, h2, h3, _⟩
  · exact (specWrapsOk_none _ _ w).mono fun _ _ h => ⟨h.1, h.2 ▸ Below.refl _ _⟩
  · exact specWrapsOk_row g cap ws w (by omega) g1 h3
theorem wrapsOk_any {B : Nat} {v : Value} {ws : List W4} {w : World} (h : Wraps B v ws w) :
    Calls Try.prog 68 #[v] w fun e w' => e = .returned (.bool (wrapsB ws)) ∧ Below w.heap.size w w' := by
  rcases h.form with ⟨rfl, rfl⟩ | ⟨g, cap, rfl, _, g1, h1, h2, h3, _⟩
  · exact (wrapsOk_none _ _ w).mono fun _ _ h => ⟨h.1, h.2 ▸ Below.refl _ _⟩
  · exact wrapsOk_row g cap ws w (by omega) g1 h3
end Go.Proofs.Ytjilbfohfgalkaa
/- l3Down of the model: wraps appended, and nothing else that was there turns. -/
namespace Go.Proofs.Ytjilbfohfgalkaa
open Go.RowKit

theorem rows_ne {r s : RowF} {W : World} (hr : r.on W) (hs : s.on W) (ht : r.t ≠ s.t) : ∀ k, r.v.ownBlock = some k → s.v.ownBlock ≠ some k := fun k e e' => by
  have hat : ∀ {s : RowF}, s.on W → s.v.ownBlock = some k → ∃ cur, W.heap[k]? = some (.cells cur s.t (0, 0)) := fun {s} hs e => by
    rcases hs.2 with ⟨hv, _⟩ | ⟨g, cap, cur, hv, _, hgk, _⟩
    · rw [hv] at e
      simp [Value.ownBlock] at e
    · rw [hv] at e
      simp [Value.ownBlock] at e
      subst e
      exact ⟨cur, hgk⟩
  obtain ⟨c1, h1⟩ := hat hr e
  obtain ⟨c2, h2⟩ := hat hs e'
  rw [h1] at h2
  injection h2 with h2
  injection h2 with _ h2 _
  exact ht h2
theorem row_box {r : RowF} {W : World} {p : Nat} {o : Obj} (hr : r.on W) (ho : W.heap[p]? = some o) (ht : objType o ≠ some r.t) : r.v.ownBlock ≠ some p := fun e => by
  rcases hr.2 with ⟨hv, _⟩ | ⟨g, cap, cur, hv, _, hgk, _⟩
  · rw [hv] at e
    simp [Value.ownBlock] at e
  · rw [hv] at e
    simp [Value.ownBlock] at e
    subst e
    rw [hgk] at ho
    injection ho with ho
    exact ht (by rw [← ho]; rfl)
abbrev fI (B : Nat) (v : Value) (xs : List Int) : RowF := ⟨B, 2, 1, v, xs.length, xs.map (Value.int .i64)⟩
abbrev fS (B : Nat) (v : Value) (ks : List (Int × Int)) : RowF := ⟨B, 90, 2, v, ks.length, kcells ks⟩
abbrev fW (B : Nat) (v : Value) (ks : List W4) : RowF := ⟨B, 112, 4, v, ks.length, wcells ks⟩
abbrev fK (B : Nat) (v : Value) (ks : List (Int × Int)) : RowF := ⟨B, 36, 2, v, ks.length, kcells ks⟩
theorem ne_wi {B C : Nat} {v u : Value} {ws : List W4} {xs : List Int} {W : World} (h : Wraps B v ws W) (h' : Ints C u xs W) : ∀ k, v.ownBlock = some k → u.ownBlock ≠ some k := rows_ne (r := fW B v ws) (s := fI C u xs) h h' (show (112 : TypeId) ≠ 2 by decide)
theorem ne_ws {B C : Nat} {v u : Value} {ws : List W4} {xs : List (Int × Int)} {W : World} (h : Wraps B v ws W) (h' : Seats C u xs W) : ∀ k, v.ownBlock = some k → u.ownBlock ≠ some k := rows_ne (r := fW B v ws) (s := fS C u xs) h h' (show (112 : TypeId) ≠ 90 by decide)
theorem kids_ok (n : Int) : (kids n).length ≤ 2 ∧ (0 < (kids n).length → 1 ≤ n ∧ n ≤ 7) ∧ ∀ i (hi : i < (kids n).length), 1 ≤ (kids n)[i] ∧ (kids n)[i] ≤ 15 := by
  unfold kids
  split
  · rename_i h
    refine ⟨by simp, fun _ => h, fun i hi => ?_⟩
    simp at hi
    rcases (show i = 0 ∨ i = 1 by omega) with rfl | rfl <;> simp <;> omega
  · exact ⟨by simp, fun h => by simp at h, fun i hi => by simp at hi⟩
theorem wrapsS {B : Nat} {v : Value} {ws : List W4} {W W' : World} (h : Wraps B v ws W) (hb : Below W.heap.size W W') : Wraps B v ws W' := RowF.since (r := fW B v ws) h hb
theorem wrapsG {B : Nat} {v : Value} {ws : List W4} {W W' : World} {row : Option Nat} (h : Wraps B v ws W) (hg : W.grownBy W' row) (hne : ∀ k, row = some k → v.ownBlock ≠ some k) : Wraps B v ws W' := RowF.kept (r := fW B v ws) h hg hne
theorem infoW4 : (Try.prog.info? 112).map (fun i => (i.zero, i.size, i.bytes)) = some (some (.agg #[.int .i64 0, .int .i64 0, .int .i64 0, .int .i64 0]), 4, 32) := by kernel_rfl

/-- What the loop holds: since w1 nothing has turned but the wraps' block; the wraps lie in a row of their own. -/
def DnIs (w1 : World) (row : Option Nat) (B : Nat) (v : Value) (N : Nat) (W : World) : Prop := w1.grownBy W row ∧ (∃ ws, Wraps B v ws W ∧ ws.length ≤ N) ∧ (∀ k, v.ownBlock = some k → row = some k ∨ w1.heap.size ≤ k)
theorem DnIs.since {w1 W W' : World} {row : Option Nat} {B N : Nat} {v : Value} (h : DnIs w1 row B v N W) (hb : Below W.heap.size W W') : DnIs w1 row B v N W' := by
  obtain ⟨h1, ⟨ws, h2, h4⟩, h3⟩ := h
  exact ⟨h1.trans (grown_below hb row), ⟨ws, wrapsS h2 hb, h4⟩, h3⟩
theorem DnIs.cell {w1 W : World} {row : Option Nat} {B N : Nat} {v u : Value} {a : Addr} (h : DnIs w1 row B v N W) (hc : w1.cell? a = some u) (hne : some a.block ≠ row) : W.cell? a = some u := h.1.cell hc hne
end Go.Proofs.Ytjilbfohfgalkaa
/- l3Down of the model. -/
namespace Go.Proofs.Ytjilbfohfgalkaa
open Go.RowKit

theorem gr4 {w2 W W' : World} {row : Option Nat} {p1 p2 p3 p4 : Addr} {v1 v2 v3 v4 : Value} (h : W.cell? p1 = some v1 ∧ W.cell? p2 = some v2 ∧ W.cell? p3 = some v3 ∧ W.cell? p4 = some v4 ∧ w2.grownBy W row) (hb : Below W.heap.size W W') :
    W'.cell? p1 = some v1 ∧ W'.cell? p2 = some v2 ∧ W'.cell? p3 = some v3 ∧ W'.cell? p4 = some v4 ∧ w2.grownBy W' row := ⟨cell_since h.1 hb, cell_since h.2.1 hb, cell_since h.2.2.1 hb, cell_since h.2.2.2.1 hb, h.2.2.2.2.trans (grown_below hb row)⟩
theorem grown_via {w2 W W' : World} {row u : Option Nat} (h : w2.grownBy W row) (hg : W.grownBy W' u) (hu : ∀ k, u = some k → row = some k ∨ w2.heap.size ≤ k) : w2.grownBy W' row :=
  ⟨hg.os.trans h.os, hg.tape.trans h.tape, hg.output.trans h.output, Nat.le_trans h.size hg.size, fun k hk hne => by
    rw [hg.block k (Nat.lt_of_lt_of_le hk h.size) (fun e => by rcases hu k e.symm with h' | h'; exact hne h'.symm; omega)]
    exact h.block k hk hne⟩
theorem gr4_app {w2 W W' : World} {row u : Option Nat} {p1 p2 p3 p4 : Addr} {v1 v2 v3 v4 : Value} (h : W.cell? p1 = some v1 ∧ W.cell? p2 = some v2 ∧ W.cell? p3 = some v3 ∧ W.cell? p4 = some v4 ∧ w2.grownBy W row) (hg : W.grownBy W' u) (hu : ∀ k, u = some k → row = some k ∨ w2.heap.size ≤ k)
    (h1 : some p1.block ≠ u) (h2 : some p2.block ≠ u) (h3 : some p3.block ≠ u) (h4 : some p4.block ≠ u) :
    W'.cell? p1 = some v1 ∧ W'.cell? p2 = some v2 ∧ W'.cell? p3 = some v3 ∧ W'.cell? p4 = some v4 ∧ w2.grownBy W' row := ⟨hg.cell h.1 h1, hg.cell h.2.1 h2, hg.cell h.2.2.1 h3, hg.cell h.2.2.2.1 h4, grown_via h.2.2.2.2 hg hu⟩
theorem wrap_cells4 (W : World) (a b c d : Int) : ∀ j u, [Value.int .i64 a, Value.int .i64 b, Value.int .i64 c, Value.int .i64 d][j]? = some u → (W.alloc (.cells #[.int .i64 a, .int .i64 b, .int .i64 c, .int .i64 d] 112)).cell? ((⟨W.heap.size, 0, none⟩ : Addr).add j) = some u := by
  intro j u h
  match j with
  | 0 => simp at h; subst h; simp [Addr.add]
  | 1 => simp at h; subst h; simp [Addr.add]
  | 2 => simp at h; subst h; simp [Addr.add]
  | 3 => simp at h; subst h; simp [Addr.add]
  | j + 4 => simp at h
theorem wraps_of {W : World} {B n : Nat} {v : Value} {ys : List Value} {xs : List W4} (h : W.ownsRow B 112 4 v n ys) (e : ys = wcells xs) (hn : xs.length = n) : Wraps B v xs W := by
  subst e hn
  exact h
theorem wraps_own {W : World} {B n : Nat} {v : Value} {xs : List W4} (h : Wraps B v xs W) (hn : xs.length = n) (o : Obj) : (W.alloc o).ownsRow B 112 4 v n (wcells xs) := by
  subst hn
  exact World.ownsRow.alloc h o
theorem wrapsF {B : Nat} {v : Value} {ws : List W4} {w : World} (h : Wraps B v ws w) : ∃ a c, v = .slice a ws.length c := by
  rcases h.form with ⟨rfl, rfl⟩ | ⟨g, cap, rfl, _⟩ <;> exact ⟨_, _, rfl⟩

theorem dn4 {w1 W W' : World} {row : Option Nat} {B N : Nat} {v : Value} {p1 p2 p3 p4 : Addr} {v1 v2 v3 v4 : Value} (h : W.cell? p1 = some v1 ∧ W.cell? p2 = some v2 ∧ W.cell? p3 = some v3 ∧ W.cell? p4 = some v4 ∧ DnIs w1 row B v N W) (hb : Below W.heap.size W W') :
    W'.cell? p1 = some v1 ∧ W'.cell? p2 = some v2 ∧ W'.cell? p3 = some v3 ∧ W'.cell? p4 = some v4 ∧ DnIs w1 row B v N W' := ⟨cell_since h.1 hb, cell_since h.2.1 hb, cell_since h.2.2.1 hb, cell_since h.2.2.2.1 hb, h.2.2.2.2.since hb⟩

set_option maxRecDepth 100000 in
set_option maxHeartbeats 4000000 in
theorem l3Down_any {A C B : Nat} {x y v : Value} {vs : List Int} {ss : List (Int × Int)} {ws : List W4} {w : World} (ep n : Int) (hn : 1 ≤ n ∧ n ≤ 15) (hl : vs.length = 15) (hx : Ints A x vs w) (hy : Seats C y ss w) (hw : Wraps B v ws w) (hB : B ≤ w.heap.size) (hlen : ws.length ≤ 100) :
    Calls Try.prog 86 #[svv ep x y, .int .i64 n, v] w fun e w' => ∃ v' ws', e = .returned v' ∧ Wraps B v' ws' w' ∧ ws'.length ≤ ws.length + 2 ∧ w.grownBy w' v.ownBlock := by
  obtain ⟨i0, hi, hz0, hz1, hz2⟩ := info_parts infoW4
  obtain ⟨c0, c1, c2⟩ := scell3 w ep x y
  have hB1 := one_below w (svb ep x y)
  have HS0 := hidS (show (w.alloc (svb ep x y)).heap.size = w.heap.size + 1 by simp)
  have X1 := hidS (hx.since hB1)
  have Y1 := hidS (hy.since hB1)
  have W1 := hidS (wrapsS hw hB1)
  have hwl : ∀ k, v.ownBlock = some k → k < w.heap.size := fun k e => (hw.lt k e).2
  obtain ⟨n', hn'⟩ : ∃ j : Nat, n = (j : Int) + 1 := ⟨(n - 1).toNat, by omega⟩
  subst hn'
  obtain ⟨hk1, hk2, hk3⟩ := kids_ok ((n' : Int) + 1)
  have hn15 : n' < 15 := by omega
  clear hx hy hw
  go_enter Try.func86, Try.ntmps86
  go_wp2_with fail
  generalize w.alloc (svb ep x y) = w1 at *
  refine (specKidsOf_any _ _).mono ?_
  rintro e w2 ⟨pv, rfl, hP, b2⟩
  have hB2 := more hB1 b2
  have hs1 := hB1.size
  have hs2 := hB2.size
  have hs12 := b2.size
  obtain ⟨ap, cp, hvp, hmp, hprow⟩ := hP.row
  subst hvp
  have c0 := cell_since c0 b2
  have c1 := cell_since c1 b2
  have c2 := cell_since c2 b2
  have X2 := hidS (X1.out.since b2)
  have Y2 := hidS (Y1.out.since b2)
  have D2 : Hid (DnIs w2 v.ownBlock B v (ws.length + 0) w2) := ⟨World.grownBy.refl _ _, ⟨ws, wrapsS W1.out b2, Nat.le_refl _⟩, fun k e => .inl e⟩
  have HP := hidS hprow
  have HK3 := hidS hk3
  have hvne : ∀ o, some (Addr.block ⟨w.heap.size, o, none⟩) ≠ v.ownBlock := fun o e => by have := hwl _ e.symm; dsimp only at this; omega
  have HG2 := hidS (grown_below hB2 v.ownBlock)
  have hpne : ∀ k, (Value.slice ap (kids ((n' : Int) + 1)).length cp).ownBlock = some k → v.ownBlock ≠ some k := fun k e e' => by have := hwl k e'; have := (hP.lt k e).1; omega
  clear X1 Y1 W1 b2 hP hprow hk3
  generalize kids ((n' : Int) + 1) = kd at *
  generalize hm2 : kd.length = m at hk1 hk2 hmp hpne ⊢
  have HM := hidS hm2
  clear hm2
  go_wp2
  go_loopw [2, 8] (fun wv i wr => ∃ k : Nat, k ≤ m ∧ i = .int .i64 (k : Int) ∧ Hid (DnIs w2 v.ownBlock B wv (ws.length + k) wr)) (fun _ i _ => m - (intOf i).toNat)
  case atStart => exact ⟨0, Nat.zero_le _, rfl, D2⟩
  case round =>
    obtain ⟨k, hk, rfl, HD⟩ := hrel
    by_cases hlt : k < m
    · obtain ⟨gp, hap, hgp, hpseg⟩ : ∃ g, ap = some ⟨g, 0, none⟩ ∧ g < w2.heap.size ∧ ISeg g 0 kd w2 := by
        rcases HP.out with e | e
        · have := HM.out; rw [e] at this; simp at this; omega
        · exact e
      subst hap
      have hkk : k < kd.length := by have := HM.out; omega
      have e1 := hpseg k hkk
      rw [Nat.zero_add] at e1
      have hkb := HK3.out k hkk
      obtain ⟨nd, hnd⟩ : ∃ nd : Nat, kd[k] = (nd : Int) + 1 := ⟨(kd[k] - 1).toNat, by omega⟩
      have hnd15 : nd < 15 := by omega
      rw [hnd] at e1
      clear hpseg hnd hkb
      have q0 := HD.out.cell c0 (hvne 0)
      have q1 := HD.out.cell c1 (hvne 1)
      have q2 := HD.out.cell c2 (hvne 2)
      have q3 := HD.out.cell e1 (fun e => hpne gp rfl e.symm)
      have hXn : ∀ kk, u2.ownBlock = some kk → True := fun _ _ => trivial
      have hX3 : Ints A x vs wr := X2.out.kept HD.out.1 (fun kk e e' => by
        obtain ⟨ws', hw', _⟩ := D2.out.2.1
        exact ne_wi hw' X2.out kk e e')
      have hY3 : Seats C y ss wr := Y2.out.kept HD.out.1 (fun kk e e' => by
        obtain ⟨ws', hw', _⟩ := D2.out.2.1
        exact ne_ws hw' Y2.out kk e e')
      have X3 := hidS (hX3.since (Below.refl _ _).drew)
      have Y3 := hidS (hY3.since (Below.refl _ _).drew)
      have HX3 := hidS hX3
      clear hX3 hY3 hXn e1
      go_wp2
      go_region_held3 (fun W => W.cell? ⟨w.heap.size, 0, none⟩ = some (.int .i64 ep) ∧ W.cell? ⟨w.heap.size, 1, none⟩ = some x ∧ W.cell? ⟨w.heap.size, 2, none⟩ = some y ∧ W.cell? ⟨gp, k, none⟩ = some (.int .i64 ((nd : Int) + 1)) ∧ Below wr.heap.size wr W)
        (first | exact ⟨q0, q1, q2, q3, (Below.refl _ _).drew⟩ | assumption | exact later4 ‹_› b3)
        ((go_at_call 91; refine (l3Some_any ep _ Y3.out).mono ?_; rintro e w3 ⟨sb, rfl, b3⟩))
      all_goals
        rename_i hHeld
        obtain ⟨q0, q1, q2, q3, b3'⟩ := hHeld
        have D3 := hidS (HD.out.since b3')
        have X4 := hidS ((HX3.out.since b3').since (Below.refl _ _).drew)
        clear X3 Y3 HX3 b3
        cases sb with
        | false =>
          go_wp2
          go_roundw
          case rel => exact ⟨k + 1, by omega, by go_num, ⟨D3.out.1, (by obtain ⟨ws', h1, h2⟩ := D3.out.2.1; exact ⟨ws', h1, by omega⟩), D3.out.2.2⟩⟩
          case measure => simp [intOf] <;> omega
        | true =>
          obtain ⟨ws', hw3, hwl3⟩ := D3.out.2.1
          obtain ⟨au, cu, hvu⟩ := wrapsF hw3
          subst hvu
          have HW3 := hidS (wrapsS hw3 (Below.refl _ _).drew)
          have HU := hidS D3.out.2.2
          have HG3 := hidS (grown_drew D3.out.1)
          have hs3 : w2.heap.size ≤ w3.heap.size := D3.out.1.size
          have hne1 : ∀ o, some (Addr.block ⟨w.heap.size, o, none⟩) ≠ (Value.slice au ws'.length cu).ownBlock := fun o e => by
            rcases HU.out _ e.symm with h' | h'
            · exact hvne o h'.symm
            · dsimp only at h'; have := HS0.out; omega
          have hne4 : some (Addr.block ⟨gp, k, none⟩) ≠ (Value.slice au ws'.length cu).ownBlock := fun e => by
            rcases HU.out _ e.symm with h' | h'
            · exact hpne gp rfl h'
            · dsimp only at h'; omega
          clear hw3 b3' D3 HD D2
          have tokA : True := trivial
          generalize hnl : ws'.length = nl at *
          generalize hvj : vAt vs nd = vj at *
          generalize hvn : vAt vs n' = vn at *
          go_wp2
          go_region_held3 (fun W => W.cell? ⟨w.heap.size, 0, none⟩ = some (.int .i64 ep) ∧ W.cell? ⟨w.heap.size, 1, none⟩ = some x ∧ W.cell? ⟨w.heap.size, 2, none⟩ = some y ∧ W.cell? ⟨gp, k, none⟩ = some (.int .i64 ((nd : Int) + 1)) ∧ w2.grownBy W v.ownBlock)
            (first | exact ⟨q0, q1, q2, q3, HG3.out⟩ | exact gr4 ‹_› b5 | exact gr4 ‹_› b6 | exact gr4 ‹_› (one_below _ _) | exact gr4_app ‹_› hgB HU.out (hne1 0) (hne1 1) (hne1 2) hne4 | assumption)
            (first
              | (go_at_call 59; have _t := tokA; clear _t tokA; refine (l3Key_any ep nd hnd15 hl X4.out).mono ?_; rintro e w5 ⟨rfl, b5⟩; rw [hvj]; have hs5 : w3.heap.size ≤ w5.heap.size := b5.size)
              | (go_at_call 59; refine (l3Key_any ep n' hn15 hl (X4.out.since b5)).mono ?_; rintro e w6 ⟨rfl, b6⟩; rw [hvn]; have hs6 := b6.size)
              | (refine step_append_k _ (by rfl) _ _ _ (by rfl) B 112 i0 (.agg #[.int .i64 0, .int .i64 0, .int .i64 0, .int .i64 0]) 4 32 Try.underlying27 hi hz0 hz1 hz2 rfl (by omega) (.slice au nl cu) nl _ (by rfl) (by exact wraps_own (wrapsS (wrapsS HW3.out b5) b6) hnl _) ⟨w6.heap.size, 0, none⟩ 1 _ [.int .i64 ((nd : Int) + 1), .int .i64 vj, .int .i64 ((n' : Int) + 1), .int .i64 vn] (by rfl) (by rfl) (by exact wrap_cells4 _ _ _ _ _) (by simp [Value.oneCell']) (by omega) (by unfold maxLen; omega) (by omega) (by simp <;> omega) _ rfl ?_; intro gB cB wB hownB hgB hatB hltB))
          all_goals
            rename_i hHeld
            have HGf := hidS hHeld.2.2.2.2
            have HWn := hidS (wraps_of (xs := ws' ++ [((nd : Int) + 1, vj, (n' : Int) + 1, vn)]) hownB (by rw [wcells_append]; rfl) (by rw [List.length_append, hnl]; rfl))
            have HUn : Hid (∀ kk, (Value.slice (some ⟨gB, 0, none⟩) (nl + 1) cB).ownBlock = some kk → v.ownBlock = some kk ∨ w2.heap.size ≤ kk) := fun kk e => by
              cases e
              rcases hatB with h' | h'
              · exact HU.out gB h'
              · exact .inr (by subst h'; simp only [World.size_alloc]; omega)
            clear hHeld hownB hgB hatB b5 b6 HW3 HU HG3 X4
            go_wp2
            go_roundw
            case rel => exact ⟨k + 1, by omega, by go_num, ⟨HGf.out, ⟨_, HWn.out, by simp [hnl]; omega⟩, HUn.out⟩⟩
            case measure => simp [intOf] <;> omega
    · go_wp2
      go_ret
      obtain ⟨ws', h1, h2⟩ := HD.out.2.1
      exact ⟨_, ws', rfl, h1, by omega, HG2.out.trans HD.out.1⟩
end Go.Proofs.Ytjilbfohfgalkaa
