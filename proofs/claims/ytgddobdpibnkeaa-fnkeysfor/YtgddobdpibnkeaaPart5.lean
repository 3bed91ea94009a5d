/- The bundle's blocks and rows by their places. -/
import Derived.Test.YtgddobdpibnkeaaPart4
import Derived.Test.YtgddobdpibnkeaaPart0
import Derived.Test.YtgddobdpibnkeaaPart1
namespace Go.Proofs.Ytgddobdpibnkeaa
open Go.RowKit

theorem Hex.b0 {w0 W : World} {bs : List (Nat × Obj)} {rs : List RowF} {ex : RowF} {p : Nat} {o : Obj} (H : Hex w0 ((p, o) :: bs) rs ex W) : W.heap[p]? = some o := H.box (p, o) (.head _)
theorem Hex.p0 {w0 W : World} {bs : List (Nat × Obj)} {rs : List RowF} {ex : RowF} {p : Nat} {o : Obj} (H : Hex w0 ((p, o) :: bs) rs ex W) : w0.heap.size ≤ p := H.new (p, o) (.head _)
theorem Hex.set0 {w0 W : World} {bs : List (Nat × Obj)} {rs : List RowF} {ex : RowF} {p j : Nat} {o o' : Obj} {x : Value} (H : Hex w0 ((p, o) :: bs) rs ex W) (ho : (W.setCell ⟨p, j, none⟩ x).heap[p]? = some o') : Hex w0 ((p, o') :: bs) rs ex (W.setCell ⟨p, j, none⟩ x) := Hex.set (pre := []) H ho
theorem Hex.s200 {w0 W : World} {bs : List (Nat × Obj)} {rs : List RowF} {ex : RowF} {p : Nat} {u v : Value} {t : TypeId} (H : Hex w0 ((p, .cells #[u, v] t) :: bs) rs ex W) (y : Value) : Hex w0 ((p, .cells #[y, v] t) :: bs) rs ex (W.setCell ⟨p, 0, none⟩ y) := H.set0 (by simp [World.setCell, Array.getElem?_modify, H.b0])
theorem Hex.s201 {w0 W : World} {bs : List (Nat × Obj)} {rs : List RowF} {ex : RowF} {p : Nat} {u v : Value} {t : TypeId} (H : Hex w0 ((p, .cells #[u, v] t) :: bs) rs ex W) (y : Value) : Hex w0 ((p, .cells #[u, y] t) :: bs) rs ex (W.setCell ⟨p, 1, none⟩ y) := H.set0 (by simp [World.setCell, Array.getElem?_modify, H.b0])
theorem Hex.s300 {w0 W : World} {bs : List (Nat × Obj)} {rs : List RowF} {ex : RowF} {p : Nat} {u v x : Value} {t : TypeId} (H : Hex w0 ((p, .cells #[u, v, x] t) :: bs) rs ex W) (y : Value) : Hex w0 ((p, .cells #[y, v, x] t) :: bs) rs ex (W.setCell ⟨p, 0, none⟩ y) := H.set0 (by simp [World.setCell, Array.getElem?_modify, H.b0])
theorem Hex.s301 {w0 W : World} {bs : List (Nat × Obj)} {rs : List RowF} {ex : RowF} {p : Nat} {u v x : Value} {t : TypeId} (H : Hex w0 ((p, .cells #[u, v, x] t) :: bs) rs ex W) (y : Value) : Hex w0 ((p, .cells #[u, y, x] t) :: bs) rs ex (W.setCell ⟨p, 1, none⟩ y) := H.set0 (by simp [World.setCell, Array.getElem?_modify, H.b0])
theorem Hex.s302 {w0 W : World} {bs : List (Nat × Obj)} {rs : List RowF} {ex : RowF} {p : Nat} {u v x : Value} {t : TypeId} (H : Hex w0 ((p, .cells #[u, v, x] t) :: bs) rs ex W) (y : Value) : Hex w0 ((p, .cells #[u, v, y] t) :: bs) rs ex (W.setCell ⟨p, 2, none⟩ y) := H.set0 (by simp [World.setCell, Array.getElem?_modify, H.b0])
theorem Hex.dropb0 {w0 W : World} {bs : List (Nat × Obj)} {rs : List RowF} {ex : RowF} {p : Nat × Obj} (H : Hex w0 (p :: bs) rs ex W) : Hex w0 (bs) rs ex W := H.sub (.cons _ (List.Sublist.refl _)) (List.Sublist.refl _)
theorem Hex.b1 {w0 W : World} {bs : List (Nat × Obj)} {rs : List RowF} {ex : RowF} {x0 : Nat × Obj} {p : Nat} {o : Obj} (H : Hex w0 (x0 :: (p, o) :: bs) rs ex W) : W.heap[p]? = some o := H.box (p, o) (.tail _ (.head _))
theorem Hex.p1 {w0 W : World} {bs : List (Nat × Obj)} {rs : List RowF} {ex : RowF} {x0 : Nat × Obj} {p : Nat} {o : Obj} (H : Hex w0 (x0 :: (p, o) :: bs) rs ex W) : w0.heap.size ≤ p := H.new (p, o) (.tail _ (.head _))
theorem Hex.set1 {w0 W : World} {bs : List (Nat × Obj)} {rs : List RowF} {ex : RowF} {x0 : Nat × Obj} {p j : Nat} {o o' : Obj} {x : Value} (H : Hex w0 (x0 :: (p, o) :: bs) rs ex W) (ho : (W.setCell ⟨p, j, none⟩ x).heap[p]? = some o') : Hex w0 (x0 :: (p, o') :: bs) rs ex (W.setCell ⟨p, j, none⟩ x) := Hex.set (pre := [x0]) H ho
theorem Hex.s210 {w0 W : World} {bs : List (Nat × Obj)} {rs : List RowF} {ex : RowF} {x0 : Nat × Obj} {p : Nat} {u v : Value} {t : TypeId} (H : Hex w0 (x0 :: (p, .cells #[u, v] t) :: bs) rs ex W) (y : Value) : Hex w0 (x0 :: (p, .cells #[y, v] t) :: bs) rs ex (W.setCell ⟨p, 0, none⟩ y) := H.set1 (by simp [World.setCell, Array.getElem?_modify, H.b1])
theorem Hex.s211 {w0 W : World} {bs : List (Nat × Obj)} {rs : List RowF} {ex : RowF} {x0 : Nat × Obj} {p : Nat} {u v : Value} {t : TypeId} (H : Hex w0 (x0 :: (p, .cells #[u, v] t) :: bs) rs ex W) (y : Value) : Hex w0 (x0 :: (p, .cells #[u, y] t) :: bs) rs ex (W.setCell ⟨p, 1, none⟩ y) := H.set1 (by simp [World.setCell, Array.getElem?_modify, H.b1])
theorem Hex.s310 {w0 W : World} {bs : List (Nat × Obj)} {rs : List RowF} {ex : RowF} {x0 : Nat × Obj} {p : Nat} {u v x : Value} {t : TypeId} (H : Hex w0 (x0 :: (p, .cells #[u, v, x] t) :: bs) rs ex W) (y : Value) : Hex w0 (x0 :: (p, .cells #[y, v, x] t) :: bs) rs ex (W.setCell ⟨p, 0, none⟩ y) := H.set1 (by simp [World.setCell, Array.getElem?_modify, H.b1])
theorem Hex.s311 {w0 W : World} {bs : List (Nat × Obj)} {rs : List RowF} {ex : RowF} {x0 : Nat × Obj} {p : Nat} {u v x : Value} {t : TypeId} (H : Hex w0 (x0 :: (p, .cells #[u, v, x] t) :: bs) rs ex W) (y : Value) : Hex w0 (x0 :: (p, .cells #[u, y, x] t) :: bs) rs ex (W.setCell ⟨p, 1, none⟩ y) := H.set1 (by simp [World.setCell, Array.getElem?_modify, H.b1])
theorem Hex.s312 {w0 W : World} {bs : List (Nat × Obj)} {rs : List RowF} {ex : RowF} {x0 : Nat × Obj} {p : Nat} {u v x : Value} {t : TypeId} (H : Hex w0 (x0 :: (p, .cells #[u, v, x] t) :: bs) rs ex W) (y : Value) : Hex w0 (x0 :: (p, .cells #[u, v, y] t) :: bs) rs ex (W.setCell ⟨p, 2, none⟩ y) := H.set1 (by simp [World.setCell, Array.getElem?_modify, H.b1])
theorem Hex.dropb1 {w0 W : World} {bs : List (Nat × Obj)} {rs : List RowF} {ex : RowF} {x0 : Nat × Obj} {p : Nat × Obj} (H : Hex w0 (x0 :: p :: bs) rs ex W) : Hex w0 (x0 :: bs) rs ex W := H.sub (.cons_cons _ (.cons _ (List.Sublist.refl _))) (List.Sublist.refl _)
theorem Hex.b2 {w0 W : World} {bs : List (Nat × Obj)} {rs : List RowF} {ex : RowF} {x0 x1 : Nat × Obj} {p : Nat} {o : Obj} (H : Hex w0 (x0 :: x1 :: (p, o) :: bs) rs ex W) : W.heap[p]? = some o := H.box (p, o) (.tail _ (.tail _ (.head _)))
theorem Hex.p2 {w0 W : World} {bs : List (Nat × Obj)} {rs : List RowF} {ex : RowF} {x0 x1 : Nat × Obj} {p : Nat} {o : Obj} (H : Hex w0 (x0 :: x1 :: (p, o) :: bs) rs ex W) : w0.heap.size ≤ p := H.new (p, o) (.tail _ (.tail _ (.head _)))
theorem Hex.set2 {w0 W : World} {bs : List (Nat × Obj)} {rs : List RowF} {ex : RowF} {x0 x1 : Nat × Obj} {p j : Nat} {o o' : Obj} {x : Value} (H : Hex w0 (x0 :: x1 :: (p, o) :: bs) rs ex W) (ho : (W.setCell ⟨p, j, none⟩ x).heap[p]? = some o') : Hex w0 (x0 :: x1 :: (p, o') :: bs) rs ex (W.setCell ⟨p, j, none⟩ x) := Hex.set (pre := [x0, x1]) H ho
theorem Hex.s220 {w0 W : World} {bs : List (Nat × Obj)} {rs : List RowF} {ex : RowF} {x0 x1 : Nat × Obj} {p : Nat} {u v : Value} {t : TypeId} (H : Hex w0 (x0 :: x1 :: (p, .cells #[u, v] t) :: bs) rs ex W) (y : Value) : Hex w0 (x0 :: x1 :: (p, .cells #[y, v] t) :: bs) rs ex (W.setCell ⟨p, 0, none⟩ y) := H.set2 (by simp [World.setCell, Array.getElem?_modify, H.b2])
theorem Hex.s221 {w0 W : World} {bs : List (Nat × Obj)} {rs : List RowF} {ex : RowF} {x0 x1 : Nat × Obj} {p : Nat} {u v : Value} {t : TypeId} (H : Hex w0 (x0 :: x1 :: (p, .cells #[u, v] t) :: bs) rs ex W) (y : Value) : Hex w0 (x0 :: x1 :: (p, .cells #[u, y] t) :: bs) rs ex (W.setCell ⟨p, 1, none⟩ y) := H.set2 (by simp [World.setCell, Array.getElem?_modify, H.b2])
theorem Hex.s320 {w0 W : World} {bs : List (Nat × Obj)} {rs : List RowF} {ex : RowF} {x0 x1 : Nat × Obj} {p : Nat} {u v x : Value} {t : TypeId} (H : Hex w0 (x0 :: x1 :: (p, .cells #[u, v, x] t) :: bs) rs ex W) (y : Value) : Hex w0 (x0 :: x1 :: (p, .cells #[y, v, x] t) :: bs) rs ex (W.setCell ⟨p, 0, none⟩ y) := H.set2 (by simp [World.setCell, Array.getElem?_modify, H.b2])
theorem Hex.s321 {w0 W : World} {bs : List (Nat × Obj)} {rs : List RowF} {ex : RowF} {x0 x1 : Nat × Obj} {p : Nat} {u v x : Value} {t : TypeId} (H : Hex w0 (x0 :: x1 :: (p, .cells #[u, v, x] t) :: bs) rs ex W) (y : Value) : Hex w0 (x0 :: x1 :: (p, .cells #[u, y, x] t) :: bs) rs ex (W.setCell ⟨p, 1, none⟩ y) := H.set2 (by simp [World.setCell, Array.getElem?_modify, H.b2])
theorem Hex.s322 {w0 W : World} {bs : List (Nat × Obj)} {rs : List RowF} {ex : RowF} {x0 x1 : Nat × Obj} {p : Nat} {u v x : Value} {t : TypeId} (H : Hex w0 (x0 :: x1 :: (p, .cells #[u, v, x] t) :: bs) rs ex W) (y : Value) : Hex w0 (x0 :: x1 :: (p, .cells #[u, v, y] t) :: bs) rs ex (W.setCell ⟨p, 2, none⟩ y) := H.set2 (by simp [World.setCell, Array.getElem?_modify, H.b2])
theorem Hex.dropb2 {w0 W : World} {bs : List (Nat × Obj)} {rs : List RowF} {ex : RowF} {x0 x1 : Nat × Obj} {p : Nat × Obj} (H : Hex w0 (x0 :: x1 :: p :: bs) rs ex W) : Hex w0 (x0 :: x1 :: bs) rs ex W := H.sub (.cons_cons _ (.cons_cons _ (.cons _ (List.Sublist.refl _)))) (List.Sublist.refl _)
theorem Hex.b3 {w0 W : World} {bs : List (Nat × Obj)} {rs : List RowF} {ex : RowF} {x0 x1 x2 : Nat × Obj} {p : Nat} {o : Obj} (H : Hex w0 (x0 :: x1 :: x2 :: (p, o) :: bs) rs ex W) : W.heap[p]? = some o := H.box (p, o) (.tail _ (.tail _ (.tail _ (.head _))))
theorem Hex.p3 {w0 W : World} {bs : List (Nat × Obj)} {rs : List RowF} {ex : RowF} {x0 x1 x2 : Nat × Obj} {p : Nat} {o : Obj} (H : Hex w0 (x0 :: x1 :: x2 :: (p, o) :: bs) rs ex W) : w0.heap.size ≤ p := H.new (p, o) (.tail _ (.tail _ (.tail _ (.head _))))
theorem Hex.set3 {w0 W : World} {bs : List (Nat × Obj)} {rs : List RowF} {ex : RowF} {x0 x1 x2 : Nat × Obj} {p j : Nat} {o o' : Obj} {x : Value} (H : Hex w0 (x0 :: x1 :: x2 :: (p, o) :: bs) rs ex W) (ho : (W.setCell ⟨p, j, none⟩ x).heap[p]? = some o') : Hex w0 (x0 :: x1 :: x2 :: (p, o') :: bs) rs ex (W.setCell ⟨p, j, none⟩ x) := Hex.set (pre := [x0, x1, x2]) H ho
theorem Hex.s230 {w0 W : World} {bs : List (Nat × Obj)} {rs : List RowF} {ex : RowF} {x0 x1 x2 : Nat × Obj} {p : Nat} {u v : Value} {t : TypeId} (H : Hex w0 (x0 :: x1 :: x2 :: (p, .cells #[u, v] t) :: bs) rs ex W) (y : Value) : Hex w0 (x0 :: x1 :: x2 :: (p, .cells #[y, v] t) :: bs) rs ex (W.setCell ⟨p, 0, none⟩ y) := H.set3 (by simp [World.setCell, Array.getElem?_modify, H.b3])
theorem Hex.s231 {w0 W : World} {bs : List (Nat × Obj)} {rs : List RowF} {ex : RowF} {x0 x1 x2 : Nat × Obj} {p : Nat} {u v : Value} {t : TypeId} (H : Hex w0 (x0 :: x1 :: x2 :: (p, .cells #[u, v] t) :: bs) rs ex W) (y : Value) : Hex w0 (x0 :: x1 :: x2 :: (p, .cells #[u, y] t) :: bs) rs ex (W.setCell ⟨p, 1, none⟩ y) := H.set3 (by simp [World.setCell, Array.getElem?_modify, H.b3])
theorem Hex.s330 {w0 W : World} {bs : List (Nat × Obj)} {rs : List RowF} {ex : RowF} {x0 x1 x2 : Nat × Obj} {p : Nat} {u v x : Value} {t : TypeId} (H : Hex w0 (x0 :: x1 :: x2 :: (p, .cells #[u, v, x] t) :: bs) rs ex W) (y : Value) : Hex w0 (x0 :: x1 :: x2 :: (p, .cells #[y, v, x] t) :: bs) rs ex (W.setCell ⟨p, 0, none⟩ y) := H.set3 (by simp [World.setCell, Array.getElem?_modify, H.b3])
theorem Hex.s331 {w0 W : World} {bs : List (Nat × Obj)} {rs : List RowF} {ex : RowF} {x0 x1 x2 : Nat × Obj} {p : Nat} {u v x : Value} {t : TypeId} (H : Hex w0 (x0 :: x1 :: x2 :: (p, .cells #[u, v, x] t) :: bs) rs ex W) (y : Value) : Hex w0 (x0 :: x1 :: x2 :: (p, .cells #[u, y, x] t) :: bs) rs ex (W.setCell ⟨p, 1, none⟩ y) := H.set3 (by simp [World.setCell, Array.getElem?_modify, H.b3])
theorem Hex.s332 {w0 W : World} {bs : List (Nat × Obj)} {rs : List RowF} {ex : RowF} {x0 x1 x2 : Nat × Obj} {p : Nat} {u v x : Value} {t : TypeId} (H : Hex w0 (x0 :: x1 :: x2 :: (p, .cells #[u, v, x] t) :: bs) rs ex W) (y : Value) : Hex w0 (x0 :: x1 :: x2 :: (p, .cells #[u, v, y] t) :: bs) rs ex (W.setCell ⟨p, 2, none⟩ y) := H.set3 (by simp [World.setCell, Array.getElem?_modify, H.b3])
theorem Hex.dropb3 {w0 W : World} {bs : List (Nat × Obj)} {rs : List RowF} {ex : RowF} {x0 x1 x2 : Nat × Obj} {p : Nat × Obj} (H : Hex w0 (x0 :: x1 :: x2 :: p :: bs) rs ex W) : Hex w0 (x0 :: x1 :: x2 :: bs) rs ex W := H.sub (.cons_cons _ (.cons_cons _ (.cons_cons _ (.cons _ (List.Sublist.refl _))))) (List.Sublist.refl _)
theorem Hex.b4 {w0 W : World} {bs : List (Nat × Obj)} {rs : List RowF} {ex : RowF} {x0 x1 x2 x3 : Nat × Obj} {p : Nat} {o : Obj} (H : Hex w0 (x0 :: x1 :: x2 :: x3 :: (p, o) :: bs) rs ex W) : W.heap[p]? = some o := H.box (p, o) (.tail _ (.tail _ (.tail _ (.tail _ (.head _)))))
theorem Hex.p4 {w0 W : World} {bs : List (Nat × Obj)} {rs : List RowF} {ex : RowF} {x0 x1 x2 x3 : Nat × Obj} {p : Nat} {o : Obj} (H : Hex w0 (x0 :: x1 :: x2 :: x3 :: (p, o) :: bs) rs ex W) : w0.heap.size ≤ p := H.new (p, o) (.tail _ (.tail _ (.tail _ (.tail _ (.head _)))))
theorem Hex.set4 {w0 W : World} {bs : List (Nat × Obj)} {rs : List RowF} {ex : RowF} {x0 x1 x2 x3 : Nat × Obj} {p j : Nat} {o o' : Obj} {x : Value} (H : Hex w0 (x0 :: x1 :: x2 :: x3 :: (p, o) :: bs) rs ex W) (ho : (W.setCell ⟨p, j, none⟩ x).heap[p]? = some o') : Hex w0 (x0 :: x1 :: x2 :: x3 :: (p, o') :: bs) rs ex (W.setCell ⟨p, j, none⟩ x) := Hex.set (pre := [x0, x1, x2, x3]) H ho
theorem Hex.s240 {w0 W : World} {bs : List (Nat × Obj)} {rs : List RowF} {ex : RowF} {x0 x1 x2 x3 : Nat × Obj} {p : Nat} {u v : Value} {t : TypeId} (H : Hex w0 (x0 :: x1 :: x2 :: x3 :: (p, .cells #[u, v] t) :: bs) rs ex W) (y : Value) : Hex w0 (x0 :: x1 :: x2 :: x3 :: (p, .cells #[y, v] t) :: bs) rs ex (W.setCell ⟨p, 0, none⟩ y) := H.set4 (by simp [World.setCell, Array.getElem?_modify, H.b4])
theorem Hex.s241 {w0 W : World} {bs : List (Nat × Obj)} {rs : List RowF} {ex : RowF} {x0 x1 x2 x3 : Nat × Obj} {p : Nat} {u v : Value} {t : TypeId} (H : Hex w0 (x0 :: x1 :: x2 :: x3 :: (p, .cells #[u, v] t) :: bs) rs ex W) (y : Value) : Hex w0 (x0 :: x1 :: x2 :: x3 :: (p, .cells #[u, y] t) :: bs) rs ex (W.setCell ⟨p, 1, none⟩ y) := H.set4 (by simp [World.setCell, Array.getElem?_modify, H.b4])
theorem Hex.s340 {w0 W : World} {bs : List (Nat × Obj)} {rs : List RowF} {ex : RowF} {x0 x1 x2 x3 : Nat × Obj} {p : Nat} {u v x : Value} {t : TypeId} (H : Hex w0 (x0 :: x1 :: x2 :: x3 :: (p, .cells #[u, v, x] t) :: bs) rs ex W) (y : Value) : Hex w0 (x0 :: x1 :: x2 :: x3 :: (p, .cells #[y, v, x] t) :: bs) rs ex (W.setCell ⟨p, 0, none⟩ y) := H.set4 (by simp [World.setCell, Array.getElem?_modify, H.b4])
theorem Hex.s341 {w0 W : World} {bs : List (Nat × Obj)} {rs : List RowF} {ex : RowF} {x0 x1 x2 x3 : Nat × Obj} {p : Nat} {u v x : Value} {t : TypeId} (H : Hex w0 (x0 :: x1 :: x2 :: x3 :: (p, .cells #[u, v, x] t) :: bs) rs ex W) (y : Value) : Hex w0 (x0 :: x1 :: x2 :: x3 :: (p, .cells #[u, y, x] t) :: bs) rs ex (W.setCell ⟨p, 1, none⟩ y) := H.set4 (by simp [World.setCell, Array.getElem?_modify, H.b4])
theorem Hex.s342 {w0 W : World} {bs : List (Nat × Obj)} {rs : List RowF} {ex : RowF} {x0 x1 x2 x3 : Nat × Obj} {p : Nat} {u v x : Value} {t : TypeId} (H : Hex w0 (x0 :: x1 :: x2 :: x3 :: (p, .cells #[u, v, x] t) :: bs) rs ex W) (y : Value) : Hex w0 (x0 :: x1 :: x2 :: x3 :: (p, .cells #[u, v, y] t) :: bs) rs ex (W.setCell ⟨p, 2, none⟩ y) := H.set4 (by simp [World.setCell, Array.getElem?_modify, H.b4])
theorem Hex.dropb4 {w0 W : World} {bs : List (Nat × Obj)} {rs : List RowF} {ex : RowF} {x0 x1 x2 x3 : Nat × Obj} {p : Nat × Obj} (H : Hex w0 (x0 :: x1 :: x2 :: x3 :: p :: bs) rs ex W) : Hex w0 (x0 :: x1 :: x2 :: x3 :: bs) rs ex W := H.sub (.cons_cons _ (.cons_cons _ (.cons_cons _ (.cons_cons _ (.cons _ (List.Sublist.refl _)))))) (List.Sublist.refl _)
theorem Hex.b5 {w0 W : World} {bs : List (Nat × Obj)} {rs : List RowF} {ex : RowF} {x0 x1 x2 x3 x4 : Nat × Obj} {p : Nat} {o : Obj} (H : Hex w0 (x0 :: x1 :: x2 :: x3 :: x4 :: (p, o) :: bs) rs ex W) : W.heap[p]? = some o := H.box (p, o) (.tail _ (.tail _ (.tail _ (.tail _ (.tail _ (.head _))))))
theorem Hex.p5 {w0 W : World} {bs : List (Nat × Obj)} {rs : List RowF} {ex : RowF} {x0 x1 x2 x3 x4 : Nat × Obj} {p : Nat} {o : Obj} (H : Hex w0 (x0 :: x1 :: x2 :: x3 :: x4 :: (p, o) :: bs) rs ex W) : w0.heap.size ≤ p := H.new (p, o) (.tail _ (.tail _ (.tail _ (.tail _ (.tail _ (.head _))))))
theorem Hex.set5 {w0 W : World} {bs : List (Nat × Obj)} {rs : List RowF} {ex : RowF} {x0 x1 x2 x3 x4 : Nat × Obj} {p j : Nat} {o o' : Obj} {x : Value} (H : Hex w0 (x0 :: x1 :: x2 :: x3 :: x4 :: (p, o) :: bs) rs ex W) (ho : (W.setCell ⟨p, j, none⟩ x).heap[p]? = some o') : Hex w0 (x0 :: x1 :: x2 :: x3 :: x4 :: (p, o') :: bs) rs ex (W.setCell ⟨p, j, none⟩ x) := Hex.set (pre := [x0, x1, x2, x3, x4]) H ho
theorem Hex.s250 {w0 W : World} {bs : List (Nat × Obj)} {rs : List RowF} {ex : RowF} {x0 x1 x2 x3 x4 : Nat × Obj} {p : Nat} {u v : Value} {t : TypeId} (H : Hex w0 (x0 :: x1 :: x2 :: x3 :: x4 :: (p, .cells #[u, v] t) :: bs) rs ex W) (y : Value) : Hex w0 (x0 :: x1 :: x2 :: x3 :: x4 :: (p, .cells #[y, v] t) :: bs) rs ex (W.setCell ⟨p, 0, none⟩ y) := H.set5 (by simp [World.setCell, Array.getElem?_modify, H.b5])
theorem Hex.s251 {w0 W : World} {bs : List (Nat × Obj)} {rs : List RowF} {ex : RowF} {x0 x1 x2 x3 x4 : Nat × Obj} {p : Nat} {u v : Value} {t : TypeId} (H : Hex w0 (x0 :: x1 :: x2 :: x3 :: x4 :: (p, .cells #[u, v] t) :: bs) rs ex W) (y : Value) : Hex w0 (x0 :: x1 :: x2 :: x3 :: x4 :: (p, .cells #[u, y] t) :: bs) rs ex (W.setCell ⟨p, 1, none⟩ y) := H.set5 (by simp [World.setCell, Array.getElem?_modify, H.b5])
theorem Hex.s350 {w0 W : World} {bs : List (Nat × Obj)} {rs : List RowF} {ex : RowF} {x0 x1 x2 x3 x4 : Nat × Obj} {p : Nat} {u v x : Value} {t : TypeId} (H : Hex w0 (x0 :: x1 :: x2 :: x3 :: x4 :: (p, .cells #[u, v, x] t) :: bs) rs ex W) (y : Value) : Hex w0 (x0 :: x1 :: x2 :: x3 :: x4 :: (p, .cells #[y, v, x] t) :: bs) rs ex (W.setCell ⟨p, 0, none⟩ y) := H.set5 (by simp [World.setCell, Array.getElem?_modify, H.b5])
theorem Hex.s351 {w0 W : World} {bs : List (Nat × Obj)} {rs : List RowF} {ex : RowF} {x0 x1 x2 x3 x4 : Nat × Obj} {p : Nat} {u v x : Value} {t : TypeId} (H : Hex w0 (x0 :: x1 :: x2 :: x3 :: x4 :: (p, .cells #[u, v, x] t) :: bs) rs ex W) (y : Value) : Hex w0 (x0 :: x1 :: x2 :: x3 :: x4 :: (p, .cells #[u, y, x] t) :: bs) rs ex (W.setCell ⟨p, 1, none⟩ y) := H.set5 (by simp [World.setCell, Array.getElem?_modify, H.b5])
theorem Hex.s352 {w0 W : World} {bs : List (Nat × Obj)} {rs : List RowF} {ex : RowF} {x0 x1 x2 x3 x4 : Nat × Obj} {p : Nat} {u v x : Value} {t : TypeId} (H : Hex w0 (x0 :: x1 :: x2 :: x3 :: x4 :: (p, .cells #[u, v, x] t) :: bs) rs ex W) (y : Value) : Hex w0 (x0 :: x1 :: x2 :: x3 :: x4 :: (p, .cells #[u, v, y] t) :: bs) rs ex (W.setCell ⟨p, 2, none⟩ y) := H.set5 (by simp [World.setCell, Array.getElem?_modify, H.b5])
theorem Hex.dropb5 {w0 W : World} {bs : List (Nat × Obj)} {rs : List RowF} {ex : RowF} {x0 x1 x2 x3 x4 : Nat × Obj} {p : Nat × Obj} (H : Hex w0 (x0 :: x1 :: x2 :: x3 :: x4 :: p :: bs) rs ex W) : Hex w0 (x0 :: x1 :: x2 :: x3 :: x4 :: bs) rs ex W := H.sub (.cons_cons _ (.cons_cons _ (.cons_cons _ (.cons_cons _ (.cons_cons _ (.cons _ (List.Sublist.refl _))))))) (List.Sublist.refl _)
theorem Hex.b6 {w0 W : World} {bs : List (Nat × Obj)} {rs : List RowF} {ex : RowF} {x0 x1 x2 x3 x4 x5 : Nat × Obj} {p : Nat} {o : Obj} (H : Hex w0 (x0 :: x1 :: x2 :: x3 :: x4 :: x5 :: (p, o) :: bs) rs ex W) : W.heap[p]? = some o := H.box (p, o) (.tail _ (.tail _ (.tail _ (.tail _ (.tail _ (.tail _ (.head _)))))))
theorem Hex.p6 {w0 W : World} {bs : List (Nat × Obj)} {rs : List RowF} {ex : RowF} {x0 x1 x2 x3 x4 x5 : Nat × Obj} {p : Nat} {o : Obj} (H : Hex w0 (x0 :: x1 :: x2 :: x3 :: x4 :: x5 :: (p, o) :: bs) rs ex W) : w0.heap.size ≤ p := H.new (p, o) (.tail _ (.tail _ (.tail _ (.tail _ (.tail _ (.tail _ (.head _)))))))
theorem Hex.set6 {w0 W : World} {bs : List (Nat × Obj)} {rs : List RowF} {ex : RowF} {x0 x1 x2 x3 x4 x5 : Nat × Obj} {p j : Nat} {o o' : Obj} {x : Value} (H : Hex w0 (x0 :: x1 :: x2 :: x3 :: x4 :: x5 :: (p, o) :: bs) rs ex W) (ho : (W.setCell ⟨p, j, none⟩ x).heap[p]? = some o') : Hex w0 (x0 :: x1 :: x2 :: x3 :: x4 :: x5 :: (p, o') :: bs) rs ex (W.setCell ⟨p, j, none⟩ x) := Hex.set (pre := [x0, x1, x2, x3, x4, x5]) H ho
theorem Hex.s260 {w0 W : World} {bs : List (Nat × Obj)} {rs : List RowF} {ex : RowF} {x0 x1 x2 x3 x4 x5 : Nat × Obj} {p : Nat} {u v : Value} {t : TypeId} (H : Hex w0 (x0 :: x1 :: x2 :: x3 :: x4 :: x5 :: (p, .cells #[u, v] t) :: bs) rs ex W) (y : Value) : Hex w0 (x0 :: x1 :: x2 :: x3 :: x4 :: x5 :: (p, .cells #[y, v] t) :: bs) rs ex (W.setCell ⟨p, 0, none⟩ y) := H.set6 (by simp [World.setCell, Array.getElem?_modify, H.b6])
theorem Hex.s261 {w0 W : World} {bs : List (Nat × Obj)} {rs : List RowF} {ex : RowF} {x0 x1 x2 x3 x4 x5 : Nat × Obj} {p : Nat} {u v : Value} {t : TypeId} (H : Hex w0 (x0 :: x1 :: x2 :: x3 :: x4 :: x5 :: (p, .cells #[u, v] t) :: bs) rs ex W) (y : Value) : Hex w0 (x0 :: x1 :: x2 :: x3 :: x4 :: x5 :: (p, .cells #[u, y] t) :: bs) rs ex (W.setCell ⟨p, 1, none⟩ y) := H.set6 (by simp [World.setCell, Array.getElem?_modify, H.b6])
theorem Hex.s360 {w0 W : World} {bs : List (Nat × Obj)} {rs : List RowF} {ex : RowF} {x0 x1 x2 x3 x4 x5 : Nat × Obj} {p : Nat} {u v x : Value} {t : TypeId} (H : Hex w0 (x0 :: x1 :: x2 :: x3 :: x4 :: x5 :: (p, .cells #[u, v, x] t) :: bs) rs ex W) (y : Value) : Hex w0 (x0 :: x1 :: x2 :: x3 :: x4 :: x5 :: (p, .cells #[y, v, x] t) :: bs) rs ex (W.setCell ⟨p, 0, none⟩ y) := H.set6 (by simp [World.setCell, Array.getElem?_modify, H.b6])
theorem Hex.s361 {w0 W : World} {bs : List (Nat × Obj)} {rs : List RowF} {ex : RowF} {x0 x1 x2 x3 x4 x5 : Nat × Obj} {p : Nat} {u v x : Value} {t : TypeId} (H : Hex w0 (x0 :: x1 :: x2 :: x3 :: x4 :: x5 :: (p, .cells #[u, v, x] t) :: bs) rs ex W) (y : Value) : Hex w0 (x0 :: x1 :: x2 :: x3 :: x4 :: x5 :: (p, .cells #[u, y, x] t) :: bs) rs ex (W.setCell ⟨p, 1, none⟩ y) := H.set6 (by simp [World.setCell, Array.getElem?_modify, H.b6])
theorem Hex.s362 {w0 W : World} {bs : List (Nat × Obj)} {rs : List RowF} {ex : RowF} {x0 x1 x2 x3 x4 x5 : Nat × Obj} {p : Nat} {u v x : Value} {t : TypeId} (H : Hex w0 (x0 :: x1 :: x2 :: x3 :: x4 :: x5 :: (p, .cells #[u, v, x] t) :: bs) rs ex W) (y : Value) : Hex w0 (x0 :: x1 :: x2 :: x3 :: x4 :: x5 :: (p, .cells #[u, v, y] t) :: bs) rs ex (W.setCell ⟨p, 2, none⟩ y) := H.set6 (by simp [World.setCell, Array.getElem?_modify, H.b6])
theorem Hex.dropb6 {w0 W : World} {bs : List (Nat × Obj)} {rs : List RowF} {ex : RowF} {x0 x1 x2 x3 x4 x5 : Nat × Obj} {p : Nat × Obj} (H : Hex w0 (x0 :: x1 :: x2 :: x3 :: x4 :: x5 :: p :: bs) rs ex W) : Hex w0 (x0 :: x1 :: x2 :: x3 :: x4 :: x5 :: bs) rs ex W := H.sub (.cons_cons _ (.cons_cons _ (.cons_cons _ (.cons_cons _ (.cons_cons _ (.cons_cons _ (.cons _ (List.Sublist.refl _)))))))) (List.Sublist.refl _)
theorem Hex.b7 {w0 W : World} {bs : List (Nat × Obj)} {rs : List RowF} {ex : RowF} {x0 x1 x2 x3 x4 x5 x6 : Nat × Obj} {p : Nat} {o : Obj} (H : Hex w0 (x0 :: x1 :: x2 :: x3 :: x4 :: x5 :: x6 :: (p, o) :: bs) rs ex W) : W.heap[p]? = some o := H.box (p, o) (.tail _ (.tail _ (.tail _ (.tail _ (.tail _ (.tail _ (.tail _ (.head _))))))))
theorem Hex.p7 {w0 W : World} {bs : List (Nat × Obj)} {rs : List RowF} {ex : RowF} {x0 x1 x2 x3 x4 x5 x6 : Nat × Obj} {p : Nat} {o : Obj} (H : Hex w0 (x0 :: x1 :: x2 :: x3 :: x4 :: x5 :: x6 :: (p, o) :: bs) rs ex W) : w0.heap.size ≤ p := H.new (p, o) (.tail _ (.tail _ (.tail _ (.tail _ (.tail _ (.tail _ (.tail _ (.head _))))))))
theorem Hex.set7 {w0 W : World} {bs : List (Nat × Obj)} {rs : List RowF} {ex : RowF} {x0 x1 x2 x3 x4 x5 x6 : Nat × Obj} {p j : Nat} {o o' : Obj} {x : Value} (H : Hex w0 (x0 :: x1 :: x2 :: x3 :: x4 :: x5 :: x6 :: (p, o) :: bs) rs ex W) (ho : (W.setCell ⟨p, j, none⟩ x).heap[p]? = some o') : Hex w0 (x0 :: x1 :: x2 :: x3 :: x4 :: x5 :: x6 :: (p, o') :: bs) rs ex (W.setCell ⟨p, j, none⟩ x) := Hex.set (pre := [x0, x1, x2, x3, x4, x5, x6]) H ho
theorem Hex.s270 {w0 W : World} {bs : List (Nat × Obj)} {rs : List RowF} {ex : RowF} {x0 x1 x2 x3 x4 x5 x6 : Nat × Obj} {p : Nat} {u v : Value} {t : TypeId} (H : Hex w0 (x0 :: x1 :: x2 :: x3 :: x4 :: x5 :: x6 :: (p, .cells #[u, v] t) :: bs) rs ex W) (y : Value) : Hex w0 (x0 :: x1 :: x2 :: x3 :: x4 :: x5 :: x6 :: (p, .cells #[y, v] t) :: bs) rs ex (W.setCell ⟨p, 0, none⟩ y) := H.set7 (by simp [World.setCell, Array.getElem?_modify, H.b7])
theorem Hex.s271 {w0 W : World} {bs : List (Nat × Obj)} {rs : List RowF} {ex : RowF} {x0 x1 x2 x3 x4 x5 x6 : Nat × Obj} {p : Nat} {u v : Value} {t : TypeId} (H : Hex w0 (x0 :: x1 :: x2 :: x3 :: x4 :: x5 :: x6 :: (p, .cells #[u, v] t) :: bs) rs ex W) (y : Value) : Hex w0 (x0 :: x1 :: x2 :: x3 :: x4 :: x5 :: x6 :: (p, .cells #[u, y] t) :: bs) rs ex (W.setCell ⟨p, 1, none⟩ y) := H.set7 (by simp [World.setCell, Array.getElem?_modify, H.b7])
theorem Hex.s370 {w0 W : World} {bs : List (Nat × Obj)} {rs : List RowF} {ex : RowF} {x0 x1 x2 x3 x4 x5 x6 : Nat × Obj} {p : Nat} {u v x : Value} {t : TypeId} (H : Hex w0 (x0 :: x1 :: x2 :: x3 :: x4 :: x5 :: x6 :: (p, .cells #[u, v, x] t) :: bs) rs ex W) (y : Value) : Hex w0 (x0 :: x1 :: x2 :: x3 :: x4 :: x5 :: x6 :: (p, .cells #[y, v, x] t) :: bs) rs ex (W.setCell ⟨p, 0, none⟩ y) := H.set7 (by simp [World.setCell, Array.getElem?_modify, H.b7])
theorem Hex.s371 {w0 W : World} {bs : List (Nat × Obj)} {rs : List RowF} {ex : RowF} {x0 x1 x2 x3 x4 x5 x6 : Nat × Obj} {p : Nat} {u v x : Value} {t : TypeId} (H : Hex w0 (x0 :: x1 :: x2 :: x3 :: x4 :: x5 :: x6 :: (p, .cells #[u, v, x] t) :: bs) rs ex W) (y : Value) : Hex w0 (x0 :: x1 :: x2 :: x3 :: x4 :: x5 :: x6 :: (p, .cells #[u, y, x] t) :: bs) rs ex (W.setCell ⟨p, 1, none⟩ y) := H.set7 (by simp [World.setCell, Array.getElem?_modify, H.b7])
theorem Hex.s372 {w0 W : World} {bs : List (Nat × Obj)} {rs : List RowF} {ex : RowF} {x0 x1 x2 x3 x4 x5 x6 : Nat × Obj} {p : Nat} {u v x : Value} {t : TypeId} (H : Hex w0 (x0 :: x1 :: x2 :: x3 :: x4 :: x5 :: x6 :: (p, .cells #[u, v, x] t) :: bs) rs ex W) (y : Value) : Hex w0 (x0 :: x1 :: x2 :: x3 :: x4 :: x5 :: x6 :: (p, .cells #[u, v, y] t) :: bs) rs ex (W.setCell ⟨p, 2, none⟩ y) := H.set7 (by simp [World.setCell, Array.getElem?_modify, H.b7])
theorem Hex.dropb7 {w0 W : World} {bs : List (Nat × Obj)} {rs : List RowF} {ex : RowF} {x0 x1 x2 x3 x4 x5 x6 : Nat × Obj} {p : Nat × Obj} (H : Hex w0 (x0 :: x1 :: x2 :: x3 :: x4 :: x5 :: x6 :: p :: bs) rs ex W) : Hex w0 (x0 :: x1 :: x2 :: x3 :: x4 :: x5 :: x6 :: bs) rs ex W := H.sub (.cons_cons _ (.cons_cons _ (.cons_cons _ (.cons_cons _ (.cons_cons _ (.cons_cons _ (.cons_cons _ (.cons _ (List.Sublist.refl _))))))))) (List.Sublist.refl _)
theorem Hex.r0 {w0 W : World} {bs : List (Nat × Obj)} {rs : List RowF} {ex : RowF} {r : RowF} (H : Hex w0 bs (r :: rs) ex W) : r.on W := H.row r (.head _)
theorem Hex.turn0 {w0 W W' : World} {bs : List (Nat × Obj)} {rs : List RowF} {ex : RowF} {r r' : RowF} (H : Hex w0 bs (r :: rs) ex W) (hg : W.grownBy W' r.v.ownBlock) (h : r'.on W') (hB : r'.B = r.B) (hd : (∀ s, s ∈ rs → s.t ≠ r'.t) ∧ ∀ p, p ∈ bs → objType p.2 ≠ some r'.t) : Hex w0 bs (r' :: rs) ex W' := Hex.turn (pre := []) H hg h hB hd
theorem Hex.dropr0 {w0 W : World} {bs : List (Nat × Obj)} {rs : List RowF} {ex : RowF} {r : RowF} (H : Hex w0 bs (r :: rs) ex W) : Hex w0 bs (rs) ex W := H.sub (List.Sublist.refl _) (.cons _ (List.Sublist.refl _))
theorem Hex.r1 {w0 W : World} {bs : List (Nat × Obj)} {rs : List RowF} {ex : RowF} {x0 : RowF} {r : RowF} (H : Hex w0 bs (x0 :: r :: rs) ex W) : r.on W := H.row r (.tail _ (.head _))
theorem Hex.turn1 {w0 W W' : World} {bs : List (Nat × Obj)} {rs : List RowF} {ex : RowF} {x0 : RowF} {r r' : RowF} (H : Hex w0 bs (x0 :: r :: rs) ex W) (hg : W.grownBy W' r.v.ownBlock) (h : r'.on W') (hB : r'.B = r.B) (hd : (∀ s, s ∈ x0 :: rs → s.t ≠ r'.t) ∧ ∀ p, p ∈ bs → objType p.2 ≠ some r'.t) : Hex w0 bs (x0 :: r' :: rs) ex W' := Hex.turn (pre := [x0]) H hg h hB hd
theorem Hex.dropr1 {w0 W : World} {bs : List (Nat × Obj)} {rs : List RowF} {ex : RowF} {x0 : RowF} {r : RowF} (H : Hex w0 bs (x0 :: r :: rs) ex W) : Hex w0 bs (x0 :: rs) ex W := H.sub (List.Sublist.refl _) (.cons_cons _ (.cons _ (List.Sublist.refl _)))
theorem Hex.r2 {w0 W : World} {bs : List (Nat × Obj)} {rs : List RowF} {ex : RowF} {x0 x1 : RowF} {r : RowF} (H : Hex w0 bs (x0 :: x1 :: r :: rs) ex W) : r.on W := H.row r (.tail _ (.tail _ (.head _)))
theorem Hex.turn2 {w0 W W' : World} {bs : List (Nat × Obj)} {rs : List RowF} {ex : RowF} {x0 x1 : RowF} {r r' : RowF} (H : Hex w0 bs (x0 :: x1 :: r :: rs) ex W) (hg : W.grownBy W' r.v.ownBlock) (h : r'.on W') (hB : r'.B = r.B) (hd : (∀ s, s ∈ x0 :: x1 :: rs → s.t ≠ r'.t) ∧ ∀ p, p ∈ bs → objType p.2 ≠ some r'.t) : Hex w0 bs (x0 :: x1 :: r' :: rs) ex W' := Hex.turn (pre := [x0, x1]) H hg h hB hd
theorem Hex.dropr2 {w0 W : World} {bs : List (Nat × Obj)} {rs : List RowF} {ex : RowF} {x0 x1 : RowF} {r : RowF} (H : Hex w0 bs (x0 :: x1 :: r :: rs) ex W) : Hex w0 bs (x0 :: x1 :: rs) ex W := H.sub (List.Sublist.refl _) (.cons_cons _ (.cons_cons _ (.cons _ (List.Sublist.refl _))))
theorem Hex.r3 {w0 W : World} {bs : List (Nat × Obj)} {rs : List RowF} {ex : RowF} {x0 x1 x2 : RowF} {r : RowF} (H : Hex w0 bs (x0 :: x1 :: x2 :: r :: rs) ex W) : r.on W := H.row r (.tail _ (.tail _ (.tail _ (.head _))))
theorem Hex.turn3 {w0 W W' : World} {bs : List (Nat × Obj)} {rs : List RowF} {ex : RowF} {x0 x1 x2 : RowF} {r r' : RowF} (H : Hex w0 bs (x0 :: x1 :: x2 :: r :: rs) ex W) (hg : W.grownBy W' r.v.ownBlock) (h : r'.on W') (hB : r'.B = r.B) (hd : (∀ s, s ∈ x0 :: x1 :: x2 :: rs → s.t ≠ r'.t) ∧ ∀ p, p ∈ bs → objType p.2 ≠ some r'.t) : Hex w0 bs (x0 :: x1 :: x2 :: r' :: rs) ex W' := Hex.turn (pre := [x0, x1, x2]) H hg h hB hd
theorem Hex.dropr3 {w0 W : World} {bs : List (Nat × Obj)} {rs : List RowF} {ex : RowF} {x0 x1 x2 : RowF} {r : RowF} (H : Hex w0 bs (x0 :: x1 :: x2 :: r :: rs) ex W) : Hex w0 bs (x0 :: x1 :: x2 :: rs) ex W := H.sub (List.Sublist.refl _) (.cons_cons _ (.cons_cons _ (.cons_cons _ (.cons _ (List.Sublist.refl _)))))
theorem Hex.r4 {w0 W : World} {bs : List (Nat × Obj)} {rs : List RowF} {ex : RowF} {x0 x1 x2 x3 : RowF} {r : RowF} (H : Hex w0 bs (x0 :: x1 :: x2 :: x3 :: r :: rs) ex W) : r.on W := H.row r (.tail _ (.tail _ (.tail _ (.tail _ (.head _)))))
theorem Hex.turn4 {w0 W W' : World} {bs : List (Nat × Obj)} {rs : List RowF} {ex : RowF} {x0 x1 x2 x3 : RowF} {r r' : RowF} (H : Hex w0 bs (x0 :: x1 :: x2 :: x3 :: r :: rs) ex W) (hg : W.grownBy W' r.v.ownBlock) (h : r'.on W') (hB : r'.B = r.B) (hd : (∀ s, s ∈ x0 :: x1 :: x2 :: x3 :: rs → s.t ≠ r'.t) ∧ ∀ p, p ∈ bs → objType p.2 ≠ some r'.t) : Hex w0 bs (x0 :: x1 :: x2 :: x3 :: r' :: rs) ex W' := Hex.turn (pre := [x0, x1, x2, x3]) H hg h hB hd
theorem Hex.dropr4 {w0 W : World} {bs : List (Nat × Obj)} {rs : List RowF} {ex : RowF} {x0 x1 x2 x3 : RowF} {r : RowF} (H : Hex w0 bs (x0 :: x1 :: x2 :: x3 :: r :: rs) ex W) : Hex w0 bs (x0 :: x1 :: x2 :: x3 :: rs) ex W := H.sub (List.Sublist.refl _) (.cons_cons _ (.cons_cons _ (.cons_cons _ (.cons_cons _ (.cons _ (List.Sublist.refl _))))))
theorem Hex.r5 {w0 W : World} {bs : List (Nat × Obj)} {rs : List RowF} {ex : RowF} {x0 x1 x2 x3 x4 : RowF} {r : RowF} (H : Hex w0 bs (x0 :: x1 :: x2 :: x3 :: x4 :: r :: rs) ex W) : r.on W := H.row r (.tail _ (.tail _ (.tail _ (.tail _ (.tail _ (.head _))))))
theorem Hex.turn5 {w0 W W' : World} {bs : List (Nat × Obj)} {rs : List RowF} {ex : RowF} {x0 x1 x2 x3 x4 : RowF} {r r' : RowF} (H : Hex w0 bs (x0 :: x1 :: x2 :: x3 :: x4 :: r :: rs) ex W) (hg : W.grownBy W' r.v.ownBlock) (h : r'.on W') (hB : r'.B = r.B) (hd : (∀ s, s ∈ x0 :: x1 :: x2 :: x3 :: x4 :: rs → s.t ≠ r'.t) ∧ ∀ p, p ∈ bs → objType p.2 ≠ some r'.t) : Hex w0 bs (x0 :: x1 :: x2 :: x3 :: x4 :: r' :: rs) ex W' := Hex.turn (pre := [x0, x1, x2, x3, x4]) H hg h hB hd
theorem Hex.dropr5 {w0 W : World} {bs : List (Nat × Obj)} {rs : List RowF} {ex : RowF} {x0 x1 x2 x3 x4 : RowF} {r : RowF} (H : Hex w0 bs (x0 :: x1 :: x2 :: x3 :: x4 :: r :: rs) ex W) : Hex w0 bs (x0 :: x1 :: x2 :: x3 :: x4 :: rs) ex W := H.sub (List.Sublist.refl _) (.cons_cons _ (.cons_cons _ (.cons_cons _ (.cons_cons _ (.cons_cons _ (.cons _ (List.Sublist.refl _)))))))
theorem Hex.r6 {w0 W : World} {bs : List (Nat × Obj)} {rs : List RowF} {ex : RowF} {x0 x1 x2 x3 x4 x5 : RowF} {r : RowF} (H : Hex w0 bs (x0 :: x1 :: x2 :: x3 :: x4 :: x5 :: r :: rs) ex W) : r.on W := H.row r (.tail _ (.tail _ (.tail _ (.tail _ (.tail _ (.tail _ (.head _)))))))
theorem Hex.turn6 {w0 W W' : World} {bs : List (Nat × Obj)} {rs : List RowF} {ex : RowF} {x0 x1 x2 x3 x4 x5 : RowF} {r r' : RowF} (H : Hex w0 bs (x0 :: x1 :: x2 :: x3 :: x4 :: x5 :: r :: rs) ex W) (hg : W.grownBy W' r.v.ownBlock) (h : r'.on W') (hB : r'.B = r.B) (hd : (∀ s, s ∈ x0 :: x1 :: x2 :: x3 :: x4 :: x5 :: rs → s.t ≠ r'.t) ∧ ∀ p, p ∈ bs → objType p.2 ≠ some r'.t) : Hex w0 bs (x0 :: x1 :: x2 :: x3 :: x4 :: x5 :: r' :: rs) ex W' := Hex.turn (pre := [x0, x1, x2, x3, x4, x5]) H hg h hB hd
theorem Hex.dropr6 {w0 W : World} {bs : List (Nat × Obj)} {rs : List RowF} {ex : RowF} {x0 x1 x2 x3 x4 x5 : RowF} {r : RowF} (H : Hex w0 bs (x0 :: x1 :: x2 :: x3 :: x4 :: x5 :: r :: rs) ex W) : Hex w0 bs (x0 :: x1 :: x2 :: x3 :: x4 :: x5 :: rs) ex W := H.sub (List.Sublist.refl _) (.cons_cons _ (.cons_cons _ (.cons_cons _ (.cons_cons _ (.cons_cons _ (.cons_cons _ (.cons _ (List.Sublist.refl _))))))))
end Go.Proofs.Ytgddobdpibnkeaa
/- The reader in the bundle: what a drawing function holds while it is walked. -/
namespace Go.Proofs.Ytgddobdpibnkeaa
open Go.RowKit

/-- The reader's block, as a row that came in. -/
def exR (B R : Nat) (a : Option Addr) (len cap p : Nat) : RowF := ⟨B, 128, 2, .slice (some ⟨R, 0, none⟩) 1 1, 1, [.slice a len cap, .int .i64 p]⟩
theorem exR_on {B R : Nat} {a : Option Addr} {len cap p : Nat} {W : World} (hB : B ≤ R) (h : W.heap[R]? = some (.cells #[.slice a len cap, .int .i64 p] 128)) : (exR B R a len cap p).on W :=
  ⟨rfl, .inr ⟨R, 1, #[.slice a len cap, .int .i64 p], rfl, hB, h, Nat.le_refl 1, by unfold maxLen; decide, rfl, rfl⟩⟩
theorem exR_block {B R : Nat} {a : Option Addr} {len cap p : Nat} {W : World} (h : (exR B R a len cap p).on W) : W.heap[R]? = some (.cells #[.slice a len cap, .int .i64 p] 128) := by
  obtain ⟨_, h2⟩ := h
  rcases h2 with ⟨e, _⟩ | ⟨g', c', cur, e, hb, hg, h1, h3, h4, h5⟩
  · cases e
  · injection e with e e1 e2
    injection e with e
    injection e with e
    subst e e2
    simp only [exR] at hg h4 h5
    rw [hg]
    have hl : cur.toList.length = 2 := by simpa using h4
    rw [List.take_of_length_le (by omega)] at h5
    have : cur = #[.slice a len cap, .int .i64 p] := by
      rw [← Array.toList_inj, h5]
    rw [this]

/-- The bundle with a reader. -/
def RdX (B R : Nat) (w0 : World) (bs : List (Nat × Obj)) (rs : List RowF) (W : World) : Prop :=
  ∃ (a : Option Addr) (len cap p : Nat), (p ≤ len ∧ len ≤ maxLen ∧ B ≤ R ∧ R < w0.heap.size ∧ ∀ i, i < len → ∃ b off x, a = some ⟨b, off, none⟩ ∧ b < B ∧ w0.cell? ⟨b, off + i, none⟩ = some (.int .u8 x) ∧ 0 ≤ x ∧ x ≤ 255) ∧ Hex w0 bs rs (exR B R a len cap p) W
theorem RdX.start {B R : Nat} {w : World} (h : Q.Rd B R w) : RdX B R w [] [] w := by
  have hlt := h.lt
  obtain ⟨a, len, cap, p, h1, h2, h3, h4, h5⟩ := h
  exact ⟨a, len, cap, p, ⟨h1, h2, h3, hlt, h5⟩, Hex.start w (exR_on h3 h4)⟩
theorem RdX.map {B R : Nat} {w0 W W' : World} {bs bs' : List (Nat × Obj)} {rs rs' : List RowF} (h : RdX B R w0 bs rs W) (f : ∀ ex : RowF, Hex w0 bs rs ex W → Hex w0 bs' rs' ex W') : RdX B R w0 bs' rs' W' := by
  obtain ⟨a, len, cap, p, h1, H⟩ := h
  exact ⟨a, len, cap, p, h1, f _ H⟩
theorem RdX.at {B R : Nat} {w0 W : World} {bs : List (Nat × Obj)} {rs : List RowF} (h : RdX B R w0 bs rs W) {P : Prop} (f : ∀ ex : RowF, Hex w0 bs rs ex W → P) : P := by
  obtain ⟨a, len, cap, p, h1, H⟩ := h
  exact f _ H
theorem RdX.grown {B R : Nat} {w0 W : World} {bs : List (Nat × Obj)} {rs : List RowF} (h : RdX B R w0 bs rs W) : w0.grownBy W (some R) := by
  obtain ⟨a, len, cap, p, h1, H⟩ := h
  exact H.bel
theorem RdX.rd {B R : Nat} {w0 W : World} {bs : List (Nat × Obj)} {rs : List RowF} (h : RdX B R w0 bs rs W) : Q.Rd B R W := by
  have hg := h.grown
  obtain ⟨a, len, cap, p, ⟨h1, h2, h3, h4, h5⟩, H⟩ := h
  refine ⟨a, len, cap, p, h1, h2, h3, exR_block H.exOn, fun i hi => ?_⟩
  obtain ⟨b, off, x, e, hb, hc, hx⟩ := h5 i hi
  exact ⟨b, off, x, e, hb, hg.cell hc (fun e => by injection e with e; dsimp only at e; omega), hx⟩
/-- The reader read on. -/
theorem RdX.read {B R : Nat} {w0 W W' : World} {bs : List (Nat × Obj)} {rs : List RowF} (h : RdX B R w0 bs rs W) (hr : Q.Rd B R W') (hg : W.grownBy W' (some R)) : RdX B R w0 bs rs W' := by
  have hG := h.grown
  obtain ⟨a, len, cap, p, ⟨h1, h2, h3, h4, h5⟩, H⟩ := h
  obtain ⟨a', len', cap', p', q1, q2, q3, q4, q5⟩ := hr
  have hM : Hex w0 bs rs (exR B R a' len' cap' p') W' := H.mut (ex' := exR B R a' len' cap' p') hg (exR_on q3 q4) rfl
  refine ⟨a', len', cap', p', ⟨q1, q2, q3, h4, fun i hi => ?_⟩, hM⟩
  obtain ⟨b, off, x, e, hb, hc, hx⟩ := q5 i hi
  refine ⟨b, off, x, e, hb, ?_, hx⟩
  have hbl := (hG.trans hg).block b (by omega) (fun e => by injection e with e; omega)
  rw [← hc]
  exact (World.cell?_of_block (a := ⟨b, off + i, none⟩) hbl).symm
theorem RdX.since {B R : Nat} {w0 W W' : World} {bs : List (Nat × Obj)} {rs : List RowF} (h : RdX B R w0 bs rs W) (hb : Below W.heap.size W W') : RdX B R w0 bs rs W' := h.map fun _ H => H.since hb
theorem RdX.alloc {B R : Nat} {w0 W : World} {bs : List (Nat × Obj)} {rs : List RowF} (h : RdX B R w0 bs rs W) (o : Obj) : RdX B R w0 ((W.heap.size, o) :: bs) rs (W.alloc o) := h.map fun _ H => H.alloc o
theorem RdX.drew {B R : Nat} {w0 W : World} {bs : List (Nat × Obj)} {rs : List RowF} (h : RdX B R w0 bs rs W) : RdX B R w0 bs rs W.drew := h.map fun _ H => H.drew
theorem RdX.size {B R : Nat} {w0 W : World} {bs : List (Nat × Obj)} {rs : List RowF} (h : RdX B R w0 bs rs W) : w0.heap.size ≤ W.heap.size := h.grown.size
theorem RdX.b0 {B R : Nat} {w0 W : World} {bs : List (Nat × Obj)} {rs : List RowF} {p : Nat} {o : Obj} (h : RdX B R w0 ((p, o) :: bs) rs W) : W.heap[p]? = some o := h.at fun _ H => H.b0
theorem RdX.b1 {B R : Nat} {w0 W : World} {bs : List (Nat × Obj)} {rs : List RowF} {x0 : Nat × Obj} {p : Nat} {o : Obj} (h : RdX B R w0 (x0 :: (p, o) :: bs) rs W) : W.heap[p]? = some o := h.at fun _ H => H.b1
theorem RdX.b2 {B R : Nat} {w0 W : World} {bs : List (Nat × Obj)} {rs : List RowF} {x0 x1 : Nat × Obj} {p : Nat} {o : Obj} (h : RdX B R w0 (x0 :: x1 :: (p, o) :: bs) rs W) : W.heap[p]? = some o := h.at fun _ H => H.b2
theorem RdX.r0 {B R : Nat} {w0 W : World} {bs : List (Nat × Obj)} {rs : List RowF} {r : RowF} (h : RdX B R w0 bs (r :: rs) W) : r.on W := h.at fun _ H => H.row r (.head _)
theorem RdX.r1 {B R : Nat} {w0 W : World} {bs : List (Nat × Obj)} {rs : List RowF} {s r : RowF} (h : RdX B R w0 bs (s :: r :: rs) W) : r.on W := h.at fun _ H => H.row r (.tail _ (.head _))
end Go.Proofs.Ytgddobdpibnkeaa
/- When seats and versions are right, as facts on lists; raised versions, seats less one and seats more one are right again. -/
namespace Go.Proofs.Ytgddobdpibnkeaa
open Go.RowKit

structure SeatsR (ss : List (Int × Int)) : Prop where
  len : ss.length ≤ 8
  rng : ∀ s ∈ ss, (1 ≤ s.1 ∧ s.1 ≤ 20) ∧ (8 ≤ s.2 ∧ s.2 ≤ 15)
  up : ss.Pairwise fun a b => a.1 < b.1
  far : ss.Pairwise fun a b => a.2 ≠ b.2

theorem takenB_iff (ss : List (Int × Int)) (m : Nat) (l : Int) : takenB ss m l = true ↔ ∃ k, k < m ∧ (kAt ss k).2 = l := by
  simp [takenB, List.any_eq_true]

theorem up_of_steps {ss : List (Int × Int)} (h : ∀ i, i + 1 < ss.length → (kAt ss i).1 < (kAt ss (i + 1)).1) : ∀ d i, i + d + 1 < ss.length → (kAt ss i).1 < (kAt ss (i + d + 1)).1 := by
  intro d
  induction d with
  | zero => intro i hi; exact h i hi
  | succ d ih =>
    intro i hi
    have h1 := ih i (by omega)
    have h2 := h (i + d + 1) (by omega)
    have e : i + (d + 1) + 1 = i + d + 1 + 1 := by omega
    rw [e]
    omega

theorem seatsB_right {ss : List (Int × Int)} : seatsB ss = true ↔ SeatsR ss := by
  constructor
  · intro h
    simp only [seatsB, Bool.and_eq_true, decide_eq_true_eq, seatsTo, List.all_eq_true, List.mem_range] at h
    obtain ⟨hl, h⟩ := h
    have hs : ∀ i, i < ss.length → ((1 ≤ (kAt ss i).1 ∧ (kAt ss i).1 ≤ 20) ∧ (8 ≤ (kAt ss i).2 ∧ (kAt ss i).2 ≤ 15)) ∧ (i = 0 ∨ (kAt ss (i - 1)).1 < (kAt ss i).1) ∧ takenB ss i (kAt ss i).2 = false := by
      intro i hi
      have := h i hi
      simp only [seatAt, Bool.and_eq_true, decide_eq_true_eq, Bool.or_eq_true, Bool.not_eq_true'] at this
      exact ⟨⟨this.1, this.2.1⟩, this.2.2.1, this.2.2.2⟩
    refine ⟨hl, ?_, ?_, ?_⟩
    · intro s hm
      obtain ⟨i, hi, rfl⟩ := List.getElem_of_mem hm
      have := (hs i hi).1
      rwa [kAt_get ss i hi] at this
    · rw [List.pairwise_iff_getElem]
      intro i j hi hj hij
      have := up_of_steps (ss := ss) (fun i hi => by
        rcases (hs (i + 1) hi).2.1 with e | e
        · omega
        · simpa using e) (j - i - 1) i (by omega)
      have e : i + (j - i - 1) + 1 = j := by omega
      rw [e, kAt_get ss i hi, kAt_get ss j hj] at this
      exact this
    · rw [List.pairwise_iff_getElem]
      intro i j hi hj hij e
      have h1 := (hs j hj).2.2
      have h2 : takenB ss j (kAt ss j).2 = true := (takenB_iff ss j _).2 ⟨i, hij, by rw [kAt_get ss i hi, kAt_get ss j hj]; exact e⟩
      rw [h1] at h2
      exact absurd h2 (by simp)
  · rintro ⟨hl, hr, hu, hf⟩
    rw [List.pairwise_iff_getElem] at hu hf
    simp only [seatsB, Bool.and_eq_true, decide_eq_true_eq, seatsTo, List.all_eq_true, List.mem_range]
    refine ⟨hl, fun i hi => ?_⟩
    simp only [seatAt, Bool.and_eq_true, decide_eq_true_eq, Bool.or_eq_true, Bool.not_eq_true']
    have h1 := hr _ (List.getElem_mem hi)
    rw [← kAt_get ss i hi] at h1
    refine ⟨h1.1, h1.2, ?_, ?_⟩
    · by_cases h0 : i = 0
      · exact .inl h0
      · refine .inr ?_
        rw [kAt_get ss i hi, kAt_get ss (i - 1) (by omega)]
        exact hu (i - 1) i (by omega) hi (by omega)
    · rw [Bool.eq_false_iff]
      intro h
      obtain ⟨k, hk, e⟩ := (takenB_iff ss i _).1 h
      rw [kAt_get ss i hi, kAt_get ss k (by omega)] at e
      exact hf k i (by omega) hi hk e

theorem few_of_range (a : Int) : ∀ (n : Nat) (l : List Int), l.Nodup → (∀ x ∈ l, a ≤ x ∧ x < a + n) → l.length ≤ n := by
  intro n
  induction n with
  | zero =>
    intro l _ h
    cases l with
    | nil => simp
    | cons x t => have := h x (by simp); simp at this; omega
  | succ n ih =>
    intro l hn h
    have h1 := ih (l.erase (a + n)) (hn.erase _) (fun x hx => by
      have hx' := hn.mem_erase_iff.1 hx
      have := h x hx'.2
      have hne := hx'.1
      simp only [Int.natCast_add, Int.cast_ofNat_Int] at this
      omega)
    have h2 : l.length ≤ (l.erase (a + n)).length + 1 := by
      rw [List.length_erase]
      split <;> omega
    omega

/-- Seats, less the seat of a member. -/
theorem SeatsR.less {ss : List (Int × Int)} (h : SeatsR ss) (p : Int × Int → Bool) : SeatsR (ss.filter p) :=
  ⟨Nat.le_trans (List.length_filter_le _ _) h.len, fun s hs => h.rng s (List.mem_filter.1 hs).1, h.up.filter _, h.far.filter _⟩

/-- Seats, and a seat more ahead of the first whose member is greater. -/
def seatIn (m l : Int) : List (Int × Int) → List (Int × Int)
  | [] => [(m, l)]
  | s :: t => if m < s.1 then (m, l) :: s :: t else s :: seatIn m l t

theorem mem_seatIn {m l : Int} {ss : List (Int × Int)} {s : Int × Int} : s ∈ seatIn m l ss ↔ s = (m, l) ∨ s ∈ ss := by
  induction ss with
  | nil => simp [seatIn]
  | cons a t ih =>
    simp only [seatIn]
    split
    · simp
    · simp only [List.mem_cons, ih]
      constructor
      · rintro (h | h | h)
        · exact .inr (.inl h)
        · exact .inl h
        · exact .inr (.inr h)
      · rintro (h | h | h)
        · exact .inr (.inl h)
        · exact .inl h
        · exact .inr (.inr h)
theorem seatIn_len (m l : Int) (ss : List (Int × Int)) : (seatIn m l ss).length = ss.length + 1 := by
  induction ss with
  | nil => rfl
  | cons a t ih => simp only [seatIn]; split <;> simp [ih]

theorem seatIn_up {m l : Int} {ss : List (Int × Int)} (h : ss.Pairwise fun a b => a.1 < b.1) (hm : ∀ s ∈ ss, s.1 ≠ m) : (seatIn m l ss).Pairwise fun a b => a.1 < b.1 := by
  induction ss with
  | nil => simp [seatIn]
  | cons a t ih =>
    have hp := List.pairwise_cons.1 h
    simp only [seatIn]
    split
    case isTrue hlt =>
      refine List.pairwise_cons.2 ⟨?_, h⟩
      intro b hb
      rcases List.mem_cons.1 hb with rfl | hb
      · exact hlt
      · have h1 := hp.1 b hb
        simp only
        omega
    case isFalse hlt =>
      refine List.pairwise_cons.2 ⟨?_, ih hp.2 (fun s hs => hm s (List.mem_cons_of_mem _ hs))⟩
      intro b hb
      have ha := hm a (by simp)
      rcases mem_seatIn.1 hb with rfl | hb
      · simp only
        omega
      · exact hp.1 b hb

theorem seatIn_far {m l : Int} {ss : List (Int × Int)} (h : ss.Pairwise fun a b => a.2 ≠ b.2) (hm : ∀ s ∈ ss, s.2 ≠ l) : (seatIn m l ss).Pairwise fun a b => a.2 ≠ b.2 := by
  induction ss with
  | nil => simp [seatIn]
  | cons a t ih =>
    have hp := List.pairwise_cons.1 h
    simp only [seatIn]
    split
    · refine List.pairwise_cons.2 ⟨?_, h⟩
      intro b hb
      exact fun e => hm b hb e.symm
    · refine List.pairwise_cons.2 ⟨?_, ih hp.2 (fun s hs => hm s (List.mem_cons_of_mem _ hs))⟩
      intro b hb
      rcases mem_seatIn.1 hb with rfl | hb
      · exact hm a (by simp)
      · exact hp.1 b hb

theorem SeatsR.more {ss : List (Int × Int)} (h : SeatsR ss) {m l : Int} (hm : 1 ≤ m ∧ m ≤ 20) (hl : 8 ≤ l ∧ l ≤ 15) (h1 : ∀ s ∈ ss, s.1 ≠ m) (h2 : ∀ s ∈ ss, s.2 ≠ l) : SeatsR (seatIn m l ss) := by
  have hf := seatIn_far (m := m) h.far h2
  have hr : ∀ s ∈ seatIn m l ss, (1 ≤ s.1 ∧ s.1 ≤ 20) ∧ (8 ≤ s.2 ∧ s.2 ≤ 15) := by
    intro s hs
    rcases mem_seatIn.1 hs with rfl | hs
    · exact ⟨hm, hl⟩
    · exact h.rng s hs
  refine ⟨?_, hr, seatIn_up h.up h1, hf⟩
  have := few_of_range 8 8 ((seatIn m l ss).map Prod.snd) (by
    unfold List.Nodup
    exact List.pairwise_map.2 hf) (by
    intro x hx
    obtain ⟨s, hs, rfl⟩ := List.mem_map.1 hx
    have := (hr s hs).2
    omega)
  simpa using this

/-- Versions, each of the nodes' raised by one, from the first node on. -/
def raiseL (vs : List Int) (ns : List Nat) : List Int := ns.foldl (fun vs j => vs.set j (wrap64 (vAt vs j + 1))) vs
theorem raiseL_cons (vs : List Int) (j : Nat) (ns : List Nat) : raiseL vs (j :: ns) = raiseL (vs.set j (wrap64 (vAt vs j + 1))) ns := rfl
theorem raiseL_snoc (vs : List Int) (j : Nat) (ns : List Nat) : raiseL vs (ns ++ [j]) = (raiseL vs ns).set j (wrap64 (vAt (raiseL vs ns) j + 1)) := by simp [raiseL, List.foldl_append]
theorem raiseL_len (vs : List Int) (ns : List Nat) : (raiseL vs ns).length = vs.length := by
  induction ns generalizing vs with
  | nil => rfl
  | cons j ns ih => rw [raiseL_cons, ih]; simp
theorem vAt_set (vs : List Int) (i j : Nat) (z : Int) (hj : j < vs.length) : vAt (vs.set j z) i = if i = j then z else vAt vs i := by
  by_cases h : i = j
  · subst h
    simp [vAt, hj]
  · have h' : j ≠ i := fun e => h e.symm
    simp [vAt, h, h']

theorem raiseL_at {vs : List Int} {ns : List Nat} (hd : ns.Nodup) (hj : ∀ j ∈ ns, j < vs.length) (hv : ∀ j ∈ ns, 0 ≤ vAt vs j ∧ vAt vs j ≤ 1000000000) (i : Nat) :
    vAt (raiseL vs ns) i = if i ∈ ns then vAt vs i + 1 else vAt vs i := by
  induction ns generalizing vs with
  | nil => simp [raiseL]
  | cons j ns ih =>
    have hp := List.nodup_cons.1 hd
    have hj0 := hj j (by simp)
    have hv0 := hv j (by simp)
    have hw : wrap64 (vAt vs j + 1) = vAt vs j + 1 := by
      unfold wrap64; omega
    rw [raiseL_cons, hw, ih hp.2 (fun k hk => by simpa using hj k (List.mem_cons_of_mem _ hk)) (fun k hk => by
      rw [vAt_set vs k j _ hj0]
      have hne : k ≠ j := fun e => hp.1 (e ▸ hk)
      rw [if_neg hne]
      exact hv k (List.mem_cons_of_mem _ hk)), vAt_set vs i j _ hj0]
    by_cases h : i = j
    · subst h
      simp [hp.1]
    · simp [h]

theorem versB_iff {vs : List Int} : versB vs = true ↔ vs.length = 15 ∧ ∀ i, i < 15 → 1 ≤ vAt vs i ∧ vAt vs i ≤ 1000000000 := by
  simp only [versB, Bool.and_eq_true, decide_eq_true_eq, versTo, List.all_eq_true, List.mem_range, verAt]
  constructor
  · rintro ⟨h, h'⟩
    exact ⟨h, fun i hi => h' i (by omega)⟩
  · rintro ⟨h, h'⟩
    exact ⟨h, fun i hi => h' i (by omega)⟩

theorem versB_raise {vs : List Int} (h : versB vs = true) (hroom : ∀ i, i < 15 → vAt vs i ≠ 1000000000) {ns : List Nat} (hd : ns.Nodup) (hj : ∀ j ∈ ns, j < 15) : versB (raiseL vs ns) = true := by
  obtain ⟨hl, hv⟩ := versB_iff.1 h
  refine versB_iff.2 ⟨by rw [raiseL_len, hl], fun i hi => ?_⟩
  rw [raiseL_at hd (fun j hm => by rw [hl]; exact hj j hm) (fun j hm => by have := hv j (hj j hm); omega)]
  have h1 := hv i hi
  have h2 := hroom i hi
  split <;> omega

end Go.Proofs.Ytgddobdpibnkeaa
/- l3Leave of the model: its first loop and its end. -/
namespace Go.Proofs.Ytgddobdpibnkeaa
open Go.RowKit

theorem ne_is {B C : Nat} {v u : Value} {ws : List Int} {xs : List (Int × Int)} {W : World} (h : Ints B v ws W) (h' : Seats C u xs W) : ∀ k, v.ownBlock = some k → u.ownBlock ≠ some k := rows_ne (r := fI B v ws) (s := fS C u xs) h h' (show (2 : TypeId) ≠ 88 by decide)
theorem seatCell2 (W : World) (n v : Int) (S : Nat) (hS : W.heap.size = S) : ∀ j u, [Value.int .i64 n, Value.int .i64 v][j]? = some u → (W.alloc (.cells #[.int .i64 n, .int .i64 v] 88)).cell? ((⟨S, 0, none⟩ : Addr).add j) = some u := by
  subst hS
  intro j u h
  match j with
  | 0 => simp at h; subst h; simp [Addr.add]
  | 1 => simp at h; subst h; simp [Addr.add]
  | j + 2 => simp at h
theorem seatRow2 {W : World} {B n : Nat} {v : Value} {ys : List Value} {xs : List (Int × Int)} (h : W.ownsRow B 88 2 v n ys) (e : ys = kcells xs) (hn : xs.length = n) : ∃ a c, v = .slice a n c ∧ Seats B (.slice a n c) xs W := by
  subst e hn
  have hK : Seats B v xs W := h
  obtain ⟨a, c, hv, _, _⟩ := hK.row
  subst hv
  exact ⟨a, c, rfl, hK⟩
theorem pathF_ok : ∀ f m, ∀ z ∈ pathF f m, 1 ≤ z ∧ z ≤ (m : Int) := by
  intro f
  induction f with
  | zero => intro m z hz; simp [pathF] at hz
  | succ f ih =>
    intro m z hz
    unfold pathF at hz
    split at hz
    · simp at hz
    · rcases List.mem_cons.1 hz with rfl | hz
      · omega
      · have := ih _ z hz
        omega
theorem path_in (l : Int) : ∀ i (hi : i < (path l).length), 1 ≤ (path l)[i] ∧ (path l)[i] ≤ 15 := by
  intro i hi
  have hm := List.getElem_mem hi
  generalize (path l)[i] = z at hm
  unfold path at hm
  split at hm
  · have := pathF_ok _ _ z hm
    omega
  · simp at hm
/-- The loop that fills a list of seats: the world behind a round that appends. -/
theorem Hex.seat {w0 W W' : World} {b0 b1 : Nat × Obj} {ex : RowF} {B : Nat} {v v' : Value} {ls : List (Int × Int)} {x1 x2 : Int} {o : Obj} (H : Hex w0 [b0, b1] [fS B v ls] ex W) (ht0 : objType b0.2 ≠ some 88) (ht1 : objType b1.2 ≠ some 88) (hg : (W.alloc o).grownBy W' v.ownBlock) (h : Seats B v' (ls ++ [(x1, x2)]) W') : Hex w0 [b0, b1] [fS B v' (ls ++ [(x1, x2)])] ex W' :=
  (H.since (one_below W o)).turn0 hg h rfl ⟨(fun s hs => nomatch hs), fun p hp => by
    simp only [List.mem_cons, List.not_mem_nil, or_false] at hp
    rcases hp with rfl | rfl
    · exact ht0
    · exact ht1⟩

/-- What the second loop holds: the versions are fifteen. -/
def LvR (w : World) (bs : List (Nat × Obj)) (rs : List RowF) (B : Nat) (x : Value) (W : World) : Prop := ∃ vs', vs'.length = 15 ∧ Hex w bs rs (fI B x vs') W
/-- The same, with the versions named. -/
def LvV (w : World) (bs : List (Nat × Obj)) (rs : List RowF) (B : Nat) (x : Value) (V : List Int) (W : World) : Prop := V.length = 15 ∧ Hex w bs rs (fI B x V) W
theorem LvV.weak {w : World} {bs : List (Nat × Obj)} {rs : List RowF} {B : Nat} {x : Value} {V : List Int} {W : World} (h : LvV w bs rs B x V W) : LvR w bs rs B x W := ⟨V, h.1, h.2⟩
def idx (l : List Int) : List Nat := l.map fun z => (z - 1).toNat
theorem raise_step (vs ps : List Int) (k nd : Nat) (hk : k < ps.length) (h : ps[k] = (nd : Int) + 1) : raiseL vs (idx (ps.take (k + 1))) = (raiseL vs (idx (ps.take k))).set nd (wrap64 (vAt (raiseL vs (idx (ps.take k))) nd + 1)) := by
  have e : idx (ps.take (k + 1)) = idx (ps.take k) ++ [nd] := by
    rw [List.take_add_one, List.getElem?_eq_getElem hk, h]
    simp [idx]
  rw [e, raiseL_snoc]
theorem litWs (W : World) (p : Addr) (v : Value) : ((W.setCell p v).alloc (.cells #[] 180)).ownsRow W.heap.size 180 4 (.slice (some ⟨W.heap.size, 0, none⟩) 0 0) 0 [] := by
  have := World.ownsRow_lit (base := W.heap.size) (size := 4) (e := 180) (W.setCell p v) #[] 0 (by simp [World.setCell]) (by decide) rfl
  simpa [World.setCell] using this
/-- The cells that the second loop reads. -/
theorem LvR.cells {w W : World} {b0 : Nat × Obj} {s B D k nd : Nat} {ep : Int} {x y pv : Value} {ps : List Int} {rs : List RowF} (h : LvR w [b0, (s, svb ep x y)] (fI D pv ps :: rs) B x W) (gp cp : Nat) (hpv : pv = .slice (some ⟨gp, 0, none⟩) ps.length cp) (hk : k < ps.length) (hnd : ps[k] = (nd : Int) + 1) :
    W.cell? ⟨s, 0, none⟩ = some (.int .i64 ep) ∧ W.cell? ⟨s, 1, none⟩ = some x ∧ W.cell? ⟨s, 2, none⟩ = some y ∧ W.cell? ⟨gp, k, none⟩ = some (.int .i64 ((nd : Int) + 1)) ∧ LvR w [b0, (s, svb ep x y)] (fI D pv ps :: rs) B x W := by
  obtain ⟨vs', hv', H⟩ := h
  obtain ⟨⟨p0, p1, p2⟩, _, _, _⟩ := box3 H.b1
  refine ⟨p0, p1, p2, ?_, vs', hv', H⟩
  have hI : Ints D pv ps W := H.r0
  rcases hI.form with ⟨e, e'⟩ | ⟨g', cap', e, _, _, _, _, h3⟩
  · rw [e'] at hk; simp at hk
  · rw [hpv] at e
    injection e with e
    injection e with e
    injection e with e
    subst e
    rw [← hnd]
    exact (h3 k hk).1

theorem fourOf {a b c d e : Prop} (h : a ∧ b ∧ c ∧ d ∧ e) : a ∧ b ∧ c ∧ d := ⟨h.1, h.2.1, h.2.2.1, h.2.2.2.1⟩
theorem wrapAlone {D E F : Nat} {u v y : Value} {ps : List Int} {ws : List W4} {ls : List (Int × Int)} {s t : Nat} {e1 e2 : Int} {x1 y1 x2 y2 : Value} :
    (∀ r, r ∈ [fI D u ps, fS F y ls] → r.t ≠ (fW E v ws).t) ∧ ∀ p, p ∈ [(s, svb e1 x1 y1), (t, svb e2 x2 y2)] → objType p.2 ≠ some (fW E v ws).t := by
  refine ⟨fun r hr => ?_, fun p hp => ?_⟩
  · simp only [List.mem_cons, List.not_mem_nil, or_false] at hr
    rcases hr with rfl | rfl <;> simp
  · simp only [List.mem_cons, List.not_mem_nil, or_false] at hp
    rcases hp with rfl | rfl <;> simp [objType]

set_option maxRecDepth 100000 in
set_option maxHeartbeats 4000000 in
theorem l3Leave_eq {B C : Nat} {x y : Value} {vs : List Int} {ss : List (Int × Int)} {w : World} (ep mem : Int) (hl : vs.length = 15) (hx : Ints B x vs w) (hy : Seats C y ss w) (hs : ss.length ≤ 100) :
    Calls Try.prog 154 #[svv ep x y, .int .i64 mem] w fun e w' => ∃ y' v' ws', e = .returned (.tuple #[svv ep x y', v']) ∧ Ints B x (raiseL vs (idx (path (leafV ss mem)))) w' ∧ Seats w.heap.size y' (ss.filter fun s => decide (s.1 ≠ mem)) w' ∧ Wraps w.heap.size v' ws' w' ∧ ws'.length ≤ 8 ∧ w.grownBy w' x.ownBlock := by
  obtain ⟨iS, hiS, hS0, hS1, hS2⟩ := info_parts infoS2
  obtain ⟨ax, cx, hvx, _, _⟩ := hx.row
  obtain ⟨ay, cy, hvy, hmy, _⟩ := hy.row
  subst hvx hvy
  unfold maxLen at hmy
  rw [hl] at hx ⊢
  have HY : Hid (∀ W, w.grownBy W (Value.slice ax 15 cx).ownBlock → Seats C (.slice ay ss.length cy) ss W) := fun W hg => hy.kept hg (ne_is hx hy)
  have H1 := ((Hex.start w (ex := fI B (.slice ax 15 cx) vs) (show (fI B (.slice ax 15 cx) vs).on w from hx)).alloc (svb ep (.slice ax 15 cx) (.slice ay ss.length cy))).alloc (svb 0 (.slice none 0 0) (.slice none 0 0))
  simp only [World.size_alloc] at H1
  have HH1 := hidS H1
  obtain ⟨⟨p0, p1, p2⟩, _, _, _⟩ := box3 H1.b1
  have hn0 : ss.length ≤ 100 := hs
  clear hx hy H1 hs
  generalize hn : ss.length = n at *
  have HN := hidS hn
  clear hn
  go_enter Try.func154, Try.ntmps154
  go_wp2_with fail
  generalize (w.alloc (svb ep (.slice ax 15 cx) (.slice ay n cy))).alloc (svb 0 (.slice none 0 0) (.slice none 0 0)) = w1 at *
  refine (l3Leaf_any ep mem (HY.out _ HH1.out.bel)).mono ?_
  rintro e w2 ⟨rfl, b2⟩
  generalize hlf : leafV ss mem = lf
  have HLF := hidS hlf
  clear hlf
  have HH3 := hidS ((HH1.out.since b2).add (one_below w2 (.cells #[] 88)) (r := fS w2.heap.size (.slice (some ⟨w2.heap.size, 0, none⟩) 0 0) []) (litS w2 (Nat.le_refl _)) (Nat.le_refl _))
  have p0 := cell_since p0 b2
  have p1 := cell_since p1 b2
  have p2 := cell_since p2 b2
  have hs2 : w.heap.size ≤ w2.heap.size := Nat.le_trans HH1.out.bel.size b2.size
  clear b2 HH1
  have hs3 : w2.heap.size ≤ (w2.alloc (.cells #[] 88)).heap.size := by simp
  go_wp2
  generalize w2.alloc (.cells #[] 88) = w3 at *
  clear p0 p1 p2
  go_loopw [7, 8] (fun lv i wr => ∃ (k m : Nat) (a : Option Addr) (c : Nat) (ls : List (Int × Int)), lv = .slice a m c ∧ i = .int .i64 (k : Int) ∧ k ≤ n ∧ m ≤ k ∧ w2.heap.size ≤ wr.heap.size ∧ Hid (ls.length = m) ∧ Hid (ls = (ss.take k).filter fun s => decide (s.1 ≠ mem)) ∧ Hid (Hex w [(w.heap.size + 1, svb 0 (.slice none 0 0) (.slice none 0 0)), (w.heap.size, svb ep (.slice ax 15 cx) (.slice ay n cy))] [fS w2.heap.size (.slice a m c) ls] (fI B (.slice ax 15 cx) vs) wr)) (fun _ i _ => n - (intOf i).toNat)
  case atStart => exact ⟨0, 0, _, _, [], rfl, rfl, by omega, Nat.le_refl _, hs3, rfl, (by show _ = _; simp), HH3⟩
  case round =>
    obtain ⟨k, m, a, c, ls, rfl, rfl, hk, hmk, hsw, HM, HFl, HH⟩ := hrel
    obtain ⟨⟨p0, p1, p2⟩, fr0, fr1, fr2⟩ := box3 HH.out.b1
    by_cases hlt : k < n
    · obtain ⟨g, ha, hg, hseg⟩ : ∃ g, ay = some ⟨g, 0, none⟩ ∧ g < wr.heap.size ∧ KSeg g 0 ss wr := by
        obtain ⟨a', c', hv', _, hrow⟩ := (HY.out _ HH.out.bel).row
        injection hv' with e1 e2 e3
        subst e1
        rcases hrow with e | e
        · have := HN.out; rw [e] at this; simp at this; omega
        · exact e
      subst ha
      have hlk : k < ss.length := by have := HN.out; omega
      obtain ⟨a1, a2⟩ := hseg k hlk
      simp only [Nat.zero_add] at a1 a2
      have HG := hidS (show ss.take (k + 1) = ss.take k ++ [ss[k]] by rw [List.take_add_one, List.getElem?_eq_getElem hlk]; rfl)
      generalize ss[k] = sk at *
      obtain ⟨x1, x2⟩ := sk
      dsimp only at a1 a2
      clear hseg
      by_cases hz : x1 = mem
      · have hz' : (x1 == mem) = true := by simpa using hz
        go_wp2
        go_roundw
        case rel => exact ⟨k + 1, m, a, c, ls, rfl, by go_num, by omega, by omega, hsw, HM, (by show _ = _; rw [HG.out, List.filter_append, ← HFl.out]; simp [hz]), HH⟩
        case measure => simp [intOf] <;> omega
      · have hz' : (x1 == mem) = false := by simpa using hz
        have HR0 := hidS (show Seats w2.heap.size (.slice a m c) ls wr from HH.out.r0)
        have HOwn : Hid ((wr.alloc (.cells #[.int .i64 x1, .int .i64 x2] 88)).ownsRow w2.heap.size 88 2 (.slice a m c) m (kcells ls)) := by
          have := World.ownsRow.alloc HR0.out (.cells #[.int .i64 x1, .int .i64 x2] 88)
          rwa [HM.out] at this
        go_wp2_with (at_builtin; refine wpList_append_own _ rfl _ _ 25 rfl w2.heap.size 88 iS (.agg #[.int .i64 0, .int .i64 0]) 2 16 Try.underlying25 hiS hS0 hS1 hS2 rfl (by decide) _ _ _ rfl HOwn.out ⟨wr.heap.size, 0, none⟩ 1 1 [.int .i64 x1, .int .i64 x2] rfl rfl (seatCell2 _ _ _ _ rfl) (by simp [Value.oneCell']) (by unfold maxLen; omega) (by omega) (by simp <;> omega) ?_; intro v' w8 hown' hgrow _; obtain ⟨a8, c8, hv', hI'⟩ := seatRow2 (xs := ls ++ [(x1, x2)]) hown' (by rw [kcells_append]; rfl) (by simp [HM.out]); subst hv'; have HH8 := hidS (HH.out.seat (fun e => by simp [objType] at e) (fun e => by simp [objType] at e) hgrow hI'); have hs8 : w2.heap.size ≤ w8.heap.size := Nat.le_trans hsw (Nat.le_trans (by simp) hgrow.size); clear hown' hI' hgrow)
        go_roundw
        case rel => exact ⟨k + 1, m + 1, a8, c8, ls ++ [(x1, x2)], by go_num, by go_num, by omega, by omega, hs8, (by show _ = _; simp [HM.out]), (by show _ = _; rw [HG.out, List.filter_append, ← HFl.out]; simp [hz]), HH8⟩
        case measure => simp [intOf] <;> omega
    · rename World => wo
      have HFl2 := hidS (show ls = ss.filter (fun s => decide (s.1 ≠ mem)) by have h1 := HFl.out; rwa [List.take_of_length_le (by have := HN.out; omega)] at h1)
      clear HFl
      have HH5 := hidS ((HH.out.s312 (.slice a m c)).add (one_below _ (.cells #[] 180)) (r := fW wo.heap.size (.slice (some ⟨wo.heap.size, 0, none⟩) 0 0) []) (litWs wo _ _) (by simp [World.setCell]))
      have hso : w.heap.size ≤ wo.heap.size := Nat.le_trans hs2 hsw
      have hs5 : wo.heap.size ≤ ((wo.setCell ⟨w.heap.size, 2, none⟩ (.slice a m c)).alloc (.cells #[] 180)).heap.size := by simp [World.setCell]
      go_wp2_with fail
      generalize (wo.setCell ⟨w.heap.size, 2, none⟩ (.slice a m c)).alloc (.cells #[] 180) = w5 at *
      refine (specPathOf_any lf _).mono ?_
      rintro e w6 ⟨pv, rfl, hP, b6⟩
      obtain ⟨ap, cp, hvp, hmp, _⟩ := hP.row
      subst hvp
      have hpl := path_len lf
      have HPI := hidS (path_in lf)
      have HH6 := hidS (HH5.out.add b6 (r := fI w5.heap.size (.slice ap (path lf).length cp) (path lf)) hP (Nat.le_refl _))
      have hs6 : wo.heap.size ≤ w6.heap.size := Nat.le_trans hs5 b6.size
      clear hP b6 HH5 HH p0 p1 p2 fr0 fr1 fr2 HH3
      generalize hps : path lf = ps at *
      have HPS := hidS hps
      clear hps
      generalize hq : ps.length = q at hmp hpl HH6 ⊢
      have HQ := hidS hq
      clear hq
      go_wp2
      go_loopw [9, 11] (fun wv i wr => ∃ (k2 nw : Nat) (aw : Option Addr) (cw : Nat) (ws : List W4), wv = .slice aw nw cw ∧ i = .int .i64 (k2 : Int) ∧ k2 ≤ q ∧ nw ≤ 2 * k2 ∧ wo.heap.size ≤ wr.heap.size ∧ Hid (ws.length = nw) ∧ Hid (LvV w [(w.heap.size + 1, svb 0 (.slice none 0 0) (.slice none 0 0)), (w.heap.size, svb ep (.slice ax 15 cx) (.slice a m c))] [fI w5.heap.size (.slice ap q cp) ps, fW wo.heap.size (.slice aw nw cw) ws, fS w2.heap.size (.slice a m c) ls] B (.slice ax 15 cx) (raiseL vs (idx (ps.take k2))) wr)) (fun _ i _ => q - (intOf i).toNat)
      case atStart => exact ⟨0, 0, _, _, [], rfl, rfl, Nat.zero_le _, Nat.le_refl _, hs6, rfl, ⟨hl, HH6.out⟩⟩
      case round =>
        obtain ⟨k2, nw, aw, cw, ws, rfl, rfl, hk2, hnw, hswo, HW, HL⟩ := hrel
        by_cases hlt2 : k2 < q
        · obtain ⟨V, HV⟩ : ∃ V, Hid (raiseL vs (idx (ps.take k2)) = V) := ⟨_, rfl⟩
          rw [HV.out] at HL
          have hqk : k2 < ps.length := by have := HQ.out; omega
          have hb15 := HPI.out k2 hqk
          obtain ⟨nd, hnd⟩ : ∃ nd : Nat, ps[k2] = (nd : Int) + 1 := ⟨(ps[k2] - 1).toNat, by omega⟩
          have hnd15 : nd < 15 := by omega
          obtain ⟨gp, hgp⟩ : ∃ gp, ap = some ⟨gp, 0, none⟩ := by
            obtain ⟨_, H⟩ := HL.out
            have hI : Ints _ _ ps wr := H.r0
            rcases hI.form with ⟨_, e'⟩ | ⟨g', cap', e, _⟩
            · rw [e'] at hqk; simp at hqk
            · injection e with e; exact ⟨g', e⟩
          subst hgp
          have SO : Hid (∀ W, LvR w [(w.heap.size + 1, svb 0 (.slice none 0 0) (.slice none 0 0)), (w.heap.size, svb ep (.slice ax 15 cx) (.slice a m c))] [fI w5.heap.size (.slice (some ⟨gp, 0, none⟩) q cp) ps, fW wo.heap.size (.slice aw nw cw) ws, fS w2.heap.size (.slice a m c) ls] B (.slice ax 15 cx) W → _) := fun W h => LvR.cells h gp cp (by rw [HQ.out]) hqk hnd
          obtain ⟨q0, q1, q2, q3, _⟩ := SO.out _ HL.out.weak
          have HL0 : Hid (LvV w [(w.heap.size + 1, svb 0 (.slice none 0 0) (.slice none 0 0)), (w.heap.size, svb ep (.slice ax 15 cx) (.slice a m c))] [fI w5.heap.size (.slice (some ⟨gp, 0, none⟩) q cp) ps, fW wo.heap.size (.slice aw nw cw) ws, fS w2.heap.size (.slice a m c) ls] B (.slice ax 15 cx) V wr.drew) := by
            obtain ⟨h', H⟩ := HL.out
            exact ⟨h', H.drew⟩
          have HND := hidS hnd
          clear hb15 hnd HL
          go_wp2
          go_region_held3 (fun W => W.cell? ⟨w.heap.size, 0, none⟩ = some (.int .i64 ep) ∧ W.cell? ⟨w.heap.size, 1, none⟩ = some (.slice ax 15 cx) ∧ W.cell? ⟨w.heap.size, 2, none⟩ = some (.slice a m c) ∧ W.cell? ⟨gp, k2, none⟩ = some (.int .i64 ((nd : Int) + 1)) ∧ LvR w [(w.heap.size + 1, svb 0 (.slice none 0 0) (.slice none 0 0)), (w.heap.size, svb ep (.slice ax 15 cx) (.slice a m c))] [fI w5.heap.size (.slice (some ⟨gp, 0, none⟩) q cp) ps, fW wo.heap.size (.slice aw nw cw) ws, fS w2.heap.size (.slice a m c) ls] B (.slice ax 15 cx) W)
            (first | exact SO.out _ HL0.out.weak | exact SO.out _ ⟨_, hv7, HM.out⟩ | exact SO.out _ ⟨_, hv7, ((HM.out.s310 _).s311 _).s312 _⟩ | assumption)
            ((go_at_call 155; obtain ⟨hvA, HA⟩ := HL0.out; refine (l3Raise_eq ep a m c nd hnd15 hvA HA.exOn).mono ?_; rintro e w7 ⟨rfl, k7, g7⟩; have hv7 : (V.set nd (wrap64 (vAt V nd + 1))).length = 15 := by { rw [List.length_set]; exact hvA }; have HU := hidS (show raiseL vs (idx (ps.take (k2 + 1))) = V.set nd (wrap64 (vAt V nd + 1)) by { rw [raise_step vs ps k2 nd hqk HND.out, HV.out] }); generalize V.set nd (wrap64 (vAt V nd + 1)) = U at k7 hv7 HU; have HM := hidS (HA.mut (ex' := fI B (.slice ax 15 cx) U) g7 k7 rfl); obtain ⟨⟨o0, o1, o2⟩, f0, f1, f2⟩ := box3 HM.out.b1; have hs7 := g7.size))
          all_goals
            rename_i hHeld
            have HL1 : Hid (LvV w _ _ B (.slice ax 15 cx) U (((w7.setCell ⟨w.heap.size, 0, none⟩ (.int .i64 ep)).setCell ⟨w.heap.size, 1, none⟩ (.slice ax 15 cx)).setCell ⟨w.heap.size, 2, none⟩ (.slice a m c))) := ⟨hv7, ((HM.out.s310 _).s311 _).s312 _⟩
            have hsa : wo.heap.size ≤ (((w7.setCell ⟨w.heap.size, 0, none⟩ (.int .i64 ep)).setCell ⟨w.heap.size, 1, none⟩ (.slice ax 15 cx)).setCell ⟨w.heap.size, 2, none⟩ (.slice a m c)).heap.size := by
              simp only [World.setCell, Array.size_modify]
              exact Nat.le_trans hswo hs7
            clear hHeld HM f0 f1 f2 o0 o1 o2 k7 g7 hs7 HL0 q0 q1 q2 q3 HA
            generalize ((w7.setCell ⟨w.heap.size, 0, none⟩ (.int .i64 ep)).setCell ⟨w.heap.size, 1, none⟩ (.slice ax 15 cx)).setCell ⟨w.heap.size, 2, none⟩ (.slice a m c) = wa at *
            obtain ⟨q0, q1, q2, q3, _⟩ := SO.out _ HL1.out.weak
            have HL2 : Hid (LvV w [(w.heap.size + 1, svb 0 (.slice none 0 0) (.slice none 0 0)), (w.heap.size, svb ep (.slice ax 15 cx) (.slice a m c))] [fI w5.heap.size (.slice (some ⟨gp, 0, none⟩) q cp) ps, fW wo.heap.size (.slice aw nw cw) ws, fS w2.heap.size (.slice a m c) ls] B (.slice ax 15 cx) U wa.drew) := by
              obtain ⟨h', H⟩ := HL1.out
              exact ⟨h', H.drew⟩
            clear HL1
            go_wp2
            go_region_held3 (fun W => W.cell? ⟨w.heap.size, 0, none⟩ = some (.int .i64 ep) ∧ W.cell? ⟨w.heap.size, 1, none⟩ = some (.slice ax 15 cx) ∧ W.cell? ⟨w.heap.size, 2, none⟩ = some (.slice a m c) ∧ W.cell? ⟨gp, k2, none⟩ = some (.int .i64 ((nd : Int) + 1)))
              (first | exact ⟨q0, q1, q2, q3⟩ | exact fourOf (LvR.cells HT.out.weak gp cp (by rw [HQ.out]) hqk HND.out) | assumption)
              ((go_at_call 156; obtain ⟨hvB, HB⟩ := HL2.out; refine (l3Down_any ep ((nd : Int) + 1) (by omega) hvB (show Ints B (.slice ax 15 cx) U _ from HB.exOn) (show Seats w2.heap.size (.slice a m c) ls _ from HB.r2) (show Wraps wo.heap.size (.slice aw nw cw) ws _ from HB.r1) hsa (by rw [HW.out]; omega)).mono ?_; rintro e w8 ⟨v8, ws8, rfl, k8, hl8, g8⟩; rw [HW.out] at hl8; obtain ⟨a8, c8, hv8⟩ := wrapsF k8; subst hv8; have hs8 : wo.heap.size ≤ w8.heap.size := Nat.le_trans hsa g8.size; have HT : Hid (LvV w [(w.heap.size + 1, svb 0 (.slice none 0 0) (.slice none 0 0)), (w.heap.size, svb ep (.slice ax 15 cx) (.slice a m c))] [fI w5.heap.size (.slice (some ⟨gp, 0, none⟩) q cp) ps, fW wo.heap.size (.slice a8 ws8.length c8) ws8, fS w2.heap.size (.slice a m c) ls] B (.slice ax 15 cx) U w8) := ⟨hvB, HB.turn1 (r' := fW wo.heap.size (.slice a8 ws8.length c8) ws8) g8 k8 rfl wrapAlone⟩))
            all_goals
              rename_i hHeld
              clear hHeld HL2 k8 g8 q0 q1 q2 q3 HB
              go_wp2
              go_roundw
              case rel => exact ⟨k2 + 1, ws8.length, a8, c8, ws8, rfl, by go_num, by omega, by omega, hs8, rfl, (by rw [HU.out]; exact HT)⟩
              case measure => simp [intOf] <;> omega
        · have HAll := hidS (show ps.take k2 = ps from List.take_of_length_le (by have := HQ.out; omega))
          rw [HAll.out] at HL
          obtain ⟨hv', HF⟩ := HL.out
          obtain ⟨⟨p0, p1, p2⟩, f0, f1, f2⟩ := box3 HF.b1
          obtain ⟨⟨t0, t1, t2⟩, g0, g1, g2⟩ := box3 HF.b0
          have HE := hidS (((HF.s300 (.int .i64 ep)).s301 (.slice ax 15 cx)).s302 (.slice a m c))
          have hls := HM.out
          have hws := HW.out
          clear HF HL
          go_wp2
          have HE' := HE.out
          generalize ((wr.setCell ⟨w.heap.size + 1, 0, none⟩ (.int .i64 ep)).setCell ⟨w.heap.size + 1, 1, none⟩ (.slice ax 15 cx)).setCell ⟨w.heap.size + 1, 2, none⟩ (.slice a m c) = WF at HE' ⊢
          obtain ⟨⟨z0, z1, z2⟩, _, _, _⟩ := box3 HE'.b0
          have kS : Seats w2.heap.size (.slice a m c) ls WF := HE'.r2
          have kW : Wraps wo.heap.size (.slice aw nw cw) ws WF := HE'.r1
          have kI : Ints B (.slice ax 15 cx) (raiseL vs (idx ps)) WF := HE'.exOn
          exact bodyPost_ret (v := .tuple #[svv ep (.slice ax 15 cx) (.slice a m c), .slice aw nw cw]) (by simp [results, Try.results154, go_sem, z0, z1, z2]) rfl ⟨_, _, ws, rfl, (by rw [HLF.out, HPS.out]; exact kI), (by rw [← HFl2.out]; exact kS.mono hs2), kW.mono hso, by omega, HE'.bel⟩

theorem l3Leave_any {B C : Nat} {x y : Value} {vs : List Int} {ss : List (Int × Int)} {w : World} (ep mem : Int) (hl : vs.length = 15) (hx : Ints B x vs w) (hy : Seats C y ss w) (hs : ss.length ≤ 100) :
    Calls Try.prog 154 #[svv ep x y, .int .i64 mem] w fun e w' => ∃ vs' y' ss' v' ws', e = .returned (.tuple #[svv ep x y', v']) ∧ vs'.length = 15 ∧ Ints B x vs' w' ∧ Seats w.heap.size y' ss' w' ∧ ss'.length ≤ ss.length ∧ Wraps w.heap.size v' ws' w' ∧ ws'.length ≤ 8 ∧ w.grownBy w' x.ownBlock :=
  (l3Leave_eq ep mem hl hx hy hs).mono fun _ _ ⟨y', v', ws', he, hI, hS, hW, h8, hg⟩ => ⟨_, y', _, v', ws', he, by rw [raiseL_len, hl], hI, hS, List.length_filter_le _ _, hW, h8, hg⟩
end Go.Proofs.Ytgddobdpibnkeaa
/- Towards l3Join of the model: the lemmas of its loops. -/
namespace Go.Proofs.Ytgddobdpibnkeaa
open Go.RowKit

/-- A block that a statement has left. -/
theorem Hex.got {w0 W W' : World} {bs : List (Nat × Obj)} {rs : List RowF} {ex : RowF} {p : Nat} {o : Obj} (H : Hex w0 bs rs ex W) (hb : Below W.heap.size W W') (h : W'.heap[p]? = some o) (hp : W.heap.size ≤ p) : Hex w0 ((p, o) :: bs) rs ex W' := by
  have H' := H.since hb
  refine ⟨H'.bel, H'.exOn, H'.low, ?_, ?_, List.pairwise_cons.2 ⟨fun q hq e => ?_, H'.nod⟩, H'.row, H'.fresh, H'.apart, ?_⟩
  · intro q hq
    rcases List.mem_cons.1 hq with rfl | hq
    · exact h
    · exact H'.box q hq
  · intro q hq
    rcases List.mem_cons.1 hq with rfl | hq
    · exact Nat.le_trans H.bel.size hp
    · exact H'.new q hq
  · have := blkLt (H.box q hq)
    dsimp only at e
    omega
  · intro q hq r hr e
    rcases List.mem_cons.1 hq with rfl | hq
    · have := ((H.row r hr).lt _ e).2
      dsimp only at this
      omega
    · exact H'.off q hq r hr e
theorem box2K {R : Nat} {W : World} {u v : Value} {t : TypeId} (h : W.heap[R]? = some (.cells #[u, v] t)) :
    (W.cell? ⟨R, 0, none⟩ = some u ∧ W.cell? ⟨R, 1, none⟩ = some v) ∧ W.frozen? ⟨R, 0, none⟩ = false ∧ W.frozen? ⟨R, 1, none⟩ = false := by
  simp [World.cell?, World.frozen?, h]
theorem box2K_set0 {R : Nat} {W : World} {u v : Value} {t : TypeId} (h : W.heap[R]? = some (.cells #[u, v] t)) (y : Value) : (W.setCell ⟨R, 0, none⟩ y).heap[R]? = some (.cells #[y, v] t) := by
  simp [World.setCell, Array.getElem?_modify, h]
theorem box2K_set1 {R : Nat} {W : World} {u v : Value} {t : TypeId} (h : W.heap[R]? = some (.cells #[u, v] t)) (y : Value) : (W.setCell ⟨R, 1, none⟩ y).heap[R]? = some (.cells #[u, y] t) := by
  simp [World.setCell, Array.getElem?_modify, h]
theorem fiveB {w W : World} {p1 p2 p3 p4 : Addr} {v1 v2 v3 v4 : Value} (h : W.cell? p1 = some v1 ∧ W.cell? p2 = some v2 ∧ W.cell? p3 = some v3 ∧ W.cell? p4 = some v4 ∧ Below w.heap.size w W) : Below w.heap.size w W := h.2.2.2.2
theorem keysKeep {B b o : Nat} {v : Value} {xs : List (Int × Int)} {W : World} (h : Keys B v xs W) (u : Value) (hb : v.ownBlock ≠ some b) : Keys B v xs (W.setCell ⟨b, o, none⟩ u) := h.kept (grown_set W b o u) (fun k e e' => by cases e; exact hb e')
theorem three_since {W W' : World} {p1 p2 p3 : Addr} {v1 v2 v3 : Value} (h : W.cell? p1 = some v1 ∧ W.cell? p2 = some v2 ∧ W.cell? p3 = some v3) (hb : Below W.heap.size W W') : W'.cell? p1 = some v1 ∧ W'.cell? p2 = some v2 ∧ W'.cell? p3 = some v3 := ⟨cell_since h.1 hb, cell_since h.2.1 hb, cell_since h.2.2 hb⟩
theorem three_set {W : World} {p1 p2 p3 : Addr} {v1 v2 v3 : Value} {R : Nat} (h : W.cell? p1 = some v1 ∧ W.cell? p2 = some v2 ∧ W.cell? p3 = some v3) (h1 : p1.block ≠ R) (h2 : p2.block ≠ R) (h3 : p3.block ≠ R) (a b c : Value) :
    (((W.setCell ⟨R, 0, none⟩ a).setCell ⟨R, 1, none⟩ b).setCell ⟨R, 2, none⟩ c).cell? p1 = some v1 ∧ (((W.setCell ⟨R, 0, none⟩ a).setCell ⟨R, 1, none⟩ b).setCell ⟨R, 2, none⟩ c).cell? p2 = some v2 ∧ (((W.setCell ⟨R, 0, none⟩ a).setCell ⟨R, 1, none⟩ b).setCell ⟨R, 2, none⟩ c).cell? p3 = some v3 := by
  have hc : ∀ {p : Addr} {v : Value}, W.cell? p = some v → p.block ≠ R → (((W.setCell ⟨R, 0, none⟩ a).setCell ⟨R, 1, none⟩ b).setCell ⟨R, 2, none⟩ c).cell? p = some v := fun {p v} hp hl =>
    (grown_set _ R 2 c).cell ((grown_set _ R 1 b).cell ((grown_set W R 0 a).cell hp (fun e => by cases e; exact hl rfl)) (fun e => by cases e; exact hl rfl)) (fun e => by cases e; exact hl rfl)
  exact ⟨hc h.1 h1, hc h.2.1 h2, hc h.2.2 h3⟩
/-- The cells that the third loop reads. -/
theorem LvR.cells6 {w W : World} {b0 : Nat × Obj} {s t B D k nd : Nat} {ep k1 k2 : Int} {x y pv : Value} {ps : List Int} {rs : List RowF} (h : LvR w [(t, kb k1 k2), b0, (s, svb ep x y)] (fI D pv ps :: rs) B x W) (gp cp : Nat) (hpv : pv = .slice (some ⟨gp, 0, none⟩) ps.length cp) (hk : k < ps.length) (hnd : ps[k] = (nd : Int) + 1) :
    W.cell? ⟨s, 0, none⟩ = some (.int .i64 ep) ∧ W.cell? ⟨s, 1, none⟩ = some x ∧ W.cell? ⟨s, 2, none⟩ = some y ∧ W.cell? ⟨gp, k, none⟩ = some (.int .i64 ((nd : Int) + 1)) ∧ W.cell? ⟨t, 0, none⟩ = some (.int .i64 k1) ∧ W.cell? ⟨t, 1, none⟩ = some (.int .i64 k2) ∧ LvR w [(t, kb k1 k2), b0, (s, svb ep x y)] (fI D pv ps :: rs) B x W := by
  have h' := h
  obtain ⟨vs', hv', H⟩ := h
  have H2 : LvR w [b0, (s, svb ep x y)] (fI D pv ps :: rs) B x W := ⟨vs', hv', H.dropb0⟩
  obtain ⟨q0, q1, q2, q3, _⟩ := LvR.cells H2 gp cp hpv hk hnd
  have hb := H.b0
  exact ⟨q0, q1, q2, q3, by simp [World.cell?, hb], by simp [World.cell?, hb], h'⟩
theorem six_since {W W' : World} {p1 p2 p3 p4 p5 p6 : Addr} {v1 v2 v3 v4 v5 v6 : Value} (h : W.cell? p1 = some v1 ∧ W.cell? p2 = some v2 ∧ W.cell? p3 = some v3 ∧ W.cell? p4 = some v4 ∧ W.cell? p5 = some v5 ∧ W.cell? p6 = some v6) (hb : Below W.heap.size W W') :
    W'.cell? p1 = some v1 ∧ W'.cell? p2 = some v2 ∧ W'.cell? p3 = some v3 ∧ W'.cell? p4 = some v4 ∧ W'.cell? p5 = some v5 ∧ W'.cell? p6 = some v6 := ⟨cell_since h.1 hb, cell_since h.2.1 hb, cell_since h.2.2.1 hb, cell_since h.2.2.2.1 hb, cell_since h.2.2.2.2.1 hb, cell_since h.2.2.2.2.2 hb⟩
theorem sixOf {a b c d e f g : Prop} (h : a ∧ b ∧ c ∧ d ∧ e ∧ f ∧ g) : a ∧ b ∧ c ∧ d ∧ e ∧ f := ⟨h.1, h.2.1, h.2.2.1, h.2.2.2.1, h.2.2.2.2.1, h.2.2.2.2.2.1⟩
theorem wrapAlone3 {D E F : Nat} {u v y : Value} {ps : List Int} {ws : List W4} {ls : List (Int × Int)} {s t q : Nat} {k1 k2 e1 e2 : Int} {x1 y1 x2 y2 : Value} :
    (∀ r, r ∈ [fI D u ps, fS F y ls] → r.t ≠ (fW E v ws).t) ∧ ∀ p, p ∈ [(q, kb k1 k2), (s, svb e1 x1 y1), (t, svb e2 x2 y2)] → objType p.2 ≠ some (fW E v ws).t := by
  refine ⟨fun r hr => ?_, fun p hp => ?_⟩
  · simp only [List.mem_cons, List.not_mem_nil, or_false] at hr
    rcases hr with rfl | rfl <;> simp
  · simp only [List.mem_cons, List.not_mem_nil, or_false] at hp
    rcases hp with rfl | rfl | rfl <;> simp [objType]
end Go.Proofs.Ytgddobdpibnkeaa
