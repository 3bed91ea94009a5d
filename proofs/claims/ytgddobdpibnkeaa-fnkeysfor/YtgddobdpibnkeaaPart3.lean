/- The bundle's cells and rows by their places. -/
import Derived.Test.YtgddobdpibnkeaaPart2
namespace Go.Proofs.Ytgddobdpibnkeaa
open Go.RowKit

theorem Kit.c0 {w0 W : World} {cs : List (Addr × Value)} {rs : List RowF} {a : Addr} {v : Value} (K : Kit w0 ((a, v) :: cs) rs W) : W.cell? a = some v := K.cell (a, v) (.head _)
theorem Kit.c1 {w0 W : World} {cs : List (Addr × Value)} {rs : List RowF} {x0 : Addr × Value} {a : Addr} {v : Value} (K : Kit w0 (x0 :: (a, v) :: cs) rs W) : W.cell? a = some v := K.cell (a, v) (.tail _ (.head _))
theorem Kit.c2 {w0 W : World} {cs : List (Addr × Value)} {rs : List RowF} {x0 x1 : Addr × Value} {a : Addr} {v : Value} (K : Kit w0 (x0 :: x1 :: (a, v) :: cs) rs W) : W.cell? a = some v := K.cell (a, v) (.tail _ (.tail _ (.head _)))
theorem Kit.c3 {w0 W : World} {cs : List (Addr × Value)} {rs : List RowF} {x0 x1 x2 : Addr × Value} {a : Addr} {v : Value} (K : Kit w0 (x0 :: x1 :: x2 :: (a, v) :: cs) rs W) : W.cell? a = some v := K.cell (a, v) (.tail _ (.tail _ (.tail _ (.head _))))
theorem Kit.c4 {w0 W : World} {cs : List (Addr × Value)} {rs : List RowF} {x0 x1 x2 x3 : Addr × Value} {a : Addr} {v : Value} (K : Kit w0 (x0 :: x1 :: x2 :: x3 :: (a, v) :: cs) rs W) : W.cell? a = some v := K.cell (a, v) (.tail _ (.tail _ (.tail _ (.tail _ (.head _)))))
theorem Kit.c5 {w0 W : World} {cs : List (Addr × Value)} {rs : List RowF} {x0 x1 x2 x3 x4 : Addr × Value} {a : Addr} {v : Value} (K : Kit w0 (x0 :: x1 :: x2 :: x3 :: x4 :: (a, v) :: cs) rs W) : W.cell? a = some v := K.cell (a, v) (.tail _ (.tail _ (.tail _ (.tail _ (.tail _ (.head _))))))
theorem Kit.c6 {w0 W : World} {cs : List (Addr × Value)} {rs : List RowF} {x0 x1 x2 x3 x4 x5 : Addr × Value} {a : Addr} {v : Value} (K : Kit w0 (x0 :: x1 :: x2 :: x3 :: x4 :: x5 :: (a, v) :: cs) rs W) : W.cell? a = some v := K.cell (a, v) (.tail _ (.tail _ (.tail _ (.tail _ (.tail _ (.tail _ (.head _)))))))
theorem Kit.c7 {w0 W : World} {cs : List (Addr × Value)} {rs : List RowF} {x0 x1 x2 x3 x4 x5 x6 : Addr × Value} {a : Addr} {v : Value} (K : Kit w0 (x0 :: x1 :: x2 :: x3 :: x4 :: x5 :: x6 :: (a, v) :: cs) rs W) : W.cell? a = some v := K.cell (a, v) (.tail _ (.tail _ (.tail _ (.tail _ (.tail _ (.tail _ (.tail _ (.head _))))))))
theorem Kit.c8 {w0 W : World} {cs : List (Addr × Value)} {rs : List RowF} {x0 x1 x2 x3 x4 x5 x6 x7 : Addr × Value} {a : Addr} {v : Value} (K : Kit w0 (x0 :: x1 :: x2 :: x3 :: x4 :: x5 :: x6 :: x7 :: (a, v) :: cs) rs W) : W.cell? a = some v := K.cell (a, v) (.tail _ (.tail _ (.tail _ (.tail _ (.tail _ (.tail _ (.tail _ (.tail _ (.head _)))))))))
theorem Kit.c9 {w0 W : World} {cs : List (Addr × Value)} {rs : List RowF} {x0 x1 x2 x3 x4 x5 x6 x7 x8 : Addr × Value} {a : Addr} {v : Value} (K : Kit w0 (x0 :: x1 :: x2 :: x3 :: x4 :: x5 :: x6 :: x7 :: x8 :: (a, v) :: cs) rs W) : W.cell? a = some v := K.cell (a, v) (.tail _ (.tail _ (.tail _ (.tail _ (.tail _ (.tail _ (.tail _ (.tail _ (.tail _ (.head _))))))))))
theorem Kit.c10 {w0 W : World} {cs : List (Addr × Value)} {rs : List RowF} {x0 x1 x2 x3 x4 x5 x6 x7 x8 x9 : Addr × Value} {a : Addr} {v : Value} (K : Kit w0 (x0 :: x1 :: x2 :: x3 :: x4 :: x5 :: x6 :: x7 :: x8 :: x9 :: (a, v) :: cs) rs W) : W.cell? a = some v := K.cell (a, v) (.tail _ (.tail _ (.tail _ (.tail _ (.tail _ (.tail _ (.tail _ (.tail _ (.tail _ (.tail _ (.head _)))))))))))
theorem Kit.c11 {w0 W : World} {cs : List (Addr × Value)} {rs : List RowF} {x0 x1 x2 x3 x4 x5 x6 x7 x8 x9 x10 : Addr × Value} {a : Addr} {v : Value} (K : Kit w0 (x0 :: x1 :: x2 :: x3 :: x4 :: x5 :: x6 :: x7 :: x8 :: x9 :: x10 :: (a, v) :: cs) rs W) : W.cell? a = some v := K.cell (a, v) (.tail _ (.tail _ (.tail _ (.tail _ (.tail _ (.tail _ (.tail _ (.tail _ (.tail _ (.tail _ (.tail _ (.head _))))))))))))
theorem Kit.c12 {w0 W : World} {cs : List (Addr × Value)} {rs : List RowF} {x0 x1 x2 x3 x4 x5 x6 x7 x8 x9 x10 x11 : Addr × Value} {a : Addr} {v : Value} (K : Kit w0 (x0 :: x1 :: x2 :: x3 :: x4 :: x5 :: x6 :: x7 :: x8 :: x9 :: x10 :: x11 :: (a, v) :: cs) rs W) : W.cell? a = some v := K.cell (a, v) (.tail _ (.tail _ (.tail _ (.tail _ (.tail _ (.tail _ (.tail _ (.tail _ (.tail _ (.tail _ (.tail _ (.tail _ (.head _)))))))))))))
theorem Kit.c13 {w0 W : World} {cs : List (Addr × Value)} {rs : List RowF} {x0 x1 x2 x3 x4 x5 x6 x7 x8 x9 x10 x11 x12 : Addr × Value} {a : Addr} {v : Value} (K : Kit w0 (x0 :: x1 :: x2 :: x3 :: x4 :: x5 :: x6 :: x7 :: x8 :: x9 :: x10 :: x11 :: x12 :: (a, v) :: cs) rs W) : W.cell? a = some v := K.cell (a, v) (.tail _ (.tail _ (.tail _ (.tail _ (.tail _ (.tail _ (.tail _ (.tail _ (.tail _ (.tail _ (.tail _ (.tail _ (.tail _ (.head _))))))))))))))
theorem Kit.c14 {w0 W : World} {cs : List (Addr × Value)} {rs : List RowF} {x0 x1 x2 x3 x4 x5 x6 x7 x8 x9 x10 x11 x12 x13 : Addr × Value} {a : Addr} {v : Value} (K : Kit w0 (x0 :: x1 :: x2 :: x3 :: x4 :: x5 :: x6 :: x7 :: x8 :: x9 :: x10 :: x11 :: x12 :: x13 :: (a, v) :: cs) rs W) : W.cell? a = some v := K.cell (a, v) (.tail _ (.tail _ (.tail _ (.tail _ (.tail _ (.tail _ (.tail _ (.tail _ (.tail _ (.tail _ (.tail _ (.tail _ (.tail _ (.tail _ (.head _)))))))))))))))
theorem Kit.c15 {w0 W : World} {cs : List (Addr × Value)} {rs : List RowF} {x0 x1 x2 x3 x4 x5 x6 x7 x8 x9 x10 x11 x12 x13 x14 : Addr × Value} {a : Addr} {v : Value} (K : Kit w0 (x0 :: x1 :: x2 :: x3 :: x4 :: x5 :: x6 :: x7 :: x8 :: x9 :: x10 :: x11 :: x12 :: x13 :: x14 :: (a, v) :: cs) rs W) : W.cell? a = some v := K.cell (a, v) (.tail _ (.tail _ (.tail _ (.tail _ (.tail _ (.tail _ (.tail _ (.tail _ (.tail _ (.tail _ (.tail _ (.tail _ (.tail _ (.tail _ (.tail _ (.head _))))))))))))))))
theorem Kit.c16 {w0 W : World} {cs : List (Addr × Value)} {rs : List RowF} {x0 x1 x2 x3 x4 x5 x6 x7 x8 x9 x10 x11 x12 x13 x14 x15 : Addr × Value} {a : Addr} {v : Value} (K : Kit w0 (x0 :: x1 :: x2 :: x3 :: x4 :: x5 :: x6 :: x7 :: x8 :: x9 :: x10 :: x11 :: x12 :: x13 :: x14 :: x15 :: (a, v) :: cs) rs W) : W.cell? a = some v := K.cell (a, v) (.tail _ (.tail _ (.tail _ (.tail _ (.tail _ (.tail _ (.tail _ (.tail _ (.tail _ (.tail _ (.tail _ (.tail _ (.tail _ (.tail _ (.tail _ (.tail _ (.head _)))))))))))))))))
theorem Kit.c17 {w0 W : World} {cs : List (Addr × Value)} {rs : List RowF} {x0 x1 x2 x3 x4 x5 x6 x7 x8 x9 x10 x11 x12 x13 x14 x15 x16 : Addr × Value} {a : Addr} {v : Value} (K : Kit w0 (x0 :: x1 :: x2 :: x3 :: x4 :: x5 :: x6 :: x7 :: x8 :: x9 :: x10 :: x11 :: x12 :: x13 :: x14 :: x15 :: x16 :: (a, v) :: cs) rs W) : W.cell? a = some v := K.cell (a, v) (.tail _ (.tail _ (.tail _ (.tail _ (.tail _ (.tail _ (.tail _ (.tail _ (.tail _ (.tail _ (.tail _ (.tail _ (.tail _ (.tail _ (.tail _ (.tail _ (.tail _ (.head _))))))))))))))))))
theorem Kit.r0 {w0 W : World} {cs : List (Addr × Value)} {rs : List RowF} {r : RowF} (K : Kit w0 cs (r :: rs) W) : r.on W := K.row r (.head _)
theorem Kit.mark0 {w0 W W' : World} {cs : List (Addr × Value)} {rs : List RowF} {r r' : RowF} (K : Kit w0 cs (r :: rs) W) (hg : W.grownBy W' r.v.ownBlock) (h : r'.on W') (hv : r'.v = r.v) (hB : r'.B = r.B) : Kit w0 cs (r' :: rs) W' := Kit.mark (pre := []) K hg h hv hB
theorem Kit.lose0 {w0 W W' : World} {cs : List (Addr × Value)} {rs : List RowF} {r : RowF} (K : Kit w0 cs (r :: rs) W) (hg : W.grownBy W' r.v.ownBlock) : Kit w0 cs (rs) W' := (Kit.front (pre := []) K).lose hg
theorem Kit.drop0 {w0 W : World} {cs : List (Addr × Value)} {rs : List RowF} {r : RowF} (K : Kit w0 cs (r :: rs) W) : Kit w0 cs (rs) W := K.sub (fun _ h => h) (.cons _ (List.Sublist.refl _))
theorem Kit.r1 {w0 W : World} {cs : List (Addr × Value)} {rs : List RowF} {x0 : RowF} {r : RowF} (K : Kit w0 cs (x0 :: r :: rs) W) : r.on W := K.row r (.tail _ (.head _))
theorem Kit.mark1 {w0 W W' : World} {cs : List (Addr × Value)} {rs : List RowF} {x0 : RowF} {r r' : RowF} (K : Kit w0 cs (x0 :: r :: rs) W) (hg : W.grownBy W' r.v.ownBlock) (h : r'.on W') (hv : r'.v = r.v) (hB : r'.B = r.B) : Kit w0 cs (x0 :: r' :: rs) W' := Kit.mark (pre := [x0]) K hg h hv hB
theorem Kit.lose1 {w0 W W' : World} {cs : List (Addr × Value)} {rs : List RowF} {x0 : RowF} {r : RowF} (K : Kit w0 cs (x0 :: r :: rs) W) (hg : W.grownBy W' r.v.ownBlock) : Kit w0 cs (x0 :: rs) W' := (Kit.front (pre := [x0]) K).lose hg
theorem Kit.drop1 {w0 W : World} {cs : List (Addr × Value)} {rs : List RowF} {x0 : RowF} {r : RowF} (K : Kit w0 cs (x0 :: r :: rs) W) : Kit w0 cs (x0 :: rs) W := K.sub (fun _ h => h) (.cons_cons _ (.cons _ (List.Sublist.refl _)))
theorem Kit.r2 {w0 W : World} {cs : List (Addr × Value)} {rs : List RowF} {x0 x1 : RowF} {r : RowF} (K : Kit w0 cs (x0 :: x1 :: r :: rs) W) : r.on W := K.row r (.tail _ (.tail _ (.head _)))
theorem Kit.mark2 {w0 W W' : World} {cs : List (Addr × Value)} {rs : List RowF} {x0 x1 : RowF} {r r' : RowF} (K : Kit w0 cs (x0 :: x1 :: r :: rs) W) (hg : W.grownBy W' r.v.ownBlock) (h : r'.on W') (hv : r'.v = r.v) (hB : r'.B = r.B) : Kit w0 cs (x0 :: x1 :: r' :: rs) W' := Kit.mark (pre := [x0, x1]) K hg h hv hB
theorem Kit.lose2 {w0 W W' : World} {cs : List (Addr × Value)} {rs : List RowF} {x0 x1 : RowF} {r : RowF} (K : Kit w0 cs (x0 :: x1 :: r :: rs) W) (hg : W.grownBy W' r.v.ownBlock) : Kit w0 cs (x0 :: x1 :: rs) W' := (Kit.front (pre := [x0, x1]) K).lose hg
theorem Kit.drop2 {w0 W : World} {cs : List (Addr × Value)} {rs : List RowF} {x0 x1 : RowF} {r : RowF} (K : Kit w0 cs (x0 :: x1 :: r :: rs) W) : Kit w0 cs (x0 :: x1 :: rs) W := K.sub (fun _ h => h) (.cons_cons _ (.cons_cons _ (.cons _ (List.Sublist.refl _))))
theorem Kit.r3 {w0 W : World} {cs : List (Addr × Value)} {rs : List RowF} {x0 x1 x2 : RowF} {r : RowF} (K : Kit w0 cs (x0 :: x1 :: x2 :: r :: rs) W) : r.on W := K.row r (.tail _ (.tail _ (.tail _ (.head _))))
theorem Kit.mark3 {w0 W W' : World} {cs : List (Addr × Value)} {rs : List RowF} {x0 x1 x2 : RowF} {r r' : RowF} (K : Kit w0 cs (x0 :: x1 :: x2 :: r :: rs) W) (hg : W.grownBy W' r.v.ownBlock) (h : r'.on W') (hv : r'.v = r.v) (hB : r'.B = r.B) : Kit w0 cs (x0 :: x1 :: x2 :: r' :: rs) W' := Kit.mark (pre := [x0, x1, x2]) K hg h hv hB
theorem Kit.lose3 {w0 W W' : World} {cs : List (Addr × Value)} {rs : List RowF} {x0 x1 x2 : RowF} {r : RowF} (K : Kit w0 cs (x0 :: x1 :: x2 :: r :: rs) W) (hg : W.grownBy W' r.v.ownBlock) : Kit w0 cs (x0 :: x1 :: x2 :: rs) W' := (Kit.front (pre := [x0, x1, x2]) K).lose hg
theorem Kit.drop3 {w0 W : World} {cs : List (Addr × Value)} {rs : List RowF} {x0 x1 x2 : RowF} {r : RowF} (K : Kit w0 cs (x0 :: x1 :: x2 :: r :: rs) W) : Kit w0 cs (x0 :: x1 :: x2 :: rs) W := K.sub (fun _ h => h) (.cons_cons _ (.cons_cons _ (.cons_cons _ (.cons _ (List.Sublist.refl _)))))
theorem Kit.r4 {w0 W : World} {cs : List (Addr × Value)} {rs : List RowF} {x0 x1 x2 x3 : RowF} {r : RowF} (K : Kit w0 cs (x0 :: x1 :: x2 :: x3 :: r :: rs) W) : r.on W := K.row r (.tail _ (.tail _ (.tail _ (.tail _ (.head _)))))
theorem Kit.mark4 {w0 W W' : World} {cs : List (Addr × Value)} {rs : List RowF} {x0 x1 x2 x3 : RowF} {r r' : RowF} (K : Kit w0 cs (x0 :: x1 :: x2 :: x3 :: r :: rs) W) (hg : W.grownBy W' r.v.ownBlock) (h : r'.on W') (hv : r'.v = r.v) (hB : r'.B = r.B) : Kit w0 cs (x0 :: x1 :: x2 :: x3 :: r' :: rs) W' := Kit.mark (pre := [x0, x1, x2, x3]) K hg h hv hB
theorem Kit.lose4 {w0 W W' : World} {cs : List (Addr × Value)} {rs : List RowF} {x0 x1 x2 x3 : RowF} {r : RowF} (K : Kit w0 cs (x0 :: x1 :: x2 :: x3 :: r :: rs) W) (hg : W.grownBy W' r.v.ownBlock) : Kit w0 cs (x0 :: x1 :: x2 :: x3 :: rs) W' := (Kit.front (pre := [x0, x1, x2, x3]) K).lose hg
theorem Kit.drop4 {w0 W : World} {cs : List (Addr × Value)} {rs : List RowF} {x0 x1 x2 x3 : RowF} {r : RowF} (K : Kit w0 cs (x0 :: x1 :: x2 :: x3 :: r :: rs) W) : Kit w0 cs (x0 :: x1 :: x2 :: x3 :: rs) W := K.sub (fun _ h => h) (.cons_cons _ (.cons_cons _ (.cons_cons _ (.cons_cons _ (.cons _ (List.Sublist.refl _))))))
theorem Kit.r5 {w0 W : World} {cs : List (Addr × Value)} {rs : List RowF} {x0 x1 x2 x3 x4 : RowF} {r : RowF} (K : Kit w0 cs (x0 :: x1 :: x2 :: x3 :: x4 :: r :: rs) W) : r.on W := K.row r (.tail _ (.tail _ (.tail _ (.tail _ (.tail _ (.head _))))))
theorem Kit.mark5 {w0 W W' : World} {cs : List (Addr × Value)} {rs : List RowF} {x0 x1 x2 x3 x4 : RowF} {r r' : RowF} (K : Kit w0 cs (x0 :: x1 :: x2 :: x3 :: x4 :: r :: rs) W) (hg : W.grownBy W' r.v.ownBlock) (h : r'.on W') (hv : r'.v = r.v) (hB : r'.B = r.B) : Kit w0 cs (x0 :: x1 :: x2 :: x3 :: x4 :: r' :: rs) W' := Kit.mark (pre := [x0, x1, x2, x3, x4]) K hg h hv hB
theorem Kit.lose5 {w0 W W' : World} {cs : List (Addr × Value)} {rs : List RowF} {x0 x1 x2 x3 x4 : RowF} {r : RowF} (K : Kit w0 cs (x0 :: x1 :: x2 :: x3 :: x4 :: r :: rs) W) (hg : W.grownBy W' r.v.ownBlock) : Kit w0 cs (x0 :: x1 :: x2 :: x3 :: x4 :: rs) W' := (Kit.front (pre := [x0, x1, x2, x3, x4]) K).lose hg
theorem Kit.drop5 {w0 W : World} {cs : List (Addr × Value)} {rs : List RowF} {x0 x1 x2 x3 x4 : RowF} {r : RowF} (K : Kit w0 cs (x0 :: x1 :: x2 :: x3 :: x4 :: r :: rs) W) : Kit w0 cs (x0 :: x1 :: x2 :: x3 :: x4 :: rs) W := K.sub (fun _ h => h) (.cons_cons _ (.cons_cons _ (.cons_cons _ (.cons_cons _ (.cons_cons _ (.cons _ (List.Sublist.refl _)))))))
theorem Kit.r6 {w0 W : World} {cs : List (Addr × Value)} {rs : List RowF} {x0 x1 x2 x3 x4 x5 : RowF} {r : RowF} (K : Kit w0 cs (x0 :: x1 :: x2 :: x3 :: x4 :: x5 :: r :: rs) W) : r.on W := K.row r (.tail _ (.tail _ (.tail _ (.tail _ (.tail _ (.tail _ (.head _)))))))
theorem Kit.mark6 {w0 W W' : World} {cs : List (Addr × Value)} {rs : List RowF} {x0 x1 x2 x3 x4 x5 : RowF} {r r' : RowF} (K : Kit w0 cs (x0 :: x1 :: x2 :: x3 :: x4 :: x5 :: r :: rs) W) (hg : W.grownBy W' r.v.ownBlock) (h : r'.on W') (hv : r'.v = r.v) (hB : r'.B = r.B) : Kit w0 cs (x0 :: x1 :: x2 :: x3 :: x4 :: x5 :: r' :: rs) W' := Kit.mark (pre := [x0, x1, x2, x3, x4, x5]) K hg h hv hB
theorem Kit.lose6 {w0 W W' : World} {cs : List (Addr × Value)} {rs : List RowF} {x0 x1 x2 x3 x4 x5 : RowF} {r : RowF} (K : Kit w0 cs (x0 :: x1 :: x2 :: x3 :: x4 :: x5 :: r :: rs) W) (hg : W.grownBy W' r.v.ownBlock) : Kit w0 cs (x0 :: x1 :: x2 :: x3 :: x4 :: x5 :: rs) W' := (Kit.front (pre := [x0, x1, x2, x3, x4, x5]) K).lose hg
theorem Kit.drop6 {w0 W : World} {cs : List (Addr × Value)} {rs : List RowF} {x0 x1 x2 x3 x4 x5 : RowF} {r : RowF} (K : Kit w0 cs (x0 :: x1 :: x2 :: x3 :: x4 :: x5 :: r :: rs) W) : Kit w0 cs (x0 :: x1 :: x2 :: x3 :: x4 :: x5 :: rs) W := K.sub (fun _ h => h) (.cons_cons _ (.cons_cons _ (.cons_cons _ (.cons_cons _ (.cons_cons _ (.cons_cons _ (.cons _ (List.Sublist.refl _))))))))
theorem Kit.r7 {w0 W : World} {cs : List (Addr × Value)} {rs : List RowF} {x0 x1 x2 x3 x4 x5 x6 : RowF} {r : RowF} (K : Kit w0 cs (x0 :: x1 :: x2 :: x3 :: x4 :: x5 :: x6 :: r :: rs) W) : r.on W := K.row r (.tail _ (.tail _ (.tail _ (.tail _ (.tail _ (.tail _ (.tail _ (.head _))))))))
theorem Kit.mark7 {w0 W W' : World} {cs : List (Addr × Value)} {rs : List RowF} {x0 x1 x2 x3 x4 x5 x6 : RowF} {r r' : RowF} (K : Kit w0 cs (x0 :: x1 :: x2 :: x3 :: x4 :: x5 :: x6 :: r :: rs) W) (hg : W.grownBy W' r.v.ownBlock) (h : r'.on W') (hv : r'.v = r.v) (hB : r'.B = r.B) : Kit w0 cs (x0 :: x1 :: x2 :: x3 :: x4 :: x5 :: x6 :: r' :: rs) W' := Kit.mark (pre := [x0, x1, x2, x3, x4, x5, x6]) K hg h hv hB
theorem Kit.lose7 {w0 W W' : World} {cs : List (Addr × Value)} {rs : List RowF} {x0 x1 x2 x3 x4 x5 x6 : RowF} {r : RowF} (K : Kit w0 cs (x0 :: x1 :: x2 :: x3 :: x4 :: x5 :: x6 :: r :: rs) W) (hg : W.grownBy W' r.v.ownBlock) : Kit w0 cs (x0 :: x1 :: x2 :: x3 :: x4 :: x5 :: x6 :: rs) W' := (Kit.front (pre := [x0, x1, x2, x3, x4, x5, x6]) K).lose hg
theorem Kit.drop7 {w0 W : World} {cs : List (Addr × Value)} {rs : List RowF} {x0 x1 x2 x3 x4 x5 x6 : RowF} {r : RowF} (K : Kit w0 cs (x0 :: x1 :: x2 :: x3 :: x4 :: x5 :: x6 :: r :: rs) W) : Kit w0 cs (x0 :: x1 :: x2 :: x3 :: x4 :: x5 :: x6 :: rs) W := K.sub (fun _ h => h) (.cons_cons _ (.cons_cons _ (.cons_cons _ (.cons_cons _ (.cons_cons _ (.cons_cons _ (.cons_cons _ (.cons _ (List.Sublist.refl _)))))))))
theorem Kit.r8 {w0 W : World} {cs : List (Addr × Value)} {rs : List RowF} {x0 x1 x2 x3 x4 x5 x6 x7 : RowF} {r : RowF} (K : Kit w0 cs (x0 :: x1 :: x2 :: x3 :: x4 :: x5 :: x6 :: x7 :: r :: rs) W) : r.on W := K.row r (.tail _ (.tail _ (.tail _ (.tail _ (.tail _ (.tail _ (.tail _ (.tail _ (.head _)))))))))
theorem Kit.mark8 {w0 W W' : World} {cs : List (Addr × Value)} {rs : List RowF} {x0 x1 x2 x3 x4 x5 x6 x7 : RowF} {r r' : RowF} (K : Kit w0 cs (x0 :: x1 :: x2 :: x3 :: x4 :: x5 :: x6 :: x7 :: r :: rs) W) (hg : W.grownBy W' r.v.ownBlock) (h : r'.on W') (hv : r'.v = r.v) (hB : r'.B = r.B) : Kit w0 cs (x0 :: x1 :: x2 :: x3 :: x4 :: x5 :: x6 :: x7 :: r' :: rs) W' := Kit.mark (pre := [x0, x1, x2, x3, x4, x5, x6, x7]) K hg h hv hB
theorem Kit.lose8 {w0 W W' : World} {cs : List (Addr × Value)} {rs : List RowF} {x0 x1 x2 x3 x4 x5 x6 x7 : RowF} {r : RowF} (K : Kit w0 cs (x0 :: x1 :: x2 :: x3 :: x4 :: x5 :: x6 :: x7 :: r :: rs) W) (hg : W.grownBy W' r.v.ownBlock) : Kit w0 cs (x0 :: x1 :: x2 :: x3 :: x4 :: x5 :: x6 :: x7 :: rs) W' := (Kit.front (pre := [x0, x1, x2, x3, x4, x5, x6, x7]) K).lose hg
theorem Kit.drop8 {w0 W : World} {cs : List (Addr × Value)} {rs : List RowF} {x0 x1 x2 x3 x4 x5 x6 x7 : RowF} {r : RowF} (K : Kit w0 cs (x0 :: x1 :: x2 :: x3 :: x4 :: x5 :: x6 :: x7 :: r :: rs) W) : Kit w0 cs (x0 :: x1 :: x2 :: x3 :: x4 :: x5 :: x6 :: x7 :: rs) W := K.sub (fun _ h => h) (.cons_cons _ (.cons_cons _ (.cons_cons _ (.cons_cons _ (.cons_cons _ (.cons_cons _ (.cons_cons _ (.cons_cons _ (.cons _ (List.Sublist.refl _))))))))))
theorem Kit.r9 {w0 W : World} {cs : List (Addr × Value)} {rs : List RowF} {x0 x1 x2 x3 x4 x5 x6 x7 x8 : RowF} {r : RowF} (K : Kit w0 cs (x0 :: x1 :: x2 :: x3 :: x4 :: x5 :: x6 :: x7 :: x8 :: r :: rs) W) : r.on W := K.row r (.tail _ (.tail _ (.tail _ (.tail _ (.tail _ (.tail _ (.tail _ (.tail _ (.tail _ (.head _))))))))))
theorem Kit.mark9 {w0 W W' : World} {cs : List (Addr × Value)} {rs : List RowF} {x0 x1 x2 x3 x4 x5 x6 x7 x8 : RowF} {r r' : RowF} (K : Kit w0 cs (x0 :: x1 :: x2 :: x3 :: x4 :: x5 :: x6 :: x7 :: x8 :: r :: rs) W) (hg : W.grownBy W' r.v.ownBlock) (h : r'.on W') (hv : r'.v = r.v) (hB : r'.B = r.B) : Kit w0 cs (x0 :: x1 :: x2 :: x3 :: x4 :: x5 :: x6 :: x7 :: x8 :: r' :: rs) W' := Kit.mark (pre := [x0, x1, x2, x3, x4, x5, x6, x7, x8]) K hg h hv hB
theorem Kit.lose9 {w0 W W' : World} {cs : List (Addr × Value)} {rs : List RowF} {x0 x1 x2 x3 x4 x5 x6 x7 x8 : RowF} {r : RowF} (K : Kit w0 cs (x0 :: x1 :: x2 :: x3 :: x4 :: x5 :: x6 :: x7 :: x8 :: r :: rs) W) (hg : W.grownBy W' r.v.ownBlock) : Kit w0 cs (x0 :: x1 :: x2 :: x3 :: x4 :: x5 :: x6 :: x7 :: x8 :: rs) W' := (Kit.front (pre := [x0, x1, x2, x3, x4, x5, x6, x7, x8]) K).lose hg
theorem Kit.drop9 {w0 W : World} {cs : List (Addr × Value)} {rs : List RowF} {x0 x1 x2 x3 x4 x5 x6 x7 x8 : RowF} {r : RowF} (K : Kit w0 cs (x0 :: x1 :: x2 :: x3 :: x4 :: x5 :: x6 :: x7 :: x8 :: r :: rs) W) : Kit w0 cs (x0 :: x1 :: x2 :: x3 :: x4 :: x5 :: x6 :: x7 :: x8 :: rs) W := K.sub (fun _ h => h) (.cons_cons _ (.cons_cons _ (.cons_cons _ (.cons_cons _ (.cons_cons _ (.cons_cons _ (.cons_cons _ (.cons_cons _ (.cons_cons _ (.cons _ (List.Sublist.refl _)))))))))))
theorem Kit.r10 {w0 W : World} {cs : List (Addr × Value)} {rs : List RowF} {x0 x1 x2 x3 x4 x5 x6 x7 x8 x9 : RowF} {r : RowF} (K : Kit w0 cs (x0 :: x1 :: x2 :: x3 :: x4 :: x5 :: x6 :: x7 :: x8 :: x9 :: r :: rs) W) : r.on W := K.row r (.tail _ (.tail _ (.tail _ (.tail _ (.tail _ (.tail _ (.tail _ (.tail _ (.tail _ (.tail _ (.head _)))))))))))
theorem Kit.mark10 {w0 W W' : World} {cs : List (Addr × Value)} {rs : List RowF} {x0 x1 x2 x3 x4 x5 x6 x7 x8 x9 : RowF} {r r' : RowF} (K : Kit w0 cs (x0 :: x1 :: x2 :: x3 :: x4 :: x5 :: x6 :: x7 :: x8 :: x9 :: r :: rs) W) (hg : W.grownBy W' r.v.ownBlock) (h : r'.on W') (hv : r'.v = r.v) (hB : r'.B = r.B) : Kit w0 cs (x0 :: x1 :: x2 :: x3 :: x4 :: x5 :: x6 :: x7 :: x8 :: x9 :: r' :: rs) W' := Kit.mark (pre := [x0, x1, x2, x3, x4, x5, x6, x7, x8, x9]) K hg h hv hB
theorem Kit.lose10 {w0 W W' : World} {cs : List (Addr × Value)} {rs : List RowF} {x0 x1 x2 x3 x4 x5 x6 x7 x8 x9 : RowF} {r : RowF} (K : Kit w0 cs (x0 :: x1 :: x2 :: x3 :: x4 :: x5 :: x6 :: x7 :: x8 :: x9 :: r :: rs) W) (hg : W.grownBy W' r.v.ownBlock) : Kit w0 cs (x0 :: x1 :: x2 :: x3 :: x4 :: x5 :: x6 :: x7 :: x8 :: x9 :: rs) W' := (Kit.front (pre := [x0, x1, x2, x3, x4, x5, x6, x7, x8, x9]) K).lose hg
theorem Kit.drop10 {w0 W : World} {cs : List (Addr × Value)} {rs : List RowF} {x0 x1 x2 x3 x4 x5 x6 x7 x8 x9 : RowF} {r : RowF} (K : Kit w0 cs (x0 :: x1 :: x2 :: x3 :: x4 :: x5 :: x6 :: x7 :: x8 :: x9 :: r :: rs) W) : Kit w0 cs (x0 :: x1 :: x2 :: x3 :: x4 :: x5 :: x6 :: x7 :: x8 :: x9 :: rs) W := K.sub (fun _ h => h) (.cons_cons _ (.cons_cons _ (.cons_cons _ (.cons_cons _ (.cons_cons _ (.cons_cons _ (.cons_cons _ (.cons_cons _ (.cons_cons _ (.cons_cons _ (.cons _ (List.Sublist.refl _))))))))))))
theorem Kit.r11 {w0 W : World} {cs : List (Addr × Value)} {rs : List RowF} {x0 x1 x2 x3 x4 x5 x6 x7 x8 x9 x10 : RowF} {r : RowF} (K : Kit w0 cs (x0 :: x1 :: x2 :: x3 :: x4 :: x5 :: x6 :: x7 :: x8 :: x9 :: x10 :: r :: rs) W) : r.on W := K.row r (.tail _ (.tail _ (.tail _ (.tail _ (.tail _ (.tail _ (.tail _ (.tail _ (.tail _ (.tail _ (.tail _ (.head _))))))))))))
theorem Kit.mark11 {w0 W W' : World} {cs : List (Addr × Value)} {rs : List RowF} {x0 x1 x2 x3 x4 x5 x6 x7 x8 x9 x10 : RowF} {r r' : RowF} (K : Kit w0 cs (x0 :: x1 :: x2 :: x3 :: x4 :: x5 :: x6 :: x7 :: x8 :: x9 :: x10 :: r :: rs) W) (hg : W.grownBy W' r.v.ownBlock) (h : r'.on W') (hv : r'.v = r.v) (hB : r'.B = r.B) : Kit w0 cs (x0 :: x1 :: x2 :: x3 :: x4 :: x5 :: x6 :: x7 :: x8 :: x9 :: x10 :: r' :: rs) W' := Kit.mark (pre := [x0, x1, x2, x3, x4, x5, x6, x7, x8, x9, x10]) K hg h hv hB
theorem Kit.lose11 {w0 W W' : World} {cs : List (Addr × Value)} {rs : List RowF} {x0 x1 x2 x3 x4 x5 x6 x7 x8 x9 x10 : RowF} {r : RowF} (K : Kit w0 cs (x0 :: x1 :: x2 :: x3 :: x4 :: x5 :: x6 :: x7 :: x8 :: x9 :: x10 :: r :: rs) W) (hg : W.grownBy W' r.v.ownBlock) : Kit w0 cs (x0 :: x1 :: x2 :: x3 :: x4 :: x5 :: x6 :: x7 :: x8 :: x9 :: x10 :: rs) W' := (Kit.front (pre := [x0, x1, x2, x3, x4, x5, x6, x7, x8, x9, x10]) K).lose hg
theorem Kit.drop11 {w0 W : World} {cs : List (Addr × Value)} {rs : List RowF} {x0 x1 x2 x3 x4 x5 x6 x7 x8 x9 x10 : RowF} {r : RowF} (K : Kit w0 cs (x0 :: x1 :: x2 :: x3 :: x4 :: x5 :: x6 :: x7 :: x8 :: x9 :: x10 :: r :: rs) W) : Kit w0 cs (x0 :: x1 :: x2 :: x3 :: x4 :: x5 :: x6 :: x7 :: x8 :: x9 :: x10 :: rs) W := K.sub (fun _ h => h) (.cons_cons _ (.cons_cons _ (.cons_cons _ (.cons_cons _ (.cons_cons _ (.cons_cons _ (.cons_cons _ (.cons_cons _ (.cons_cons _ (.cons_cons _ (.cons_cons _ (.cons _ (List.Sublist.refl _)))))))))))))

/-- The cells of a new block of one, two, three cells. -/
theorem Kit.box2 {w0 W : World} {cs : List (Addr × Value)} {rs : List RowF} (K : Kit w0 cs rs W) (u v : Value) (t : TypeId) :
    Kit w0 ((⟨W.heap.size, 0, none⟩, u) :: (⟨W.heap.size, 1, none⟩, v) :: cs) rs (W.alloc (.cells #[u, v] t)) := by
  refine K.cells (ds := [(⟨W.heap.size, 0, none⟩, u), (⟨W.heap.size, 1, none⟩, v)]) ((Below.refl _ _).alloc (Nat.le_refl _) _) ?_ ?_
  · intro p hp
    simp only [List.mem_cons, List.not_mem_nil, or_false] at hp
    rcases hp with rfl | rfl <;> simp
  · intro p hp
    simp only [List.mem_cons, List.not_mem_nil, or_false] at hp
    rcases hp with rfl | rfl <;> simp
theorem Kit.box3 {w0 W : World} {cs : List (Addr × Value)} {rs : List RowF} (K : Kit w0 cs rs W) (u v x : Value) (t : TypeId) :
    Kit w0 ((⟨W.heap.size, 0, none⟩, u) :: (⟨W.heap.size, 1, none⟩, v) :: (⟨W.heap.size, 2, none⟩, x) :: cs) rs (W.alloc (.cells #[u, v, x] t)) := by
  refine K.cells (ds := [(⟨W.heap.size, 0, none⟩, u), (⟨W.heap.size, 1, none⟩, v), (⟨W.heap.size, 2, none⟩, x)]) ((Below.refl _ _).alloc (Nat.le_refl _) _) ?_ ?_
  · intro p hp
    simp only [List.mem_cons, List.not_mem_nil, or_false] at hp
    rcases hp with rfl | rfl | rfl <;> simp
  · intro p hp
    simp only [List.mem_cons, List.not_mem_nil, or_false] at hp
    rcases hp with rfl | rfl | rfl <;> simp
theorem blkSince {W W' : World} {p : Nat} {o : Obj} (h : W.heap[p]? = some o) (hb : Below W.heap.size W W') : W'.heap[p]? = some o := (hb.block p (Array.getElem?_eq_some_iff.1 h).1).trans h
theorem blkBoth {W W' : World} {p : Nat} {o : Obj} (h : W.heap[p]? = some o) (hb : Below W.heap.size W W') : W'.heap[p]? = some o ∧ p < W.heap.size := ⟨blkSince h hb, (Array.getElem?_eq_some_iff.1 h).1⟩
theorem blkLt {W : World} {p : Nat} {o : Obj} (h : W.heap[p]? = some o) : p < W.heap.size := (Array.getElem?_eq_some_iff.1 h).1
/-- The cells of a block of three that lies there since W. -/
theorem Kit.got3 {w0 W W' : World} {cs : List (Addr × Value)} {rs : List RowF} {p : Nat} {u v x : Value} {t : TypeId} (K : Kit w0 cs rs W) (hb : Below W.heap.size W W') (h : W'.heap[p]? = some (.cells #[u, v, x] t)) (hp : W.heap.size ≤ p) :
    Kit w0 ((⟨p, 0, none⟩, u) :: (⟨p, 1, none⟩, v) :: (⟨p, 2, none⟩, x) :: cs) rs W' := by
  refine K.cells (ds := [(⟨p, 0, none⟩, u), (⟨p, 1, none⟩, v), (⟨p, 2, none⟩, x)]) hb ?_ ?_
  · intro q hq
    simp only [List.mem_cons, List.not_mem_nil, or_false] at hq
    rcases hq with rfl | rfl | rfl <;> simp [World.cell?, h]
  · intro q hq
    simp only [List.mem_cons, List.not_mem_nil, or_false] at hq
    rcases hq with rfl | rfl | rfl <;> exact hp
/-- A row and a block of three cells that a statement has left. -/
theorem Kit.left3 {w0 W W' : World} {cs : List (Addr × Value)} {rs : List RowF} {r : RowF} {p : Nat} {u v x : Value} {t : TypeId} (K : Kit w0 cs rs W) (hb : Below W.heap.size W W') (h : W'.heap[p]? = some (.cells #[u, v, x] t)) (hp : W.heap.size ≤ p) (hr : r.on W') (hB : W.heap.size ≤ r.B) (hn : r.v.ownBlock ≠ some p) :
    Kit w0 ((⟨p, 0, none⟩, u) :: (⟨p, 1, none⟩, v) :: (⟨p, 2, none⟩, x) :: cs) (r :: rs) W' := by
  have K1 := K.add hb hr hB
  have K2 := K.got3 hb h hp
  refine ⟨K1.bel, K2.cell, K1.row, K1.fresh, K1.apart, fun q hq s hs => ?_⟩
  rcases List.mem_cons.1 hs with rfl | hs
  · rcases hq with _ | ⟨_, _ | ⟨_, _ | ⟨_, hq⟩⟩⟩
    · exact hn
    · exact hn
    · exact hn
    · exact K1.off q hq _ (.head _)
  · exact K2.off q hq s hs
end Go.Proofs.Ytgddobdpibnkeaa
/- What a call holds while it is walked, in one bundle: nothing that was there has turned; blocks of its own hold what they hold; rows of its own lie apart from them and from one another. -/
namespace Go.Proofs.Ytgddobdpibnkeaa
open Go.RowKit

def objType : Obj → Option TypeId
  | .cells _ t _ => some t
  | _ => none

structure Home (w0 : World) (bs : List (Nat × Obj)) (rs : List RowF) (W : World) : Prop where
  bel : Below w0.heap.size w0 W
  box : ∀ p, p ∈ bs → W.heap[p.1]? = some p.2
  new : ∀ p, p ∈ bs → w0.heap.size ≤ p.1
  nod : bs.Pairwise fun p q => p.1 ≠ q.1
  row : ∀ r, r ∈ rs → r.on W
  fresh : ∀ r, r ∈ rs → w0.heap.size ≤ r.B
  apart : rs.Pairwise fun r s => ∀ k, r.v.ownBlock = some k → s.v.ownBlock ≠ some k
  off : ∀ p, p ∈ bs → ∀ r, r ∈ rs → r.v.ownBlock ≠ some p.1

theorem Home.start (w : World) : Home w [] [] w := ⟨Below.refl _ _, (fun _ h => nomatch h), (fun _ h => nomatch h), .nil, (fun _ h => nomatch h), (fun _ h => nomatch h), .nil, fun _ h => nomatch h⟩
theorem Home.since {w0 W W' : World} {bs : List (Nat × Obj)} {rs : List RowF} (H : Home w0 bs rs W) (hb : Below W.heap.size W W') : Home w0 bs rs W' :=
  ⟨H.bel.trans (hb.mono H.bel.size), fun p h => blkSince (H.box p h) hb, H.new, H.nod, fun r h => RowF.since (H.row r h) hb, H.fresh, H.apart, H.off⟩
theorem Home.drew {w0 W : World} {bs : List (Nat × Obj)} {rs : List RowF} (H : Home w0 bs rs W) : Home w0 bs rs W.drew := H.since (Below.refl _ _).drew
theorem Home.drewN {w0 W : World} {bs : List (Nat × Obj)} {rs : List RowF} (H : Home w0 bs rs W) (n : Nat) : Home w0 bs rs (W.drewN n) := H.since ⟨rfl, rfl, rfl, Nat.le_refl _, fun _ _ => rfl⟩
theorem Home.sub {w0 W : World} {bs bs' : List (Nat × Obj)} {rs rs' : List RowF} (H : Home w0 bs rs W) (hc : bs'.Sublist bs) (hr : rs'.Sublist rs) : Home w0 bs' rs' W :=
  ⟨H.bel, fun p h => H.box p (hc.subset h), fun p h => H.new p (hc.subset h), H.nod.sublist hc, fun r h => H.row r (hr.subset h), fun r h => H.fresh r (hr.subset h), H.apart.sublist hr, fun p h r h' => H.off p (hc.subset h) r (hr.subset h')⟩
/-- A new block. -/
theorem Home.alloc {w0 W : World} {bs : List (Nat × Obj)} {rs : List RowF} (H : Home w0 bs rs W) (o : Obj) : Home w0 ((W.heap.size, o) :: bs) rs (W.alloc o) := by
  have hb : Below W.heap.size W (W.alloc o) := (Below.refl _ _).alloc (Nat.le_refl _) o
  have H' := H.since hb
  refine ⟨H'.bel, ?_, ?_, List.pairwise_cons.2 ⟨fun p hp e => ?_, H'.nod⟩, H'.row, H'.fresh, H'.apart, ?_⟩
  · intro p hp
    rcases List.mem_cons.1 hp with rfl | hp
    · exact heap_alloc_new W o
    · exact H'.box p hp
  · intro p hp
    rcases List.mem_cons.1 hp with rfl | hp
    · exact H.bel.size
    · exact H'.new p hp
  · have := blkLt (H.box p hp)
    dsimp only at e
    omega
  · intro p hp r hr e
    rcases List.mem_cons.1 hp with rfl | hp
    · have := ((H.row r hr).lt _ e).2
      dsimp only at this
      omega
    · exact H'.off p hp r hr e
/-- A new row. -/
theorem Home.add {w0 W W' : World} {bs : List (Nat × Obj)} {rs : List RowF} {r : RowF} (H : Home w0 bs rs W) (hb : Below W.heap.size W W') (h : r.on W') (hB : W.heap.size ≤ r.B) : Home w0 bs (r :: rs) W' := by
  have H' := H.since hb
  refine ⟨H'.bel, H'.box, H'.new, H'.nod, ?_, ?_, List.pairwise_cons.2 ⟨fun s hs k e e' => ?_, H'.apart⟩, ?_⟩
  · intro s hs
    rcases List.mem_cons.1 hs with rfl | hs
    · exact h
    · exact H'.row s hs
  · intro s hs
    rcases List.mem_cons.1 hs with rfl | hs
    · exact Nat.le_trans H.bel.size hB
    · exact H'.fresh s hs
  · have h1 := (h.lt k e).1
    have h2 := ((H.row s hs).lt k e').2
    omega
  · intro p hp s hs e
    rcases List.mem_cons.1 hs with rfl | hs
    · have h1 := (h.lt _ e).1
      have h2 := blkLt (H.box p hp)
      omega
    · exact H'.off p hp s hs e
theorem Home.add2 {w0 W W' : World} {bs : List (Nat × Obj)} {rs : List RowF} {r s : RowF} (H : Home w0 bs rs W) (hb : Below W.heap.size W W') (h : r.on W') (h' : s.on W') (hB : W.heap.size ≤ r.B) (hB' : W.heap.size ≤ s.B)
    (hd : ∀ k, r.v.ownBlock = some k → s.v.ownBlock ≠ some k) : Home w0 bs (r :: s :: rs) W' := by
  have H1 := H.add hb h' hB'
  have H2 := H.add hb h hB
  refine ⟨H1.bel, H1.box, H1.new, H1.nod, ?_, ?_, List.pairwise_cons.2 ⟨fun x hx => ?_, H1.apart⟩, ?_⟩
  · intro x hx
    rcases List.mem_cons.1 hx with rfl | hx
    · exact h
    · exact H1.row x hx
  · intro x hx
    rcases List.mem_cons.1 hx with rfl | hx
    · exact H2.fresh _ (.head _)
    · exact H1.fresh x hx
  · rcases List.mem_cons.1 hx with rfl | hx
    · exact hd
    · exact (List.pairwise_cons.1 H2.apart).1 x hx
  · intro p hp x hx
    rcases List.mem_cons.1 hx with rfl | hx
    · exact H2.off p hp _ (.head _)
    · exact H1.off p hp x hx
/-- A store into a block of one's own. -/
theorem Home.set {w0 W : World} {pre post : List (Nat × Obj)} {rs : List RowF} {p j : Nat} {o o' : Obj} {x : Value} (H : Home w0 (pre ++ (p, o) :: post) rs W) (ho : (W.setCell ⟨p, j, none⟩ x).heap[p]? = some o') : Home w0 (pre ++ (p, o') :: post) rs (W.setCell ⟨p, j, none⟩ x) := by
  have hmid : (p, o) ∈ pre ++ (p, o) :: post := List.mem_append_right _ (.head _)
  have hnd := List.pairwise_append.1 H.nod
  have hnd2 := List.pairwise_cons.1 hnd.2.1
  have hg : W.grownBy (W.setCell ⟨p, j, none⟩ x) (some p) := ⟨rfl, rfl, rfl, by simp, fun k _ hne => by simp [World.setCell, Array.getElem?_modify, show p ≠ k from fun e => hne (by rw [e])]⟩
  have hmem : ∀ q, q ∈ pre ++ (p, o') :: post → q = (p, o') ∨ (q ∈ pre ++ (p, o) :: post ∧ q.1 ≠ p) := fun q hq => by
    rcases List.mem_append.1 hq with hq | hq
    · exact .inr ⟨List.mem_append_left _ hq, hnd.2.2 q hq (p, o) (.head _)⟩
    · rcases List.mem_cons.1 hq with rfl | hq
      · exact .inl rfl
      · exact .inr ⟨List.mem_append_right _ (.tail _ hq), fun e => hnd2.1 q hq e.symm⟩
  refine ⟨H.bel.grown hg H.bel.size (fun k e => by cases e; exact H.new _ hmid), ?_, ?_, ?_, ?_, H.fresh, H.apart, ?_⟩
  · intro q hq
    rcases hmem q hq with rfl | ⟨hq, hne⟩
    · exact ho
    · rw [hg.block q.1 (blkLt (H.box q hq)) (fun e => hne (by cases e; rfl))]
      exact H.box q hq
  · intro q hq
    rcases hmem q hq with rfl | ⟨hq, _⟩
    · exact H.new (p, o) hmid
    · exact H.new q hq
  · refine List.pairwise_append.2 ⟨hnd.1, List.pairwise_cons.2 ⟨fun q hq => hnd2.1 q hq, hnd2.2⟩, fun q hq y hy => ?_⟩
    rcases List.mem_cons.1 hy with rfl | hy
    · exact hnd.2.2 q hq (p, o) (.head _)
    · exact hnd.2.2 q hq y (.tail _ hy)
  · exact fun r hr => RowF.kept (H.row r hr) hg (fun k e e' => by cases e; exact H.off _ hmid r hr e')
  · intro q hq r hr
    rcases hmem q hq with rfl | ⟨hq, _⟩
    · exact H.off (p, o) hmid r hr
    · exact H.off q hq r hr
/-- A row written over, or grown: its new place is its old one, or it is of a type that nothing else has. -/
theorem Home.turn {w0 W W' : World} {bs : List (Nat × Obj)} {pre post : List RowF} {r r' : RowF} (H : Home w0 bs (pre ++ r :: post) W) (hg : W.grownBy W' r.v.ownBlock) (h : r'.on W') (hB : r'.B = r.B)
    (hd : r'.v.ownBlock = r.v.ownBlock ∨ ((∀ s, s ∈ pre ++ post → s.t ≠ r'.t) ∧ ∀ p, p ∈ bs → objType p.2 ≠ some r'.t)) : Home w0 bs (pre ++ r' :: post) W' := by
  have hmid : r ∈ pre ++ r :: post := List.mem_append_right _ (.head _)
  have hap := List.pairwise_append.1 H.apart
  have hap2 := List.pairwise_cons.1 hap.2.1
  have hin : ∀ s, s ∈ pre ++ post → s ∈ pre ++ r :: post := fun s hs => by
    rcases List.mem_append.1 hs with hs | hs
    · exact List.mem_append_left _ hs
    · exact List.mem_append_right _ (.tail _ hs)
  have hdis : ∀ s, s ∈ pre ++ post → ∀ k, r.v.ownBlock = some k → s.v.ownBlock ≠ some k := fun s hs k e e' => by
    rcases List.mem_append.1 hs with hs | hs
    · exact hap.2.2 s hs r (.head _) k e' e
    · exact hap2.1 s hs k e e'
  have hbox : ∀ p, p ∈ bs → W'.heap[p.1]? = some p.2 := fun p hp => by
    rw [hg.block p.1 (blkLt (H.box p hp)) (fun e => H.off p hp r hmid e.symm)]
    exact H.box p hp
  have hrow : ∀ s, s ∈ pre ++ post → s.on W' := fun s hs => RowF.kept (H.row s (hin s hs)) hg (hdis s hs)
  have hat : ∀ {s : RowF} {k : Nat}, s.on W' → s.v.ownBlock = some k → ∃ cur, W'.heap[k]? = some (.cells cur s.t (0, 0)) := fun {s k} hs e => by
    rcases hs.2 with ⟨hv, _⟩ | ⟨g, cap, cur, hv, _, hgk, _⟩
    · rw [hv] at e
      simp [Value.ownBlock] at e
    · rw [hv] at e
      simp [Value.ownBlock] at e
      subst e
      exact ⟨cur, hgk⟩
  have hdis' : ∀ s, s ∈ pre ++ post → ∀ k, r'.v.ownBlock = some k → s.v.ownBlock ≠ some k := fun s hs k e e' => by
    rcases hd with hd | ⟨hd, _⟩
    · rw [hd] at e
      exact hdis s hs k e e'
    · obtain ⟨c1, h1⟩ := hat h e
      obtain ⟨c2, h2⟩ := hat (hrow s hs) e'
      rw [h1] at h2
      injection h2 with h2
      injection h2 with _ h2 _
      exact hd s hs h2.symm
  have hmem : ∀ s, s ∈ pre ++ r' :: post → s = r' ∨ s ∈ pre ++ post := fun s hs => by
    rcases List.mem_append.1 hs with hs | hs
    · exact .inr (List.mem_append_left _ hs)
    · rcases List.mem_cons.1 hs with hs | hs
      · exact .inl hs
      · exact .inr (List.mem_append_right _ hs)
  refine ⟨H.bel.grown hg H.bel.size (fun k e => Nat.le_trans (H.fresh r hmid) ((H.row r hmid).lt k e).1), hbox, H.new, H.nod, ?_, ?_, ?_, ?_⟩
  · intro s hs
    rcases hmem s hs with rfl | hs
    · exact h
    · exact hrow s hs
  · intro s hs
    rcases hmem s hs with rfl | hs
    · rw [hB]
      exact H.fresh r hmid
    · exact H.fresh s (hin s hs)
  · refine List.pairwise_append.2 ⟨hap.1, List.pairwise_cons.2 ⟨fun s hs => hdis' s (List.mem_append_right _ hs), hap2.2⟩, fun s hs x hx => ?_⟩
    rcases List.mem_cons.1 hx with rfl | hx
    · exact fun k e e' => hdis' s (List.mem_append_left _ hs) k e' e
    · exact hap.2.2 s hs x (.tail _ hx)
  · intro p hp s hs e
    rcases hmem s hs with rfl | hs
    · rcases hd with hd | ⟨_, hd⟩
      · rw [hd] at e
        exact H.off p hp r hmid e
      · obtain ⟨c1, h1⟩ := hat h e
        rw [hbox p hp] at h1
        have h3 : p.2 = .cells c1 s.t (0, 0) := by injection h1
        exact hd p hp (by rw [h3]; rfl)
    · exact H.off p hp s (hin s hs) e
end Go.Proofs.Ytgddobdpibnkeaa
/- The bundle's blocks and rows by their places. -/
namespace Go.Proofs.Ytgddobdpibnkeaa
open Go.RowKit

theorem Home.b0 {w0 W : World} {bs : List (Nat × Obj)} {rs : List RowF} {p : Nat} {o : Obj} (H : Home w0 ((p, o) :: bs) rs W) : W.heap[p]? = some o := H.box (p, o) (.head _)
theorem Home.p0 {w0 W : World} {bs : List (Nat × Obj)} {rs : List RowF} {p : Nat} {o : Obj} (H : Home w0 ((p, o) :: bs) rs W) : w0.heap.size ≤ p := H.new (p, o) (.head _)
theorem Home.set0 {w0 W : World} {bs : List (Nat × Obj)} {rs : List RowF} {p j : Nat} {o o' : Obj} {x : Value} (H : Home w0 ((p, o) :: bs) rs W) (ho : (W.setCell ⟨p, j, none⟩ x).heap[p]? = some o') : Home w0 ((p, o') :: bs) rs (W.setCell ⟨p, j, none⟩ x) := Home.set (pre := []) H ho
theorem Home.s200 {w0 W : World} {bs : List (Nat × Obj)} {rs : List RowF} {p : Nat} {u v : Value} {t : TypeId} (H : Home w0 ((p, .cells #[u, v] t) :: bs) rs W) (y : Value) : Home w0 ((p, .cells #[y, v] t) :: bs) rs (W.setCell ⟨p, 0, none⟩ y) := H.set0 (by simp [World.setCell, Array.getElem?_modify, H.b0])
theorem Home.s201 {w0 W : World} {bs : List (Nat × Obj)} {rs : List RowF} {p : Nat} {u v : Value} {t : TypeId} (H : Home w0 ((p, .cells #[u, v] t) :: bs) rs W) (y : Value) : Home w0 ((p, .cells #[u, y] t) :: bs) rs (W.setCell ⟨p, 1, none⟩ y) := H.set0 (by simp [World.setCell, Array.getElem?_modify, H.b0])
theorem Home.s300 {w0 W : World} {bs : List (Nat × Obj)} {rs : List RowF} {p : Nat} {u v x : Value} {t : TypeId} (H : Home w0 ((p, .cells #[u, v, x] t) :: bs) rs W) (y : Value) : Home w0 ((p, .cells #[y, v, x] t) :: bs) rs (W.setCell ⟨p, 0, none⟩ y) := H.set0 (by simp [World.setCell, Array.getElem?_modify, H.b0])
theorem Home.s301 {w0 W : World} {bs : List (Nat × Obj)} {rs : List RowF} {p : Nat} {u v x : Value} {t : TypeId} (H : Home w0 ((p, .cells #[u, v, x] t) :: bs) rs W) (y : Value) : Home w0 ((p, .cells #[u, y, x] t) :: bs) rs (W.setCell ⟨p, 1, none⟩ y) := H.set0 (by simp [World.setCell, Array.getElem?_modify, H.b0])
theorem Home.s302 {w0 W : World} {bs : List (Nat × Obj)} {rs : List RowF} {p : Nat} {u v x : Value} {t : TypeId} (H : Home w0 ((p, .cells #[u, v, x] t) :: bs) rs W) (y : Value) : Home w0 ((p, .cells #[u, v, y] t) :: bs) rs (W.setCell ⟨p, 2, none⟩ y) := H.set0 (by simp [World.setCell, Array.getElem?_modify, H.b0])
theorem Home.dropb0 {w0 W : World} {bs : List (Nat × Obj)} {rs : List RowF} {p : Nat × Obj} (H : Home w0 (p :: bs) rs W) : Home w0 (bs) rs W := H.sub (.cons _ (List.Sublist.refl _)) (List.Sublist.refl _)
theorem Home.b1 {w0 W : World} {bs : List (Nat × Obj)} {rs : List RowF} {x0 : Nat × Obj} {p : Nat} {o : Obj} (H : Home w0 (x0 :: (p, o) :: bs) rs W) : W.heap[p]? = some o := H.box (p, o) (.tail _ (.head _))
theorem Home.p1 {w0 W : World} {bs : List (Nat × Obj)} {rs : List RowF} {x0 : Nat × Obj} {p : Nat} {o : Obj} (H : Home w0 (x0 :: (p, o) :: bs) rs W) : w0.heap.size ≤ p := H.new (p, o) (.tail _ (.head _))
theorem Home.set1 {w0 W : World} {bs : List (Nat × Obj)} {rs : List RowF} {x0 : Nat × Obj} {p j : Nat} {o o' : Obj} {x : Value} (H : Home w0 (x0 :: (p, o) :: bs) rs W) (ho : (W.setCell ⟨p, j, none⟩ x).heap[p]? = some o') : Home w0 (x0 :: (p, o') :: bs) rs (W.setCell ⟨p, j, none⟩ x) := Home.set (pre := [x0]) H ho
theorem Home.s210 {w0 W : World} {bs : List (Nat × Obj)} {rs : List RowF} {x0 : Nat × Obj} {p : Nat} {u v : Value} {t : TypeId} (H : Home w0 (x0 :: (p, .cells #[u, v] t) :: bs) rs W) (y : Value) : Home w0 (x0 :: (p, .cells #[y, v] t) :: bs) rs (W.setCell ⟨p, 0, none⟩ y) := H.set1 (by simp [World.setCell, Array.getElem?_modify, H.b1])
theorem Home.s211 {w0 W : World} {bs : List (Nat × Obj)} {rs : List RowF} {x0 : Nat × Obj} {p : Nat} {u v : Value} {t : TypeId} (H : Home w0 (x0 :: (p, .cells #[u, v] t) :: bs) rs W) (y : Value) : Home w0 (x0 :: (p, .cells #[u, y] t) :: bs) rs (W.setCell ⟨p, 1, none⟩ y) := H.set1 (by simp [World.setCell, Array.getElem?_modify, H.b1])
theorem Home.s310 {w0 W : World} {bs : List (Nat × Obj)} {rs : List RowF} {x0 : Nat × Obj} {p : Nat} {u v x : Value} {t : TypeId} (H : Home w0 (x0 :: (p, .cells #[u, v, x] t) :: bs) rs W) (y : Value) : Home w0 (x0 :: (p, .cells #[y, v, x] t) :: bs) rs (W.setCell ⟨p, 0, none⟩ y) := H.set1 (by simp [World.setCell, Array.getElem?_modify, H.b1])
theorem Home.s311 {w0 W : World} {bs : List (Nat × Obj)} {rs : List RowF} {x0 : Nat × Obj} {p : Nat} {u v x : Value} {t : TypeId} (H : Home w0 (x0 :: (p, .cells #[u, v, x] t) :: bs) rs W) (y : Value) : Home w0 (x0 :: (p, .cells #[u, y, x] t) :: bs) rs (W.setCell ⟨p, 1, none⟩ y) := H.set1 (by simp [World.setCell, Array.getElem?_modify, H.b1])
theorem Home.s312 {w0 W : World} {bs : List (Nat × Obj)} {rs : List RowF} {x0 : Nat × Obj} {p : Nat} {u v x : Value} {t : TypeId} (H : Home w0 (x0 :: (p, .cells #[u, v, x] t) :: bs) rs W) (y : Value) : Home w0 (x0 :: (p, .cells #[u, v, y] t) :: bs) rs (W.setCell ⟨p, 2, none⟩ y) := H.set1 (by simp [World.setCell, Array.getElem?_modify, H.b1])
theorem Home.dropb1 {w0 W : World} {bs : List (Nat × Obj)} {rs : List RowF} {x0 : Nat × Obj} {p : Nat × Obj} (H : Home w0 (x0 :: p :: bs) rs W) : Home w0 (x0 :: bs) rs W := H.sub (.cons_cons _ (.cons _ (List.Sublist.refl _))) (List.Sublist.refl _)
theorem Home.b2 {w0 W : World} {bs : List (Nat × Obj)} {rs : List RowF} {x0 x1 : Nat × Obj} {p : Nat} {o : Obj} (H : Home w0 (x0 :: x1 :: (p, o) :: bs) rs W) : W.heap[p]? = some o := H.box (p, o) (.tail _ (.tail _ (.head _)))
theorem Home.p2 {w0 W : World} {bs : List (Nat × Obj)} {rs : List RowF} {x0 x1 : Nat × Obj} {p : Nat} {o : Obj} (H : Home w0 (x0 :: x1 :: (p, o) :: bs) rs W) : w0.heap.size ≤ p := H.new (p, o) (.tail _ (.tail _ (.head _)))
theorem Home.set2 {w0 W : World} {bs : List (Nat × Obj)} {rs : List RowF} {x0 x1 : Nat × Obj} {p j : Nat} {o o' : Obj} {x : Value} (H : Home w0 (x0 :: x1 :: (p, o) :: bs) rs W) (ho : (W.setCell ⟨p, j, none⟩ x).heap[p]? = some o') : Home w0 (x0 :: x1 :: (p, o') :: bs) rs (W.setCell ⟨p, j, none⟩ x) := Home.set (pre := [x0, x1]) H ho
theorem Home.s220 {w0 W : World} {bs : List (Nat × Obj)} {rs : List RowF} {x0 x1 : Nat × Obj} {p : Nat} {u v : Value} {t : TypeId} (H : Home w0 (x0 :: x1 :: (p, .cells #[u, v] t) :: bs) rs W) (y : Value) : Home w0 (x0 :: x1 :: (p, .cells #[y, v] t) :: bs) rs (W.setCell ⟨p, 0, none⟩ y) := H.set2 (by simp [World.setCell, Array.getElem?_modify, H.b2])
theorem Home.s221 {w0 W : World} {bs : List (Nat × Obj)} {rs : List RowF} {x0 x1 : Nat × Obj} {p : Nat} {u v : Value} {t : TypeId} (H : Home w0 (x0 :: x1 :: (p, .cells #[u, v] t) :: bs) rs W) (y : Value) : Home w0 (x0 :: x1 :: (p, .cells #[u, y] t) :: bs) rs (W.setCell ⟨p, 1, none⟩ y) := H.set2 (by simp [World.setCell, Array.getElem?_modify, H.b2])
theorem Home.s320 {w0 W : World} {bs : List (Nat × Obj)} {rs : List RowF} {x0 x1 : Nat × Obj} {p : Nat} {u v x : Value} {t : TypeId} (H : Home w0 (x0 :: x1 :: (p, .cells #[u, v, x] t) :: bs) rs W) (y : Value) : Home w0 (x0 :: x1 :: (p, .cells #[y, v, x] t) :: bs) rs (W.setCell ⟨p, 0, none⟩ y) := H.set2 (by simp [World.setCell, Array.getElem?_modify, H.b2])
theorem Home.s321 {w0 W : World} {bs : List (Nat × Obj)} {rs : List RowF} {x0 x1 : Nat × Obj} {p : Nat} {u v x : Value} {t : TypeId} (H : Home w0 (x0 :: x1 :: (p, .cells #[u, v, x] t) :: bs) rs W) (y : Value) : Home w0 (x0 :: x1 :: (p, .cells #[u, y, x] t) :: bs) rs (W.setCell ⟨p, 1, none⟩ y) := H.set2 (by simp [World.setCell, Array.getElem?_modify, H.b2])
theorem Home.s322 {w0 W : World} {bs : List (Nat × Obj)} {rs : List RowF} {x0 x1 : Nat × Obj} {p : Nat} {u v x : Value} {t : TypeId} (H : Home w0 (x0 :: x1 :: (p, .cells #[u, v, x] t) :: bs) rs W) (y : Value) : Home w0 (x0 :: x1 :: (p, .cells #[u, v, y] t) :: bs) rs (W.setCell ⟨p, 2, none⟩ y) := H.set2 (by simp [World.setCell, Array.getElem?_modify, H.b2])
theorem Home.dropb2 {w0 W : World} {bs : List (Nat × Obj)} {rs : List RowF} {x0 x1 : Nat × Obj} {p : Nat × Obj} (H : Home w0 (x0 :: x1 :: p :: bs) rs W) : Home w0 (x0 :: x1 :: bs) rs W := H.sub (.cons_cons _ (.cons_cons _ (.cons _ (List.Sublist.refl _)))) (List.Sublist.refl _)
theorem Home.b3 {w0 W : World} {bs : List (Nat × Obj)} {rs : List RowF} {x0 x1 x2 : Nat × Obj} {p : Nat} {o : Obj} (H : Home w0 (x0 :: x1 :: x2 :: (p, o) :: bs) rs W) : W.heap[p]? = some o := H.box (p, o) (.tail _ (.tail _ (.tail _ (.head _))))
theorem Home.p3 {w0 W : World} {bs : List (Nat × Obj)} {rs : List RowF} {x0 x1 x2 : Nat × Obj} {p : Nat} {o : Obj} (H : Home w0 (x0 :: x1 :: x2 :: (p, o) :: bs) rs W) : w0.heap.size ≤ p := H.new (p, o) (.tail _ (.tail _ (.tail _ (.head _))))
theorem Home.set3 {w0 W : World} {bs : List (Nat × Obj)} {rs : List RowF} {x0 x1 x2 : Nat × Obj} {p j : Nat} {o o' : Obj} {x : Value} (H : Home w0 (x0 :: x1 :: x2 :: (p, o) :: bs) rs W) (ho : (W.setCell ⟨p, j, none⟩ x).heap[p]? = some o') : Home w0 (x0 :: x1 :: x2 :: (p, o') :: bs) rs (W.setCell ⟨p, j, none⟩ x) := Home.set (pre := [x0, x1, x2]) H ho
theorem Home.s230 {w0 W : World} {bs : List (Nat × Obj)} {rs : List RowF} {x0 x1 x2 : Nat × Obj} {p : Nat} {u v : Value} {t : TypeId} (H : Home w0 (x0 :: x1 :: x2 :: (p, .cells #[u, v] t) :: bs) rs W) (y : Value) : Home w0 (x0 :: x1 :: x2 :: (p, .cells #[y, v] t) :: bs) rs (W.setCell ⟨p, 0, none⟩ y) := H.set3 (by simp [World.setCell, Array.getElem?_modify, H.b3])
theorem Home.s231 {w0 W : World} {bs : List (Nat × Obj)} {rs : List RowF} {x0 x1 x2 : Nat × Obj} {p : Nat} {u v : Value} {t : TypeId} (H : Home w0 (x0 :: x1 :: x2 :: (p, .cells #[u, v] t) :: bs) rs W) (y : Value) : Home w0 (x0 :: x1 :: x2 :: (p, .cells #[u, y] t) :: bs) rs (W.setCell ⟨p, 1, none⟩ y) := H.set3 (by simp [World.setCell, Array.getElem?_modify, H.b3])
theorem Home.s330 {w0 W : World} {bs : List (Nat × Obj)} {rs : List RowF} {x0 x1 x2 : Nat × Obj} {p : Nat} {u v x : Value} {t : TypeId} (H : Home w0 (x0 :: x1 :: x2 :: (p, .cells #[u, v, x] t) :: bs) rs W) (y : Value) : Home w0 (x0 :: x1 :: x2 :: (p, .cells #[y, v, x] t) :: bs) rs (W.setCell ⟨p, 0, none⟩ y) := H.set3 (by simp [World.setCell, Array.getElem?_modify, H.b3])
theorem Home.s331 {w0 W : World} {bs : List (Nat × Obj)} {rs : List RowF} {x0 x1 x2 : Nat × Obj} {p : Nat} {u v x : Value} {t : TypeId} (H : Home w0 (x0 :: x1 :: x2 :: (p, .cells #[u, v, x] t) :: bs) rs W) (y : Value) : Home w0 (x0 :: x1 :: x2 :: (p, .cells #[u, y, x] t) :: bs) rs (W.setCell ⟨p, 1, none⟩ y) := H.set3 (by simp [World.setCell, Array.getElem?_modify, H.b3])
theorem Home.s332 {w0 W : World} {bs : List (Nat × Obj)} {rs : List RowF} {x0 x1 x2 : Nat × Obj} {p : Nat} {u v x : Value} {t : TypeId} (H : Home w0 (x0 :: x1 :: x2 :: (p, .cells #[u, v, x] t) :: bs) rs W) (y : Value) : Home w0 (x0 :: x1 :: x2 :: (p, .cells #[u, v, y] t) :: bs) rs (W.setCell ⟨p, 2, none⟩ y) := H.set3 (by simp [World.setCell, Array.getElem?_modify, H.b3])
theorem Home.dropb3 {w0 W : World} {bs : List (Nat × Obj)} {rs : List RowF} {x0 x1 x2 : Nat × Obj} {p : Nat × Obj} (H : Home w0 (x0 :: x1 :: x2 :: p :: bs) rs W) : Home w0 (x0 :: x1 :: x2 :: bs) rs W := H.sub (.cons_cons _ (.cons_cons _ (.cons_cons _ (.cons _ (List.Sublist.refl _))))) (List.Sublist.refl _)
theorem Home.b4 {w0 W : World} {bs : List (Nat × Obj)} {rs : List RowF} {x0 x1 x2 x3 : Nat × Obj} {p : Nat} {o : Obj} (H : Home w0 (x0 :: x1 :: x2 :: x3 :: (p, o) :: bs) rs W) : W.heap[p]? = some o := H.box (p, o) (.tail _ (.tail _ (.tail _ (.tail _ (.head _)))))
theorem Home.p4 {w0 W : World} {bs : List (Nat × Obj)} {rs : List RowF} {x0 x1 x2 x3 : Nat × Obj} {p : Nat} {o : Obj} (H : Home w0 (x0 :: x1 :: x2 :: x3 :: (p, o) :: bs) rs W) : w0.heap.size ≤ p := H.new (p, o) (.tail _ (.tail _ (.tail _ (.tail _ (.head _)))))
theorem Home.set4 {w0 W : World} {bs : List (Nat × Obj)} {rs : List RowF} {x0 x1 x2 x3 : Nat × Obj} {p j : Nat} {o o' : Obj} {x : Value} (H : Home w0 (x0 :: x1 :: x2 :: x3 :: (p, o) :: bs) rs W) (ho : (W.setCell ⟨p, j, none⟩ x).heap[p]? = some o') : Home w0 (x0 :: x1 :: x2 :: x3 :: (p, o') :: bs) rs (W.setCell ⟨p, j, none⟩ x) := Home.set (pre := [x0, x1, x2, x3]) H ho
theorem Home.s240 {w0 W : World} {bs : List (Nat × Obj)} {rs : List RowF} {x0 x1 x2 x3 : Nat × Obj} {p : Nat} {u v : Value} {t : TypeId} (H : Home w0 (x0 :: x1 :: x2 :: x3 :: (p, .cells #[u, v] t) :: bs) rs W) (y : Value) : Home w0 (x0 :: x1 :: x2 :: x3 :: (p, .cells #[y, v] t) :: bs) rs (W.setCell ⟨p, 0, none⟩ y) := H.set4 (by simp [World.setCell, Array.getElem?_modify, H.b4])
theorem Home.s241 {w0 W : World} {bs : List (Nat × Obj)} {rs : List RowF} {x0 x1 x2 x3 : Nat × Obj} {p : Nat} {u v : Value} {t : TypeId} (H : Home w0 (x0 :: x1 :: x2 :: x3 :: (p, .cells #[u, v] t) :: bs) rs W) (y : Value) : Home w0 (x0 :: x1 :: x2 :: x3 :: (p, .cells #[u, y] t) :: bs) rs (W.setCell ⟨p, 1, none⟩ y) := H.set4 (by simp [World.setCell, Array.getElem?_modify, H.b4])
theorem Home.s340 {w0 W : World} {bs : List (Nat × Obj)} {rs : List RowF} {x0 x1 x2 x3 : Nat × Obj} {p : Nat} {u v x : Value} {t : TypeId} (H : Home w0 (x0 :: x1 :: x2 :: x3 :: (p, .cells #[u, v, x] t) :: bs) rs W) (y : Value) : Home w0 (x0 :: x1 :: x2 :: x3 :: (p, .cells #[y, v, x] t) :: bs) rs (W.setCell ⟨p, 0, none⟩ y) := H.set4 (by simp [World.setCell, Array.getElem?_modify, H.b4])
theorem Home.s341 {w0 W : World} {bs : List (Nat × Obj)} {rs : List RowF} {x0 x1 x2 x3 : Nat × Obj} {p : Nat} {u v x : Value} {t : TypeId} (H : Home w0 (x0 :: x1 :: x2 :: x3 :: (p, .cells #[u, v, x] t) :: bs) rs W) (y : Value) : Home w0 (x0 :: x1 :: x2 :: x3 :: (p, .cells #[u, y, x] t) :: bs) rs (W.setCell ⟨p, 1, none⟩ y) := H.set4 (by simp [World.setCell, Array.getElem?_modify, H.b4])
theorem Home.s342 {w0 W : World} {bs : List (Nat × Obj)} {rs : List RowF} {x0 x1 x2 x3 : Nat × Obj} {p : Nat} {u v x : Value} {t : TypeId} (H : Home w0 (x0 :: x1 :: x2 :: x3 :: (p, .cells #[u, v, x] t) :: bs) rs W) (y : Value) : Home w0 (x0 :: x1 :: x2 :: x3 :: (p, .cells #[u, v, y] t) :: bs) rs (W.setCell ⟨p, 2, none⟩ y) := H.set4 (by simp [World.setCell, Array.getElem?_modify, H.b4])
theorem Home.dropb4 {w0 W : World} {bs : List (Nat × Obj)} {rs : List RowF} {x0 x1 x2 x3 : Nat × Obj} {p : Nat × Obj} (H : Home w0 (x0 :: x1 :: x2 :: x3 :: p :: bs) rs W) : Home w0 (x0 :: x1 :: x2 :: x3 :: bs) rs W := H.sub (.cons_cons _ (.cons_cons _ (.cons_cons _ (.cons_cons _ (.cons _ (List.Sublist.refl _)))))) (List.Sublist.refl _)
theorem Home.b5 {w0 W : World} {bs : List (Nat × Obj)} {rs : List RowF} {x0 x1 x2 x3 x4 : Nat × Obj} {p : Nat} {o : Obj} (H : Home w0 (x0 :: x1 :: x2 :: x3 :: x4 :: (p, o) :: bs) rs W) : W.heap[p]? = some o := H.box (p, o) (.tail _ (.tail _ (.tail _ (.tail _ (.tail _ (.head _))))))
theorem Home.p5 {w0 W : World} {bs : List (Nat × Obj)} {rs : List RowF} {x0 x1 x2 x3 x4 : Nat × Obj} {p : Nat} {o : Obj} (H : Home w0 (x0 :: x1 :: x2 :: x3 :: x4 :: (p, o) :: bs) rs W) : w0.heap.size ≤ p := H.new (p, o) (.tail _ (.tail _ (.tail _ (.tail _ (.tail _ (.head _))))))
theorem Home.set5 {w0 W : World} {bs : List (Nat × Obj)} {rs : List RowF} {x0 x1 x2 x3 x4 : Nat × Obj} {p j : Nat} {o o' : Obj} {x : Value} (H : Home w0 (x0 :: x1 :: x2 :: x3 :: x4 :: (p, o) :: bs) rs W) (ho : (W.setCell ⟨p, j, none⟩ x).heap[p]? = some o') : Home w0 (x0 :: x1 :: x2 :: x3 :: x4 :: (p, o') :: bs) rs (W.setCell ⟨p, j, none⟩ x) := Home.set (pre := [x0, x1, x2, x3, x4]) H ho
theorem Home.s250 {w0 W : World} {bs : List (Nat × Obj)} {rs : List RowF} {x0 x1 x2 x3 x4 : Nat × Obj} {p : Nat} {u v : Value} {t : TypeId} (H : Home w0 (x0 :: x1 :: x2 :: x3 :: x4 :: (p, .cells #[u, v] t) :: bs) rs W) (y : Value) : Home w0 (x0 :: x1 :: x2 :: x3 :: x4 :: (p, .cells #[y, v] t) :: bs) rs (W.setCell ⟨p, 0, none⟩ y) := H.set5 (by simp [World.setCell, Array.getElem?_modify, H.b5])
theorem Home.s251 {w0 W : World} {bs : List (Nat × Obj)} {rs : List RowF} {x0 x1 x2 x3 x4 : Nat × Obj} {p : Nat} {u v : Value} {t : TypeId} (H : Home w0 (x0 :: x1 :: x2 :: x3 :: x4 :: (p, .cells #[u, v] t) :: bs) rs W) (y : Value) : Home w0 (x0 :: x1 :: x2 :: x3 :: x4 :: (p, .cells #[u, y] t) :: bs) rs (W.setCell ⟨p, 1, none⟩ y) := H.set5 (by simp [World.setCell, Array.getElem?_modify, H.b5])
theorem Home.s350 {w0 W : World} {bs : List (Nat × Obj)} {rs : List RowF} {x0 x1 x2 x3 x4 : Nat × Obj} {p : Nat} {u v x : Value} {t : TypeId} (H : Home w0 (x0 :: x1 :: x2 :: x3 :: x4 :: (p, .cells #[u, v, x] t) :: bs) rs W) (y : Value) : Home w0 (x0 :: x1 :: x2 :: x3 :: x4 :: (p, .cells #[y, v, x] t) :: bs) rs (W.setCell ⟨p, 0, none⟩ y) := H.set5 (by simp [World.setCell, Array.getElem?_modify, H.b5])
theorem Home.s351 {w0 W : World} {bs : List (Nat × Obj)} {rs : List RowF} {x0 x1 x2 x3 x4 : Nat × Obj} {p : Nat} {u v x : Value} {t : TypeId} (H : Home w0 (x0 :: x1 :: x2 :: x3 :: x4 :: (p, .cells #[u, v, x] t) :: bs) rs W) (y : Value) : Home w0 (x0 :: x1 :: x2 :: x3 :: x4 :: (p, .cells #[u, y, x] t) :: bs) rs (W.setCell ⟨p, 1, none⟩ y) := H.set5 (by simp [World.setCell, Array.getElem?_modify, H.b5])
theorem Home.s352 {w0 W : World} {bs : List (Nat × Obj)} {rs : List RowF} {x0 x1 x2 x3 x4 : Nat × Obj} {p : Nat} {u v x : Value} {t : TypeId} (H : Home w0 (x0 :: x1 :: x2 :: x3 :: x4 :: (p, .cells #[u, v, x] t) :: bs) rs W) (y : Value) : Home w0 (x0 :: x1 :: x2 :: x3 :: x4 :: (p, .cells #[u, v, y] t) :: bs) rs (W.setCell ⟨p, 2, none⟩ y) := H.set5 (by simp [World.setCell, Array.getElem?_modify, H.b5])
theorem Home.dropb5 {w0 W : World} {bs : List (Nat × Obj)} {rs : List RowF} {x0 x1 x2 x3 x4 : Nat × Obj} {p : Nat × Obj} (H : Home w0 (x0 :: x1 :: x2 :: x3 :: x4 :: p :: bs) rs W) : Home w0 (x0 :: x1 :: x2 :: x3 :: x4 :: bs) rs W := H.sub (.cons_cons _ (.cons_cons _ (.cons_cons _ (.cons_cons _ (.cons_cons _ (.cons _ (List.Sublist.refl _))))))) (List.Sublist.refl _)
theorem Home.b6 {w0 W : World} {bs : List (Nat × Obj)} {rs : List RowF} {x0 x1 x2 x3 x4 x5 : Nat × Obj} {p : Nat} {o : Obj} (H : Home w0 (x0 :: x1 :: x2 :: x3 :: x4 :: x5 :: (p, o) :: bs) rs W) : W.heap[p]? = some o := H.box (p, o) (.tail _ (.tail _ (.tail _ (.tail _ (.tail _ (.tail _ (.head _)))))))
theorem Home.p6 {w0 W : World} {bs : List (Nat × Obj)} {rs : List RowF} {x0 x1 x2 x3 x4 x5 : Nat × Obj} {p : Nat} {o : Obj} (H : Home w0 (x0 :: x1 :: x2 :: x3 :: x4 :: x5 :: (p, o) :: bs) rs W) : w0.heap.size ≤ p := H.new (p, o) (.tail _ (.tail _ (.tail _ (.tail _ (.tail _ (.tail _ (.head _)))))))
theorem Home.set6 {w0 W : World} {bs : List (Nat × Obj)} {rs : List RowF} {x0 x1 x2 x3 x4 x5 : Nat × Obj} {p j : Nat} {o o' : Obj} {x : Value} (H : Home w0 (x0 :: x1 :: x2 :: x3 :: x4 :: x5 :: (p, o) :: bs) rs W) (ho : (W.setCell ⟨p, j, none⟩ x).heap[p]? = some o') : Home w0 (x0 :: x1 :: x2 :: x3 :: x4 :: x5 :: (p, o') :: bs) rs (W.setCell ⟨p, j, none⟩ x) := Home.set (pre := [x0, x1, x2, x3, x4, x5]) H ho
theorem Home.s260 {w0 W : World} {bs : List (Nat × Obj)} {rs : List RowF} {x0 x1 x2 x3 x4 x5 : Nat × Obj} {p : Nat} {u v : Value} {t : TypeId} (H : Home w0 (x0 :: x1 :: x2 :: x3 :: x4 :: x5 :: (p, .cells #[u, v] t) :: bs) rs W) (y : Value) : Home w0 (x0 :: x1 :: x2 :: x3 :: x4 :: x5 :: (p, .cells #[y, v] t) :: bs) rs (W.setCell ⟨p, 0, none⟩ y) := H.set6 (by simp [World.setCell, Array.getElem?_modify, H.b6])
theorem Home.s261 {w0 W : World} {bs : List (Nat × Obj)} {rs : List RowF} {x0 x1 x2 x3 x4 x5 : Nat × Obj} {p : Nat} {u v : Value} {t : TypeId} (H : Home w0 (x0 :: x1 :: x2 :: x3 :: x4 :: x5 :: (p, .cells #[u, v] t) :: bs) rs W) (y : Value) : Home w0 (x0 :: x1 :: x2 :: x3 :: x4 :: x5 :: (p, .cells #[u, y] t) :: bs) rs (W.setCell ⟨p, 1, none⟩ y) := H.set6 (by simp [World.setCell, Array.getElem?_modify, H.b6])
theorem Home.s360 {w0 W : World} {bs : List (Nat × Obj)} {rs : List RowF} {x0 x1 x2 x3 x4 x5 : Nat × Obj} {p : Nat} {u v x : Value} {t : TypeId} (H : Home w0 (x0 :: x1 :: x2 :: x3 :: x4 :: x5 :: (p, .cells #[u, v, x] t) :: bs) rs W) (y : Value) : Home w0 (x0 :: x1 :: x2 :: x3 :: x4 :: x5 :: (p, .cells #[y, v, x] t) :: bs) rs (W.setCell ⟨p, 0, none⟩ y) := H.set6 (by simp [World.setCell, Array.getElem?_modify, H.b6])
theorem Home.s361 {w0 W : World} {bs : List (Nat × Obj)} {rs : List RowF} {x0 x1 x2 x3 x4 x5 : Nat × Obj} {p : Nat} {u v x : Value} {t : TypeId} (H : Home w0 (x0 :: x1 :: x2 :: x3 :: x4 :: x5 :: (p, .cells #[u, v, x] t) :: bs) rs W) (y : Value) : Home w0 (x0 :: x1 :: x2 :: x3 :: x4 :: x5 :: (p, .cells #[u, y, x] t) :: bs) rs (W.setCell ⟨p, 1, none⟩ y) := H.set6 (by simp [World.setCell, Array.getElem?_modify, H.b6])
theorem Home.s362 {w0 W : World} {bs : List (Nat × Obj)} {rs : List RowF} {x0 x1 x2 x3 x4 x5 : Nat × Obj} {p : Nat} {u v x : Value} {t : TypeId} (H : Home w0 (x0 :: x1 :: x2 :: x3 :: x4 :: x5 :: (p, .cells #[u, v, x] t) :: bs) rs W) (y : Value) : Home w0 (x0 :: x1 :: x2 :: x3 :: x4 :: x5 :: (p, .cells #[u, v, y] t) :: bs) rs (W.setCell ⟨p, 2, none⟩ y) := H.set6 (by simp [World.setCell, Array.getElem?_modify, H.b6])
theorem Home.dropb6 {w0 W : World} {bs : List (Nat × Obj)} {rs : List RowF} {x0 x1 x2 x3 x4 x5 : Nat × Obj} {p : Nat × Obj} (H : Home w0 (x0 :: x1 :: x2 :: x3 :: x4 :: x5 :: p :: bs) rs W) : Home w0 (x0 :: x1 :: x2 :: x3 :: x4 :: x5 :: bs) rs W := H.sub (.cons_cons _ (.cons_cons _ (.cons_cons _ (.cons_cons _ (.cons_cons _ (.cons_cons _ (.cons _ (List.Sublist.refl _)))))))) (List.Sublist.refl _)
theorem Home.b7 {w0 W : World} {bs : List (Nat × Obj)} {rs : List RowF} {x0 x1 x2 x3 x4 x5 x6 : Nat × Obj} {p : Nat} {o : Obj} (H : Home w0 (x0 :: x1 :: x2 :: x3 :: x4 :: x5 :: x6 :: (p, o) :: bs) rs W) : W.heap[p]? = some o := H.box (p, o) (.tail _ (.tail _ (.tail _ (.tail _ (.tail _ (.tail _ (.tail _ (.head _))))))))
theorem Home.p7 {w0 W : World} {bs : List (Nat × Obj)} {rs : List RowF} {x0 x1 x2 x3 x4 x5 x6 : Nat × Obj} {p : Nat} {o : Obj} (H : Home w0 (x0 :: x1 :: x2 :: x3 :: x4 :: x5 :: x6 :: (p, o) :: bs) rs W) : w0.heap.size ≤ p := H.new (p, o) (.tail _ (.tail _ (.tail _ (.tail _ (.tail _ (.tail _ (.tail _ (.head _))))))))
theorem Home.set7 {w0 W : World} {bs : List (Nat × Obj)} {rs : List RowF} {x0 x1 x2 x3 x4 x5 x6 : Nat × Obj} {p j : Nat} {o o' : Obj} {x : Value} (H : Home w0 (x0 :: x1 :: x2 :: x3 :: x4 :: x5 :: x6 :: (p, o) :: bs) rs W) (ho : (W.setCell ⟨p, j, none⟩ x).heap[p]? = some o') : Home w0 (x0 :: x1 :: x2 :: x3 :: x4 :: x5 :: x6 :: (p, o') :: bs) rs (W.setCell ⟨p, j, none⟩ x) := Home.set (pre := [x0, x1, x2, x3, x4, x5, x6]) H ho
theorem Home.s270 {w0 W : World} {bs : List (Nat × Obj)} {rs : List RowF} {x0 x1 x2 x3 x4 x5 x6 : Nat × Obj} {p : Nat} {u v : Value} {t : TypeId} (H : Home w0 (x0 :: x1 :: x2 :: x3 :: x4 :: x5 :: x6 :: (p, .cells #[u, v] t) :: bs) rs W) (y : Value) : Home w0 (x0 :: x1 :: x2 :: x3 :: x4 :: x5 :: x6 :: (p, .cells #[y, v] t) :: bs) rs (W.setCell ⟨p, 0, none⟩ y) := H.set7 (by simp [World.setCell, Array.getElem?_modify, H.b7])
theorem Home.s271 {w0 W : World} {bs : List (Nat × Obj)} {rs : List RowF} {x0 x1 x2 x3 x4 x5 x6 : Nat × Obj} {p : Nat} {u v : Value} {t : TypeId} (H : Home w0 (x0 :: x1 :: x2 :: x3 :: x4 :: x5 :: x6 :: (p, .cells #[u, v] t) :: bs) rs W) (y : Value) : Home w0 (x0 :: x1 :: x2 :: x3 :: x4 :: x5 :: x6 :: (p, .cells #[u, y] t) :: bs) rs (W.setCell ⟨p, 1, none⟩ y) := H.set7 (by simp [World.setCell, Array.getElem?_modify, H.b7])
theorem Home.s370 {w0 W : World} {bs : List (Nat × Obj)} {rs : List RowF} {x0 x1 x2 x3 x4 x5 x6 : Nat × Obj} {p : Nat} {u v x : Value} {t : TypeId} (H : Home w0 (x0 :: x1 :: x2 :: x3 :: x4 :: x5 :: x6 :: (p, .cells #[u, v, x] t) :: bs) rs W) (y : Value) : Home w0 (x0 :: x1 :: x2 :: x3 :: x4 :: x5 :: x6 :: (p, .cells #[y, v, x] t) :: bs) rs (W.setCell ⟨p, 0, none⟩ y) := H.set7 (by simp [World.setCell, Array.getElem?_modify, H.b7])
theorem Home.s371 {w0 W : World} {bs : List (Nat × Obj)} {rs : List RowF} {x0 x1 x2 x3 x4 x5 x6 : Nat × Obj} {p : Nat} {u v x : Value} {t : TypeId} (H : Home w0 (x0 :: x1 :: x2 :: x3 :: x4 :: x5 :: x6 :: (p, .cells #[u, v, x] t) :: bs) rs W) (y : Value) : Home w0 (x0 :: x1 :: x2 :: x3 :: x4 :: x5 :: x6 :: (p, .cells #[u, y, x] t) :: bs) rs (W.setCell ⟨p, 1, none⟩ y) := H.set7 (by simp [World.setCell, Array.getElem?_modify, H.b7])
theorem Home.s372 {w0 W : World} {bs : List (Nat × Obj)} {rs : List RowF} {x0 x1 x2 x3 x4 x5 x6 : Nat × Obj} {p : Nat} {u v x : Value} {t : TypeId} (H : Home w0 (x0 :: x1 :: x2 :: x3 :: x4 :: x5 :: x6 :: (p, .cells #[u, v, x] t) :: bs) rs W) (y : Value) : Home w0 (x0 :: x1 :: x2 :: x3 :: x4 :: x5 :: x6 :: (p, .cells #[u, v, y] t) :: bs) rs (W.setCell ⟨p, 2, none⟩ y) := H.set7 (by simp [World.setCell, Array.getElem?_modify, H.b7])
theorem Home.dropb7 {w0 W : World} {bs : List (Nat × Obj)} {rs : List RowF} {x0 x1 x2 x3 x4 x5 x6 : Nat × Obj} {p : Nat × Obj} (H : Home w0 (x0 :: x1 :: x2 :: x3 :: x4 :: x5 :: x6 :: p :: bs) rs W) : Home w0 (x0 :: x1 :: x2 :: x3 :: x4 :: x5 :: x6 :: bs) rs W := H.sub (.cons_cons _ (.cons_cons _ (.cons_cons _ (.cons_cons _ (.cons_cons _ (.cons_cons _ (.cons_cons _ (.cons _ (List.Sublist.refl _))))))))) (List.Sublist.refl _)
theorem Home.r0 {w0 W : World} {bs : List (Nat × Obj)} {rs : List RowF} {r : RowF} (H : Home w0 bs (r :: rs) W) : r.on W := H.row r (.head _)
theorem Home.turn0 {w0 W W' : World} {bs : List (Nat × Obj)} {rs : List RowF} {r r' : RowF} (H : Home w0 bs (r :: rs) W) (hg : W.grownBy W' r.v.ownBlock) (h : r'.on W') (hB : r'.B = r.B) (hd : r'.v.ownBlock = r.v.ownBlock ∨ ((∀ s, s ∈ rs → s.t ≠ r'.t) ∧ ∀ p, p ∈ bs → objType p.2 ≠ some r'.t)) : Home w0 bs (r' :: rs) W' := Home.turn (pre := []) H hg h hB hd
theorem Home.dropr0 {w0 W : World} {bs : List (Nat × Obj)} {rs : List RowF} {r : RowF} (H : Home w0 bs (r :: rs) W) : Home w0 bs (rs) W := H.sub (List.Sublist.refl _) (.cons _ (List.Sublist.refl _))
theorem Home.r1 {w0 W : World} {bs : List (Nat × Obj)} {rs : List RowF} {x0 : RowF} {r : RowF} (H : Home w0 bs (x0 :: r :: rs) W) : r.on W := H.row r (.tail _ (.head _))
theorem Home.turn1 {w0 W W' : World} {bs : List (Nat × Obj)} {rs : List RowF} {x0 : RowF} {r r' : RowF} (H : Home w0 bs (x0 :: r :: rs) W) (hg : W.grownBy W' r.v.ownBlock) (h : r'.on W') (hB : r'.B = r.B) (hd : r'.v.ownBlock = r.v.ownBlock ∨ ((∀ s, s ∈ x0 :: rs → s.t ≠ r'.t) ∧ ∀ p, p ∈ bs → objType p.2 ≠ some r'.t)) : Home w0 bs (x0 :: r' :: rs) W' := Home.turn (pre := [x0]) H hg h hB hd
theorem Home.dropr1 {w0 W : World} {bs : List (Nat × Obj)} {rs : List RowF} {x0 : RowF} {r : RowF} (H : Home w0 bs (x0 :: r :: rs) W) : Home w0 bs (x0 :: rs) W := H.sub (List.Sublist.refl _) (.cons_cons _ (.cons _ (List.Sublist.refl _)))
theorem Home.r2 {w0 W : World} {bs : List (Nat × Obj)} {rs : List RowF} {x0 x1 : RowF} {r : RowF} (H : Home w0 bs (x0 :: x1 :: r :: rs) W) : r.on W := H.row r (.tail _ (.tail _ (.head _)))
theorem Home.turn2 {w0 W W' : World} {bs : List (Nat × Obj)} {rs : List RowF} {x0 x1 : RowF} {r r' : RowF} (H : Home w0 bs (x0 :: x1 :: r :: rs) W) (hg : W.grownBy W' r.v.ownBlock) (h : r'.on W') (hB : r'.B = r.B) (hd : r'.v.ownBlock = r.v.ownBlock ∨ ((∀ s, s ∈ x0 :: x1 :: rs → s.t ≠ r'.t) ∧ ∀ p, p ∈ bs → objType p.2 ≠ some r'.t)) : Home w0 bs (x0 :: x1 :: r' :: rs) W' := Home.turn (pre := [x0, x1]) H hg h hB hd
theorem Home.dropr2 {w0 W : World} {bs : List (Nat × Obj)} {rs : List RowF} {x0 x1 : RowF} {r : RowF} (H : Home w0 bs (x0 :: x1 :: r :: rs) W) : Home w0 bs (x0 :: x1 :: rs) W := H.sub (List.Sublist.refl _) (.cons_cons _ (.cons_cons _ (.cons _ (List.Sublist.refl _))))
theorem Home.r3 {w0 W : World} {bs : List (Nat × Obj)} {rs : List RowF} {x0 x1 x2 : RowF} {r : RowF} (H : Home w0 bs (x0 :: x1 :: x2 :: r :: rs) W) : r.on W := H.row r (.tail _ (.tail _ (.tail _ (.head _))))
theorem Home.turn3 {w0 W W' : World} {bs : List (Nat × Obj)} {rs : List RowF} {x0 x1 x2 : RowF} {r r' : RowF} (H : Home w0 bs (x0 :: x1 :: x2 :: r :: rs) W) (hg : W.grownBy W' r.v.ownBlock) (h : r'.on W') (hB : r'.B = r.B) (hd : r'.v.ownBlock = r.v.ownBlock ∨ ((∀ s, s ∈ x0 :: x1 :: x2 :: rs → s.t ≠ r'.t) ∧ ∀ p, p ∈ bs → objType p.2 ≠ some r'.t)) : Home w0 bs (x0 :: x1 :: x2 :: r' :: rs) W' := Home.turn (pre := [x0, x1, x2]) H hg h hB hd
theorem Home.dropr3 {w0 W : World} {bs : List (Nat × Obj)} {rs : List RowF} {x0 x1 x2 : RowF} {r : RowF} (H : Home w0 bs (x0 :: x1 :: x2 :: r :: rs) W) : Home w0 bs (x0 :: x1 :: x2 :: rs) W := H.sub (List.Sublist.refl _) (.cons_cons _ (.cons_cons _ (.cons_cons _ (.cons _ (List.Sublist.refl _)))))
theorem Home.r4 {w0 W : World} {bs : List (Nat × Obj)} {rs : List RowF} {x0 x1 x2 x3 : RowF} {r : RowF} (H : Home w0 bs (x0 :: x1 :: x2 :: x3 :: r :: rs) W) : r.on W := H.row r (.tail _ (.tail _ (.tail _ (.tail _ (.head _)))))
theorem Home.turn4 {w0 W W' : World} {bs : List (Nat × Obj)} {rs : List RowF} {x0 x1 x2 x3 : RowF} {r r' : RowF} (H : Home w0 bs (x0 :: x1 :: x2 :: x3 :: r :: rs) W) (hg : W.grownBy W' r.v.ownBlock) (h : r'.on W') (hB : r'.B = r.B) (hd : r'.v.ownBlock = r.v.ownBlock ∨ ((∀ s, s ∈ x0 :: x1 :: x2 :: x3 :: rs → s.t ≠ r'.t) ∧ ∀ p, p ∈ bs → objType p.2 ≠ some r'.t)) : Home w0 bs (x0 :: x1 :: x2 :: x3 :: r' :: rs) W' := Home.turn (pre := [x0, x1, x2, x3]) H hg h hB hd
theorem Home.dropr4 {w0 W : World} {bs : List (Nat × Obj)} {rs : List RowF} {x0 x1 x2 x3 : RowF} {r : RowF} (H : Home w0 bs (x0 :: x1 :: x2 :: x3 :: r :: rs) W) : Home w0 bs (x0 :: x1 :: x2 :: x3 :: rs) W := H.sub (List.Sublist.refl _) (.cons_cons _ (.cons_cons _ (.cons_cons _ (.cons_cons _ (.cons _ (List.Sublist.refl _))))))
theorem Home.r5 {w0 W : World} {bs : List (Nat × Obj)} {rs : List RowF} {x0 x1 x2 x3 x4 : RowF} {r : RowF} (H : Home w0 bs (x0 :: x1 :: x2 :: x3 :: x4 :: r :: rs) W) : r.on W := H.row r (.tail _ (.tail _ (.tail _ (.tail _ (.tail _ (.head _))))))
theorem Home.turn5 {w0 W W' : World} {bs : List (Nat × Obj)} {rs : List RowF} {x0 x1 x2 x3 x4 : RowF} {r r' : RowF} (H : Home w0 bs (x0 :: x1 :: x2 :: x3 :: x4 :: r :: rs) W) (hg : W.grownBy W' r.v.ownBlock) (h : r'.on W') (hB : r'.B = r.B) (hd : r'.v.ownBlock = r.v.ownBlock ∨ ((∀ s, s ∈ x0 :: x1 :: x2 :: x3 :: x4 :: rs → s.t ≠ r'.t) ∧ ∀ p, p ∈ bs → objType p.2 ≠ some r'.t)) : Home w0 bs (x0 :: x1 :: x2 :: x3 :: x4 :: r' :: rs) W' := Home.turn (pre := [x0, x1, x2, x3, x4]) H hg h hB hd
theorem Home.dropr5 {w0 W : World} {bs : List (Nat × Obj)} {rs : List RowF} {x0 x1 x2 x3 x4 : RowF} {r : RowF} (H : Home w0 bs (x0 :: x1 :: x2 :: x3 :: x4 :: r :: rs) W) : Home w0 bs (x0 :: x1 :: x2 :: x3 :: x4 :: rs) W := H.sub (List.Sublist.refl _) (.cons_cons _ (.cons_cons _ (.cons_cons _ (.cons_cons _ (.cons_cons _ (.cons _ (List.Sublist.refl _)))))))
theorem Home.r6 {w0 W : World} {bs : List (Nat × Obj)} {rs : List RowF} {x0 x1 x2 x3 x4 x5 : RowF} {r : RowF} (H : Home w0 bs (x0 :: x1 :: x2 :: x3 :: x4 :: x5 :: r :: rs) W) : r.on W := H.row r (.tail _ (.tail _ (.tail _ (.tail _ (.tail _ (.tail _ (.head _)))))))
theorem Home.turn6 {w0 W W' : World} {bs : List (Nat × Obj)} {rs : List RowF} {x0 x1 x2 x3 x4 x5 : RowF} {r r' : RowF} (H : Home w0 bs (x0 :: x1 :: x2 :: x3 :: x4 :: x5 :: r :: rs) W) (hg : W.grownBy W' r.v.ownBlock) (h : r'.on W') (hB : r'.B = r.B) (hd : r'.v.ownBlock = r.v.ownBlock ∨ ((∀ s, s ∈ x0 :: x1 :: x2 :: x3 :: x4 :: x5 :: rs → s.t ≠ r'.t) ∧ ∀ p, p ∈ bs → objType p.2 ≠ some r'.t)) : Home w0 bs (x0 :: x1 :: x2 :: x3 :: x4 :: x5 :: r' :: rs) W' := Home.turn (pre := [x0, x1, x2, x3, x4, x5]) H hg h hB hd
theorem Home.dropr6 {w0 W : World} {bs : List (Nat × Obj)} {rs : List RowF} {x0 x1 x2 x3 x4 x5 : RowF} {r : RowF} (H : Home w0 bs (x0 :: x1 :: x2 :: x3 :: x4 :: x5 :: r :: rs) W) : Home w0 bs (x0 :: x1 :: x2 :: x3 :: x4 :: x5 :: rs) W := H.sub (List.Sublist.refl _) (.cons_cons _ (.cons_cons _ (.cons_cons _ (.cons_cons _ (.cons_cons _ (.cons_cons _ (.cons _ (List.Sublist.refl _))))))))
end Go.Proofs.Ytgddobdpibnkeaa
/- l3Raise of the model: it writes into the versions alone. -/
namespace Go.Proofs.Ytgddobdpibnkeaa
open Go.RowKit

theorem hidS {p : Prop} (h : p) : Hid p := h
theorem grown_out {w W : World} {row : Option Nat} (h : w.grownBy W row) (b o : Nat) (v : Value) (hb : w.heap.size ≤ b) : w.grownBy (W.setCell ⟨b, o, none⟩ v) row :=
  ⟨h.os, h.tape, h.output, by simpa [World.setCell] using h.size, fun k hk hne => by rw [Below.heap_setCell _ _ _ _ (show k ≠ b by omega)]; exact h.block k hk hne⟩
theorem grown_drew {w W : World} {row : Option Nat} (h : w.grownBy W row) : w.grownBy W.drew row := ⟨h.os, h.tape, h.output, h.size, h.block⟩
theorem grown_below {w W : World} (h : Below w.heap.size w W) (row : Option Nat) : w.grownBy W row := ⟨h.os, h.tape, h.output, h.size, fun k hk _ => h.block k hk⟩
theorem intsKeep {B b o : Nat} {v : Value} {xs : List Int} {W : World} (h : Ints B v xs W) (u : Value) (hb : v.ownBlock ≠ some b) : Ints B v xs (W.setCell ⟨b, o, none⟩ u) := h.kept (grown_set W b o u) (fun k e e' => by cases e; exact hb e')
theorem seatsKeep {B b o : Nat} {v : Value} {xs : List (Int × Int)} {W : World} (h : Seats B v xs W) (u : Value) (hb : v.ownBlock ≠ some b) : Seats B v xs (W.setCell ⟨b, o, none⟩ u) := h.kept (grown_set W b o u) (fun k e e' => by cases e; exact hb e')

set_option maxRecDepth 100000 in
set_option maxHeartbeats 2000000 in
theorem l3Raise_eq {B : Nat} {x : Value} {vs : List Int} {w : World} (ep : Int) (ay : Option Addr) (ny cy : Nat) (j : Nat) (hj : j < 15) (hl : vs.length = 15) (hx : Ints B x vs w) :
    Calls Try.prog 155 #[svv ep x (.slice ay ny cy), .int .i64 ((j : Int) + 1)] w fun e w' => e = .returned (svv ep x (.slice ay ny cy)) ∧ Ints B x (vs.set j (wrap64 (vAt vs j + 1))) w' ∧ w.grownBy w' x.ownBlock := by
  obtain ⟨a, c, hv, _, hrow⟩ := hx.row
  subst hv
  obtain ⟨g, rfl, hg, hseg⟩ : ∃ g, a = some ⟨g, 0, none⟩ ∧ g < w.heap.size ∧ ISeg g 0 vs w := by
    rcases hrow with e | e
    · rw [e] at hl; simp at hl
    · exact e
  have hfr : w.frozen? ⟨g, j, none⟩ = false := by
    rcases hx.form with ⟨e, _⟩ | ⟨g', cap, e, _, _, _, _, hf⟩
    · cases e
    · cases e
      exact (hf j (by omega)).2
  have a1 := hseg j (by omega)
  rw [Nat.zero_add] at a1
  rw [hl] at hx ⊢
  have H1 := ((Home.start w).alloc (svb ep (.slice (some ⟨g, 0, none⟩) 15 c) (.slice ay ny cy))).alloc (svb 0 (.slice none 0 0) (.slice none 0 0))
  have hB1 := H1.bel
  have a1 := cell_since a1 hB1
  have hfr := (hB1.frozen (p := ⟨g, j, none⟩) hg).trans hfr
  have HX := hidS (hx.since hB1)
  simp only [World.size_alloc] at H1
  rw [← vAt_get vs j (by omega)] at a1
  generalize vAt vs j = z at a1 ⊢
  have b0 := H1.b1
  have b1 := H1.b0
  have HH := hidS H1
  obtain ⟨⟨p0, p1, p2⟩, f0, f1, f2⟩ := box3 b0
  obtain ⟨⟨q0, q1, q2⟩, h0, h1, h2⟩ := box3 b1
  clear hseg hrow H1 hx b0 b1
  go_enter Try.func155, Try.ntmps155
  go_wp2
  generalize (w.alloc (svb ep (.slice (some ⟨g, 0, none⟩) 15 c) (.slice ay ny cy))).alloc (svb 0 (.slice none 0 0) (.slice none 0 0)) = w1 at *
  go_region
  all_goals
    have st := Ints.stored (n := 15) hl HX.out j (by omega) (wrap64 (z + 1))
    have g2 := grown_drew st.2
    have k2 : Ints B (.slice (some ⟨g, 0, none⟩) 15 c) (vs.set j (wrap64 (z + 1))) (w1.setCell ⟨g, j, none⟩ (.int .i64 (wrap64 (z + 1)))).drew := st.1
    have hs1 := hB1.size
    have b0 := (g2.block _ (blkLt HH.out.b1) (fun e => by cases e; have := HH.out.p1; omega)).trans HH.out.b1
    have b1 := (g2.block _ (blkLt HH.out.b0) (fun e => by cases e; have := HH.out.p0; omega)).trans HH.out.b0
    have G2 := hidS (show w.grownBy (w1.setCell ⟨g, j, none⟩ (.int .i64 (wrap64 (z + 1)))).drew (some g) from (grown_below hB1 (some g)).trans g2)
    have K2 := hidS k2
    clear st g2 k2 HX HH a1 hfr p0 p1 p2 f0 f1 f2 q0 q1 q2 h0 h1 h2
    generalize (w1.setCell ⟨g, j, none⟩ (.int .i64 (wrap64 (z + 1)))).drew = w2 at *
    obtain ⟨⟨p0, p1, p2⟩, f0, f1, f2⟩ := box3 b0
    obtain ⟨⟨q0, q1, q2⟩, h0, h1, h2⟩ := box3 b1
    have HF := hidS (box3_set2 (box3_set1 (box3_set0 b1 (.int .i64 ep)) (.slice (some ⟨g, 0, none⟩) 15 c)) (.slice ay ny cy))
    have hgne : (Value.slice (some ⟨g, 0, none⟩) 15 c).ownBlock ≠ some (w.heap.size + 1) := fun e => by have := Option.some.inj (show some g = some _ from e); omega
    have K3 := hidS (intsKeep (o := 2) (intsKeep (o := 1) (intsKeep (o := 0) K2.out (.int .i64 ep) hgne) (.slice (some ⟨g, 0, none⟩) 15 c) hgne) (.slice ay ny cy) hgne)
    have G3 := hidS (grown_out (grown_out (grown_out G2.out (w.heap.size + 1) 0 (.int .i64 ep) (by omega)) (w.heap.size + 1) 1 (.slice (some ⟨g, 0, none⟩) 15 c) (by omega)) (w.heap.size + 1) 2 (.slice ay ny cy) (by omega))
    clear K2 G2 b0 b1 hgne
    go_wp2
    have bF := HF.out
    have gK := K3.out
    have gG := G3.out
    clear HF K3 G3
    generalize ((w2.setCell ⟨w.heap.size + 1, 0, none⟩ (.int .i64 ep)).setCell ⟨w.heap.size + 1, 1, none⟩ (.slice (some ⟨g, 0, none⟩) 15 c)).setCell ⟨w.heap.size + 1, 2, none⟩ (.slice ay ny cy) = WF at bF gK gG ⊢
    obtain ⟨⟨z0, z1, z2⟩, _, _, _⟩ := box3 bF
    exact bodyPost_ret (v := svv ep (.slice (some ⟨g, 0, none⟩) 15 c) (.slice ay ny cy)) (by simp [results, Try.results155, go_sem, z0, z1, z2]) rfl ⟨rfl, gK, gG⟩
theorem l3Raise_any {B : Nat} {x : Value} {vs : List Int} {w : World} (ep : Int) (ay : Option Addr) (ny cy : Nat) (j : Nat) (hj : j < 15) (hl : vs.length = 15) (hx : Ints B x vs w) :
    Calls Try.prog 155 #[svv ep x (.slice ay ny cy), .int .i64 ((j : Int) + 1)] w fun e w' => e = .returned (svv ep x (.slice ay ny cy)) ∧ ∃ z, Ints B x (vs.set j z) w' ∧ w.grownBy w' x.ownBlock :=
  (l3Raise_eq ep ay ny cy j hj hl hx).mono fun _ _ ⟨h1, h2, h3⟩ => ⟨h1, _, h2, h3⟩
end Go.Proofs.Ytgddobdpibnkeaa
/- l3Some, l3Room, l3Form of the model: they answer, and turn nothing that was there. -/
namespace Go.Proofs.Ytgddobdpibnkeaa
open Go.RowKit

/-- Does somebody sit below a node? -/
def someB (ss : List (Int × Int)) (node : Int) : Bool := (List.range ss.length).any fun i => decide (node ∈ path (kAt ss i).2)
theorem someB_true {ss : List (Int × Int)} {node : Int} {k : Nat} (hk : k < ss.length) (h : node ∈ path (kAt ss k).2) : someB ss node = true := by
  unfold someB
  rw [List.any_eq_true]
  exact ⟨k, List.mem_range.2 hk, decide_eq_true h⟩
theorem someB_false {ss : List (Int × Int)} {node : Int} (h : ∀ i, i < ss.length → ¬ node ∈ path (kAt ss i).2) : someB ss node = false := by
  unfold someB
  rw [List.any_eq_false]
  intro i hi
  simpa using h i (List.mem_range.1 hi)
set_option maxRecDepth 100000 in
set_option maxHeartbeats 2000000 in
theorem l3Some_eq {C : Nat} {x y : Value} {ss : List (Int × Int)} {w : World} (ep node : Int) (hy : Seats C y ss w) :
    Calls Try.prog 168 #[svv ep x y, .int .i64 node] w fun e w' => e = .returned (.bool (someB ss node)) ∧ Below w.heap.size w w' := by
  obtain ⟨a, c, hv, hm, hrow⟩ := hy.row
  subst hv
  unfold maxLen at hm
  have HR := hidS hrow
  have hB1 := one_below w (svb ep x (.slice a ss.length c))
  obtain ⟨c0, c1, c2⟩ := scell3 w ep x (.slice a ss.length c)
  clear hrow hy
  generalize hn : ss.length = n at *
  have HN := hidS hn
  clear hn
  go_enter Try.func168, Try.ntmps168
  go_wp2
  generalize w.alloc (svb ep x (.slice a n c)) = w1 at *
  go_loopw [5] (fun i wr => ∃ k : Nat, k ≤ n ∧ i = .int .i64 (k : Int) ∧ Hid (∀ i, i < k → ¬ node ∈ path (kAt ss i).2) ∧ Below w1.heap.size w1 wr) (fun i _ => n - (intOf i).toNat)
  case atStart => exact ⟨0, Nat.zero_le _, rfl, (fun i h => absurd h (Nat.not_lt_zero _)), Below.refl _ _⟩
  case round =>
    obtain ⟨k, hk, rfl, HNo, hB⟩ := hrel
    have d2 := cell_since c2 hB
    have hs1 := hB1.size
    by_cases hlt : k < n
    · obtain ⟨g, ha, hg, hseg⟩ : ∃ g, a = some ⟨g, 0, none⟩ ∧ g < w.heap.size ∧ KSeg g 0 ss w := by
        rcases HR.out with e | e
        · have := HN.out; rw [e] at this; simp at this; omega
        · exact e
      subst ha
      have hlk : k < ss.length := by have := HN.out; omega
      have a2 := cell_since (cell_since (hseg k hlk).2 hB1) hB
      simp only [Nat.zero_add] at a2
      have HLk := hidS (show (kAt ss k).2 = ss[k].2 by rw [kAt_get ss k hlk])
      have HLk2 := hidS hlk
      generalize ss[k].2 = lf at a2 HLk
      clear hseg
      go_wp2_with fail
      refine (specPathOf_any _ _).mono ?_
      rintro e w2 ⟨pv, rfl, hP, hb2⟩
      have hB2 := hidS (more hB hb2)
      obtain ⟨ap, cp, hvp, hmp, hprow⟩ := hP.row
      subst hvp
      unfold maxLen at hmp
      have HP := hidS hprow
      have hpl := path_len lf
      clear hB hb2 hP hprow a2 d2
      have HPs := hidS (show path (kAt ss k).2 = path lf by rw [HLk.out])
      generalize path lf = ps at *
      generalize hm2 : ps.length = m at *
      have HM := hidS hm2
      clear hm2
      go_wp2
      go_loopw [7] (fun j w' => ∃ q : Nat, q ≤ m ∧ j = .int .i64 (q : Int) ∧ Hid (¬ node ∈ ps.take q) ∧ w' = w2) (fun j _ => m - (intOf j).toNat)
      case atStart => exact ⟨0, Nat.zero_le _, rfl, (by show ¬ _; simp), rfl⟩
      case round =>
        obtain ⟨q, hq, rfl, HQn, rfl⟩ := hrel
        by_cases hql : q < m
        · obtain ⟨gp, hap, hgp, hpseg⟩ : ∃ g, ap = some ⟨g, 0, none⟩ ∧ g < wr.heap.size ∧ ISeg g 0 ps wr := by
            rcases HP.out with e | e
            · have := HM.out; rw [e] at this; simp at this; omega
            · exact e
          subst hap
          have hqk : q < ps.length := by have := HM.out; omega
          have e1 := hpseg q hqk
          rw [Nat.zero_add] at e1
          have HTk := hidS (List.take_succ_eq_append_getElem hqk)
          have HMem := hidS (List.getElem_mem hqk)
          generalize ps[q] = z at e1 HTk HMem
          clear hpseg
          by_cases hz : z = node
          · have hz' : (z == node) = true := by simpa using hz
            go_wp2
            go_ret
            exact ⟨by rw [someB_true HLk2.out (by rw [HPs.out, ← hz]; exact HMem.out)]; rfl, more hB1 hB2.out⟩
          · have hz' : (z == node) = false := by simpa using hz
            go_wp2
            go_roundw
            case rel => exact ⟨q + 1, by omega, by go_num, (by show ¬ _; rw [HTk.out]; intro h; rcases List.mem_append.1 h with h | h; exact HQn.out h; simp at h; exact hz h.symm), trivial⟩
            case measure => simp [intOf] <;> omega
        · go_wp2
          go_roundw
          case rel => exact ⟨k + 1, by omega, by go_num, (fun i hi => by
            rcases Nat.lt_succ_iff_lt_or_eq.1 hi with h | h
            · exact HNo.out i h
            · subst h
              have hq' : q = m := by omega
              have := HQn.out
              rw [hq', ← HM.out, List.take_length] at this
              rw [HPs.out]
              exact this), hB2.out⟩
          case measure => simp [intOf] <;> omega
    · go_wp2
      go_ret
      exact ⟨by rw [someB_false (fun i hi => HNo.out i (by have := HN.out; omega))]; rfl, more hB1 hB⟩
theorem l3Some_any {C : Nat} {x y : Value} {ss : List (Int × Int)} {w : World} (ep node : Int) (hy : Seats C y ss w) :
    Calls Try.prog 168 #[svv ep x y, .int .i64 node] w fun e w' => ∃ b, e = .returned (.bool b) ∧ Below w.heap.size w w' := (l3Some_eq ep node hy).mono fun _ _ ⟨h1, h2⟩ => ⟨_, h1, h2⟩

/-- Are there versions enough? -/
def roomB (ep : Int) (vs : List Int) : Bool := (List.range vs.length).all (fun i => decide (vAt vs i ≠ 1000000000)) && decide (ep < 1000000000)
theorem roomB_no {ep : Int} {vs : List Int} {k : Nat} (hk : k < vs.length) (h : vAt vs k = 1000000000) : roomB ep vs = false := by
  unfold roomB
  rw [Bool.and_eq_false_iff]
  refine .inl ?_
  rw [List.all_eq_false]
  exact ⟨k, List.mem_range.2 hk, by simp [h]⟩
theorem roomB_yes {ep : Int} {vs : List Int} (h : ∀ i, i < vs.length → vAt vs i ≠ 1000000000) : roomB ep vs = decide (ep < 1000000000) := by
  unfold roomB
  rw [show ((List.range vs.length).all fun i => decide (vAt vs i ≠ 1000000000)) = true from List.all_eq_true.2 fun i hi => by simpa using h i (List.mem_range.1 hi), Bool.true_and]
set_option maxRecDepth 100000 in
set_option maxHeartbeats 2000000 in
theorem l3Room_eq {B : Nat} {x y : Value} {vs : List Int} {w : World} (ep : Int) (hx : Ints B x vs w) :
    Calls Try.prog 152 #[svv ep x y] w fun e w' => e = .returned (.bool (roomB ep vs)) ∧ Below w.heap.size w w' := by
  obtain ⟨a, c, hv, hm, hrow⟩ := hx.row
  subst hv
  unfold maxLen at hm
  have HR := hidS hrow
  have hB1 := one_below w (svb ep (.slice a vs.length c) y)
  obtain ⟨c0, c1, c2⟩ := scell3 w ep (.slice a vs.length c) y
  clear hrow hx
  generalize hn : vs.length = n at *
  have HN := hidS hn
  clear hn
  go_enter Try.func152, Try.ntmps152
  go_wp2
  generalize w.alloc (svb ep (.slice a n c) y) = w1 at *
  go_loopw [3] (fun i wr => ∃ k : Nat, k ≤ n ∧ i = .int .i64 (k : Int) ∧ Hid (∀ i, i < k → vAt vs i ≠ 1000000000) ∧ wr = w1) (fun i _ => n - (intOf i).toNat)
  case atStart => exact ⟨0, Nat.zero_le _, rfl, (fun i h => absurd h (Nat.not_lt_zero _)), rfl⟩
  case round =>
    obtain ⟨k, hk, rfl, HNo, rfl⟩ := hrel
    by_cases hlt : k < n
    · obtain ⟨g, ha, hg, hseg⟩ : ∃ g, a = some ⟨g, 0, none⟩ ∧ g < w.heap.size ∧ ISeg g 0 vs w := by
        rcases HR.out with e | e
        · have := HN.out; rw [e] at this; simp at this; omega
        · exact e
      subst ha
      have hlk : k < vs.length := by have := HN.out; omega
      have a2 := cell_since (hseg k hlk) hB1
      rw [Nat.zero_add] at a2
      rw [← vAt_get vs k hlk] at a2
      have HZ := hidS (rfl : vAt vs k = vAt vs k)
      generalize hzk : vAt vs k = z at a2
      have HZk := hidS hzk
      clear hzk HZ
      have HLk2 := hidS hlk
      clear hseg
      by_cases hz : z = 1000000000
      · have hz' : (z == 1000000000) = true := by simpa using hz
        go_wp2
        go_ret
        exact ⟨by rw [roomB_no HLk2.out (by rw [HZk.out]; exact hz)]; rfl, hB1⟩
      · have hz' : (z == 1000000000) = false := by simpa using hz
        go_wp2
        go_roundw
        case rel => exact ⟨k + 1, by omega, by go_num, (fun i hi => by
          rcases Nat.lt_succ_iff_lt_or_eq.1 hi with h | h
          · exact HNo.out i h
          · subst h
            rw [HZk.out]
            exact hz), trivial⟩
        case measure => simp [intOf] <;> omega
    · go_wp2
      go_ret
      exact ⟨by rw [roomB_yes (ep := ep) (fun i hi => HNo.out i (by have := HN.out; omega))]; rfl, hB1⟩
theorem l3Room_any {B : Nat} {x y : Value} {vs : List Int} {w : World} (ep : Int) (hx : Ints B x vs w) :
    Calls Try.prog 152 #[svv ep x y] w fun e w' => ∃ b, e = .returned (.bool b) ∧ Below w.heap.size w w' := (l3Room_eq ep hx).mono fun _ _ ⟨h1, h2⟩ => ⟨_, h1, h2⟩

abbrev opb (k m : Int) : Obj := .cells #[.int .i64 k, .int .i64 m] 133
/-- Is an op of a right form? -/
def formB (k m : Int) : Bool := if k = 1 ∨ k = 2 then decide (1 ≤ m ∧ m ≤ 20) else decide (k = 3 ∧ m = 0)
set_option maxRecDepth 100000 in
theorem l3Form_eq (k m : Int) (w : World) :
    Calls Try.prog 151 #[kv k m] w fun e w' => e = .returned (.bool (formB k m)) ∧ Below w.heap.size w w' := by
  by_cases h1 : k = 1
  · have h1' : (k == 1) = true := by simpa using h1
    have HF := hidS (show formB k m = (decide (1 ≤ m) && decide (m ≤ 20)) by simp [formB, h1])
    go_enter Try.func151, Try.ntmps151
    go_wp2_with fail
    refine (l1InK_any _ _ _ _).mono ?_
    rintro e w' ⟨rfl, rfl⟩
    go_wp2
    go_ret
    exact ⟨by rw [HF.out]; rfl, one_below _ _⟩
  have h1' : (k == 1) = false := by simpa using h1
  by_cases h2 : k = 2
  · have h2' : (k == 2) = true := by simpa using h2
    have HF := hidS (show formB k m = (decide (1 ≤ m) && decide (m ≤ 20)) by simp [formB, h2])
    go_enter Try.func151, Try.ntmps151
    go_wp2_with fail
    refine (l1InK_any _ _ _ _).mono ?_
    rintro e w' ⟨rfl, rfl⟩
    go_wp2
    go_ret
    exact ⟨by rw [HF.out]; rfl, one_below _ _⟩
  have h2' : (k == 2) = false := by simpa using h2
  by_cases h3 : k = 3
  · have h3' : (k == 3) = true := by simpa using h3
    by_cases h4 : m = 0
    · have h4' : (m == 0) = true := by simpa using h4
      have HF := hidS (show formB k m = true by simp [formB, h3, h4])
      go_enter Try.func151, Try.ntmps151
      go_wp2
      go_ret
      exact ⟨by rw [HF.out]; rfl, one_below _ _⟩
    · have h4' : (m == 0) = false := by simpa using h4
      have HF := hidS (show formB k m = false by simp [formB, h1, h2, h4])
      go_enter Try.func151, Try.ntmps151
      go_wp2
      go_ret
      exact ⟨by rw [HF.out]; rfl, one_below _ _⟩
  have h3' : (k == 3) = false := by simpa using h3
  have HF := hidS (show formB k m = false by simp [formB, h1, h2, h3])
  go_enter Try.func151, Try.ntmps151
  go_wp2
  go_ret
  exact ⟨by rw [HF.out]; rfl, one_below _ _⟩
theorem l3Form_any (k m : Int) (w : World) :
    Calls Try.prog 151 #[kv k m] w fun e w' => ∃ b, e = .returned (.bool b) ∧ Below w.heap.size w w' := (l3Form_eq k m w).mono fun _ _ ⟨h1, h2⟩ => ⟨_, h1, h2⟩
end Go.Proofs.Ytgddobdpibnkeaa
