
/- The exact law of ReadRekey. -/
import Derived.Test.YtmlmlmcmhpahpaaDoorTs4
namespace Go.Proofs.YtmlmlmcmhpahpaaDoor
open Go.RowKit Go.Shelf
namespace Tx

/-- The two answers in their blocks, apart. -/
structure LrIs (w : World) (p0 p1 : Nat) (ep : Int) (B1 : Nat) (x0 x1 : Value) (ws ys : List W4) (W : World) : Prop where
  b0 : W.heap[p0]? = some (rb ep x0)
  b1 : W.heap[p1]? = some (rb ep x1)
  r0 : Wraps w.heap.size x0 ws W
  r1 : Wraps B1 x1 ys W
  bel : Below w.heap.size w W
  low : w.heap.size ≤ B1
  apart : ∀ j, x0.ownBlock = some j → j < B1
theorem LrIs.since {w W W' : World} {p0 p1 : Nat} {ep : Int} {B1 : Nat} {x0 x1 : Value} {ws ys : List W4} (h : LrIs w p0 p1 ep B1 x0 x1 ws ys W) (hb : Below W.heap.size W W') : LrIs w p0 p1 ep B1 x0 x1 ws ys W' :=
  ⟨(hb.block _ (cell_lt (blk2 h.b0).1)).trans h.b0, (hb.block _ (cell_lt (blk2 h.b1).1)).trans h.b1, wrapsSince h.r0 hb, wrapsSince h.r1 hb, h.bel.trans (hb.mono h.bel.size), h.low, h.apart⟩
theorem LrIs.marked {w W W' : World} {p0 p1 : Nat} {ep : Int} {B1 : Nat} {x0 x1 : Value} {ws ys zs : List W4} (h : LrIs w p0 p1 ep B1 x0 x1 ws ys W) (g : W.grownBy W' x1.ownBlock) (m : Wraps B1 x1 zs W') : LrIs w p0 p1 ep B1 x0 x1 ws zs W' :=
  ⟨(g.block _ (cell_lt (blk2 h.b0).1) (wraps_ne' h.r1 h.b0 (by decide))).trans h.b0, (g.block _ (cell_lt (blk2 h.b1).1) (wraps_ne' h.r1 h.b1 (by decide))).trans h.b1,
    wrapsKept h.r0 g (fun k e e' => by have := (World.ownsRow.lt h.r1 k e).1; have := h.apart k e'; omega), m, h.bel.grown g h.bel.size (fun j e => Nat.le_trans h.low (World.ownsRow.lt h.r1 j e).1), h.low, h.apart⟩

set_option maxRecDepth 100000 in
set_option maxHeartbeats 2000000 in
theorem exReadRekey_any (l : List UInt8) (w : World) (hN : HasNo w) :
    Calls Tryd.prog 6 #[st l] w fun e w' => e = .returned (.bool true) ∧ Below w.heap.size w w' := by
  have HN := hidT hN
  clear hN
  by_cases hl : l.length ≤ 1048576
  · have hl' : ¬ (1048576 : Int) < (l.length : Int) := by omega
    have hwl := wholeRk_len l
    rw [bothRk] at hwl
    go_enter Tryd.func6, Tryd.ntmps6
    go_wp2_with fail
    refine (specReadRekey_any l w hl).mono ?_
    rintro e w1 ⟨x0, rfl, X0, hb1⟩
    obtain ⟨ep, ws, ok, HX⟩ : ∃ ep ws ok, Hid (specRk l = (ep, ws, ok)) := ⟨_, _, _, rfl⟩
    rw [HX.out] at X0 hwl ⊢
    simp only at X0 hwl
    obtain ⟨a0, c0, hx⟩ := wrapsRow X0
    obtain ⟨N, HLEN⟩ : ∃ n, Hid (ws.length = n) := ⟨_, rfl⟩
    rw [HLEN.out] at hx hwl
    subst hx
    have X0 := hidT X0
    have B1 := hidT hb1
    clear hb1
    have B2 := hidT (B1.out.alloc B1.out.size (rb ep (.slice a0 N c0)))
    have P2 := hidT (heap_new w1 (rb ep (.slice a0 N c0)))
    have X2 := hidT (wrapsSince X0.out (oneB w1 (rb ep (.slice a0 N c0))))
    go_wp2_with fail
    refine (readRekey_any l _ (HN.out.since B2.out) hl).mono ?_
    rintro e w3 ⟨x1, rfl, X1, hb3⟩
    rw [bothRk, HX.out] at X1 ⊢
    simp only at X1
    obtain ⟨a1, c1, hx⟩ := wrapsRow X1
    rw [HLEN.out] at hx
    subst hx
    have LR := hidT (show LrIs w w1.heap.size w3.heap.size ep (w1.alloc (rb ep (.slice a0 N c0))).heap.size (.slice a0 N c0) (.slice a1 N c1) ws ws (w3.alloc (rb ep (.slice a1 N c1))) from
      ⟨(heap_old _ _ (cell_lt (blk2 ((hb3.block _ (cell_lt (blk2 P2.out).1)).trans P2.out)).1)).trans ((hb3.block _ (cell_lt (blk2 P2.out).1)).trans P2.out), heap_new _ _, wrapsSince (wrapsSince X2.out hb3) (oneB _ _), wrapsSince X1 (oneB _ _),
        (B2.out.trans (hb3.mono B2.out.size)).alloc (Nat.le_trans B2.out.size hb3.size) _, B2.out.size, fun j e => by have := (World.ownsRow.lt X0.out j e).2; simp; omega⟩)
    have hs3 : w1.heap.size < w3.heap.size := by have := hb3.size; simp at this; omega
    obtain ⟨d0, d1, z0, z1⟩ := blk2 ((hb3.block _ (cell_lt (blk2 P2.out).1)).trans P2.out)
    generalize (w1.alloc (rb ep (.slice a0 N c0))).heap.size = B1 at LR
    clear X0 X1 X2 P2 B2 hb3
    go_wp2_with fail
    refine (eqRekey_any ep ep LR.out.r1 LR.out.r0).mono ?_
    rintro e w5 ⟨rfl, hb5⟩
    rw [sameR_self]
    have L5 := hidT (LR.out.since hb5)
    clear hb5 LR d0 d1 z0 z1
    generalize w3.heap.size = p1 at L5 hs3 ⊢
    generalize w1.heap.size = p0 at L5 hs3 ⊢
    obtain ⟨e0, e1, y0, y1⟩ := blk2 L5.out.b1
    go_wp2_with fail
    refine (markRekey_marks ep 1 L5.out.r1 (by omega) (by rw [HLEN.out]; omega)).mono ?_
    rintro e w6 ⟨rfl, m6, g6⟩
    rw [HLEN.out]
    have L6 := hidT (L5.out.marked g6 m6)
    rw [HLEN.out] at L6
    clear m6 g6 L5 e0 e1 y0 y1
    have hge : ¬ (1 + 4 * (N : Int)) < 0 := by omega
    obtain ⟨e0, e1, y0, y1⟩ := blk2 L6.out.b1
    go_wp2_with fail
    refine (heldRekey_any ep 1 N L6.out.r1 (by omega) (by omega)).mono ?_
    rintro e w7 ⟨rfl, hb7⟩
    have L7 := hidT (L6.out.since hb7)
    clear hb7 L6 e0 e1 y0 y1
    go_wp2_with fail
    refine (readRekey_any l _ (HN.out.since L7.out.bel) hl).mono ?_
    rintro e w8 ⟨x2, rfl, X8, hb8⟩
    rw [bothRk, HX.out] at X8 ⊢
    simp only at X8
    obtain ⟨a2, c2, hx⟩ := wrapsRow X8
    rw [HLEN.out] at hx
    subst hx
    have L8 := hidT (L7.out.since hb8)
    have X8 := hidT X8
    clear hb8 L7
    have L9 := hidT (L8.out.since (oneB w8 (rb ep (.slice a2 N c2))))
    have X9 := hidT (wrapsSince X8.out (oneB w8 (rb ep (.slice a2 N c2))))
    obtain ⟨d0, d1, z0, z1⟩ := blk2 L8.out.b0
    have hp8 : p0 < w8.heap.size := cell_lt d0
    go_wp2_with fail
    refine (eqRekey_any ep ep X9.out L9.out.r0).mono ?_
    rintro e w10 ⟨rfl, hb10⟩
    rw [sameR_self]
    have L10 := hidT (L9.out.since hb10)
    clear hb10 L9 L8 X9 X8 d0 d1 z0 z1
    obtain ⟨e0, e1, y0, y1⟩ := blk2 L10.out.b1
    go_wp2_with fail
    refine (heldRekey_any ep 1 N L10.out.r1 (by omega) (by omega)).mono ?_
    rintro e w11 ⟨rfl, hb11⟩
    have L11 := hidT (L10.out.since hb11)
    clear hb11 L10 e0 e1 y0 y1
    go_wp2
    go_ret
    exact ⟨rfl, L11.out.bel⟩
  · have hl' : (1048576 : Int) < (l.length : Int) := by omega
    go_enter Tryd.func6, Tryd.ntmps6
    go_wp2
    go_ret
    exact ⟨rfl, Below.refl _ _⟩
end Tx
end Go.Proofs.YtmlmlmcmhpahpaaDoor
