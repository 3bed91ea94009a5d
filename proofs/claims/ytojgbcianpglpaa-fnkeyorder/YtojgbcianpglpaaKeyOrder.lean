
/- The law of KeyOrder, and its draw. -/
import Derived.Test.YtojgbcianpglpaaKo
namespace Go.Proofs.Ytojgbcianpglpaa
open Go.RowKit

set_option maxHeartbeats 400000 in
theorem drawKeyAhead_any (a : Option Addr) (len cap : Nat) (W : World) (h : Bytes W.heap.size a len W) :
    Calls Try.prog 19 #[.slice a len cap] W fun e W' => ∃ n v m u : Int, e = .returned (.tuple #[kv n v, kv m u]) ∧ Below W.heap.size W W' := by
  have h2 : Bytes W.heap.size a len ((W.alloc (kb 0 0)).alloc (kb 0 0)) := h.kept (((Below.refl _ _).alloc (Nat.le_refl _) _).alloc (by simp) _)
  go_enter Try.func19, Try.ntmps19
  go_wp2_with fail
  refine (l1Open_any _ _ _ _).mono ?_
  rintro e w1 ⟨rfl, rfl⟩
  have hR := h2.rd (by simp; omega) cap
  have b0 := blk_old (blk_old (blk_new W (kb 0 0)) (kb 0 0)) (.cells #[.slice a len cap, .int .i64 0] 53)
  have b1 := blk_old (blk_new (W.alloc (kb 0 0)) (kb 0 0)) (.cells #[.slice a len cap, .int .i64 0] 53)
  have hg : W.grownBy (((W.alloc (kb 0 0)).alloc (kb 0 0)).alloc (.cells #[.slice a len cap, .int .i64 0] 53)) none := ((World.grownBy_alloc _ _ _).trans (World.grownBy_alloc _ _ _)).trans (World.grownBy_alloc _ _ _)
  simp only [World.size_alloc] at hR b1
  go_wp2_with fail
  generalize ((W.alloc (kb 0 0)).alloc (kb 0 0)).alloc (.cells #[.slice a len cap, .int .i64 0] 53) = W1 at hR b0 b1 hg ⊢
  refine (key_any W.heap.size _ _ hR).mono ?_
  rintro e w2 ⟨n, v, hn0, hn1, hv, rfl, hR2, hg2⟩
  have hlt2 := hR2.lt
  have c0 := blk_old (blk hg2 b0 (by omega)) (kb n v)
  have c1 := blk_old (blk hg2 b1 (by omega)) (kb n v)
  have c2 := blk_new w2 (kb n v)
  have hR3 := hR2.alloc (kb n v)
  have hg3 : W.grownBy (w2.alloc (kb n v)) none := (hg.andThen hg2 (fun j e => by cases e; exact .inl (by omega))).trans (World.grownBy_alloc _ _ _)
  go_wp2_with fail
  have hs : (w2.alloc (kb n v)).heap.size = w2.heap.size + 1 := by simp
  generalize w2.alloc (kb n v) = W3 at c0 c1 c2 hR3 hg3 hs ⊢
  obtain ⟨p0, p1, p2, p3⟩ := rd_cells c0
  obtain ⟨q0, q1, q2, q3⟩ := rd_cells c1
  obtain ⟨r0, r1, r2, r3⟩ := rd_cells c2
  go_region_with (go_at_call 33; refine (key_any W.heap.size _ _ (by exact hR3)).mono ?_; rintro e w4 ⟨m, u, hm0, hm1, hu, rfl, hR4, hg4⟩; have d0 := blk (k := W.heap.size) hg4 (show W3.drew.heap[_]? = _ from c0) (by omega); have d1 := blk (k := W.heap.size + 1) hg4 (show W3.drew.heap[_]? = _ from c1) (by omega); have d2 := blk (k := w2.heap.size) hg4 (show W3.drew.heap[_]? = _ from c2) (by omega); obtain ⟨a0, a1, a2, a3⟩ := rd_cells d0; obtain ⟨b0, b1, b2, b3⟩ := rd_cells d1; obtain ⟨e0, e1, e2, e3⟩ := rd_cells d2)
  all_goals go_wp2
  all_goals
    have x0 := put2 d0 (.int .i64 n) (.int .i64 v)
    have g0 := grown_put2 w4 W.heap.size (.int .i64 n) (.int .i64 v)
    have x1 := blk g0 d1 (by omega)
    generalize (w4.setCell ⟨W.heap.size, 0, none⟩ (.int .i64 n)).setCell ⟨W.heap.size, 1, none⟩ (.int .i64 v) = WE at x0 g0 x1 ⊢
    have y1 := put2 x1 (.int .i64 m) (.int .i64 u)
    have g1 := grown_put2 WE (W.heap.size + 1) (.int .i64 m) (.int .i64 u)
    have y0 := blk g1 x0 (by omega)
    generalize (WE.setCell ⟨W.heap.size + 1, 0, none⟩ (.int .i64 m)).setCell ⟨W.heap.size + 1, 1, none⟩ (.int .i64 u) = WF at y0 y1 g1 ⊢
    clear a0 a1 a2 a3 b0 b1 b2 b3 p0 p1 p2 p3 q0 q1 q2 q3
    obtain ⟨p0, p1, _, _⟩ := rd_cells y0
    obtain ⟨q0, q1, _, _⟩ := rd_cells y1
    exact bodyPost_ret (v := .tuple #[kv n v, kv m u]) (by simp [results, Try.results19, go_sem, p0, p1, q0, q1]) rfl
      ⟨n, v, m, u, rfl, below_grown ((((hg3.trans (grown_drew _ _)).andThen hg4 (fun j e => by cases e; exact .inl (by omega))).andThen g0 (fun j e => by cases e; exact .inl (Nat.le_refl _))).andThen g1 (fun j e => by cases e; exact .inl (by omega)))⟩

def notSame (a0 a1 b0 b1 : Int) : Bool := !(decide (a0 = b0) && decide (a1 = b1))
theorem order_fact (a0 a1 b0 b1 : Int) : (!(aheadB a0 a1 b0 b1 && aheadB b0 b1 a0 a1)) = true ∧ (aheadB a0 a1 b0 b1 || aheadB b0 b1 a0 a1) = notSame a0 a1 b0 b1 := by
  unfold aheadB notSame
  constructor
  · simp; omega
  · rw [Bool.eq_iff_iff]; simp; omega

set_option maxHeartbeats 400000 in
theorem keyOrder_any (a : Option Addr) (len cap : Nat) (W : World) (h : Bytes W.heap.size a len W) :
    Calls Try.prog 4 #[.slice a len cap] W fun e W' => e = .returned (.bool true) ∧ Below W.heap.size W W' := by
  by_cases hb : (1048576 : Int) < (len : Int)
  · go_enter Try.func4, Try.ntmps4
    go_wp2_with (go_at_call 9; refine (big_any _ _ _ _).mono ?_; rintro e w' ⟨rfl, rfl⟩)
    go_ret
    exact ⟨rfl, Below.refl _ _⟩
  · go_enter Try.func4, Try.ntmps4
    go_wp2_with fail
    refine (big_any _ _ _ _).mono ?_
    rintro e w' ⟨rfl, rfl⟩
    go_wp2_with fail
    refine (drawKeyAhead_any _ _ _ _ h).mono ?_
    rintro e w1 ⟨a0, a1, b0, b1, rfl, hb1⟩
    go_wp2_with fail
    refine (keyAhead_any _ _ _ _ _).mono ?_
    rintro e w' ⟨rfl, rfl⟩
    go_wp2_with fail
    refine (keyAhead_any _ _ _ _ _).mono ?_
    rintro e w' ⟨rfl, rfl⟩
    go_wp2_with fail
    refine (specAhead_any _ _ _ _ _).mono ?_
    rintro e w' ⟨rfl, rfl⟩
    obtain ⟨o1, o2⟩ := order_fact a0 a1 b0 b1
    generalize aheadB a0 a1 b0 b1 = x at o1 o2 ⊢
    generalize aheadB b0 b1 a0 a1 = y at o1 o2 ⊢
    have hsz := hb1.size
    clear hb h
    unfold notSame at o2
    cases x <;> cases y <;> simp at o1 o2
    all_goals
      go_wp2
      all_goals first
        | (exfalso; simp_all; done)
        | (go_ret; refine ⟨rfl, ?_⟩; repeat (refine Below.alloc ?_ (by first | omega | (simp only [World.size_alloc]; omega)) _)
           exact hb1)
end Go.Proofs.Ytojgbcianpglpaa
