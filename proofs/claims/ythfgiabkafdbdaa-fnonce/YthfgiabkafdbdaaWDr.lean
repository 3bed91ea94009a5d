
/- What the drawn laws of windows draw: a window. -/
import Derived.Test.YthfgiabkafdbdaaWin10
import Derived.Test.YthfgiabkafdbdaaKo
namespace Go.Proofs.Ythfgiabkafdbdaa.Wn
open Go.RowKit

theorem specAccepted_some {B : Nat} {v : Value} {xs : List Int} {w : World} (top n : Int) (h : Ints B v xs w) :
    Calls Try.prog 12 #[wv top v, .int .i64 n] w fun e w' => ∃ T X f a c, e = .returned (.tuple #[wv T (.slice a X.length c), .bool f]) ∧ Ints w.heap.size (.slice a X.length c) X w' ∧ Below w.heap.size w w' := by
  refine (specAccepted_any top n h).mono ?_
  rintro e w' ⟨v', rfl, hk, hb⟩
  obtain ⟨a, c, hv, _, _⟩ := hk.row
  subst hv
  exact ⟨_, _, _, a, c, rfl, hk, hb⟩
theorem nil_ints (B : Nat) (w : World) : Ints B (.slice none 0 0) [] w := ⟨by simp, .inl ⟨rfl, rfl⟩⟩

set_option maxRecDepth 100000 in
set_option maxHeartbeats 2000000 in
theorem window_any (B R : Nat) (W : World) (h : Rd B R W) :
    Calls Try.prog 37 #[.pointer (some ⟨R, 0, none⟩)] W fun e W' => ∃ top v xs, e = .returned (wv top v) ∧ Ints W.heap.size v xs W' ∧ Rd B R W' ∧ W.grownBy W' (some R) := by
  have hlt := h.lt
  have h1 := (h.alloc (wb 0 (.slice none 0 0))).alloc (wb 0 (.slice none 0 0))
  have g1 : W.grownBy ((W.alloc (wb 0 (.slice none 0 0))).alloc (wb 0 (.slice none 0 0))) (some R) := (World.grownBy_alloc _ _ _).trans (World.grownBy_alloc _ _ _)
  have t0 : ((W.alloc (wb 0 (.slice none 0 0))).alloc (wb 0 (.slice none 0 0))).heap[W.heap.size]? = some (wb 0 (.slice none 0 0)) := by
    rw [Below.heap_alloc _ _ _ (by simp)]
    exact heap_alloc_new _ _
  have t1 : ((W.alloc (wb 0 (.slice none 0 0))).alloc (wb 0 (.slice none 0 0))).heap[W.heap.size + 1]? = some (wb 0 (.slice none 0 0)) := by
    have := heap_alloc_new (W.alloc (wb 0 (.slice none 0 0))) (wb 0 (.slice none 0 0))
    simpa using this
  have hs1 : ((W.alloc (wb 0 (.slice none 0 0))).alloc (wb 0 (.slice none 0 0))).heap.size = W.heap.size + 1 + 1 := by simp
  go_enter Try.func37, Try.ntmps37
  go_wp2_with fail
  generalize (W.alloc (wb 0 (.slice none 0 0))).alloc (wb 0 (.slice none 0 0)) = w1 at *
  refine (below_any B R _ _ h1 (by omega) (by omega)).mono ?_
  rintro e w2 ⟨x, hx0, hx1, rfl, hR2, hg2⟩
  obtain ⟨m, rfl⟩ : ∃ m : Nat, x = (m : Int) := ⟨x.toNat, by omega⟩
  have hG2 := g1.trans hg2
  have s0 := blk hg2 t0 (by omega)
  have s1 := blk hg2 t1 (by omega)
  have hsz2 := hg2.size
  clear h1 g1 hg2 t0 t1
  go_wp2
  go_loopw [4, 5] (fun nv i wr => ∃ (j : Nat) (nn top : Int) (a : Option Addr) (c : Nat) (xs : List Int), nv = .int .i64 nn ∧ i = .int .i64 (j : Int) ∧ j ≤ 20 ∧ wr.heap[W.heap.size]? = some (wb 0 (.slice none 0 0)) ∧ wr.heap[W.heap.size + 1]? = some (wb top (.slice a xs.length c)) ∧ Hid (Ints (W.heap.size + 1 + 1) (.slice a xs.length c) xs wr) ∧ Rd B R wr ∧ W.grownBy wr (some R) ∧ W.heap.size + 1 + 1 ≤ wr.heap.size) (fun _ i _ => (intOf i).toNat)
  case atStart => exact ⟨m, 0, 0, none, 0, [], rfl, rfl, by omega, s0, s1, nil_ints _ _, hR2, hG2, by omega⟩
  case round =>
    obtain ⟨j, nn, top, a, c, xs, rfl, rfl, hj, r0, r1, HI, hR, hG, hsz⟩ := hrel
    clear s0 s1 hR2 hG2
    have hne : ∀ k, (Value.slice a xs.length c).ownBlock = some k → W.heap.size + 1 + 1 ≤ k := fun k e => (HI.out.lt k e).1
    by_cases hj0 : j = 0
    · subst hj0
      go_wp2_with fail
      refine (once_any B R _ _ hR (by omega) (by omega)).mono ?_
      rintro e w3 ⟨b, rfl, hR3, hg3⟩
      have r0 := blk hg3 r0 (by omega)
      have r1 := blk hg3 r1 (by omega)
      have HI3 := hidOf (HI.out.kept hg3 (fun k e e' => by cases e; have := hne _ e'; omega))
      have hG3 := hG.trans hg3
      have hs3 := hg3.size
      clear hR hG hg3 HI
      cases b with
      | false =>
        obtain ⟨⟨p0, p1⟩, f0, f1⟩ := box2 r0
        obtain ⟨⟨q0, q1⟩, e0, e1⟩ := box2 r1
        have HF := hidOf (box2_set1 (box2_set0 r0 (.int .i64 top)) (.slice a xs.length c))
        have hgs := (grown_set w3 W.heap.size 0 (.int .i64 top)).trans (grown_set _ W.heap.size 1 (.slice a xs.length c))
        have HK := hidOf ((HI3.out.mono (show W.heap.size ≤ W.heap.size + 1 + 1 by omega)).kept hgs (fun k e e' => by cases e; have := hne _ e'; omega))
        have HR := hidOf (hR3.kept hgs (fun k e => by cases e; exact ⟨by have := hR3.le; omega, by omega⟩))
        have HG := hidOf (show W.grownBy ((w3.setCell ⟨W.heap.size, 0, none⟩ (.int .i64 top)).setCell ⟨W.heap.size, 1, none⟩ (.slice a xs.length c)) (some R) from hG3.andThen hgs (fun k e => by cases e; exact .inl (Nat.le_refl _)))
        clear r0 r1 hgs HI3 hR3 hG3
        go_wp2
        have bF := HF.out
        have gK := HK.out
        have gR := HR.out
        have gG := HG.out
        clear HF HK HR HG
        generalize (w3.setCell ⟨W.heap.size, 0, none⟩ (.int .i64 top)).setCell ⟨W.heap.size, 1, none⟩ (.slice a xs.length c) = WF at bF gK gR gG ⊢
        obtain ⟨⟨z0, z1⟩, _, _⟩ := box2 bF
        exact bodyPost_ret (v := wv top (.slice a xs.length c)) (by simp [results, Try.results37, go_sem, z0, z1]) rfl ⟨top, _, xs, rfl, gK, gR, gG⟩
      | true =>
        go_wp2_with fail
        refine (off_any B R _ _ _ hR3 (by omega) (by omega) (by omega)).mono ?_
        rintro e w4 ⟨y, _, rfl, hR4, hg4⟩
        have r0 := blk hg4 r0 (by omega)
        have r1 := blk hg4 r1 (by omega)
        have HI4 := hidOf (HI3.out.kept hg4 (fun k e e' => by cases e; have := hne _ e'; omega))
        have hG4 := hG3.trans hg4
        have hs4 := hg4.size
        obtain ⟨⟨q0, q1⟩, e0, e1⟩ := box2 r1
        have r0 := blk (grown_set w4 (W.heap.size + 1) 0 (.int .i64 y)) r0 (by omega)
        have r1 := box2_set0 r1 (.int .i64 y)
        obtain ⟨⟨p0, p1⟩, f0, f1⟩ := box2 r0
        obtain ⟨⟨q2, q3⟩, e2, e3⟩ := box2 r1
        have HF := hidOf (box2_set1 (box2_set0 r0 (.int .i64 y)) (.slice a xs.length c))
        have hgA := grown_set w4 (W.heap.size + 1) 0 (.int .i64 y)
        have hgs := (grown_set (w4.setCell ⟨W.heap.size + 1, 0, none⟩ (.int .i64 y)) W.heap.size 0 (.int .i64 y)).trans (grown_set _ W.heap.size 1 (.slice a xs.length c))
        have HK := hidOf (((HI4.out.mono (show W.heap.size ≤ W.heap.size + 1 + 1 by omega)).kept hgA (fun k e e' => by cases e; have := hne _ e'; omega)).kept hgs (fun k e e' => by cases e; have := hne _ e'; omega))
        have HR := hidOf ((hR4.kept hgA (fun k e => by cases e; exact ⟨by have := hR4.le; omega, by omega⟩)).kept hgs (fun k e => by cases e; exact ⟨by have := hR4.le; omega, by omega⟩))
        have HG := hidOf (show W.grownBy (((w4.setCell ⟨W.heap.size + 1, 0, none⟩ (.int .i64 y)).setCell ⟨W.heap.size, 0, none⟩ (.int .i64 y)).setCell ⟨W.heap.size, 1, none⟩ (.slice a xs.length c)) (some R) from (hG4.andThen hgA (fun k e => by cases e; exact .inl (by omega))).andThen hgs (fun k e => by cases e; exact .inl (Nat.le_refl _)))
        clear r0 r1 hgs hgA HI4 HI3 hR4 hR3 hG4 hG3 hg4
        go_wp2
        have bF := HF.out
        have gK := HK.out
        have gR := HR.out
        have gG := HG.out
        clear HF HK HR HG
        generalize ((w4.setCell ⟨W.heap.size + 1, 0, none⟩ (.int .i64 y)).setCell ⟨W.heap.size, 0, none⟩ (.int .i64 y)).setCell ⟨W.heap.size, 1, none⟩ (.slice a xs.length c) = WF at bF gK gR gG ⊢
        obtain ⟨⟨z0, z1⟩, _, _⟩ := box2 bF
        exact bodyPost_ret (v := wv y (.slice a xs.length c)) (by simp [results, Try.results37, go_sem, z0, z1]) rfl ⟨y, _, xs, rfl, gK, gR, gG⟩
    · obtain ⟨i, rfl⟩ : ∃ i, j = i + 1 := ⟨j - 1, by omega⟩
      go_wp2_with fail
      refine (below_any B R _ _ hR (by omega) (by omega)).mono ?_
      rintro e w3 ⟨x, hx0, hx1, rfl, hR3, hg3⟩
      have r0 := blk hg3 r0 (by omega)
      have r1 := blk hg3 r1 (by omega)
      have HI3 := hidOf (HI.out.kept hg3 (fun k e e' => by cases e; have := hne _ e'; omega))
      have hG3 := hG.trans hg3
      have hs3 := hg3.size
      clear hR hG hg3 HI
      go_wp2_with fail
      refine (once_any B R _ _ hR3 (by omega) (by omega)).mono ?_
      rintro e w4 ⟨b, rfl, hR4, hg4⟩
      have r0 := blk hg4 r0 (by omega)
      have r1 := blk hg4 r1 (by omega)
      have HI4 := hidOf (HI3.out.kept hg4 (fun k e e' => by cases e; have := hne _ e'; omega))
      have hG4 := hG3.trans hg4
      have hs4 := hg4.size
      obtain ⟨⟨q0, q1⟩, e0, e1⟩ := box2 r1
      clear hR3 hG3 hg4 HI3
      cases b
      all_goals
        go_wp2_with fail
        refine (specAccepted_some top _ HI4.out).mono ?_
        rintro e w5 ⟨T, X, f, a5, c5, rfl, k5, b5⟩
        have g5 := grown_below b5
        have r0 := (b5.block _ (by omega)).trans r0
        have r1 := (b5.block _ (by omega)).trans r1
        have I5 := hidOf (HI4.out.since b5)
        have hR5 := hR4.kept g5 (fun k e => by cases e)
        have hG5 := hG4.andThen g5 (fun k e => by cases e)
        have hs5 := b5.size
        have K5 := hidOf k5
        have hx5 := k5.lt
        clear k5 hR4 hG4 HI4 b5 g5 q0 q1 e0 e1
        have r0 : (w5.alloc (wb T (.slice a5 X.length c5))).heap[W.heap.size]? = some (wb 0 (.slice none 0 0)) := by rw [Below.heap_alloc _ _ _ (by omega)]; exact r0
        have r1 : (w5.alloc (wb T (.slice a5 X.length c5))).heap[W.heap.size + 1]? = some (wb top (.slice a xs.length c)) := by rw [Below.heap_alloc _ _ _ (by omega)]; exact r1
        have r5 : (w5.alloc (wb T (.slice a5 X.length c5))).heap[w5.heap.size]? = some (wb T (.slice a5 X.length c5)) := heap_alloc_new _ _
        have I6 := hidOf (I5.out.since (one_below _ (wb T (.slice a5 X.length c5))))
        have K6 := hidOf (K5.out.since (one_below _ (wb T (.slice a5 X.length c5))))
        have hR6 := hR5.alloc (wb T (.slice a5 X.length c5))
        have hG6 : W.grownBy (w5.alloc (wb T (.slice a5 X.length c5))) (some R) := hG5.trans (World.grownBy_alloc _ _ _)
        have hs6 : (w5.alloc (wb T (.slice a5 X.length c5))).heap.size = w5.heap.size + 1 := by simp
        clear I5 K5 hR5 hG5
        obtain ⟨⟨q0, q1⟩, e0, e1⟩ := box2 r1
        obtain ⟨⟨p0, p1⟩, f0, f1⟩ := box2 r5
        cases f with
        | false =>
          go_wp2
          go_roundw
          case rel => exact ⟨i, _, top, a, c, xs, rfl, by go_num, by omega, r0, r1, I6, hR6, hG6, by simp <;> omega⟩
          case measure => simp [intOf] <;> omega
        | true =>
          have hgs := (grown_set (w5.alloc (wb T (.slice a5 X.length c5))) (W.heap.size + 1) 0 (.int .i64 T)).trans (grown_set _ (W.heap.size + 1) 1 (.slice a5 X.length c5))
          have A0 := hidOf (show (((w5.alloc (wb T (.slice a5 X.length c5))).setCell ⟨W.heap.size + 1, 0, none⟩ (.int .i64 T)).setCell ⟨W.heap.size + 1, 1, none⟩ (.slice a5 X.length c5)).heap[W.heap.size]? = some (wb 0 (.slice none 0 0)) from blk (k := W.heap.size) hgs r0 (by omega))
          have A1 := hidOf (box2_set1 (box2_set0 r1 (.int .i64 T)) (.slice a5 X.length c5))
          have AK := hidOf ((K6.out.mono (show W.heap.size + 1 + 1 ≤ w4.heap.size by omega)).kept hgs (fun k e e' => by cases e; have := (hx5 _ e').1; omega))
          have AR := hidOf (hR6.kept hgs (fun k e => by cases e; exact ⟨by have := hR6.le; omega, by omega⟩))
          have AG := hidOf (show W.grownBy (((w5.alloc (wb T (.slice a5 X.length c5))).setCell ⟨W.heap.size + 1, 0, none⟩ (.int .i64 T)).setCell ⟨W.heap.size + 1, 1, none⟩ (.slice a5 X.length c5)) (some R) from hG6.andThen hgs (fun k e => by cases e; exact .inl (by omega)))
          clear hgs
          go_wp2
          go_roundw
          case rel => exact ⟨i, _, T, a5, c5, X, rfl, by go_num, by omega, A0.out, A1.out, AK.out, AR.out, AG.out, by simp <;> omega⟩
          case measure => simp [intOf] <;> omega
end Go.Proofs.Ythfgiabkafdbdaa.Wn
