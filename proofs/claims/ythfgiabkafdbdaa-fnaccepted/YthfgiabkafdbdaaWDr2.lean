
/- What DrawAccepted draws. -/
import Derived.Test.YthfgiabkafdbdaaWDr
import Derived.Deep.RegionWith
namespace Go.Proofs.Ythfgiabkafdbdaa.Wn
open Go.RowKit

set_option maxRecDepth 100000 in
set_option maxHeartbeats 2000000 in
theorem drawAccepted_any (a : Option Addr) (len cap : Nat) (W : World) (h : Bytes W.heap.size a len W) :
    Calls Try.prog 10 #[.slice a len cap] W fun e W' => ∃ top v xs n, e = .returned (.tuple #[wv top v, .int .i64 n]) ∧ Ints W.heap.size v xs W' ∧ Below W.heap.size W W' := by
  have hBk : Bytes (W.alloc (wb 0 (.slice none 0 0))).heap.size a len (W.alloc (wb 0 (.slice none 0 0))) := by
    have h' := h.kept ((Below.refl W.heap.size W).alloc (Nat.le_refl _) (wb 0 (.slice none 0 0)))
    exact ⟨h'.1, fun i hi => by obtain ⟨b, off, x, e, hb, hc⟩ := h'.2 i hi; exact ⟨b, off, x, e, by simp; omega, hc⟩⟩
  have bR0 : (W.alloc (wb 0 (.slice none 0 0))).heap[W.heap.size]? = some (wb 0 (.slice none 0 0)) := heap_alloc_new _ _
  have hs0 : (W.alloc (wb 0 (.slice none 0 0))).heap.size = W.heap.size + 1 := by simp
  have hG0 : W.grownBy (W.alloc (wb 0 (.slice none 0 0))) none := World.grownBy_alloc _ _ _
  go_enter Try.func10, Try.ntmps10
  go_wp2_with fail
  generalize W.alloc (wb 0 (.slice none 0 0)) = W0 at hBk bR0 hs0 hG0 ⊢
  have HS0 := hidOf hs0
  clear hs0
  refine (l1Open_any _ _ _ _).mono ?_
  rintro e w1 ⟨rfl, hw1⟩
  have hR : Rd W0.heap.size W0.heap.size w1 := by rw [hw1]; exact hBk.rd (Nat.le_refl _) cap
  have hG1 : W0.grownBy w1 none := by rw [hw1]; exact World.grownBy_alloc _ _ _
  have hlt := hR.lt
  clear hw1
  go_wp2_with fail
  refine (window_any W0.heap.size W0.heap.size _ hR).mono ?_
  rintro e w2 ⟨top, v, xs, rfl, k2, hR2, g2⟩
  obtain ⟨av, cv, hv, _, _⟩ := k2.row
  subst hv
  have hG2 : W0.grownBy w2 none := hG1.andThen g2 (fun j e => by cases e; exact .inl (Nat.le_refl _))
  have hs2 := hG2.size
  have hs12 := g2.size
  have hs1 := hG1.size
  have K3 := hidOf (k2.since (one_below w2 (wb top (.slice av xs.length cv))))
  have hR3 := hR2.alloc (wb top (.slice av xs.length cv))
  have hG3 : W0.grownBy (w2.alloc (wb top (.slice av xs.length cv))) none := hG2.trans (World.grownBy_alloc _ _ _)
  have r5 : (w2.alloc (wb top (.slice av xs.length cv))).heap[w2.heap.size]? = some (wb top (.slice av xs.length cv)) := heap_alloc_new _ _
  have hs3 : (w2.alloc (wb top (.slice av xs.length cv))).heap.size = w2.heap.size + 1 := by simp
  have hkx := k2.lt
  clear k2 g2 hR hR2 hG1 hG2
  go_wp2_with fail
  generalize w2.alloc (wb top (.slice av xs.length cv)) = w3 at *
  refine (once_any _ _ _ _ hR3 (by omega) (by omega)).mono ?_
  rintro e w4 ⟨b, rfl, hR4, g4⟩
  have hG4 : W0.grownBy w4 none := hG3.andThen g4 (fun j e => by cases e; exact .inl (Nat.le_refl _))
  have K4 := hidOf (K3.out.kept g4 (fun k e e' => by cases e; have := (hkx _ e').1; omega))
  have r5 := blk g4 r5 (by omega)
  have hs0 := HS0.out
  have r0 := (hG4.block _ (by omega) (by simp)).trans bR0
  have hs4 := g4.size
  clear hR3 hG3 K3 g4 bR0
  obtain ⟨⟨p0, p1⟩, f0, f1⟩ := box2 r5
  have hR4d : Rd W0.heap.size (W.heap.size + 1) w4.drew := by rw [← hs0]; exact hR4
  have HG4' := hidOf (hG0.trans hG4)
  have HG4 := hidOf hG4
  have HR5 := hidOf r5
  have HR0 := hidOf r0
  clear hG4 r5 r0 hBk h
  cases b with
  | true =>
    go_wp2
    go_region_with (go_at_call 39; refine (off_any _ _ _ _ _ (by exact hR4d) (by omega) (by omega) (by omega)).mono ?_; rintro e w5 ⟨y, _, rfl, hR5, g5⟩; have s5 := blk g5 (show w4.drew.heap[w2.heap.size]? = _ from HR5.out) (by omega); have s0 := blk g5 (show w4.drew.heap[W.heap.size]? = _ from HR0.out) (by omega); obtain ⟨⟨q0, q1⟩, e0, e1⟩ := box2 s5; obtain ⟨⟨y0, y1⟩, j0, j1⟩ := box2 s0)
    all_goals
      have K5 := (K4.out.kept (grown_drew w4 none) (fun k e => by cases e)).kept g5 (fun k e e' => by cases e; have := (hkx _ e').1; omega)
      have hgs := (grown_set w5 W.heap.size 0 (.int .i64 top)).trans (grown_set _ W.heap.size 1 (.slice av xs.length cv))
      have HK := hidOf ((K5.mono (show W.heap.size ≤ w1.heap.size by omega)).kept hgs (fun k e e' => by cases e; have := (hkx _ e').1; omega))
      have HF := hidOf (box2_set1 (box2_set0 s0 (.int .i64 top)) (.slice av xs.length cv))
      have HB := hidOf (show Below W.heap.size W ((w5.setCell ⟨W.heap.size, 0, none⟩ (.int .i64 top)).setCell ⟨W.heap.size, 1, none⟩ (.slice av xs.length cv)) from below_grown (((HG4'.out.trans (grown_drew w4 none)).andThen g5 (fun j e => by cases e; exact .inl (by omega))).andThen hgs (fun j e => by cases e; exact .inl (Nat.le_refl _))))
      clear K5 hgs g5 s5 s0 hR5 hR4 hR4d
      go_wp2
      have bF := HF.out
      have gK := HK.out
      have gB := HB.out
      clear HF HK HB
      generalize (w5.setCell ⟨W.heap.size, 0, none⟩ (.int .i64 top)).setCell ⟨W.heap.size, 1, none⟩ (.slice av xs.length cv) = WF at bF gK gB ⊢
      obtain ⟨⟨z0, z1⟩, _, _⟩ := box2 bF
      exact bodyPost_ret (v := .tuple #[wv top (.slice av xs.length cv), .int .i64 y]) (by simp [results, Try.results10, go_sem, z0, z1]) rfl ⟨top, _, xs, _, rfl, gK, gB⟩
  | false =>
    go_wp2
    go_region_with (go_at_call 40; refine (below_any _ _ _ _ (by exact hR4d) (by omega) (by omega)).mono ?_; rintro e w5 ⟨y, _, _, rfl, hR5, g5⟩; have s5 := blk g5 (show w4.drew.heap[w2.heap.size]? = _ from HR5.out) (by omega); have s0 := blk g5 (show w4.drew.heap[W.heap.size]? = _ from HR0.out) (by omega); obtain ⟨⟨q0, q1⟩, e0, e1⟩ := box2 s5; obtain ⟨⟨y0, y1⟩, j0, j1⟩ := box2 s0)
    all_goals
      have K5 := (K4.out.kept (grown_drew w4 none) (fun k e => by cases e)).kept g5 (fun k e e' => by cases e; have := (hkx _ e').1; omega)
      have hgs := (grown_set w5 W.heap.size 0 (.int .i64 top)).trans (grown_set _ W.heap.size 1 (.slice av xs.length cv))
      have HK := hidOf ((K5.mono (show W.heap.size ≤ w1.heap.size by omega)).kept hgs (fun k e e' => by cases e; have := (hkx _ e').1; omega))
      have HF := hidOf (box2_set1 (box2_set0 s0 (.int .i64 top)) (.slice av xs.length cv))
      have HB := hidOf (show Below W.heap.size W ((w5.setCell ⟨W.heap.size, 0, none⟩ (.int .i64 top)).setCell ⟨W.heap.size, 1, none⟩ (.slice av xs.length cv)) from below_grown (((HG4'.out.trans (grown_drew w4 none)).andThen g5 (fun j e => by cases e; exact .inl (by omega))).andThen hgs (fun j e => by cases e; exact .inl (Nat.le_refl _))))
      clear K5 hgs g5 s5 s0 hR5 hR4 hR4d
      go_wp2
      have bF := HF.out
      have gK := HK.out
      have gB := HB.out
      clear HF HK HB
      generalize (w5.setCell ⟨W.heap.size, 0, none⟩ (.int .i64 top)).setCell ⟨W.heap.size, 1, none⟩ (.slice av xs.length cv) = WF at bF gK gB ⊢
      obtain ⟨⟨z0, z1⟩, _, _⟩ := box2 bF
      exact bodyPost_ret (v := .tuple #[wv top (.slice av xs.length cv), .int .i64 (IntKind.i64.wrap (IntKind.i64.wrap (top - 35) + y))]) (by simp [results, Try.results10, go_sem, z0, z1]) rfl ⟨top, _, xs, _, rfl, gK, gB⟩
end Go.Proofs.Ythfgiabkafdbdaa.Wn
