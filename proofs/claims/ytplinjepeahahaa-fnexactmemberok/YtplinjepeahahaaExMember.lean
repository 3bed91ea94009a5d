
/- The walk of the exact law of MemberOk: it answers true at every member, and nothing that lay there turns. -/
import Derived.Test.YtplinjepeahahaaMem4
namespace Go.Proofs.Ytplinjepeahahaa
open Go.RowKit

theorem lcell3 (w : World) (x y : Int) (v : Value) : (w.alloc (lmb x y v)).cell? ⟨w.heap.size, 0, none⟩ = some (.int .i64 x) ∧ (w.alloc (lmb x y v)).cell? ⟨w.heap.size, 1, none⟩ = some (.int .i64 y) ∧ (w.alloc (lmb x y v)).cell? ⟨w.heap.size, 2, none⟩ = some v := by simp
theorem later6 {w W W' : World} {p1 p2 p3 p4 p5 p6 : Addr} {v1 v2 v3 v4 v5 v6 : Value} (h : W.cell? p1 = some v1 ∧ W.cell? p2 = some v2 ∧ W.cell? p3 = some v3 ∧ W.cell? p4 = some v4 ∧ W.cell? p5 = some v5 ∧ W.cell? p6 = some v6 ∧ Below w.heap.size w W) (hb : Below W.heap.size W W') :
    W'.cell? p1 = some v1 ∧ W'.cell? p2 = some v2 ∧ W'.cell? p3 = some v3 ∧ W'.cell? p4 = some v4 ∧ W'.cell? p5 = some v5 ∧ W'.cell? p6 = some v6 ∧ Below w.heap.size w W' :=
  ⟨cell_later2 h.1 hb, cell_later2 h.2.1 hb, cell_later2 h.2.2.1 hb, cell_later2 h.2.2.2.1 hb, cell_later2 h.2.2.2.2.1 hb, cell_later2 h.2.2.2.2.2.1 hb, h.2.2.2.2.2.2.trans (hb.mono h.2.2.2.2.2.2.size)⟩

set_option maxRecDepth 100000 in
set_option maxHeartbeats 2000000 in
theorem exMemberOk_any (id ep : Int) (v : Value) (ks : List (Int × Int)) (w : World) (h : InKeys v ks w) :
    Calls Try.prog 8 #[mv id ep v] w fun e w' => e = .returned (.bool true) ∧ Below w.heap.size w w' := by
  obtain ⟨a, c, hv, hm⟩ := h.len
  subst hv
  have hB0 := one_below w (lmb id ep (.slice a ks.length c))
  obtain ⟨c0, c1, c2⟩ := lcell3 w id ep (.slice a ks.length c)
  have h0 := h.below hB0 (Nat.le_refl _)
  clear h
  by_cases hn : ks.length ≤ 1048576
  · have hif : (if (1048576 : Int) - (ks.length : Int) < 0 then (-1 : Int) else 1048576 - (ks.length : Int)) = 1048576 - (ks.length : Int) := if_neg (by omega)
    have hge : ¬ (1048576 : Int) - (ks.length : Int) < 0 := by omega
    go_enter Try.func8, Try.ntmps8
    go_wp2_with fail
    generalize w.alloc (lmb id ep (.slice a ks.length c)) = w0 at hB0 c0 c1 c2 h0 ⊢
    refine (szMember_any _ _ _ _ _ _ _ (by omega) (by omega) hm).mono ?_
    rintro e w1 ⟨rfl, hw1⟩
    rw [hif]
    have b1 : Below w0.heap.size w0 w1 := by rw [hw1]; exact one_below _ _
    have B1 : Hid (Below w.heap.size w w1) := more hB0 b1
    have I1 : Hid (InKeys (.slice a ks.length c) ks w1) := h0.below b1 (Nat.le_refl _)
    have d0 := cell_since c0 b1
    have d1 := cell_since c1 b1
    have d2 := cell_since c2 b1
    clear hw1 c0 c1 c2 b1 h0 hif
    go_wp2_with fail
    refine (toMember_any _ _ _ ks _ I1.out hn).mono ?_
    rintro e w2 ⟨v2, rfl, k2, b2⟩
    go_wp2_with fail
    refine (specMemberOk_any id ep k2).mono ?_
    rintro e w3 ⟨rfl, b3⟩
    have B3 : Hid (Below w.heap.size w w3) := more (more B1.out b2) b3
    have I3 : Hid (InKeys (.slice a ks.length c) ks w3) := (I1.out.below b2 (Nat.le_refl _)).below b3 (Nat.le_refl _)
    have e0 := cell_since (cell_since d0 b2) b3
    have e1 := cell_since (cell_since d1 b2) b3
    have e2 := cell_since (cell_since d2 b2) b3
    clear d0 d1 d2 b2 b3 k2 I1 B1
    go_wp2_with fail
    refine (toMember_any _ _ _ ks _ I3.out hn).mono ?_
    rintro e w4 ⟨v4, rfl, k4, b4⟩
    have hB5 := one_below w4 (mb id ep v4)
    obtain ⟨x0, x1, x2⟩ := cell3 w4 id ep v4
    have B5 : Hid (Below w.heap.size w (w4.alloc (mb id ep v4))) := more (more B3.out b4) hB5
    have I5 : Hid (InKeys (.slice a ks.length c) ks (w4.alloc (mb id ep v4))) := (I3.out.below b4 (Nat.le_refl _)).below hB5 (Nat.le_refl _)
    have K5 : Hid (Keys w3.heap.size v4 ks (w4.alloc (mb id ep v4))) := since k4 hB5
    have f0 := cell_since (cell_since e0 b4) hB5
    have f1 := cell_since (cell_since e1 b4) hB5
    have f2 := cell_since (cell_since e2 b4) hB5
    obtain ⟨a4, c4, hv4, _, _⟩ := k4.row
    clear e0 e1 e2 b4 k4 hB5 I3 B3
    subst hv4
    go_wp2_with fail
    generalize w4.alloc (mb id ep (.slice a4 ks.length c4)) = w5 at *
    refine (memberOk_any id ep K5.out).mono ?_
    rintro e w6 ⟨rfl, b6⟩
    have B6 : Hid (Below w.heap.size w w6) := more B5.out b6
    have I6 : Hid (InKeys (.slice a ks.length c) ks w6.drew) := (I5.out.below b6 (Nat.le_refl _)).below (Below.refl w6.heap.size _).drew (Nat.le_refl _)
    have K6 : Hid (Keys w3.heap.size (.slice a4 ks.length c4) ks w6.drew) := since (since K5.out b6) (Below.refl _ _).drew
    have g0 := cell_since f0 b6
    have g1 := cell_since f1 b6
    have g2 := cell_since f2 b6
    have y0 := cell_since x0 b6
    have y1 := cell_since x1 b6
    have y2 := cell_since x2 b6
    clear f0 f1 f2 x0 x1 x2 b6 I5 K5 B5
    generalize memberB id ep ks = ans
    go_wp2
    go_region_held3 (fun W => W.cell? ⟨w.heap.size, 0, none⟩ = some (.int .i64 id) ∧ W.cell? ⟨w.heap.size, 1, none⟩ = some (.int .i64 ep) ∧ W.cell? ⟨w.heap.size, 2, none⟩ = some (.slice a ks.length c) ∧ W.cell? ⟨w4.heap.size, 0, none⟩ = some (.int .i64 id) ∧ W.cell? ⟨w4.heap.size, 1, none⟩ = some (.int .i64 ep) ∧ W.cell? ⟨w4.heap.size, 2, none⟩ = some (.slice a4 ks.length c4) ∧ Below w.heap.size w W)
      (first | exact ⟨g0, g1, g2, y0, y1, y2, B6.out.drew⟩ | assumption | exact later6 ‹_› b8 | exact later6 ‹_› b7)
      (first | (go_at_call 33; refine (toMember_any _ _ _ ks _ I6.out hn).mono ?_; rintro e w7 ⟨v7, rfl, k7, b7⟩) | (go_at_call 35; refine (eqMember_any _ _ _ _ (since K6.out b7) k7).mono ?_; rintro e w8 ⟨rfl, b8⟩; rw [sameM_self]))
    rename_i hHeld
    have hBf := hHeld.2.2.2.2.2.2
    clear hHeld
    go_wp2
    go_ret
    exact ⟨rfl, hBf⟩
  · have hif : (if (1048576 : Int) - (ks.length : Int) < 0 then (-1 : Int) else 1048576 - (ks.length : Int)) = -1 := if_pos (by omega)
    go_enter Try.func8, Try.ntmps8
    go_wp2_with fail
    generalize w.alloc (lmb id ep (.slice a ks.length c)) = w0 at hB0 c0 c1 c2 h0 ⊢
    refine (szMember_any _ _ _ _ _ _ _ (by omega) (by omega) hm).mono ?_
    rintro e w1 ⟨rfl, hw1⟩
    rw [hif]
    have b1 : Below w0.heap.size w0 w1 := by rw [hw1]; exact one_below _ _
    clear hw1
    go_wp2
    go_ret
    exact ⟨rfl, more hB0 b1⟩
end Go.Proofs.Ytplinjepeahahaa
