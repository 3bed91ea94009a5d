
/- The walk of the exact law of GroupKeyOf: it answers true at every member, and nothing that lay there turns. -/
import Derived.Test.YtplinjepeahahabExMember
namespace Go.Proofs.Ytplinjepeahahab
open Go.RowKit

theorem kcell2 (w : World) (x y : Int) : (w.alloc (kb x y)).cell? ⟨w.heap.size, 0, none⟩ = some (.int .i64 x) ∧ (w.alloc (kb x y)).cell? ⟨w.heap.size, 1, none⟩ = some (.int .i64 y) := by simp
theorem sameK_self (x y : Int) : sameK x y x y = true := by simp [sameK]
set_option maxRecDepth 100000 in
set_option maxHeartbeats 2000000 in
theorem exGroupKeyOf_any (id ep : Int) (v : Value) (ks : List (Int × Int)) (w : World) (h : InKeys v ks w) :
    Calls Try.prog 3 #[mv id ep v] w fun e w' => e = .returned (.bool true) ∧ Below w.heap.size w w' := by
  obtain ⟨a, c, hv, hm⟩ := h.len
  subst hv
  have hB0 := one_below w (lmb id ep (.slice a ks.length c))
  obtain ⟨c0, c1, c2⟩ := lcell3 w id ep (.slice a ks.length c)
  have h0 := h.below hB0 (Nat.le_refl _)
  clear h
  by_cases hn : ks.length ≤ 1048576
  · have hif : (if (1048576 : Int) - (ks.length : Int) < 0 then (-1 : Int) else 1048576 - (ks.length : Int)) = 1048576 - (ks.length : Int) := if_neg (by omega)
    have hge : ¬ (1048576 : Int) - (ks.length : Int) < 0 := by omega
    go_enter Try.func3, Try.ntmps3
    go_wp2_with fail
    generalize w.alloc (lmb id ep (.slice a ks.length c)) = w0 at hB0 c0 c1 c2 h0 ⊢
    refine (szMember_any _ _ _ _ _ _ _ (by omega) (by omega) hm).mono ?_
    rintro e w1 ⟨rfl, hw1⟩
    rw [hif]
    have b1 : Below w0.heap.size w0 w1 := by rw [hw1]; exact one_below _ _
    have B1 : Hid (Below w.heap.size w w1) := more hB0 b1
    have I1 : Hid (InKeys (.slice a ks.length c) ks w1) := h0.below b1 (Nat.le_refl _)
    have d0 := cell_since c0 b1
    have d1 := cell_since c1 b1
    have d2 := cell_since c2 b1
    clear hw1 c0 c1 c2 b1 h0 hif
    go_wp2_with fail
    refine (toMember_any _ _ _ ks _ I1.out hn).mono ?_
    rintro e w2 ⟨v2, rfl, k2, b2⟩
    go_wp2_with fail
    refine (specGroupKeyOf_any id ep k2).mono ?_
    rintro e w3 ⟨rfl, b3⟩
    obtain ⟨x, y, hxy⟩ : ∃ x y, groupK id ep ks = (x, y) := ⟨_, _, rfl⟩
    have HG : Hid (groupK id ep ks = (x, y)) := hxy
    rw [hxy]
    clear hxy
    have hb3 := one_below w3 (kb x y)
    have B3 : Hid (Below w.heap.size w (w3.alloc (kb x y))) := more (more (more B1.out b2) b3) hb3
    have I3 : Hid (InKeys (.slice a ks.length c) ks (w3.alloc (kb x y))) := ((I1.out.below b2 (Nat.le_refl _)).below b3 (Nat.le_refl _)).below hb3 (Nat.le_refl _)
    have e0 := cell_since (cell_since (cell_since d0 b2) b3) hb3
    have e1 := cell_since (cell_since (cell_since d1 b2) b3) hb3
    have e2 := cell_since (cell_since (cell_since d2 b2) b3) hb3
    obtain ⟨s0, s1⟩ := kcell2 w3 x y
    clear d0 d1 d2 b2 b3 hb3 k2 I1 B1
    go_wp2_with fail
    generalize w3.alloc (kb x y) = w3a at *
    refine (toMember_any _ _ _ ks _ I3.out hn).mono ?_
    rintro e w4 ⟨v4, rfl, k4, b4⟩
    have hB5 := one_below w4 (mb id ep v4)
    obtain ⟨x0, x1, x2⟩ := cell3 w4 id ep v4
    have B5 : Hid (Below w.heap.size w (w4.alloc (mb id ep v4))) := more (more B3.out b4) hB5
    have I5 : Hid (InKeys (.slice a ks.length c) ks (w4.alloc (mb id ep v4))) := (I3.out.below b4 (Nat.le_refl _)).below hB5 (Nat.le_refl _)
    have K5 : Hid (Keys w3a.heap.size v4 ks (w4.alloc (mb id ep v4))) := since k4 hB5
    have f0 := cell_since (cell_since e0 b4) hB5
    have f1 := cell_since (cell_since e1 b4) hB5
    have f2 := cell_since (cell_since e2 b4) hB5
    have t0 := cell_since (cell_since s0 b4) hB5
    have t1 := cell_since (cell_since s1 b4) hB5
    obtain ⟨a4, c4, hv4, _, _⟩ := k4.row
    clear e0 e1 e2 s0 s1 b4 k4 hB5 I3 B3
    subst hv4
    go_wp2_with fail
    generalize w4.alloc (mb id ep (.slice a4 ks.length c4)) = w5 at *
    refine (groupKeyOf_any id ep K5.out).mono ?_
    rintro e w6 ⟨rfl, b6⟩
    rw [HG.out]
    have hb7 := one_below w6 (kb x y)
    have b67 := more b6 hb7
    have B7 : Hid (Below w.heap.size w (w6.alloc (kb x y))) := more B5.out b67
    have I7 : Hid (InKeys (.slice a ks.length c) ks (w6.alloc (kb x y))) := I5.out.below b67 (Nat.le_refl _)
    have K7 : Hid (Keys w3a.heap.size (.slice a4 ks.length c4) ks (w6.alloc (kb x y))) := since K5.out b67
    have g0 := cell_since f0 b67
    have g1 := cell_since f1 b67
    have g2 := cell_since f2 b67
    have y0 := cell_since x0 b67
    have y1 := cell_since x1 b67
    have y2 := cell_since x2 b67
    have u0 := cell_since t0 b67
    have u1 := cell_since t1 b67
    obtain ⟨r0, r1⟩ := kcell2 w6 x y
    clear f0 f1 f2 x0 x1 x2 t0 t1 b6 hb7 b67 I5 K5 B5 HG
    generalize groupB id ep ks = ans
    go_wp2_with fail
    generalize w6.alloc (kb x y) = w7 at *
    refine (eqKey_below x y x y _).mono ?_
    rintro e w8 ⟨rfl, b8⟩
    rw [sameK_self]
    have B8 : Hid (Below w.heap.size w w8) := more B7.out b8
    have I8 : Hid (InKeys (.slice a ks.length c) ks w8.drew) := (I7.out.below b8 (Nat.le_refl _)).below (Below.refl w8.heap.size _).drew (Nat.le_refl _)
    have K8 : Hid (Keys w3a.heap.size (.slice a4 ks.length c4) ks w8.drew) := since (since K7.out b8) (Below.refl _ _).drew
    have j0 := cell_since g0 b8
    have j1 := cell_since g1 b8
    have j2 := cell_since g2 b8
    have l0 := cell_since y0 b8
    have l1 := cell_since y1 b8
    have l2 := cell_since y2 b8
    clear g0 g1 g2 y0 y1 y2 u0 u1 r0 r1 b8 I7 K7 B7
    go_wp2
    go_region_held3 (fun W => W.cell? ⟨w.heap.size, 0, none⟩ = some (.int .i64 id) ∧ W.cell? ⟨w.heap.size, 1, none⟩ = some (.int .i64 ep) ∧ W.cell? ⟨w.heap.size, 2, none⟩ = some (.slice a ks.length c) ∧ W.cell? ⟨w4.heap.size, 0, none⟩ = some (.int .i64 id) ∧ W.cell? ⟨w4.heap.size, 1, none⟩ = some (.int .i64 ep) ∧ W.cell? ⟨w4.heap.size, 2, none⟩ = some (.slice a4 ks.length c4) ∧ Below w.heap.size w W)
      (first | exact ⟨j0, j1, j2, l0, l1, l2, B8.out.drew⟩ | assumption | exact later6 ‹_› b10 | exact later6 ‹_› b9)
      (first | (go_at_call 7; refine (toMember_any _ _ _ ks _ I8.out hn).mono ?_; rintro e w9 ⟨v9, rfl, k9, b9⟩) | (go_at_call 10; refine (eqMember_any _ _ _ _ (since K8.out b9) k9).mono ?_; rintro e w10 ⟨rfl, b10⟩; rw [sameM_self]))
    rename_i hHeld
    have hBf := hHeld.2.2.2.2.2.2
    clear hHeld
    go_wp2
    go_ret
    exact ⟨rfl, hBf⟩
  · have hif : (if (1048576 : Int) - (ks.length : Int) < 0 then (-1 : Int) else 1048576 - (ks.length : Int)) = -1 := if_pos (by omega)
    go_enter Try.func3, Try.ntmps3
    go_wp2_with fail
    generalize w.alloc (lmb id ep (.slice a ks.length c)) = w0 at hB0 c0 c1 c2 h0 ⊢
    refine (szMember_any _ _ _ _ _ _ _ (by omega) (by omega) hm).mono ?_
    rintro e w1 ⟨rfl, hw1⟩
    rw [hif]
    have b1 : Below w0.heap.size w0 w1 := by rw [hw1]; exact one_below _ _
    clear hw1
    go_wp2
    go_ret
    exact ⟨rfl, more hB0 b1⟩
end Go.Proofs.Ytplinjepeahahab
