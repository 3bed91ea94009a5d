
/- The walk of the exact law of ServerOk: it answers true at every server, and nothing that lay there turns. -/
import Derived.Test.YtplinjepeahahaaExSrvB
namespace Go.Proofs.Ytplinjepeahahaa
open Go.RowKit

set_option maxRecDepth 100000 in
set_option maxHeartbeats 2000000 in
theorem exServerOk_any (ep : Int) (x : Value) (vs : List Int) (y : Value) (ss : List (Int × Int)) (w : World) (hx : InInts x vs w) (hy : InSeats y ss w) :
    Calls Try.prog 3 #[svv ep x y] w fun e w' => e = .returned (.bool true) ∧ Below w.heap.size w w' := by
  obtain ⟨a, c, hv, hm⟩ := hx.len
  obtain ⟨a', c', hv', hm'⟩ := hy.len
  subst hv hv'
  have hB0 := one_below w (lsvb ep (.slice a vs.length c) (.slice a' ss.length c'))
  obtain ⟨c0, c1, c2⟩ := lscell3 w ep (.slice a vs.length c) (.slice a' ss.length c')
  by_cases hn : vs.length + ss.length ≤ 1048576
  · have hif := szV_ok hn
    have hge : ¬ (1048576 : Int) - (vs.length : Int) - (ss.length : Int) < 0 := by omega
    have hn1 : vs.length ≤ 1048576 := by omega
    have hn2 : ss.length ≤ 1048576 := by omega
    go_enter Try.func3, Try.ntmps3
    go_wp2_with fail
    generalize w.alloc (lsvb ep (.slice a vs.length c) (.slice a' ss.length c')) = w0 at hB0 c0 c1 c2 ⊢
    refine (szServer_any _ _ _ _ _ _ _ _ _ (by omega) (by omega) hm hm').mono ?_
    rintro e w1 ⟨rfl, hw1⟩
    rw [hif]
    have b1 : Below w0.heap.size w0 w1 := by rw [hw1]; exact one_below _ _
    have B1 : Hid (Below w.heap.size w w1) := more hB0 b1
    have d0 := cell_since c0 b1
    have d1 := cell_since c1 b1
    have d2 := cell_since c2 b1
    clear hw1 c0 c1 c2 b1 hif
    go_wp2_with fail
    refine (toServer_any _ _ _ vs ss _ (hx.below B1.out (Nat.le_refl _)) (hy.below B1.out (Nat.le_refl _)) hn1 hn2).mono ?_
    rintro e w2 ⟨x2, y2, rfl, k2, b2⟩
    go_wp2_with fail
    refine (specServerOk_any ep k2.1 k2.2.1).mono ?_
    rintro e w3 ⟨rfl, b3⟩
    have B3 : Hid (Below w.heap.size w w3) := more (more B1.out b2) b3
    have e0 := cell_since (cell_since d0 b2) b3
    have e1 := cell_since (cell_since d1 b2) b3
    have e2 := cell_since (cell_since d2 b2) b3
    clear d0 d1 d2 b2 b3 k2 B1
    go_wp2_with fail
    refine (toServer_any _ _ _ vs ss _ (hx.below B3.out (Nat.le_refl _)) (hy.below B3.out (Nat.le_refl _)) hn1 hn2).mono ?_
    rintro e w4 ⟨x4, y4, rfl, k4, b4⟩
    have hB5 := one_below w4 (svb ep x4 y4)
    obtain ⟨i0, i1, i2⟩ := scell3 w4 ep x4 y4
    have B5 : Hid (Below w.heap.size w (w4.alloc (svb ep x4 y4))) := more (more B3.out b4) hB5
    have K5 : Hid (SrvIs w3.heap.size x4 y4 vs ss (w4.alloc (svb ep x4 y4))) := k4.since hB5
    have f0 := cell_since (cell_since e0 b4) hB5
    have f1 := cell_since (cell_since e1 b4) hB5
    have f2 := cell_since (cell_since e2 b4) hB5
    obtain ⟨a4, c4, hv4, _, _⟩ := k4.1.row
    obtain ⟨a5, c5, hv5, _, _⟩ := k4.2.1.row
    clear e0 e1 e2 b4 k4 hB5 B3
    subst hv4 hv5
    go_wp2_with fail
    generalize w4.alloc (svb ep (.slice a4 vs.length c4) (.slice a5 ss.length c5)) = w5 at *
    refine (serverOk_any ep K5.out.1 K5.out.2.1).mono ?_
    rintro e w6 ⟨rfl, b6⟩
    have B6 : Hid (Below w.heap.size w w6) := more B5.out b6
    have K6 : Hid (SrvIs w3.heap.size (.slice a4 vs.length c4) (.slice a5 ss.length c5) vs ss w6.drew) := (K5.out.since b6).since (Below.refl _ _).drew
    have B6d : Hid (Below w.heap.size w w6.drew) := B6.out.drew
    have g0 := cell_since f0 b6
    have g1 := cell_since f1 b6
    have g2 := cell_since f2 b6
    have y0 := cell_since i0 b6
    have y1 := cell_since i1 b6
    have y2 := cell_since i2 b6
    clear f0 f1 f2 i0 i1 i2 b6 K5 B5
    generalize serverB ep vs ss = ans
    go_wp2
    go_region_held3 (fun W => W.cell? ⟨w.heap.size, 0, none⟩ = some (.int .i64 ep) ∧ W.cell? ⟨w.heap.size, 1, none⟩ = some (.slice a vs.length c) ∧ W.cell? ⟨w.heap.size, 2, none⟩ = some (.slice a' ss.length c') ∧ W.cell? ⟨w4.heap.size, 0, none⟩ = some (.int .i64 ep) ∧ W.cell? ⟨w4.heap.size, 1, none⟩ = some (.slice a4 vs.length c4) ∧ W.cell? ⟨w4.heap.size, 2, none⟩ = some (.slice a5 ss.length c5) ∧ Below w.heap.size w W)
      (first | exact ⟨g0, g1, g2, y0, y1, y2, B6d.out⟩ | assumption | exact later6 ‹_› b8 | exact later6 ‹_› b7)
      (first | (go_at_call 11; refine (toServer_any _ _ _ vs ss _ (hx.below B6d.out (Nat.le_refl _)) (hy.below B6d.out (Nat.le_refl _)) hn1 hn2).mono ?_; rintro e w7 ⟨x7, y7, rfl, k7, b7⟩) | (go_at_call 13; refine (eqServer_any _ _ (K6.out.since b7).1 (K6.out.since b7).2.1 k7.1 k7.2.1).mono ?_; rintro e w8 ⟨rfl, b8⟩; rw [sameS_self]))
    rename_i hHeld
    have hBf := hHeld.2.2.2.2.2.2
    clear hHeld
    go_wp2
    go_ret
    exact ⟨rfl, hBf⟩
  · have hif := szV_no hn
    go_enter Try.func3, Try.ntmps3
    go_wp2_with fail
    generalize w.alloc (lsvb ep (.slice a vs.length c) (.slice a' ss.length c')) = w0 at hB0 c0 c1 c2 ⊢
    refine (szServer_any _ _ _ _ _ _ _ _ _ (by omega) (by omega) hm hm').mono ?_
    rintro e w1 ⟨rfl, hw1⟩
    rw [hif]
    have b1 : Below w0.heap.size w0 w1 := by rw [hw1]; exact one_below _ _
    clear hw1
    go_wp2
    go_ret
    exact ⟨rfl, more hB0 b1⟩
end Go.Proofs.Ytplinjepeahahaa
