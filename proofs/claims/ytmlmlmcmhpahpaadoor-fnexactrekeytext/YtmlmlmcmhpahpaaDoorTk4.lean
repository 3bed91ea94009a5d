
/- The exact law of RekeyText. -/
import Derived.Test.YtmlmlmcmhpahpaaDoorTk3
import Derived.Test.YtmlmlmcmhpahpaaDoorOpenWraps
namespace Go.Proofs.YtmlmlmcmhpahpaaDoor
open Go.RowKit Go.Shelf
namespace Tx

theorem held4_since {w W W' : World} {p1 p2 p3 p4 : Addr} {v1 v2 v3 v4 : Value} (h : W.cell? p1 = some v1 ∧ W.cell? p2 = some v2 ∧ W.cell? p3 = some v3 ∧ W.cell? p4 = some v4 ∧ Below w.heap.size w W) (hb : Below W.heap.size W W') :
    W'.cell? p1 = some v1 ∧ W'.cell? p2 = some v2 ∧ W'.cell? p3 = some v3 ∧ W'.cell? p4 = some v4 ∧ Below w.heap.size w W' := ⟨cell_since h.1 hb, cell_since h.2.1 hb, cell_since h.2.2.1 hb, cell_since h.2.2.2.1 hb, h.2.2.2.2.trans (hb.mono h.2.2.2.2.size)⟩

set_option maxRecDepth 100000 in
set_option maxHeartbeats 4000000 in
theorem exRekeyText_any (ep : Int) (v : Value) (ws : List W4) (w : World) (h : InWraps v ws w) (hP : HasPow w) :
    Calls Tryd.prog 5 #[rv ep v] w fun e w' => e = .returned (.bool true) ∧ Below w.heap.size w w' := by
  obtain ⟨av, cv, rfl, hm⟩ := h.len
  obtain ⟨N, HLEN⟩ : ∃ N, Hid (ws.length = N) := ⟨_, rfl⟩
  rw [HLEN.out] at h hm ⊢
  have HP := hidT hP
  have HI := hidT h
  have P0 := hidT (heap_new w (lrb ep (.slice av N cv)))
  have B0 := hidT (oneB w (lrb ep (.slice av N cv)))
  clear hP h
  obtain ⟨c0, c1, f0, f1⟩ := blk2 P0.out
  by_cases hn : N ≤ 1048576
  · have hif : (if (1048576 : Int) - (N : Int) < 0 then (-1 : Int) else 1048576 - (N : Int)) = 1048576 - (N : Int) := if_neg (by omega)
    have hge : ¬ (1048576 : Int) - (N : Int) < 0 := by omega
    have hnw : ws.length ≤ 1048576 := by rw [HLEN.out]; exact hn
    go_enter Tryd.func5, Tryd.ntmps5
    go_wp2_with fail
    refine (szRekey_any _ _ _ _ _ _ (by omega) (by omega) hm).mono ?_
    rintro e w1 ⟨rfl, hw1⟩
    rw [hif]
    have b1 : Below (w.alloc (lrb ep (.slice av N cv))).heap.size (w.alloc (lrb ep (.slice av N cv))) w1 := by rw [hw1]; exact oneB _ _
    have B1 := hidT (B0.out.trans (b1.mono B0.out.size))
    have P1 := hidT ((b1.block _ (cell_lt (blk2 P0.out).1)).trans P0.out)
    clear hw1 b1 c0 c1 f0 f1 B0 P0
    obtain ⟨c0, c1, f0, f1⟩ := blk2 P1.out
    go_wp2_with fail
    refine (toRekey_any ep _ ws _ (HI.out.below B1.out (Nat.le_refl _)) hnw).mono ?_
    rintro e w2 ⟨x2, rfl, s2, b2⟩
    have B2 := hidT (B1.out.trans (b2.mono B1.out.size))
    have P2 := hidT ((b2.block _ (cell_lt (blk2 P1.out).1)).trans P1.out)
    have S2 := hidT s2
    clear b2 s2 c0 c1 f0 f1
    go_wp2_with fail
    refine (specRekeyText_any ep S2.out).mono ?_
    rintro e w3 ⟨rfl, b3⟩
    have B3 := hidT (B2.out.trans (b3.mono B2.out.size))
    have P3 := hidT ((b3.block _ (cell_lt (blk2 P2.out).1)).trans P2.out)
    clear b3 S2 B1 P1 B2 P2
    obtain ⟨c0, c1, f0, f1⟩ := blk2 P3.out
    go_wp2_with fail
    refine (toRekey_any ep _ ws _ (HI.out.below B3.out (Nat.le_refl _)) hnw).mono ?_
    rintro e w4 ⟨x4, rfl, s4, b4⟩
    have B4 := hidT (B3.out.trans (b4.mono B3.out.size))
    have P4 := hidT ((b4.block _ (cell_lt (blk2 P3.out).1)).trans P3.out)
    obtain ⟨a4, k4, hx4⟩ := wrapsRow s4
    rw [HLEN.out] at hx4
    subst hx4
    have B5 := hidT (B4.out.alloc B4.out.size (rb ep (.slice a4 N k4)))
    have P5 := hidT ((heap_old w4 (rb ep (.slice a4 N k4)) (cell_lt (blk2 P4.out).1)).trans P4.out)
    have Q5 := hidT (heap_new w4 (rb ep (.slice a4 N k4)))
    have S5 := hidT (wrapsSince s4 (oneB w4 (rb ep (.slice a4 N k4))))
    clear b4 s4 c0 c1 f0 f1 B3 P3
    go_wp2_with fail
    generalize w4.alloc (rb ep (.slice a4 N k4)) = w5 at B5 P5 Q5 S5 ⊢
    refine (rekeyText_any ep S5.out (HP.out.since B5.out)).mono ?_
    rintro e w6 ⟨rfl, b6⟩
    have B6 := hidT (B5.out.trans (b6.mono B5.out.size))
    have P6 := hidT ((b6.block _ (cell_lt (blk2 P5.out).1)).trans P5.out)
    have Q6 := hidT ((b6.block _ (cell_lt (blk2 Q5.out).1)).trans Q5.out)
    have S6 := hidT (show Wraps _ _ _ w6.drew from wrapsSince S5.out (b6.drew))
    have HI6 := hidT (show InWraps _ _ w6.drew from HI.out.below B6.out.drew (Nat.le_refl _))
    clear b6 B5 P5 Q5 S5 B4 P4
    obtain ⟨c0, c1, f0, f1⟩ := blk2 P6.out
    obtain ⟨d0, d1, g0, g1⟩ := blk2 Q6.out
    go_wp2
    go_region_held3 (fun W => W.cell? ⟨w.heap.size, 0, none⟩ = some (.int .i64 ep) ∧ W.cell? ⟨w.heap.size, 1, none⟩ = some (.slice av N cv) ∧ W.cell? ⟨w4.heap.size, 0, none⟩ = some (.int .i64 ep) ∧ W.cell? ⟨w4.heap.size, 1, none⟩ = some (.slice a4 N k4) ∧ Below w6.heap.size w6 W)
      (first | exact ⟨c0, c1, d0, d1, (Below.refl _ _).drew⟩ | assumption | exact held4_since ‹_› b13 | exact held4_since ‹_› b12)
      (first | (go_at_call 15; refine (toRekey_any ep _ ws _ HI6.out hnw).mono ?_; rintro e w12 ⟨x12, rfl, s12, b12⟩) | (go_at_call 17; refine (eqRekey_any ep ep (wrapsSince S6.out b12) s12).mono ?_; rintro e w13 ⟨rfl, b13⟩; rw [sameR_self]))
    rename_i hHeld
    have B7 := hidT (B6.out.trans (hHeld.2.2.2.2.mono B6.out.size))
    clear hHeld b12 b13 s12
    go_wp2
    go_ret
    exact ⟨rfl, B7.out⟩
  · have hif : (if (1048576 : Int) - (N : Int) < 0 then (-1 : Int) else 1048576 - (N : Int)) = -1 := if_pos (by omega)
    go_enter Tryd.func5, Tryd.ntmps5
    go_wp2_with fail
    refine (szRekey_any _ _ _ _ _ _ (by omega) (by omega) hm).mono ?_
    rintro e w1 ⟨rfl, hw1⟩
    rw [hif]
    have b1 : Below (w.alloc (lrb ep (.slice av N cv))).heap.size (w.alloc (lrb ep (.slice av N cv))) w1 := by rw [hw1]; exact oneB _ _
    have B1 := hidT (B0.out.trans (b1.mono B0.out.size))
    clear hw1 b1
    go_wp2
    go_ret
    exact ⟨rfl, B1.out⟩
end Tx
end Go.Proofs.YtmlmlmcmhpahpaaDoor
