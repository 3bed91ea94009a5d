
/- CaughtUp of the model. -/
import Derived.Test.YtkkjpkldfllfiaaCU2
namespace Go.Proofs.Ytkkjpkldfllfiaa
open Go.RowKit

set_option maxRecDepth 100000 in
set_option maxHeartbeats 4000000 in
theorem specCaughtUp_any {B C D : Nat} {x y v : Value} {vs : List Int} {ss ks : List (Int × Int)} {w : World} (id me ep : Int) (h : Keys B v ks w) (hx : Ints C x vs w) (hy : Seats D y ss w) :
    Calls Try.prog 45 #[mv id me v, svv ep x y] w fun e w' => ∃ a c, e = .returned (.tuple #[mv (cuI id me ks) (cuE id me ks ep vs ss) (.slice a (cuK id me ks ep vs ss).length c), .int .i64 (cuR id me ks ep vs ss)]) ∧ Keys w.heap.size (.slice a (cuK id me ks ep vs ss).length c) (cuK id me ks ep vs ss) w' ∧ Below w.heap.size w w' := by
  have hB1 := three_below w (mb id me v) (svb ep x y) (mb 0 0 (.slice none 0 0))
  obtain ⟨m0, m1, m2⟩ := cell3 w id me v
  have m0 := cell_since (cell_since m0 (one_below _ (svb ep x y))) (one_below _ (mb 0 0 (.slice none 0 0)))
  have m1 := cell_since (cell_since m1 (one_below _ (svb ep x y))) (one_below _ (mb 0 0 (.slice none 0 0)))
  have m2 := cell_since (cell_since m2 (one_below _ (svb ep x y))) (one_below _ (mb 0 0 (.slice none 0 0)))
  obtain ⟨s0, s1, s2⟩ := scell3 (w.alloc (mb id me v)) ep x y
  have s0 := cell_since s0 (one_below _ (mb 0 0 (.slice none 0 0)))
  have s1 := cell_since s1 (one_below _ (mb 0 0 (.slice none 0 0)))
  have s2 := cell_since s2 (one_below _ (mb 0 0 (.slice none 0 0)))
  simp only [World.size_alloc] at s0 s1 s2
  have t2 : (((w.alloc (mb id me v)).alloc (svb ep x y)).alloc (mb 0 0 (.slice none 0 0))).heap[w.heap.size + 1 + 1]? = some (mb 0 0 (.slice none 0 0)) := by
    have := heap_alloc_new ((w.alloc (mb id me v)).alloc (svb ep x y)) (mb 0 0 (.slice none 0 0))
    simpa using this
  have hs1 : (((w.alloc (mb id me v)).alloc (svb ep x y)).alloc (mb 0 0 (.slice none 0 0))).heap.size = w.heap.size + 1 + 1 + 1 := by simp
  have K1 := hidC (keysSince h hB1)
  have X1 := hidC (hx.since hB1)
  have Y1 := hidC (hy.since hB1)
  clear h hx hy
  have B1 := hidC hB1
  clear hB1
  go_enter Try.func45, Try.ntmps45
  go_wp2_with fail
  generalize ((w.alloc (mb id me v)).alloc (svb ep x y)).alloc (mb 0 0 (.slice none 0 0)) = w1 at *
  refine (specMemberOk_any id me K1.out).mono ?_
  rintro e w2 ⟨rfl, b2⟩
  have B2 := hidC (more B1.out b2)
  have hs2 := b2.size
  have t2 := (b2.block _ (by omega)).trans t2
  have m0 := cell_since m0 b2
  have m1 := cell_since m1 b2
  have m2 := cell_since m2 b2
  have s0 := cell_since s0 b2
  have s1 := cell_since s1 b2
  have s2 := cell_since s2 b2
  have K2 := hidC (keysSince K1.out b2)
  have X2 := hidC (X1.out.since b2)
  have Y2 := hidC (Y1.out.since b2)
  clear K1 X1 Y1 B1 b2
  cases hok : memberB id me ks with
  | false =>
    obtain ⟨⟨q0, q1, q2⟩, f0, f1, f2⟩ := box3 t2
    have HR := hidC (CuIs.no (ep := ep) (vs := vs) (ss := ss) hok)
    have HF := hidC (box3_set2 (box3_set1 (box3_set0 t2 (.int .i64 0)) (.int .i64 0)) (.slice none 0 0))
    have HB := hidC (show Below w.heap.size w (((w2.setCell ⟨w.heap.size + 1 + 1, 0, none⟩ (.int .i64 0)).setCell ⟨w.heap.size + 1 + 1, 1, none⟩ (.int .i64 0)).setCell ⟨w.heap.size + 1 + 1, 2, none⟩ (.slice none 0 0)) from ((B2.out.setCell (by simp; omega) _).setCell (by simp; omega) _).setCell (by simp; omega) _)
    go_wp2
    have bF := HF.out
    have gB := HB.out
    obtain ⟨r1, r2, r3, r4⟩ := HR.out
    generalize ((w2.setCell ⟨w.heap.size + 1 + 1, 0, none⟩ (.int .i64 0)).setCell ⟨w.heap.size + 1 + 1, 1, none⟩ (.int .i64 0)).setCell ⟨w.heap.size + 1 + 1, 2, none⟩ (.slice none 0 0) = WF at bF gB ⊢
    obtain ⟨⟨z0, z1, z2⟩, _, _, _⟩ := box3 bF
    rw [r1, r2, r3, r4]
    exact bodyPost_ret (v := .tuple #[mv 0 0 (.slice none 0 0), .int .i64 1]) (by simp [results, Try.results45, go_sem, z0, z1, z2]) rfl ⟨none, 0, rfl, noKeys _ _, gB⟩
  | true =>
  go_wp2_with fail
  refine (specServerOk_any ep X2.out Y2.out).mono ?_
  rintro e w3 ⟨rfl, b3⟩
  have B3 := hidC (more B2.out b3)
  have hs3 := b3.size
  have t2 := (b3.block _ (by omega)).trans t2
  have m0 := cell_since m0 b3
  have m1 := cell_since m1 b3
  have m2 := cell_since m2 b3
  have s0 := cell_since s0 b3
  have s1 := cell_since s1 b3
  have s2 := cell_since s2 b3
  have K3 := hidC (keysSince K2.out b3)
  have X3 := hidC (X2.out.since b3)
  have Y3 := hidC (Y2.out.since b3)
  clear K2 X2 Y2 B2 b3
  cases hsv : serverB ep vs ss with
  | false =>
    have hC : cuC ep vs ss id = 2 := by simp [cuC, hsv]
    have HR := hidC (CuIs.same (ep := ep) (vs := vs) (ss := ss) hok (by rw [hC]; decide))
    rw [hC] at HR
    have hfew := memberB_few hok
    go_wp2_with fail
    refine (l4Copy_any id me K3.out (by omega)).mono ?_
    rintro e wC ⟨aC, cC, rfl, kC, bC⟩
    have hltC := kC.lt
    have tC := (bC.block _ (by omega)).trans t2
    have hsC : w.heap.size ≤ w3.heap.size := B3.out.size
    obtain ⟨⟨q0, q1, q2⟩, f0, f1, f2⟩ := box3 tC
    have HF := hidC (box3_set2 (box3_set1 (box3_set0 tC (.int .i64 id)) (.int .i64 me)) (.slice aC ks.length cC))
    have HB := hidC (show Below w.heap.size w (((wC.setCell ⟨w.heap.size + 1 + 1, 0, none⟩ (.int .i64 id)).setCell ⟨w.heap.size + 1 + 1, 1, none⟩ (.int .i64 me)).setCell ⟨w.heap.size + 1 + 1, 2, none⟩ (.slice aC ks.length cC)) from (((more B3.out bC).setCell (by simp; omega) _).setCell (by simp; omega) _).setCell (by simp; omega) _)
    have HK := hidC (show Keys w.heap.size (.slice aC ks.length cC) ks (((wC.setCell ⟨w.heap.size + 1 + 1, 0, none⟩ (.int .i64 id)).setCell ⟨w.heap.size + 1 + 1, 1, none⟩ (.int .i64 me)).setCell ⟨w.heap.size + 1 + 1, 2, none⟩ (.slice aC ks.length cC)) from (((kC.mono hsC).kept (grown_set wC (w.heap.size + 1 + 1) 0 _) (fun k e e' => by cases e; have := (hltC _ e').1; omega)).kept (grown_set _ (w.heap.size + 1 + 1) 1 _) (fun k e e' => by cases e; have := (hltC _ e').1; omega)).kept (grown_set _ (w.heap.size + 1 + 1) 2 _) (fun k e e' => by cases e; have := (hltC _ e').1; omega))
    clear hltC tC kC bC
    go_wp2
    have bF := HF.out
    have gB := HB.out
    have gK := HK.out
    obtain ⟨r1, r2, r3, r4⟩ := HR.out
    generalize ((wC.setCell ⟨w.heap.size + 1 + 1, 0, none⟩ (.int .i64 id)).setCell ⟨w.heap.size + 1 + 1, 1, none⟩ (.int .i64 me)).setCell ⟨w.heap.size + 1 + 1, 2, none⟩ (.slice aC ks.length cC) = WF at bF gB gK ⊢
    obtain ⟨⟨z0, z1, z2⟩, _, _, _⟩ := box3 bF
    rw [r1, r2, r3, r4]
    exact bodyPost_ret (v := .tuple #[mv id me (.slice aC ks.length cC), .int .i64 2]) (by simp [results, Try.results45, go_sem, z0, z1, z2]) rfl ⟨aC, cC, rfl, gK, gB⟩
  | true =>
  go_wp2_with fail
  refine (l3Leaf_any ep id Y3.out).mono ?_
  rintro e w4 ⟨rfl, b4⟩
  have B4 := hidC (more B3.out b4)
  have hs4 := b4.size
  have t2 := (b4.block _ (by omega)).trans t2
  have m0 := cell_since m0 b4
  have m1 := cell_since m1 b4
  have m2 := cell_since m2 b4
  have s0 := cell_since s0 b4
  have s1 := cell_since s1 b4
  have s2 := cell_since s2 b4
  have K4 := hidC (keysSince K3.out b4)
  have X4 := hidC (X3.out.since b4)
  have Y4 := hidC (Y3.out.since b4)
  clear K3 X3 Y3 B3 b4
  cases hse : seatOf ss id with
  | none =>
    have hC : cuC ep vs ss id = 5 := by simp [cuC, hsv, hse]
    have HR := hidC (CuIs.same (ep := ep) (vs := vs) (ss := ss) hok (by rw [hC]; decide))
    rw [hC] at HR
    have hlv : leafV ss id = 0 := by unfold leafV; rw [hse]; rfl
    rw [hlv]
    have hfew := memberB_few hok
    go_wp2_with fail
    refine (l4Copy_any id me K4.out (by omega)).mono ?_
    rintro e wC ⟨aC, cC, rfl, kC, bC⟩
    have hltC := kC.lt
    have tC := (bC.block _ (by omega)).trans t2
    have hsC : w.heap.size ≤ w4.heap.size := B4.out.size
    obtain ⟨⟨q0, q1, q2⟩, f0, f1, f2⟩ := box3 tC
    have HF := hidC (box3_set2 (box3_set1 (box3_set0 tC (.int .i64 id)) (.int .i64 me)) (.slice aC ks.length cC))
    have HB := hidC (show Below w.heap.size w (((wC.setCell ⟨w.heap.size + 1 + 1, 0, none⟩ (.int .i64 id)).setCell ⟨w.heap.size + 1 + 1, 1, none⟩ (.int .i64 me)).setCell ⟨w.heap.size + 1 + 1, 2, none⟩ (.slice aC ks.length cC)) from (((more B4.out bC).setCell (by simp; omega) _).setCell (by simp; omega) _).setCell (by simp; omega) _)
    have HK := hidC (show Keys w.heap.size (.slice aC ks.length cC) ks (((wC.setCell ⟨w.heap.size + 1 + 1, 0, none⟩ (.int .i64 id)).setCell ⟨w.heap.size + 1 + 1, 1, none⟩ (.int .i64 me)).setCell ⟨w.heap.size + 1 + 1, 2, none⟩ (.slice aC ks.length cC)) from (((kC.mono hsC).kept (grown_set wC (w.heap.size + 1 + 1) 0 _) (fun k e e' => by cases e; have := (hltC _ e').1; omega)).kept (grown_set _ (w.heap.size + 1 + 1) 1 _) (fun k e e' => by cases e; have := (hltC _ e').1; omega)).kept (grown_set _ (w.heap.size + 1 + 1) 2 _) (fun k e e' => by cases e; have := (hltC _ e').1; omega))
    clear hltC tC kC bC
    go_wp2
    have bF := HF.out
    have gB := HB.out
    have gK := HK.out
    obtain ⟨r1, r2, r3, r4⟩ := HR.out
    generalize ((wC.setCell ⟨w.heap.size + 1 + 1, 0, none⟩ (.int .i64 id)).setCell ⟨w.heap.size + 1 + 1, 1, none⟩ (.int .i64 me)).setCell ⟨w.heap.size + 1 + 1, 2, none⟩ (.slice aC ks.length cC) = WF at bF gB gK ⊢
    obtain ⟨⟨z0, z1, z2⟩, _, _, _⟩ := box3 bF
    rw [r1, r2, r3, r4]
    exact bodyPost_ret (v := .tuple #[mv id me (.slice aC ks.length cC), .int .i64 5]) (by simp [results, Try.results45, go_sem, z0, z1, z2]) rfl ⟨aC, cC, rfl, gK, gB⟩
  | some lf =>
    have hC : cuC ep vs ss id = 0 := by simp [cuC, hsv, hse]
    have hb : kfB ep vs ss id = true := by simp [kfB, hsv, hse]
    have hlv : leafV ss id = lf := by unfold leafV; rw [hse]; rfl
    have hlf := seatOf_leaf hsv hse
    have hkl : kfL ep vs ss id = (keysOn vs lf).reverse := by unfold kfL; rw [if_pos hb, hlv]
    have HR := hidC (CuIs.done (ep := ep) (vs := vs) (ss := ss) hok hC)
    rw [hkl] at HR
    have hK4 : ((keysOn vs lf).reverse).length = 4 := by rw [List.length_reverse, keysOn_len hlf]
    have HLen := hidC (serverB_len hsv)
    have HLf := hidC hlf
    have hz : (lf == 0) = false := by simp; omega
    rw [hlv]
    generalize hL : (keysOn vs lf).reverse = L at *
    have HLL := hidC hL
    have X4d := hidC (show Ints C x vs w4.drew from X4.out)
    obtain ⟨⟨q0, q1, q2⟩, f0, f1, f2⟩ := box3 t2
    have T2 := hidC t2
    clear hb hlv hse hsv hkl hC hlf t2 hL
    go_wp2
    go_region_with (go_at_call 76; refine (l3Keys_any ep lf X4d.out HLf.out HLen.out).mono ?_; rintro e w5 ⟨a5, c5, rfl, k5, b5⟩; have m0 := cell_since (show w4.drew.cell? _ = _ from m0) b5; have s0 := cell_since (show w4.drew.cell? _ = _ from s0) b5; have s1 := cell_since (show w4.drew.cell? _ = _ from s1) b5; have s2 := cell_since (show w4.drew.cell? _ = _ from s2) b5; have t5 := (b5.block (w.heap.size + 1 + 1) (show _ < w4.heap.size by omega)).trans (show w4.drew.heap[w.heap.size + 1 + 1]? = _ from T2.out); obtain ⟨⟨q0, q1, q2⟩, f0, f1, f2⟩ := box3 t5)
    all_goals
      rw [HLL.out] at k5
      have hlt5 : ∀ j, (Value.slice a5 4 c5).ownBlock = some j → w4.heap.size ≤ j := fun j e => (k5.lt j e).1
      have hs5 : w4.heap.size ≤ w5.heap.size := b5.size
      have B5 : Below w.heap.size w w5 := more (show Below w.heap.size w w4.drew from B4.out.drew) b5
      have bF := box3_set2 (box3_set1 (box3_set0 t5 (.int .i64 id)) (.int .i64 ep)) (.slice a5 4 c5)
      have gB : Below w.heap.size w (((w5.setCell ⟨w.heap.size + 1 + 1, 0, none⟩ (.int .i64 id)).setCell ⟨w.heap.size + 1 + 1, 1, none⟩ (.int .i64 ep)).setCell ⟨w.heap.size + 1 + 1, 2, none⟩ (.slice a5 4 c5)) := ((B5.setCell (by simp; omega) _).setCell (by simp; omega) _).setCell (by simp; omega) _
      have gK : Keys w.heap.size (.slice a5 4 c5) L (((w5.setCell ⟨w.heap.size + 1 + 1, 0, none⟩ (.int .i64 id)).setCell ⟨w.heap.size + 1 + 1, 1, none⟩ (.int .i64 ep)).setCell ⟨w.heap.size + 1 + 1, 2, none⟩ (.slice a5 4 c5)) := (((k5.mono (show w.heap.size ≤ w4.heap.size by omega)).kept (grown_set w5 (w.heap.size + 1 + 1) 0 _) (fun k e e' => by cases e; have := hlt5 _ e'; omega)).kept (grown_set _ (w.heap.size + 1 + 1) 1 _) (fun k e e' => by cases e; have := hlt5 _ e'; omega)).kept (grown_set _ (w.heap.size + 1 + 1) 2 _) (fun k e e' => by cases e; have := hlt5 _ e'; omega)
      have HF := hidC bF
      have HB := hidC gB
      have HK := hidC gK
      clear bF gB gK hlt5 k5 b5 B5 t5 q0 q1 q2 f0 f1 f2 m0 s0 s1 s2
      generalize ((w5.setCell ⟨w.heap.size + 1 + 1, 0, none⟩ (.int .i64 id)).setCell ⟨w.heap.size + 1 + 1, 1, none⟩ (.int .i64 ep)).setCell ⟨w.heap.size + 1 + 1, 2, none⟩ (.slice a5 4 c5) = WF at HF HB HK ⊢
      go_wp2
      obtain ⟨r1, r2, r3, r4⟩ := HR.out
      obtain ⟨⟨z0, z1, z2⟩, _, _, _⟩ := box3 HF.out
      rw [r1, r2, r3, r4, hK4]
      exact bodyPost_ret (v := .tuple #[mv id ep (.slice a5 4 c5), .int .i64 0]) (by simp [results, Try.results45, go_sem, z0, z1, z2]) rfl ⟨a5, c5, rfl, HK.out, HB.out⟩
end Go.Proofs.Ytkkjpkldfllfiaa
