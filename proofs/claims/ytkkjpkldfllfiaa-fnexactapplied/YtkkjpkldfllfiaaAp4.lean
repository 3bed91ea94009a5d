
/- l4Applied of the model. -/
import Derived.Test.YtkkjpkldfllfiaaAp3
namespace Go.Proofs.Ytkkjpkldfllfiaa
open Go.RowKit

set_option maxRecDepth 100000 in
set_option maxHeartbeats 8000000 in
theorem l4Applied_any {B C : Nat} {x v : Value} {ks : List K2} {ws : List W4} {w : World} (id me ep : Int) (h : Keys B v ks w) (hx : Wraps C x ws w) (hmb : memberB id me ks = true) :
    Calls Try.prog 67 #[mv id me v, rv ep x] w fun e w' => ∃ (E : Int) (L : List K2) (r : Int) (a : Option Addr) (c : Nat), ApIs id me ks ep ws id E L r ∧ e = .returned (.tuple #[mv id E (.slice a L.length c), .int .i64 r]) ∧ Keys w.heap.size (.slice a L.length c) L w' ∧ Below w.heap.size w w' := by
  have hB1 := three_below w (mb id me v) (rb ep x) (mb 0 0 (.slice none 0 0))
  obtain ⟨m0, m1, m2⟩ := cell3 w id me v
  have m0 := cell_since (cell_since m0 (one_below _ (rb ep x))) (one_below _ (mb 0 0 (.slice none 0 0)))
  have m1 := cell_since (cell_since m1 (one_below _ (rb ep x))) (one_below _ (mb 0 0 (.slice none 0 0)))
  have m2 := cell_since (cell_since m2 (one_below _ (rb ep x))) (one_below _ (mb 0 0 (.slice none 0 0)))
  obtain ⟨s0, s1⟩ := rcell2 (w.alloc (mb id me v)) ep x
  have s0 := cell_since s0 (one_below _ (mb 0 0 (.slice none 0 0)))
  have s1 := cell_since s1 (one_below _ (mb 0 0 (.slice none 0 0)))
  simp only [World.size_alloc] at s0 s1
  have t2 : (((w.alloc (mb id me v)).alloc (rb ep x)).alloc (mb 0 0 (.slice none 0 0))).heap[w.heap.size + 1 + 1]? = some (mb 0 0 (.slice none 0 0)) := by
    have := heap_alloc_new ((w.alloc (mb id me v)).alloc (rb ep x)) (mb 0 0 (.slice none 0 0))
    simpa using this
  have K1 := hidC (keysSince h hB1)
  have X1 := hidC (wrapsSince hx hB1)
  have T1 := hidC t2
  have B1 := hidC hB1
  have HMB := hidC hmb
  have hfew := memberB_few hmb
  have hme : 0 ≤ me ∧ me ≤ 1000000000 := by
    unfold memberB headB at hmb
    simp only [Bool.and_eq_true, decide_eq_true_eq] at hmb
    exact hmb.1.2.1
  clear h hx t2 hB1 hmb
  go_enter Try.func67, Try.ntmps67
  go_wp2_with fail
  generalize ((w.alloc (mb id me v)).alloc (rb ep x)).alloc (mb 0 0 (.slice none 0 0)) = w1 at *
  refine (l4RekeyOk_any ep X1.out).mono ?_
  rintro e w2 ⟨rfl, b2⟩
  have m0 := cell_since m0 b2
  have m1 := cell_since m1 b2
  have m2 := cell_since m2 b2
  have s0 := cell_since s0 b2
  have s1 := cell_since s1 b2
  have B2 := hidC (more B1.out b2)
  have T2 := hidC (blkSince T1.out b2)
  have K2 := hidC (keysSince K1.out b2)
  have X2 := hidC (wrapsSince X1.out b2)
  clear B1 T1 K1 X1
  clear b2
  cases hok : rkB ep ws with
  | false =>
    have HR := hidC (ApIs.form HMB.out hok)
    go_wp2_with fail
    refine (l4Copy_any id me K2.out (by omega)).mono ?_
    rintro e wC ⟨aC, cC, rfl, kC, bC⟩
    have hltC := kC.lt
    have tC := blkSince T2.out bC
    have hsC : w.heap.size ≤ w2.heap.size := B2.out.size
    have hRl : w.heap.size + 1 + 1 < w2.heap.size := blkLt T2.out
    obtain ⟨⟨q0, q1, q2⟩, f0, f1, f2⟩ := box3 tC
    have HF := hidC (box3_set2 (box3_set1 (box3_set0 tC (.int .i64 id)) (.int .i64 me)) (.slice aC ks.length cC))
    have HB := hidC (show Below w.heap.size w (((wC.setCell ⟨w.heap.size + 1 + 1, 0, none⟩ (.int .i64 id)).setCell ⟨w.heap.size + 1 + 1, 1, none⟩ (.int .i64 me)).setCell ⟨w.heap.size + 1 + 1, 2, none⟩ (.slice aC ks.length cC)) from (((more B2.out bC).setCell (by simp; omega) _).setCell (by simp; omega) _).setCell (by simp; omega) _)
    have HK := hidC (show Keys w.heap.size (.slice aC ks.length cC) ks (((wC.setCell ⟨w.heap.size + 1 + 1, 0, none⟩ (.int .i64 id)).setCell ⟨w.heap.size + 1 + 1, 1, none⟩ (.int .i64 me)).setCell ⟨w.heap.size + 1 + 1, 2, none⟩ (.slice aC ks.length cC)) from (((kC.mono hsC).kept (grown_set wC (w.heap.size + 1 + 1) 0 _) (fun k e e' => by cases e; have := (hltC _ e').1; omega)).kept (grown_set _ (w.heap.size + 1 + 1) 1 _) (fun k e e' => by cases e; have := (hltC _ e').1; omega)).kept (grown_set _ (w.heap.size + 1 + 1) 2 _) (fun k e e' => by cases e; have := (hltC _ e').1; omega))
    clear hltC tC kC bC
    go_wp2
    have bF := HF.out
    have gB := HB.out
    have gK := HK.out
    generalize (((wC.setCell ⟨w.heap.size + 1 + 1, 0, none⟩ (.int .i64 id)).setCell ⟨w.heap.size + 1 + 1, 1, none⟩ (.int .i64 me)).setCell ⟨w.heap.size + 1 + 1, 2, none⟩ (.slice aC ks.length cC)) = WF at bF gB gK ⊢
    obtain ⟨⟨z0, z1, z2⟩, _, _, _⟩ := box3 bF
    exact bodyPost_ret (v := .tuple #[mv id me (.slice aC ks.length cC), .int .i64 2]) (by simp [results, Try.results67, go_sem, z0, z1, z2]) rfl ⟨me, ks, 2, aC, cC, HR.out, rfl, gK, gB⟩
  | true =>
  have HOK := hidC hok
  have hep : 1 ≤ ep ∧ ep ≤ 1000000000 := by
    unfold rkB at hok
    simp only [Bool.and_eq_true, decide_eq_true_eq] at hok
    exact hok.1
  clear hok
  by_cases hold : ep ≤ me
  · have HR := hidC (ApIs.old HMB.out HOK.out hold)
    go_wp2_with fail
    refine (l4Copy_any id me K2.out (by omega)).mono ?_
    rintro e wC ⟨aC, cC, rfl, kC, bC⟩
    have hltC := kC.lt
    have tC := blkSince T2.out bC
    have hsC : w.heap.size ≤ w2.heap.size := B2.out.size
    have hRl : w.heap.size + 1 + 1 < w2.heap.size := blkLt T2.out
    obtain ⟨⟨q0, q1, q2⟩, f0, f1, f2⟩ := box3 tC
    have HF := hidC (box3_set2 (box3_set1 (box3_set0 tC (.int .i64 id)) (.int .i64 me)) (.slice aC ks.length cC))
    have HB := hidC (show Below w.heap.size w (((wC.setCell ⟨w.heap.size + 1 + 1, 0, none⟩ (.int .i64 id)).setCell ⟨w.heap.size + 1 + 1, 1, none⟩ (.int .i64 me)).setCell ⟨w.heap.size + 1 + 1, 2, none⟩ (.slice aC ks.length cC)) from (((more B2.out bC).setCell (by simp; omega) _).setCell (by simp; omega) _).setCell (by simp; omega) _)
    have HK := hidC (show Keys w.heap.size (.slice aC ks.length cC) ks (((wC.setCell ⟨w.heap.size + 1 + 1, 0, none⟩ (.int .i64 id)).setCell ⟨w.heap.size + 1 + 1, 1, none⟩ (.int .i64 me)).setCell ⟨w.heap.size + 1 + 1, 2, none⟩ (.slice aC ks.length cC)) from (((kC.mono hsC).kept (grown_set wC (w.heap.size + 1 + 1) 0 _) (fun k e e' => by cases e; have := (hltC _ e').1; omega)).kept (grown_set _ (w.heap.size + 1 + 1) 1 _) (fun k e e' => by cases e; have := (hltC _ e').1; omega)).kept (grown_set _ (w.heap.size + 1 + 1) 2 _) (fun k e e' => by cases e; have := (hltC _ e').1; omega))
    clear hltC tC kC bC
    go_wp2
    have bF := HF.out
    have gB := HB.out
    have gK := HK.out
    generalize (((wC.setCell ⟨w.heap.size + 1 + 1, 0, none⟩ (.int .i64 id)).setCell ⟨w.heap.size + 1 + 1, 1, none⟩ (.int .i64 me)).setCell ⟨w.heap.size + 1 + 1, 2, none⟩ (.slice aC ks.length cC)) = WF at bF gB gK ⊢
    obtain ⟨⟨z0, z1, z2⟩, _, _, _⟩ := box3 bF
    exact bodyPost_ret (v := .tuple #[mv id me (.slice aC ks.length cC), .int .i64 3]) (by simp [results, Try.results67, go_sem, z0, z1, z2]) rfl ⟨me, ks, 3, aC, cC, HR.out, rfl, gK, gB⟩
  have HO := hidC hold
  by_cases hgap : me + 1 < ep
  · have HR := hidC (ApIs.gap HMB.out HOK.out hold hgap)
    go_wp2_with fail
    refine (l4Copy_any id me K2.out (by omega)).mono ?_
    rintro e wC ⟨aC, cC, rfl, kC, bC⟩
    have hltC := kC.lt
    have tC := blkSince T2.out bC
    have hsC : w.heap.size ≤ w2.heap.size := B2.out.size
    have hRl : w.heap.size + 1 + 1 < w2.heap.size := blkLt T2.out
    obtain ⟨⟨q0, q1, q2⟩, f0, f1, f2⟩ := box3 tC
    have HF := hidC (box3_set2 (box3_set1 (box3_set0 tC (.int .i64 id)) (.int .i64 me)) (.slice aC ks.length cC))
    have HB := hidC (show Below w.heap.size w (((wC.setCell ⟨w.heap.size + 1 + 1, 0, none⟩ (.int .i64 id)).setCell ⟨w.heap.size + 1 + 1, 1, none⟩ (.int .i64 me)).setCell ⟨w.heap.size + 1 + 1, 2, none⟩ (.slice aC ks.length cC)) from (((more B2.out bC).setCell (by simp; omega) _).setCell (by simp; omega) _).setCell (by simp; omega) _)
    have HK := hidC (show Keys w.heap.size (.slice aC ks.length cC) ks (((wC.setCell ⟨w.heap.size + 1 + 1, 0, none⟩ (.int .i64 id)).setCell ⟨w.heap.size + 1 + 1, 1, none⟩ (.int .i64 me)).setCell ⟨w.heap.size + 1 + 1, 2, none⟩ (.slice aC ks.length cC)) from (((kC.mono hsC).kept (grown_set wC (w.heap.size + 1 + 1) 0 _) (fun k e e' => by cases e; have := (hltC _ e').1; omega)).kept (grown_set _ (w.heap.size + 1 + 1) 1 _) (fun k e e' => by cases e; have := (hltC _ e').1; omega)).kept (grown_set _ (w.heap.size + 1 + 1) 2 _) (fun k e e' => by cases e; have := (hltC _ e').1; omega))
    clear hltC tC kC bC
    go_wp2
    have bF := HF.out
    have gB := HB.out
    have gK := HK.out
    generalize (((wC.setCell ⟨w.heap.size + 1 + 1, 0, none⟩ (.int .i64 id)).setCell ⟨w.heap.size + 1 + 1, 1, none⟩ (.int .i64 me)).setCell ⟨w.heap.size + 1 + 1, 2, none⟩ (.slice aC ks.length cC)) = WF at bF gB gK ⊢
    obtain ⟨⟨z0, z1, z2⟩, _, _, _⟩ := box3 bF
    exact bodyPost_ret (v := .tuple #[mv id me (.slice aC ks.length cC), .int .i64 4]) (by simp [results, Try.results67, go_sem, z0, z1, z2]) rfl ⟨me, ks, 4, aC, cC, HR.out, rfl, gK, gB⟩
  have HG := hidC hgap
  obtain ⟨k1, _, k3⟩ := known_right (memberB_known HMB.out)
  obtain ⟨w1', _, _⟩ := wraps_right (rkB_wraps HOK.out)
  have HK3 := hidC k3
  clear k3
  go_wp2_with fail
  refine (l2Learned_any v x ks ws w2 K2.out.arg X2.out.arg k1 w1' HK3.out).mono ?_
  rintro e w3 ⟨v3, out, rfl, _, o1, o2, o3, o5, b3⟩
  have HLr : Hid (LrnOut ks ws out) := by
    show LrnOut ks ws out
    unfold LrnOut
    rw [if_pos ⟨memberB_known HMB.out, rkB_wraps HOK.out⟩]
    exact ⟨o2, o3⟩
  have O3 := hidC o1
  clear o1 o2 o3
  have m0 := cell_since m0 b3
  have m1 := cell_since m1 b3
  have m2 := cell_since m2 b3
  have s0 := cell_since s0 b3
  have s1 := cell_since s1 b3
  have B3 := hidC (more B2.out b3)
  have T3 := hidC (blkSince T2.out b3)
  have K3 := hidC (keysSince K2.out b3)
  have X3 := hidC (wrapsSince X2.out b3)
  clear B2 T2 K2 X2
  clear b3
  go_wp2_with fail
  have hR3 : w.heap.size + 1 + 1 < w3.heap.size := blkLt T3.out
  have hsw3 : w.heap.size ≤ w3.heap.size := B3.out.size
  refine (l4Newest_any O3.out (by omega)).mono ?_
  rintro e w4 ⟨a4, c4, rfl, n4, b4⟩
  have N4 := hidC n4
  clear n4 O3
  have m0 := cell_since m0 b4
  have m1 := cell_since m1 b4
  have m2 := cell_since m2 b4
  have s0 := cell_since s0 b4
  have s1 := cell_since s1 b4
  have B4 := hidC (more B3.out b4)
  have T4 := hidC (blkSince T3.out b4)
  have K4 := hidC (keysSince K3.out b4)
  have X4 := hidC (wrapsSince X3.out b4)
  clear B3 T3 K3 X3
  clear b4
  go_wp2_with fail
  refine (l4Root_any K4.out).mono ?_
  generalize hro : rootK ks = ro at *
  obtain ⟨h1, h2⟩ := ro
  rintro e w5 ⟨rfl, b5'⟩
  have b5 := b5'.alloc b5'.size (kb h1 h2)
  obtain ⟨g0, g1⟩ : (w5.alloc (kb h1 h2)).cell? ⟨w5.heap.size, 0, none⟩ = some (.int .i64 h1) ∧ (w5.alloc (kb h1 h2)).cell? ⟨w5.heap.size, 1, none⟩ = some (.int .i64 h2) := by simp
  have HRo := hidC hro
  have N5 := hidC (keysSince N4.out b5)
  clear b5' hro N4
  have m0 := cell_since m0 b5
  have m1 := cell_since m1 b5
  have m2 := cell_since m2 b5
  have s0 := cell_since s0 b5
  have s1 := cell_since s1 b5
  have B5 := hidC (more B4.out b5)
  have T5 := hidC (blkSince T4.out b5)
  have K5 := hidC (keysSince K4.out b5)
  have X5 := hidC (wrapsSince X4.out b5)
  clear B4 T4 K4 X4
  clear b5
  go_wp2_with fail
  generalize w5.alloc (kb h1 h2) = w6 at *
  refine (l4Root_any N5.out).mono ?_
  generalize hrn : rootK (newK out) = rn at *
  obtain ⟨n1, n2⟩ := rn
  rintro e w7 ⟨rfl, b7'⟩
  have b7 := b7'.alloc b7'.size (kb n1 n2)
  obtain ⟨i0, i1⟩ : (w7.alloc (kb n1 n2)).cell? ⟨w7.heap.size, 0, none⟩ = some (.int .i64 n1) ∧ (w7.alloc (kb n1 n2)).cell? ⟨w7.heap.size, 1, none⟩ = some (.int .i64 n2) := by simp
  have HRn := hidC hrn
  have N6 := hidC (keysSince N5.out b7)
  have g0 := cell_since g0 b7
  have g1 := cell_since g1 b7
  clear b7' hrn N5
  have m0 := cell_since m0 b7
  have m1 := cell_since m1 b7
  have m2 := cell_since m2 b7
  have s0 := cell_since s0 b7
  have s1 := cell_since s1 b7
  have B6 := hidC (more B5.out b7)
  have T6 := hidC (blkSince T5.out b7)
  have K6 := hidC (keysSince K5.out b7)
  have X6 := hidC (wrapsSince X5.out b7)
  clear B5 T5 K5 X5
  clear b7
  have hall : (n1 = h1 ∧ n2 = h2) ∨ (n1 = h1 ∧ (n2 == h2) = false) ∨ (n1 == h1) = false := by
    by_cases e1 : n1 = h1
    · by_cases e2 : n2 = h2
      · exact .inl ⟨e1, e2⟩
      · exact .inr (.inl ⟨e1, by simpa using e2⟩)
    · exact .inr (.inr (by simpa using e1))
  have HA : Hid ((n1 = h1 ∧ n2 = h2 → ApIs id me ks ep ws id me ks 5) ∧ (¬ (n1 = h1 ∧ n2 = h2) → ApIs id me ks ep ws id ep (newK out) 0)) := by
    refine ⟨fun h => ApIs.lost HMB.out HOK.out (by have := HO.out; omega) (by have := HG.out; omega) HLr.out ?_, fun h => ApIs.done HMB.out HOK.out (by have := HO.out; omega) (by have := HG.out; omega) HLr.out ?_⟩
    · rw [HRn.out, HRo.out, h.1, h.2]
    · rw [HRn.out, HRo.out]
      intro e
      simp only [Prod.mk.injEq] at e
      exact h e
  rcases hall with ⟨e1, e2⟩ | hne
  · have HR := hidC (HA.out.1 ⟨e1, e2⟩)
    subst e1 e2
    clear HA
    go_wp2_with fail
    generalize w7.alloc (kb n1 n2) = w8 at *
    refine (l4Copy_any id me K6.out (by omega)).mono ?_
    rintro e wC ⟨aC, cC, rfl, kC, bC⟩
    have hltC := kC.lt
    have tC := blkSince T6.out bC
    have hsC : w.heap.size ≤ w8.heap.size := B6.out.size
    have hRl : w.heap.size + 1 + 1 < w8.heap.size := blkLt T6.out
    obtain ⟨⟨q0, q1, q2⟩, f0, f1, f2⟩ := box3 tC
    have HF := hidC (box3_set2 (box3_set1 (box3_set0 tC (.int .i64 id)) (.int .i64 me)) (.slice aC ks.length cC))
    have HB := hidC (show Below w.heap.size w (((wC.setCell ⟨w.heap.size + 1 + 1, 0, none⟩ (.int .i64 id)).setCell ⟨w.heap.size + 1 + 1, 1, none⟩ (.int .i64 me)).setCell ⟨w.heap.size + 1 + 1, 2, none⟩ (.slice aC ks.length cC)) from (((more B6.out bC).setCell (by simp; omega) _).setCell (by simp; omega) _).setCell (by simp; omega) _)
    have HK := hidC (show Keys w.heap.size (.slice aC ks.length cC) ks (((wC.setCell ⟨w.heap.size + 1 + 1, 0, none⟩ (.int .i64 id)).setCell ⟨w.heap.size + 1 + 1, 1, none⟩ (.int .i64 me)).setCell ⟨w.heap.size + 1 + 1, 2, none⟩ (.slice aC ks.length cC)) from (((kC.mono hsC).kept (grown_set wC (w.heap.size + 1 + 1) 0 _) (fun k e e' => by cases e; have := (hltC _ e').1; omega)).kept (grown_set _ (w.heap.size + 1 + 1) 1 _) (fun k e e' => by cases e; have := (hltC _ e').1; omega)).kept (grown_set _ (w.heap.size + 1 + 1) 2 _) (fun k e e' => by cases e; have := (hltC _ e').1; omega))
    clear hltC tC kC bC
    go_wp2
    have bF := HF.out
    have gB := HB.out
    have gK := HK.out
    generalize (((wC.setCell ⟨w.heap.size + 1 + 1, 0, none⟩ (.int .i64 id)).setCell ⟨w.heap.size + 1 + 1, 1, none⟩ (.int .i64 me)).setCell ⟨w.heap.size + 1 + 1, 2, none⟩ (.slice aC ks.length cC)) = WF at bF gB gK ⊢
    obtain ⟨⟨z0, z1, z2⟩, _, _, _⟩ := box3 bF
    exact bodyPost_ret (v := .tuple #[mv id me (.slice aC ks.length cC), .int .i64 5]) (by simp [results, Try.results67, go_sem, z0, z1, z2]) rfl ⟨me, ks, 5, aC, cC, HR.out, rfl, gK, gB⟩
  · have HR := hidC (HA.out.2 (fun h => by rcases hne with h' | h' <;> simp_all))
    clear HA
    generalize hL : newK out = L at *
    clear hL
    have hlt := N6.out.lt
    have t8 := T6.out
    have hsw := B6.out.size
    have hRl : w.heap.size + 1 + 1 < w3.heap.size := hR3
    generalize hw8 : w7.alloc (kb n1 n2) = w8 at *
    obtain ⟨⟨q0, q1, q2⟩, f0, f1, f2⟩ := box3 t8
    have HF := hidC (box3_set2 (box3_set1 (box3_set0 t8 (.int .i64 id)) (.int .i64 ep)) (.slice a4 L.length c4))
    have HB := hidC (show Below w.heap.size w (((w8.setCell ⟨w.heap.size + 1 + 1, 0, none⟩ (.int .i64 id)).setCell ⟨w.heap.size + 1 + 1, 1, none⟩ (.int .i64 ep)).setCell ⟨w.heap.size + 1 + 1, 2, none⟩ (.slice a4 L.length c4)) from ((B6.out.setCell (by simp; omega) _).setCell (by simp; omega) _).setCell (by simp; omega) _)
    have HK := hidC (show Keys w.heap.size (.slice a4 L.length c4) L (((w8.setCell ⟨w.heap.size + 1 + 1, 0, none⟩ (.int .i64 id)).setCell ⟨w.heap.size + 1 + 1, 1, none⟩ (.int .i64 ep)).setCell ⟨w.heap.size + 1 + 1, 2, none⟩ (.slice a4 L.length c4)) from (((N6.out.mono hsw3).kept (grown_set w8 (w.heap.size + 1 + 1) 0 _) (fun k e e' => by cases e; have := (hlt _ e').1; omega)).kept (grown_set _ (w.heap.size + 1 + 1) 1 _) (fun k e e' => by cases e; have := (hlt _ e').1; omega)).kept (grown_set _ (w.heap.size + 1 + 1) 2 _) (fun k e e' => by cases e; have := (hlt _ e').1; omega))
    clear hlt t8 N6
    rcases hne with ⟨e1, e2⟩ | e1
    all_goals
      first | subst e1 | skip
      go_wp2
      clear hw8
      have bF := HF.out
      have gB := HB.out
      have gK := HK.out
      generalize (((w8.setCell ⟨w.heap.size + 1 + 1, 0, none⟩ (.int .i64 id)).setCell ⟨w.heap.size + 1 + 1, 1, none⟩ (.int .i64 ep)).setCell ⟨w.heap.size + 1 + 1, 2, none⟩ (.slice a4 L.length c4)) = WF at bF gB gK ⊢
      obtain ⟨⟨z0, z1, z2⟩, _, _, _⟩ := box3 bF
      exact bodyPost_ret (v := .tuple #[mv id ep (.slice a4 L.length c4), .int .i64 0]) (by simp [results, Try.results67, go_sem, z0, z1, z2]) rfl ⟨ep, L, 0, a4, c4, HR.out, rfl, gK, gB⟩
end Go.Proofs.Ytkkjpkldfllfiaa
