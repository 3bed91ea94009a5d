/- l4Applied of the model. -/
import Derived.Test.YtjilbfohfgalkaaPart11
import Derived.Test.YtjilbfohfgalkaaPart9
namespace Go.Proofs.Ytjilbfohfgalkaa
open Go.RowKit

set_option maxRecDepth 100000 in
set_option maxHeartbeats 8000000 in
theorem l4Applied_any {B C : Nat} {x v : Value} {ks : List K2} {ws : List W4} {w : World} (id me ep : Int) (h : Keys B v ks w) (hx : Wraps C x ws w) (hmb : memberB id me ks = true) :
    Calls Try.prog 24 #[mv id me v, rv ep x] w fun e w' => ∃ (E : Int) (L : List K2) (r : Int) (a : Option Addr) (c : Nat), ApIs id me ks ep ws id E L r ∧ e = .returned (.tuple #[mv id E (.slice a L.length c), .int .i64 r]) ∧ Keys w.heap.size (.slice a L.length c) L w' ∧ Below w.heap.size w w' := by
  have hB1 := three_below w (mb id me v) (rb ep x) (mb 0 0 (.slice none 0 0))
  obtain ⟨m0, m1, m2⟩ := cell3 w id me v
  have m0 := cell_since (cell_since m0 (one_below _ (rb ep x))) (one_below _ (mb 0 0 (.slice none 0 0)))
  have m1 := cell_since (cell_since m1 (one_below _ (rb ep x))) (one_below _ (mb 0 0 (.slice none 0 0)))
  have m2 := cell_since (cell_since m2 (one_below _ (rb ep x))) (one_below _ (mb 0 0 (.slice none 0 0)))
  obtain ⟨s0, s1⟩ := rcell2 (w.alloc (mb id me v)) ep x
  have s0 := cell_since s0 (one_below _ (mb 0 0 (.slice none 0 0)))
  have s1 := cell_since s1 (one_below _ (mb 0 0 (.slice none 0 0)))
  simp only [World.size_alloc] at s0 s1
  have t2 : (((w.alloc (mb id me v)).alloc (rb ep x)).alloc (mb 0 0 (.slice none 0 0))).heap[w.heap.size + 1 + 1]? = some (mb 0 0 (.slice none 0 0)) := by
    have := heap_alloc_new ((w.alloc (mb id me v)).alloc (rb ep x)) (mb 0 0 (.slice none 0 0))
    simpa using this
  have K1 := hidC (keysSince h hB1)
  have X1 := hidC (wrapsSince hx hB1)
  have T1 := hidC t2
  have B1 := hidC hB1
  have HMB := hidC hmb
  have hfew := memberB_few hmb
  have hme : 0 ≤ me ∧ me ≤ 1000000000 := by
    unfold memberB headB at hmb
    simp only [Bool.and_eq_true, decide_eq_true_eq] at hmb
    exact hmb.1.2.1
  clear h hx t2 hB1 hmb
  go_enter Try.func24, Try.ntmps24
  go_wp2_with fail
  generalize ((w.alloc (mb id me v)).alloc (rb ep x)).alloc (mb 0 0 (.slice none 0 0)) = w1 at *
  refine (l4RekeyOk_any ep X1.out).mono ?_
  rintro e w2 ⟨rfl, b2⟩
  have m0 := cell_since m0 b2
  have m1 := cell_since m1 b2
  have m2 := cell_since m2 b2
  have s0 := cell_since s0 b2
  have s1 := cell_since s1 b2
  have B2 := hidC (more B1.out b2)
  have T2 := hidC (blkSince T1.out b2)
  have K2 := hidC (keysSince K1.out b2)
  have X2 := hidC (wrapsSince X1.out b2)
  clear B1 T1 K1 X1
  clear b2
  cases hok : rkB ep ws with
  | false =>
    have HR := hidC (ApIs.form HMB.out hok)
    go_wp2_with fail
    refine (l4Copy_any id me K2.out (by omega)).mono ?_
    rintro e wC ⟨aC, cC, rfl, kC, bC⟩
    have hltC := kC.lt
    have tC := blkSince T2.out bC
    have hsC : w.heap.size ≤ w2.heap.size := B2.out.size
    have hRl : w.heap.size + 1 + 1 < w2.heap.size := blkLt T2.out
    obtain ⟨⟨q0, q1, q2⟩, f0, f1, f2⟩ := box3 tC
    have HF := hidC (box3_set2 (box3_set1 (box3_set0 tC (.int .i64 id)) (.int .i64 me)) (.slice aC ks.length cC))
    have HB := hidC (show Below w.heap.size w (((wC.setCell ⟨w.heap.size + 1 + 1, 0, none⟩ (.int .i64 id)).setCell ⟨w.heap.size + 1 + 1, 1, none⟩ (.int .i64 me)).setCell ⟨w.heap.size + 1 + 1, 2, none⟩ (.slice aC ks.length cC)) from (((more B2.out bC).setCell (by simp; omega) _).setCell (by simp; omega) _).setCell (by simp; omega) _)
    have HK := hidC (show Keys w.heap.size (.slice aC ks.length cC) ks (((wC.setCell ⟨w.heap.size + 1 + 1, 0, none⟩ (.int .i64 id)).setCell ⟨w.heap.size + 1 + 1, 1, none⟩ (.int .i64 me)).setCell ⟨w.heap.size + 1 + 1, 2, none⟩ (.slice aC ks.length cC)) from (((kC.mono hsC).kept (grown_set wC (w.heap.size + 1 + 1) 0 _) (fun k e e' => by cases e; have := (hltC _ e').1; omega)).kept (grown_set _ (w.heap.size + 1 + 1) 1 _) (fun k e e' => by cases e; have := (hltC _ e').1; omega)).kept (grown_set _ (w.heap.size + 1 + 1) 2 _) (fun k e e' => by cases e; have := (hltC _ e').1; omega))
    clear hltC tC kC bC
    go_wp2
    have bF := HF.out
    have gB := HB.out
    have gK := HK.out
    generalize (((wC.setCell ⟨w.heap.size + 1 + 1, 0, none⟩ (.int .i64 id)).setCell ⟨w.heap.size + 1 + 1, 1, none⟩ (.int .i64 me)).setCell ⟨w.heap.size + 1 + 1, 2, none⟩ (.slice aC ks.length cC)) = WF at bF gB gK ⊢
    obtain ⟨⟨z0, z1, z2⟩, _, _, _⟩ := box3 bF
    exact bodyPost_ret (v := .tuple #[mv id me (.slice aC ks.length cC), .int .i64 2]) (by simp [results, Try.results24, go_sem, z0, z1, z2]) rfl ⟨me, ks, 2, aC, cC, HR.out, rfl, gK, gB⟩
  | true =>
  have HOK := hidC hok
  have hep : 1 ≤ ep ∧ ep ≤ 1000000000 := by
    unfold rkB at hok
    simp only [Bool.and_eq_true, decide_eq_true_eq] at hok
    exact hok.1
  clear hok
  by_cases hold : ep ≤ me
  · have HR := hidC (ApIs.old HMB.out HOK.out hold)
    go_wp2_with fail
    refine (l4Copy_any id me K2.out (by omega)).mono ?_
    rintro e wC ⟨aC, cC, rfl, kC, bC⟩
    have hltC := kC.lt
    have tC := blkSince T2.out bC
    have hsC : w.heap.size ≤ w2.heap.size := B2.out.size
    have hRl : w.heap.size + 1 + 1 < w2.heap.size := blkLt T2.out
    obtain ⟨⟨q0, q1, q2⟩, f0, f1, f2⟩ := box3 tC
    have HF := hidC (box3_set2 (box3_set1 (box3_set0 tC (.int .i64 id)) (.int .i64 me)) (.slice aC ks.length cC))
    have HB := hidC (show Below w.heap.size w (((wC.setCell ⟨w.heap.size + 1 + 1, 0, none⟩ (.int .i64 id)).setCell ⟨w.heap.size + 1 + 1, 1, none⟩ (.int .i64 me)).setCell ⟨w.heap.size + 1 + 1, 2, none⟩ (.slice aC ks.length cC)) from (((more B2.out bC).setCell (by simp; omega) _).setCell (by simp; omega) _).setCell (by simp; omega) _)
    have HK := hidC (show Keys w.heap.size (.slice aC ks.length cC) ks (((wC.setCell ⟨w.heap.size + 1 + 1, 0, none⟩ (.int .i64 id)).setCell ⟨w.heap.size + 1 + 1, 1, none⟩ (.int .i64 me)).setCell ⟨w.heap.size + 1 + 1, 2, none⟩ (.slice aC ks.length cC)) from (((kC.mono hsC).kept (grown_set wC (w.heap.size + 1 + 1) 0 _) (fun k e e' => by cases e; have := (hltC _ e').1; omega)).kept (grown_set _ (w.heap.size + 1 + 1) 1 _) (fun k e e' => by cases e; have := (hltC _ e').1; omega)).kept (grown_set _ (w.heap.size + 1 + 1) 2 _) (fun k e e' => by cases e; have := (hltC _ e').1; omega))
    clear hltC tC kC bC
    go_wp2
    have bF := HF.out
    have gB := HB.out
    have gK := HK.out
    generalize (((wC.setCell ⟨w.heap.size + 1 + 1, 0, none⟩ (.int .i64 id)).setCell ⟨w.heap.size + 1 + 1, 1, none⟩ (.int .i64 me)).setCell ⟨w.heap.size + 1 + 1, 2, none⟩ (.slice aC ks.length cC)) = WF at bF gB gK ⊢
    obtain ⟨⟨z0, z1, z2⟩, _, _, _⟩ := box3 bF
    exact bodyPost_ret (v := .tuple #[mv id me (.slice aC ks.length cC), .int .i64 3]) (by simp [results, Try.results24, go_sem, z0, z1, z2]) rfl ⟨me, ks, 3, aC, cC, HR.out, rfl, gK, gB⟩
  have HO := hidC hold
  by_cases hgap : me + 1 < ep
  · have HR := hidC (ApIs.gap HMB.out HOK.out hold hgap)
    go_wp2_with fail
    refine (l4Copy_any id me K2.out (by omega)).mono ?_
    rintro e wC ⟨aC, cC, rfl, kC, bC⟩
    have hltC := kC.lt
    have tC := blkSince T2.out bC
    have hsC : w.heap.size ≤ w2.heap.size := B2.out.size
    have hRl : w.heap.size + 1 + 1 < w2.heap.size := blkLt T2.out
    obtain ⟨⟨q0, q1, q2⟩, f0, f1, f2⟩ := box3 tC
    have HF := hidC (box3_set2 (box3_set1 (box3_set0 tC (.int .i64 id)) (.int .i64 me)) (.slice aC ks.length cC))
    have HB := hidC (show Below w.heap.size w (((wC.setCell ⟨w.heap.size + 1 + 1, 0, none⟩ (.int .i64 id)).setCell ⟨w.heap.size + 1 + 1, 1, none⟩ (.int .i64 me)).setCell ⟨w.heap.size + 1 + 1, 2, none⟩ (.slice aC ks.length cC)) from (((more B2.out bC).setCell (by simp; omega) _).setCell (by simp; omega) _).setCell (by simp; omega) _)
    have HK := hidC (show Keys w.heap.size (.slice aC ks.length cC) ks (((wC.setCell ⟨w.heap.size + 1 + 1, 0, none⟩ (.int .i64 id)).setCell ⟨w.heap.size + 1 + 1, 1, none⟩ (.int .i64 me)).setCell ⟨w.heap.size + 1 + 1, 2, none⟩ (.slice aC ks.length cC)) from (((kC.mono hsC).kept (grown_set wC (w.heap.size + 1 + 1) 0 _) (fun k e e' => by cases e; have := (hltC _ e').1; omega)).kept (grown_set _ (w.heap.size + 1 + 1) 1 _) (fun k e e' => by cases e; have := (hltC _ e').1; omega)).kept (grown_set _ (w.heap.size + 1 + 1) 2 _) (fun k e e' => by cases e; have := (hltC _ e').1; omega))
    clear hltC tC kC bC
    go_wp2
    have bF := HF.out
    have gB := HB.out
    have gK := HK.out
    generalize (((wC.setCell ⟨w.heap.size + 1 + 1, 0, none⟩ (.int .i64 id)).setCell ⟨w.heap.size + 1 + 1, 1, none⟩ (.int .i64 me)).setCell ⟨w.heap.size + 1 + 1, 2, none⟩ (.slice aC ks.length cC)) = WF at bF gB gK ⊢
    obtain ⟨⟨z0, z1, z2⟩, _, _, _⟩ := box3 bF
    exact bodyPost_ret (v := .tuple #[mv id me (.slice aC ks.length cC), .int .i64 4]) (by simp [results, Try.results24, go_sem, z0, z1, z2]) rfl ⟨me, ks, 4, aC, cC, HR.out, rfl, gK, gB⟩
  have HG := hidC hgap
  obtain ⟨k1, _, k3⟩ := known_right (memberB_known HMB.out)
  obtain ⟨w1', _, _⟩ := wraps_right (rkB_wraps HOK.out)
  have HK3 := hidC k3
  clear k3
  go_wp2_with fail
  refine (l2Learned_any v x ks ws w2 K2.out.arg X2.out.arg k1 w1' HK3.out).mono ?_
  rintro e w3 ⟨v3, out, rfl, _, o1, o2, o3, o5, b3⟩
  have HLr : Hid (LrnOut ks ws out) := by
    show LrnOut ks ws out
    unfold LrnOut
    rw [if_pos ⟨memberB_known HMB.out, rkB_wraps HOK.out⟩]
    exact ⟨o2, o3⟩
  have O3 := hidC o1
  clear o1 o2 o3
  have m0 := cell_since m0 b3
  have m1 := cell_since m1 b3
  have m2 := cell_since m2 b3
  have s0 := cell_since s0 b3
  have s1 := cell_since s1 b3
  have B3 := hidC (more B2.out b3)
  have T3 := hidC (blkSince T2.out b3)
  have K3 := hidC (keysSince K2.out b3)
  have X3 := hidC (wrapsSince X2.out b3)
  clear B2 T2 K2 X2
  clear b3
  go_wp2_with fail
  have hR3 : w.heap.size + 1 + 1 < w3.heap.size := blkLt T3.out
  have hsw3 : w.heap.size ≤ w3.heap.size := B3.out.size
  refine (l4Newest_any O3.out (by omega)).mono ?_
  rintro e w4 ⟨a4, c4, rfl, n4, b4⟩
  have N4 := hidC n4
  clear n4 O3
  have m0 := cell_since m0 b4
  have m1 := cell_since m1 b4
  have m2 := cell_since m2 b4
  have s0 := cell_since s0 b4
  have s1 := cell_since s1 b4
  have B4 := hidC (more B3.out b4)
  have T4 := hidC (blkSince T3.out b4)
  have K4 := hidC (keysSince K3.out b4)
  have X4 := hidC (wrapsSince X3.out b4)
  clear B3 T3 K3 X3
  clear b4
  go_wp2_with fail
  refine (l4Root_any K4.out).mono ?_
  generalize hro : rootK ks = ro at *
  obtain ⟨h1, h2⟩ := ro
  rintro e w5 ⟨rfl, b5'⟩
  have b5 := b5'.alloc b5'.size (kb h1 h2)
  obtain ⟨g0, g1⟩ : (w5.alloc (kb h1 h2)).cell? ⟨w5.heap.size, 0, none⟩ = some (.int .i64 h1) ∧ (w5.alloc (kb h1 h2)).cell? ⟨w5.heap.size, 1, none⟩ = some (.int .i64 h2) := by simp
  have HRo := hidC hro
  have N5 := hidC (keysSince N4.out b5)
  clear b5' hro N4
  have m0 := cell_since m0 b5
  have m1 := cell_since m1 b5
  have m2 := cell_since m2 b5
  have s0 := cell_since s0 b5
  have s1 := cell_since s1 b5
  have B5 := hidC (more B4.out b5)
  have T5 := hidC (blkSince T4.out b5)
  have K5 := hidC (keysSince K4.out b5)
  have X5 := hidC (wrapsSince X4.out b5)
  clear B4 T4 K4 X4
  clear b5
  go_wp2_with fail
  generalize w5.alloc (kb h1 h2) = w6 at *
  refine (l4Root_any N5.out).mono ?_
  generalize hrn : rootK (newK out) = rn at *
  obtain ⟨n1, n2⟩ := rn
  rintro e w7 ⟨rfl, b7'⟩
  have b7 := b7'.alloc b7'.size (kb n1 n2)
  obtain ⟨i0, i1⟩ : (w7.alloc (kb n1 n2)).cell? ⟨w7.heap.size, 0, none⟩ = some (.int .i64 n1) ∧ (w7.alloc (kb n1 n2)).cell? ⟨w7.heap.size, 1, none⟩ = some (.int .i64 n2) := by simp
  have HRn := hidC hrn
  have N6 := hidC (keysSince N5.out b7)
  have g0 := cell_since g0 b7
  have g1 := cell_since g1 b7
  clear b7' hrn N5
  have m0 := cell_since m0 b7
  have m1 := cell_since m1 b7
  have m2 := cell_since m2 b7
  have s0 := cell_since s0 b7
  have s1 := cell_since s1 b7
  have B6 := hidC (more B5.out b7)
  have T6 := hidC (blkSince T5.out b7)
  have K6 := hidC (keysSince K5.out b7)
  have X6 := hidC (wrapsSince X5.out b7)
  clear B5 T5 K5 X5
  clear b7
  have hall : (n1 = h1 ∧ n2 = h2) ∨ (n1 = h1 ∧ (n2 == h2) = false) ∨ (n1 == h1) = false := by
    by_cases e1 : n1 = h1
    · by_cases e2 : n2 = h2
      · exact .inl ⟨e1, e2⟩
      · exact .inr (.inl ⟨e1, by simpa using e2⟩)
    · exact .inr (.inr (by simpa using e1))
  have HA : Hid ((n1 = h1 ∧ n2 = h2 → ApIs id me ks ep ws id me ks 5) ∧ (¬ (n1 = h1 ∧ n2 = h2) → ApIs id me ks ep ws id ep (newK out) 0)) := by
    refine ⟨fun h => ApIs.lost HMB.out HOK.out (by have := HO.out; omega) (by have := HG.out; omega) HLr.out ?_, fun h => ApIs.done HMB.out HOK.out (by have := HO.out; omega) (by have := HG.out; omega) HLr.out ?_⟩
    · rw [HRn.out, HRo.out, h.1, h.2]
    · rw [HRn.out, HRo.out]
      intro e
      simp only [Prod.mk.injEq] at e
      exact h e
  rcases hall with ⟨e1, e2⟩ | hne
  · have HR := hidC (HA.out.1 ⟨e1, e2⟩)
    subst e1 e2
    clear HA
    go_wp2_with fail
    generalize w7.alloc (kb n1 n2) = w8 at *
    refine (l4Copy_any id me K6.out (by omega)).mono ?_
    rintro e wC ⟨aC, cC, rfl, kC, bC⟩
    have hltC := kC.lt
    have tC := blkSince T6.out bC
    have hsC : w.heap.size ≤ w8.heap.size := B6.out.size
    have hRl : w.heap.size + 1 + 1 < w8.heap.size := blkLt T6.out
    obtain ⟨⟨q0, q1, q2⟩, f0, f1, f2⟩ := box3 tC
    have HF := hidC (box3_set2 (box3_set1 (box3_set0 tC (.int .i64 id)) (.int .i64 me)) (.slice aC ks.length cC))
    have HB := hidC (show Below w.heap.size w (((wC.setCell ⟨w.heap.size + 1 + 1, 0, none⟩ (.int .i64 id)).setCell ⟨w.heap.size + 1 + 1, 1, none⟩ (.int .i64 me)).setCell ⟨w.heap.size + 1 + 1, 2, none⟩ (.slice aC ks.length cC)) from (((more B6.out bC).setCell (by simp; omega) _).setCell (by simp; omega) _).setCell (by simp; omega) _)
    have HK := hidC (show Keys w.heap.size (.slice aC ks.length cC) ks (((wC.setCell ⟨w.heap.size + 1 + 1, 0, none⟩ (.int .i64 id)).setCell ⟨w.heap.size + 1 + 1, 1, none⟩ (.int .i64 me)).setCell ⟨w.heap.size + 1 + 1, 2, none⟩ (.slice aC ks.length cC)) from (((kC.mono hsC).kept (grown_set wC (w.heap.size + 1 + 1) 0 _) (fun k e e' => by cases e; have := (hltC _ e').1; omega)).kept (grown_set _ (w.heap.size + 1 + 1) 1 _) (fun k e e' => by cases e; have := (hltC _ e').1; omega)).kept (grown_set _ (w.heap.size + 1 + 1) 2 _) (fun k e e' => by cases e; have := (hltC _ e').1; omega))
    clear hltC tC kC bC
    go_wp2
    have bF := HF.out
    have gB := HB.out
    have gK := HK.out
    generalize (((wC.setCell ⟨w.heap.size + 1 + 1, 0, none⟩ (.int .i64 id)).setCell ⟨w.heap.size + 1 + 1, 1, none⟩ (.int .i64 me)).setCell ⟨w.heap.size + 1 + 1, 2, none⟩ (.slice aC ks.length cC)) = WF at bF gB gK ⊢
    obtain ⟨⟨z0, z1, z2⟩, _, _, _⟩ := box3 bF
    exact bodyPost_ret (v := .tuple #[mv id me (.slice aC ks.length cC), .int .i64 5]) (by simp [results, Try.results24, go_sem, z0, z1, z2]) rfl ⟨me, ks, 5, aC, cC, HR.out, rfl, gK, gB⟩
  · have HR := hidC (HA.out.2 (fun h => by rcases hne with h' | h' <;> simp_all))
    clear HA
    generalize hL : newK out = L at *
    clear hL
    have hlt := N6.out.lt
    have t8 := T6.out
    have hsw := B6.out.size
    have hRl : w.heap.size + 1 + 1 < w3.heap.size := hR3
    generalize hw8 : w7.alloc (kb n1 n2) = w8 at *
    obtain ⟨⟨q0, q1, q2⟩, f0, f1, f2⟩ := box3 t8
    have HF := hidC (box3_set2 (box3_set1 (box3_set0 t8 (.int .i64 id)) (.int .i64 ep)) (.slice a4 L.length c4))
    have HB := hidC (show Below w.heap.size w (((w8.setCell ⟨w.heap.size + 1 + 1, 0, none⟩ (.int .i64 id)).setCell ⟨w.heap.size + 1 + 1, 1, none⟩ (.int .i64 ep)).setCell ⟨w.heap.size + 1 + 1, 2, none⟩ (.slice a4 L.length c4)) from ((B6.out.setCell (by simp; omega) _).setCell (by simp; omega) _).setCell (by simp; omega) _)
    have HK := hidC (show Keys w.heap.size (.slice a4 L.length c4) L (((w8.setCell ⟨w.heap.size + 1 + 1, 0, none⟩ (.int .i64 id)).setCell ⟨w.heap.size + 1 + 1, 1, none⟩ (.int .i64 ep)).setCell ⟨w.heap.size + 1 + 1, 2, none⟩ (.slice a4 L.length c4)) from (((N6.out.mono hsw3).kept (grown_set w8 (w.heap.size + 1 + 1) 0 _) (fun k e e' => by cases e; have := (hlt _ e').1; omega)).kept (grown_set _ (w.heap.size + 1 + 1) 1 _) (fun k e e' => by cases e; have := (hlt _ e').1; omega)).kept (grown_set _ (w.heap.size + 1 + 1) 2 _) (fun k e e' => by cases e; have := (hlt _ e').1; omega))
    clear hlt t8 N6
    rcases hne with ⟨e1, e2⟩ | e1
    all_goals
      first | subst e1 | skip
      go_wp2
      clear hw8
      have bF := HF.out
      have gB := HB.out
      have gK := HK.out
      generalize (((w8.setCell ⟨w.heap.size + 1 + 1, 0, none⟩ (.int .i64 id)).setCell ⟨w.heap.size + 1 + 1, 1, none⟩ (.int .i64 ep)).setCell ⟨w.heap.size + 1 + 1, 2, none⟩ (.slice a4 L.length c4)) = WF at bF gB gK ⊢
      obtain ⟨⟨z0, z1, z2⟩, _, _, _⟩ := box3 bF
      exact bodyPost_ret (v := .tuple #[mv id ep (.slice a4 L.length c4), .int .i64 0]) (by simp [results, Try.results24, go_sem, z0, z1, z2]) rfl ⟨ep, L, 0, a4, c4, HR.out, rfl, gK, gB⟩
end Go.Proofs.Ytjilbfohfgalkaa
/- Applied of the model. -/
namespace Go.Proofs.Ytjilbfohfgalkaa
open Go.RowKit

set_option maxRecDepth 100000 in
set_option maxHeartbeats 4000000 in
theorem specApplied_any {B C : Nat} {x v : Value} {ks : List K2} {ws : List W4} {w : World} (id me ep : Int) (h : Keys B v ks w) (hx : Wraps C x ws w) :
    Calls Try.prog 8 #[mv id me v, rv ep x] w fun e w' => ∃ (I E : Int) (L : List K2) (r : Int) (a : Option Addr) (c : Nat), ApIs id me ks ep ws I E L r ∧ e = .returned (.tuple #[mv I E (.slice a L.length c), .int .i64 r]) ∧ Keys w.heap.size (.slice a L.length c) L w' ∧ Below w.heap.size w w' := by
  have hB1 := three_below w (mb id me v) (rb ep x) (mb 0 0 (.slice none 0 0))
  obtain ⟨m0, m1, m2⟩ := cell3 w id me v
  have m0 := cell_since (cell_since m0 (one_below _ (rb ep x))) (one_below _ (mb 0 0 (.slice none 0 0)))
  have m1 := cell_since (cell_since m1 (one_below _ (rb ep x))) (one_below _ (mb 0 0 (.slice none 0 0)))
  have m2 := cell_since (cell_since m2 (one_below _ (rb ep x))) (one_below _ (mb 0 0 (.slice none 0 0)))
  obtain ⟨s0, s1⟩ := rcell2 (w.alloc (mb id me v)) ep x
  have s0 := cell_since s0 (one_below _ (mb 0 0 (.slice none 0 0)))
  have s1 := cell_since s1 (one_below _ (mb 0 0 (.slice none 0 0)))
  simp only [World.size_alloc] at s0 s1
  have t2 : (((w.alloc (mb id me v)).alloc (rb ep x)).alloc (mb 0 0 (.slice none 0 0))).heap[w.heap.size + 1 + 1]? = some (mb 0 0 (.slice none 0 0)) := by
    have := heap_alloc_new ((w.alloc (mb id me v)).alloc (rb ep x)) (mb 0 0 (.slice none 0 0))
    simpa using this
  have hs1 : (((w.alloc (mb id me v)).alloc (rb ep x)).alloc (mb 0 0 (.slice none 0 0))).heap.size = w.heap.size + 1 + 1 + 1 := by simp
  have K1 := hidC (keysSince h hB1)
  have X1 := hidC (wrapsSince hx hB1)
  clear h hx
  go_enter Try.func8, Try.ntmps8
  go_wp2_with fail
  generalize ((w.alloc (mb id me v)).alloc (rb ep x)).alloc (mb 0 0 (.slice none 0 0)) = w1 at *
  refine (specMemberOk_any id me K1.out).mono ?_
  rintro e w2 ⟨rfl, b2⟩
  have B2 := hidC (more hB1 b2)
  have hs2 := b2.size
  have t2 := (b2.block _ (by omega)).trans t2
  have m0 := cell_since m0 b2
  have m1 := cell_since m1 b2
  have m2 := cell_since m2 b2
  have s0 := cell_since s0 b2
  have s1 := cell_since s1 b2
  have K2' := hidC (keysSince K1.out b2)
  have X2 := hidC (wrapsSince X1.out b2)
  clear K1 X1 hB1 b2
  cases hok : memberB id me ks with
  | false =>
    obtain ⟨⟨q0, q1, q2⟩, f0, f1, f2⟩ := box3 t2
    have HR := hidC (ApIs.no (ep := ep) (ws := ws) hok)
    have HF := hidC (box3_set2 (box3_set1 (box3_set0 t2 (.int .i64 0)) (.int .i64 0)) (.slice none 0 0))
    have HB := hidC (show Below w.heap.size w (((w2.setCell ⟨w.heap.size + 1 + 1, 0, none⟩ (.int .i64 0)).setCell ⟨w.heap.size + 1 + 1, 1, none⟩ (.int .i64 0)).setCell ⟨w.heap.size + 1 + 1, 2, none⟩ (.slice none 0 0)) from ((B2.out.setCell (by simp; omega) _).setCell (by simp; omega) _).setCell (by simp; omega) _)
    go_wp2
    have bF := HF.out
    have gB := HB.out
    generalize ((w2.setCell ⟨w.heap.size + 1 + 1, 0, none⟩ (.int .i64 0)).setCell ⟨w.heap.size + 1 + 1, 1, none⟩ (.int .i64 0)).setCell ⟨w.heap.size + 1 + 1, 2, none⟩ (.slice none 0 0) = WF at bF gB ⊢
    obtain ⟨⟨z0, z1, z2⟩, _, _, _⟩ := box3 bF
    exact bodyPost_ret (v := .tuple #[mv 0 0 (.slice none 0 0), .int .i64 1]) (by simp [results, Try.results8, go_sem, z0, z1, z2]) rfl ⟨0, 0, [], 1, none, 0, HR.out, rfl, noKeys _ _, gB⟩
  | true =>
    go_wp2_with fail
    refine (l4Applied_any id me ep K2'.out X2.out hok).mono ?_
    rintro e w4 ⟨E, L, cc, a4, c4, HR, rfl, k4, b4⟩
    have HR := hidC HR
    have hlt := k4.lt
    have t4 := (b4.block _ (by omega)).trans t2
    have hsw : w.heap.size + 1 + 1 < w2.heap.size := by omega
    have B4 := hidC (more B2.out b4)
    obtain ⟨⟨q0, q1, q2⟩, f0, f1, f2⟩ := box3 t4
    have HF := hidC (box3_set2 (box3_set1 (box3_set0 t4 (.int .i64 id)) (.int .i64 E)) (.slice a4 L.length c4))
    have HB := hidC (show Below w.heap.size w (((w4.setCell ⟨w.heap.size + 1 + 1, 0, none⟩ (.int .i64 id)).setCell ⟨w.heap.size + 1 + 1, 1, none⟩ (.int .i64 E)).setCell ⟨w.heap.size + 1 + 1, 2, none⟩ (.slice a4 L.length c4)) from ((B4.out.setCell (by simp; omega) _).setCell (by simp; omega) _).setCell (by simp; omega) _)
    have HK := hidC (show Keys w.heap.size (.slice a4 L.length c4) L (((w4.setCell ⟨w.heap.size + 1 + 1, 0, none⟩ (.int .i64 id)).setCell ⟨w.heap.size + 1 + 1, 1, none⟩ (.int .i64 E)).setCell ⟨w.heap.size + 1 + 1, 2, none⟩ (.slice a4 L.length c4)) from (((k4.mono (show w.heap.size ≤ w2.heap.size by omega)).kept (grown_set w4 (w.heap.size + 1 + 1) 0 _) (fun k e e' => by cases e; have := (hlt _ e').1; omega)).kept (grown_set _ (w.heap.size + 1 + 1) 1 _) (fun k e e' => by cases e; have := (hlt _ e').1; omega)).kept (grown_set _ (w.heap.size + 1 + 1) 2 _) (fun k e e' => by cases e; have := (hlt _ e').1; omega))
    clear hlt k4 b4 B4 t4 t2 m0 m1 m2 s0 s1 K2' X2
    go_wp2
    have bF := HF.out
    have gB := HB.out
    have gK := HK.out
    generalize ((w4.setCell ⟨w.heap.size + 1 + 1, 0, none⟩ (.int .i64 id)).setCell ⟨w.heap.size + 1 + 1, 1, none⟩ (.int .i64 E)).setCell ⟨w.heap.size + 1 + 1, 2, none⟩ (.slice a4 L.length c4) = WF at bF gB gK ⊢
    obtain ⟨⟨z0, z1, z2⟩, _, _, _⟩ := box3 bF
    exact bodyPost_ret (v := .tuple #[mv id E (.slice a4 L.length c4), .int .i64 cc]) (by simp [results, Try.results8, go_sem, z0, z1, z2]) rfl ⟨id, E, L, cc, a4, c4, HR.out, rfl, gK, gB⟩
end Go.Proofs.Ytjilbfohfgalkaa
/- The walk of the drawn law of Applied: it answers true at every code, and nothing that lay there turns. -/
namespace Go.Proofs.Ytjilbfohfgalkaa
open Go.RowKit

set_option maxRecDepth 100000 in
set_option maxHeartbeats 8000000 in
theorem fnApplied_any (a : Option Addr) (len cap : Nat) (W : World) (h : Q.Bytes W.heap.size a len W) :
    Calls Try.prog 3 #[.slice a len cap] W fun e W' => e = .returned (.bool true) ∧ Below W.heap.size W W' := by
  have hlen := h.1
  unfold maxLen at hlen
  by_cases hbig : (1048576 : Int) < (len : Int)
  · have hd : decide ((1048576 : Int) < (len : Int)) = true := decide_eq_true hbig
    go_enter Try.func3, Try.ntmps3
    go_wp2_with fail
    refine (Q.big_any _ _ _ _).mono ?_
    rintro e w' ⟨rfl, rfl⟩
    rw [hd]
    go_wp2
    go_ret
    exact ⟨rfl, Below.refl _ _⟩
  · have hd : decide ((1048576 : Int) < (len : Int)) = false := decide_eq_false hbig
    go_enter Try.func3, Try.ntmps3
    go_wp2_with fail
    refine (Q.big_any _ _ _ _).mono ?_
    rintro e w' ⟨rfl, hww⟩
    subst w'
    rw [hd]
    go_wp2_with fail
    refine (drawApplied_any a len cap W h).mono ?_
    rintro e w1 ⟨id, me, er, ak, nk, ck, bk, ks, ar, nr, cr, br, wr, rfl, hnk, hk5, H1⟩
    have H2 := hidS ((H1.alloc (mb id me (.slice ak nk ck))).alloc (rb er (.slice ar nr cr)))
    simp only [World.size_alloc] at H2
    have HNK := hidS hnk
    clear H1 hd h hnk hk5
    obtain ⟨⟨m0, m1, m2⟩, _, _, _⟩ := box3 H2.out.b1
    obtain ⟨⟨r0, r1⟩, _, _⟩ := box2K H2.out.b0
    go_wp2_with fail
    generalize (w1.alloc (mb id me (.slice ak nk ck))).alloc (rb er (.slice ar nr cr)) = w2 at *
    refine (applied_any id me er (show Keys bk (.slice ak nk ck) ks w2 from H2.out.r1) (show Wraps br (.slice ar nr cr) wr w2 from H2.out.r0)).mono ?_
    rintro e w3 ⟨I, E, L, r, a3, c3, HI, rfl, k3, b3⟩
    have HI := hidS HI
    have H3 := hidS ((H2.out.add b3 (r := fK w2.heap.size (.slice a3 L.length c3) L) k3 (Nat.le_refl _)).alloc (mb I E (.slice a3 L.length c3)))
    clear H2 b3 k3 m0 m1 m2 r0 r1
    obtain ⟨⟨m0, m1, m2⟩, _, _, _⟩ := box3 H3.out.b2
    obtain ⟨⟨r0, r1⟩, _, _⟩ := box2K H3.out.b1
    obtain ⟨⟨n0, n1, n2⟩, _, _, _⟩ := box3 H3.out.b0
    go_wp2_with fail
    generalize w3.alloc (mb I E (.slice a3 L.length c3)) = w4 at *
    refine (specApplied_any id me er (show Keys bk (.slice ak nk ck) ks w4 from H3.out.r2) (show Wraps br (.slice ar nr cr) wr w4 from H3.out.r1)).mono ?_
    rintro e w5 ⟨I', E', L', r', a5, c5, HI', rfl, k5, b5⟩
    obtain ⟨hi1, hi2, hi3, hi4⟩ := HI'.one HI.out
    subst hi1 hi2 hi3 hi4
    clear HI'
    have H5 := hidS ((H3.out.add b5 (r := fK w4.heap.size (.slice a5 L'.length c5) L') k5 (Nat.le_refl _)).alloc (mb I' E' (.slice a5 L'.length c5)))
    clear H3 b5 k5 m0 m1 m2 r0 r1 n0 n1 n2
    obtain ⟨⟨m0, m1, m2⟩, _, _, _⟩ := box3 H5.out.b3
    obtain ⟨⟨r0, r1⟩, _, _⟩ := box2K H5.out.b2
    obtain ⟨⟨n0, n1, n2⟩, _, _, _⟩ := box3 H5.out.b1
    obtain ⟨⟨q0, q1, q2⟩, _, _, _⟩ := box3 H5.out.b0
    go_wp2_with fail
    generalize w5.alloc (mb I' E' (.slice a5 L'.length c5)) = w6 at *
    refine (sameMember_self I' E' (show Keys w2.heap.size (.slice a3 L'.length c3) L' w6 from H5.out.r1) (show Keys w4.heap.size (.slice a5 L'.length c5) L' w6 from H5.out.r0)).mono ?_
    rintro e w7 ⟨rfl, b7⟩
    have H7 := hidS (H5.out.since b7)
    clear H5 b7 m0 m1 m2 r0 r1 n0 n1 n2 q0 q1 q2
    obtain ⟨⟨m0, m1, m2⟩, _, _, _⟩ := box3 H7.out.b3
    obtain ⟨⟨r0, r1⟩, _, _⟩ := box2K H7.out.b2
    obtain ⟨⟨n0, n1, n2⟩, _, _, _⟩ := box3 H7.out.b1
    obtain ⟨⟨q0, q1, q2⟩, _, _, _⟩ := box3 H7.out.b0
    rcases ap_cases HI.out with rfl | ⟨hr1, hr0, rfl, rfl, rfl⟩ | ⟨rfl, rfl, rfl, rfl, hm0, hm1, hM, hM', hR, hne⟩
    · go_wp2_with fail
      refine (sameMember_self I' E' (show Keys w2.heap.size (.slice a3 L'.length c3) L' w7 from H7.out.r1) (show Keys w4.heap.size (.slice a5 L'.length c5) L' w7 from H7.out.r0)).mono ?_
      rintro e w8 ⟨rfl, b8⟩
      have H8 := hidS (H7.out.since b8)
      clear H7 b8 m0 m1 m2 r0 r1 n0 n1 n2 q0 q1 q2
      go_wp2
      go_ret
      exact ⟨rfl, H8.out.bel⟩
    · have h1 : (r' == 1) = false := by simpa using hr1
      have h0 : (r' == 0) = false := by simpa using hr0
      clear hr1 hr0
      go_wp2_with fail
      refine (sameMember_self I' E' (show Keys w2.heap.size (.slice a3 L'.length c3) L' w7 from H7.out.r1) (show Keys bk (.slice ak nk ck) L' w7 from H7.out.r3)).mono ?_
      rintro e w9 ⟨rfl, b9⟩
      have H9 := hidS (H7.out.since b9)
      clear H7 b9 m0 m1 m2 r0 r1 n0 n1 n2 q0 q1 q2
      go_wp2
      go_ret
      exact ⟨rfl, H9.out.bel⟩
    · have HM := hidS hM
      have HM' := hidS hM'
      have HR := hidS hR
      have HNE := hidS hne
      clear hM hM' hR hne
      go_wp2_with fail
      refine (groupKeyOf_any I' me (show Keys bk (.slice ak nk ck) ks w7 from H7.out.r3)).mono ?_
      rintro e w8 ⟨rfl, b8⟩
      have hg1 : groupK I' me ks = rootK ks := by unfold groupK; rw [if_pos HM.out]
      have hg2 : groupK I' (me + 1) L' = rootK L' := by unfold groupK; rw [if_pos HM'.out]
      have hg3 : groupB I' (me + 1) L' = true := by unfold groupB; rw [HM'.out, HR.out]; rfl
      rw [hg1]
      obtain ⟨u0, u1, HU⟩ : ∃ u0 u1, Hid (rootK ks = (u0, u1)) := ⟨_, _, rfl⟩
      obtain ⟨v0, v1, HV⟩ : ∃ v0 v1, Hid (rootK L' = (v0, v1)) := ⟨_, _, rfl⟩
      have HG := hidS (And.intro hg2 hg3)
      clear hg1 hg2 hg3
      rw [HU.out]
      have hdiff : (v0 == u0 && v1 == u1) = false := by
        have := HNE.out
        rw [HU.out, HV.out] at this
        cases h1 : v0 == u0 with
        | false => rfl
        | true =>
          cases h2 : v1 == u1 with
          | false => rfl
          | true => exact absurd (by rw [eq_of_beq h1, eq_of_beq h2]) this
      have H8 := hidS ((H7.out.since b8).alloc (kb u0 u1))
      clear H7 b8 m0 m1 m2 r0 r1 n0 n1 n2 q0 q1 q2
      obtain ⟨⟨m0, m1, m2⟩, _, _, _⟩ := box3 H8.out.b4
      obtain ⟨⟨r0, r1⟩, _, _⟩ := box2K H8.out.b3
      obtain ⟨⟨n0, n1, n2⟩, _, _, _⟩ := box3 H8.out.b2
      obtain ⟨⟨kw0, kw1⟩, _, _⟩ := box2K H8.out.b0
      go_wp2_with fail
      generalize w8.alloc (kb u0 u1) = w9 at *
      refine (groupKeyOf_any I' (me + 1) (show Keys w2.heap.size (.slice a3 L'.length c3) L' w9 from H8.out.r1)).mono ?_
      rintro e w10 ⟨rfl, b10⟩
      rw [HG.out.1, HG.out.2, HV.out]
      have H10 := hidS ((H8.out.since b10).alloc (kb v0 v1))
      clear H8 b10 m0 m1 m2 r0 r1 n0 n1 n2 kw0 kw1
      obtain ⟨⟨m0, m1, m2⟩, _, _, _⟩ := box3 H10.out.b5
      obtain ⟨⟨r0, r1⟩, _, _⟩ := box2K H10.out.b4
      obtain ⟨⟨n0, n1, n2⟩, _, _, _⟩ := box3 H10.out.b3
      obtain ⟨⟨kw0, kw1⟩, _, _⟩ := box2K H10.out.b1
      obtain ⟨⟨kv0, kv1⟩, _, _⟩ := box2K H10.out.b0
      go_wp2_with fail
      generalize w10.alloc (kb v0 v1) = w11 at *
      refine (memberOk_any I' (me + 1) (show Keys w2.heap.size (.slice a3 L'.length c3) L' w11 from H10.out.r1)).mono ?_
      rintro e w12 ⟨rfl, b12⟩
      rw [HM'.out]
      have H12 := hidS (H10.out.since b12)
      clear H10 b12 m0 m1 m2 r0 r1 n0 n1 n2
      obtain ⟨⟨m0, m1, m2⟩, _, _, _⟩ := box3 H12.out.b5
      obtain ⟨⟨r0, r1⟩, _, _⟩ := box2K H12.out.b4
      obtain ⟨⟨n0, n1, n2⟩, _, _, _⟩ := box3 H12.out.b3
      obtain ⟨⟨kw0, kw1⟩, _, _⟩ := box2K H12.out.b1
      obtain ⟨⟨kv0, kv1⟩, _, _⟩ := box2K H12.out.b0
      by_cases hv : v0 = u0
      · subst hv
        have hv1 : (v1 == u1) = false := by simpa using hdiff
        clear hdiff
        go_wp2
        go_ret
        exact ⟨rfl, H12.out.bel⟩
      · have hv1 : (v0 == u0) = false := by simpa using hv
        clear hdiff hv
        go_wp2
        go_ret
        exact ⟨rfl, H12.out.bel⟩
end Go.Proofs.Ytjilbfohfgalkaa
