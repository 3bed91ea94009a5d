
/- Applied of the program. -/
import Derived.Test.YtkkjpkldfllfiaaAp2
namespace Go.Proofs.Ytkkjpkldfllfiaa
open Go.RowKit

set_option maxRecDepth 100000 in
set_option maxHeartbeats 2000000 in
theorem applied_any {B C : Nat} {x v : Value} {ks : List K2} {ws : List W4} {w : World} (id me ep : Int) (h : Keys B v ks w) (hx : Wraps C x ws w) :
    Calls Try.prog 38 #[mv id me v, rv ep x] w fun e w' => ∃ (I E : Int) (L : List K2) (r : Int) (a : Option Addr) (c : Nat), ApIs id me ks ep ws I E L r ∧ e = .returned (.tuple #[mv I E (.slice a L.length c), .int .i64 r]) ∧ Keys w.heap.size (.slice a L.length c) L w' ∧ Below w.heap.size w w' := by
  have hB1 := three_below w (mb id me v) (rb ep x) (mb 0 0 (.slice none 0 0))
  obtain ⟨m0, m1, m2⟩ := cell3 w id me v
  have m0 := cell_since (cell_since m0 (one_below _ (rb ep x))) (one_below _ (mb 0 0 (.slice none 0 0)))
  have m1 := cell_since (cell_since m1 (one_below _ (rb ep x))) (one_below _ (mb 0 0 (.slice none 0 0)))
  have m2 := cell_since (cell_since m2 (one_below _ (rb ep x))) (one_below _ (mb 0 0 (.slice none 0 0)))
  obtain ⟨s0, s1⟩ := rcell2 (w.alloc (mb id me v)) ep x
  have s0 := cell_since s0 (one_below _ (mb 0 0 (.slice none 0 0)))
  have s1 := cell_since s1 (one_below _ (mb 0 0 (.slice none 0 0)))
  simp only [World.size_alloc] at s0 s1
  have t2 : (((w.alloc (mb id me v)).alloc (rb ep x)).alloc (mb 0 0 (.slice none 0 0))).heap[w.heap.size + 1 + 1]? = some (mb 0 0 (.slice none 0 0)) := by
    have := heap_alloc_new ((w.alloc (mb id me v)).alloc (rb ep x)) (mb 0 0 (.slice none 0 0))
    simpa using this
  have hs1 : (((w.alloc (mb id me v)).alloc (rb ep x)).alloc (mb 0 0 (.slice none 0 0))).heap.size = w.heap.size + 1 + 1 + 1 := by simp
  have K1 := hidC (keysSince h hB1)
  have X1 := hidC (wrapsSince hx hB1)
  clear h hx
  go_enter Try.func38, Try.ntmps38
  go_wp2_with fail
  generalize ((w.alloc (mb id me v)).alloc (rb ep x)).alloc (mb 0 0 (.slice none 0 0)) = w1 at *
  refine (memberOk_any id me K1.out).mono ?_
  rintro e w2 ⟨rfl, b2⟩
  have B2 := hidC (more hB1 b2)
  have hs2 := b2.size
  have t2 := (b2.block _ (by omega)).trans t2
  have m0 := cell_since m0 b2
  have m1 := cell_since m1 b2
  have m2 := cell_since m2 b2
  have s0 := cell_since s0 b2
  have s1 := cell_since s1 b2
  have K2' := hidC (keysSince K1.out b2)
  have X2 := hidC (wrapsSince X1.out b2)
  clear K1 X1 hB1 b2
  cases hok : memberB id me ks with
  | false =>
    obtain ⟨⟨q0, q1, q2⟩, f0, f1, f2⟩ := box3 t2
    have HR := hidC (ApIs.no (ep := ep) (ws := ws) hok)
    have HF := hidC (box3_set2 (box3_set1 (box3_set0 t2 (.int .i64 0)) (.int .i64 0)) (.slice none 0 0))
    have HB := hidC (show Below w.heap.size w (((w2.setCell ⟨w.heap.size + 1 + 1, 0, none⟩ (.int .i64 0)).setCell ⟨w.heap.size + 1 + 1, 1, none⟩ (.int .i64 0)).setCell ⟨w.heap.size + 1 + 1, 2, none⟩ (.slice none 0 0)) from ((B2.out.setCell (by simp; omega) _).setCell (by simp; omega) _).setCell (by simp; omega) _)
    go_wp2
    have bF := HF.out
    have gB := HB.out
    generalize ((w2.setCell ⟨w.heap.size + 1 + 1, 0, none⟩ (.int .i64 0)).setCell ⟨w.heap.size + 1 + 1, 1, none⟩ (.int .i64 0)).setCell ⟨w.heap.size + 1 + 1, 2, none⟩ (.slice none 0 0) = WF at bF gB ⊢
    obtain ⟨⟨z0, z1, z2⟩, _, _, _⟩ := box3 bF
    exact bodyPost_ret (v := .tuple #[mv 0 0 (.slice none 0 0), .int .i64 1]) (by simp [results, Try.results38, go_sem, z0, z1, z2]) rfl ⟨0, 0, [], 1, none, 0, HR.out, rfl, noKeys _ _, gB⟩
  | true =>
    have hfew := memberB_few hok
    go_wp2_with fail
    refine (ownMember_any id me K2'.out (by omega)).mono ?_
    rintro e w3 ⟨p, a3, c3, rfl, hp, k3, hpw, hne, b3⟩
    have B3 := hidC (more B2.out b3)
    have hs3 := b3.size
    have t3 := (b3.block _ (by omega)).trans t2
    have s0 := cell_since s0 b3
    have s1 := cell_since s1 b3
    have X3 := hidC (wrapsSince X2.out b3)
    have K3 := hidC k3
    have HNE := hidC hne
    clear b3 k3 hne K2' X2 B2 t2 m0 m1 m2
    have hpl : p < w3.heap.size := (Array.getElem?_eq_some_iff.1 hp).1
    go_wp2_with fail
    refine (apply_any id me ep hp K3.out X3.out hok).mono ?_
    rintro e w4 ⟨E, L, cc, HR, rfl, hcase⟩
    obtain ⟨a4, c4, hp4, K4, t4, B4⟩ : ∃ (a4 : Option Addr) (c4 : Nat), w4.heap[p]? = some (mb id E (.slice a4 L.length c4)) ∧ Hid (Keys w2.heap.size (.slice a4 L.length c4) L w4) ∧ w4.heap[w.heap.size + 1 + 1]? = some (mb 0 0 (.slice none 0 0)) ∧ Hid (Below w.heap.size w w4) := by
      rcases hcase with ⟨hc, rfl, rfl, b4⟩ | ⟨hc, a4, c4, hp4, k4, g4⟩
      · exact ⟨a3, c3, (b4.block p hpl).trans hp, keysSince K3.out b4, (b4.block _ (by omega)).trans t3, more B3.out b4⟩
      · exact ⟨a4, c4, hp4, k4.mono hs3, (g4.block _ (by omega) (fun e => by cases e; omega)).trans t3, B3.out.grown g4 B3.out.size (fun k e => by cases e; omega)⟩
    have HR := hidC HR
    have hlt := K4.out.lt
    clear hcase K3 HNE X3 s0 s1 B3 t3 hp
    obtain ⟨⟨q0, q1, q2⟩, f0, f1, f2⟩ := box3 t4
    obtain ⟨⟨u0, u1, u2⟩, v0, v1, v2⟩ := box3 hp4
    have hsw : w.heap.size + 1 + 1 < w2.heap.size := by omega
    have HF := hidC (box3_set2 (box3_set1 (box3_set0 t4 (.int .i64 id)) (.int .i64 E)) (.slice a4 L.length c4))
    have HB := hidC (show Below w.heap.size w (((w4.setCell ⟨w.heap.size + 1 + 1, 0, none⟩ (.int .i64 id)).setCell ⟨w.heap.size + 1 + 1, 1, none⟩ (.int .i64 E)).setCell ⟨w.heap.size + 1 + 1, 2, none⟩ (.slice a4 L.length c4)) from ((B4.out.setCell (by simp; omega) _).setCell (by simp; omega) _).setCell (by simp; omega) _)
    have HK := hidC (show Keys w.heap.size (.slice a4 L.length c4) L (((w4.setCell ⟨w.heap.size + 1 + 1, 0, none⟩ (.int .i64 id)).setCell ⟨w.heap.size + 1 + 1, 1, none⟩ (.int .i64 E)).setCell ⟨w.heap.size + 1 + 1, 2, none⟩ (.slice a4 L.length c4)) from (((K4.out.mono (show w.heap.size ≤ w2.heap.size by omega)).kept (grown_set w4 (w.heap.size + 1 + 1) 0 _) (fun k e e' => by cases e; have := (hlt _ e').1; omega)).kept (grown_set _ (w.heap.size + 1 + 1) 1 _) (fun k e e' => by cases e; have := (hlt _ e').1; omega)).kept (grown_set _ (w.heap.size + 1 + 1) 2 _) (fun k e e' => by cases e; have := (hlt _ e').1; omega))
    clear hlt K4 B4 t4 hp4
    go_wp2
    have bF := HF.out
    have gB := HB.out
    have gK := HK.out
    generalize ((w4.setCell ⟨w.heap.size + 1 + 1, 0, none⟩ (.int .i64 id)).setCell ⟨w.heap.size + 1 + 1, 1, none⟩ (.int .i64 E)).setCell ⟨w.heap.size + 1 + 1, 2, none⟩ (.slice a4 L.length c4) = WF at bF gB gK ⊢
    obtain ⟨⟨z0, z1, z2⟩, _, _, _⟩ := box3 bF
    exact bodyPost_ret (v := .tuple #[mv id E (.slice a4 L.length c4), .int .i64 cc]) (by simp [results, Try.results38, go_sem, z0, z1, z2]) rfl ⟨id, E, L, cc, a4, c4, HR.out, rfl, gK, gB⟩
end Go.Proofs.Ytkkjpkldfllfiaa
