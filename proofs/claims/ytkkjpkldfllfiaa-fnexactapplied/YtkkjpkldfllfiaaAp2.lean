
/- (*Member).apply of the program. -/
import Derived.Test.YtkkjpkldfllfiaaAp1
import Derived.Test.YtkkjpkldfllfiaaBel
namespace Go.Proofs.Ytkkjpkldfllfiaa
open Go.RowKit

theorem drewN_below (W : World) (q : Nat) : Below W.heap.size W (W.drewN q) := below_drewN' (Below.refl _ _) q
theorem later2A {w W W' : World} {p1 p2 : Addr} {v1 v2 : Value} (h : W.cell? p1 = some v1 ∧ W.cell? p2 = some v2 ∧ Below w.heap.size w W) (hb : Below W.heap.size W W') : W'.cell? p1 = some v1 ∧ W'.cell? p2 = some v2 ∧ Below w.heap.size w W' :=
  ⟨cell_since h.1 hb, cell_since h.2.1 hb, more h.2.2 hb⟩

set_option maxRecDepth 100000 in
set_option maxHeartbeats 4000000 in
theorem apply_any {B C p : Nat} {x v : Value} {ks : List K2} {ws : List W4} {w : World} (id me ep : Int) (hp : w.heap[p]? = some (mb id me v)) (hk : Keys B v ks w) (hx : Wraps C x ws w) (hmb : memberB id me ks = true) :
    Calls Try.prog 70 #[.pointer (some ⟨p, 0, none⟩), rv ep x] w fun e w' => ∃ (E : Int) (L : List K2) (r : Int), ApIs id me ks ep ws id E L r ∧ e = .returned (.int .i64 r) ∧ ((r ≠ 0 ∧ E = me ∧ L = ks ∧ Below w.heap.size w w') ∨ (r = 0 ∧ ∃ a c, w'.heap[p]? = some (mb id E (.slice a L.length c)) ∧ Keys w.heap.size (.slice a L.length c) L w' ∧ w.grownBy w' (some p))) := by
  have hpl : p < w.heap.size := (Array.getElem?_eq_some_iff.1 hp).1
  have hB1 := one_below w (rb ep x)
  obtain ⟨c0, c1⟩ := rcell2 w ep x
  have hp1 := (hB1.block p hpl).trans hp
  have X1 := hidC (wrapsSince hx hB1)
  have K1 := hidC (keysSince hk hB1)
  have HMB := hidC hmb
  have hme : 0 ≤ me ∧ me ≤ 1000000000 := by
    unfold memberB headB at hmb
    simp only [Bool.and_eq_true, decide_eq_true_eq] at hmb
    exact hmb.1.2.1
  clear hx hk hmb
  go_enter Try.func70, Try.ntmps70
  go_wp2_with fail
  generalize w.alloc (rb ep x) = w1 at *
  refine (rekeyOk_any ep X1.out).mono ?_
  rintro e w2 ⟨rfl, b2⟩
  have B2 := hidC (more hB1 b2)
  have hp2 := (b2.block p (by have := hB1.size; omega)).trans hp1
  have d0 := cell_since c0 b2
  have d1 := cell_since c1 b2
  have X2 := hidC (wrapsSince X1.out b2)
  have K2' := hidC (keysSince K1.out b2)
  clear c0 c1 X1 K1 hB1 b2 hp hp1
  cases hok : rkB ep ws with
  | false =>
    have HA := hidC (ApIs.form HMB.out hok)
    clear hok
    go_wp2
    go_ret
    exact ⟨_, _, _, HA.out, rfl, .inl ⟨by decide, rfl, rfl, B2.out⟩⟩
  | true =>
    have HOK := hidC hok
    have hep : 1 ≤ ep ∧ ep ≤ 1000000000 := by
      unfold rkB at hok
      simp only [Bool.and_eq_true, decide_eq_true_eq] at hok
      exact hok.1
    clear hok
    obtain ⟨⟨q0, q1, q2⟩, f0, f1, f2⟩ := box3 hp2
    have HP2 := hidC hp2
    clear hp2
    by_cases hold : ep ≤ me
    · have HA := hidC (ApIs.old HMB.out HOK.out hold)
      go_wp2
      go_quiet (fail)
      go_wp2
      go_ret
      exact ⟨_, _, _, HA.out, rfl, .inl ⟨by decide, rfl, rfl, more B2.out (drewN_below _ _)⟩⟩
    · have HO : Hid (¬ ep ≤ me) := hold
      by_cases hgap : me + 1 < ep
      · have HA := hidC (ApIs.gap HMB.out HOK.out hold hgap)
        go_wp2
        go_quiet (fail)
        have b3 := drewN_below w2 nq
        have d0 := cell_since d0 b3
        have q1 := cell_since q1 b3
        have B3 := hidC (more B2.out b3)
        generalize w2.drewN nq = w3 at *
        clear b3
        go_wp2
        go_quiet (fail)
        go_wp2
        go_ret
        exact ⟨_, _, _, HA.out, rfl, .inl ⟨by decide, rfl, rfl, more B3.out (drewN_below _ _)⟩⟩
      · have HG : Hid (¬ me + 1 < ep) := hgap
        go_wp2
        go_quiet (fail)
        have b3 := drewN_below w2 nq
        have d0 := cell_since d0 b3
        have d1 := cell_since d1 b3
        have q1 := cell_since q1 b3
        have q2 := cell_since q2 b3
        have HP3 := hidC (blkSince HP2.out b3)
        have B3 := hidC (more B2.out b3)
        have X3 := hidC (wrapsSince X2.out b3)
        have K3 := hidC (keysSince K2'.out b3)
        generalize w2.drewN nq = w3 at *
        clear b3 HP2 B2 X2 K2' f0 f1 f2 q0
        go_wp2
        go_quiet (fail)
        have b4 := drewN_below w3 nq
        have d0 := cell_since d0 b4
        have d1 := cell_since d1 b4
        have q1 := cell_since q1 b4
        have q2 := cell_since q2 b4
        have HP4 := hidC (blkSince HP3.out b4)
        have B4 := hidC (more B3.out b4)
        have X4 := hidC (wrapsSince (wrapsSince X3.out b4) (Below.refl _ _).drew)
        have K4 := hidC (keysSince (keysSince K3.out b4) (Below.refl _ _).drew)
        have KO := hidC (keysSince K3.out b4)
        generalize w3.drewN nq = w4 at *
        clear b4 HP3 B3 X3 K3
        go_wp2
        go_region_held3 (fun W => W.cell? ⟨p, 2, none⟩ = some v ∧ W.cell? ⟨w.heap.size, 1, none⟩ = some x ∧ Below w4.heap.size w4 W)
          (first | exact ⟨q2, d1, (Below.refl _ _).drew⟩ | exact later2A ‹_› b5 | exact later2A ‹_› b6 | assumption)
          (first
            | (go_at_call 11; refine (learned_any K4.out X4.out).mono ?_; rintro e w5 ⟨v5, out, rfl, k5, hlr, b5⟩; have HLr := hidC hlr; have hfew := hlr.few; clear hlr)
            | (go_at_call 102; refine (newest_any k5 (by omega)).mono ?_; rintro e w6 ⟨a6, c6, rfl, k6, b6⟩))
        all_goals
          rename_i hHeld
          obtain ⟨_, _, hbW⟩ := hHeld
          have b6' : Below w4.heap.size w4 w6 := hbW
          have hs6 := b6'.size
          have hs4 := B4.out.size
          have hs5 := b5.size
          have K6 := hidC (k6.mono (show w4.heap.size ≤ w5.heap.size from hs5))
          have d0 := cell_since d0 b6'
          have q1 := cell_since q1 b6'
          have q2 := cell_since q2 b6'
          have HP6 := hidC (blkSince HP4.out b6')
          have B6 := hidC (more B4.out b6')
          have KO6 := hidC (keysSince KO.out b6')
          clear b5 b6 k5 k6 hbW b6' KO K4 X4 HP4 d1
          go_wp2_with fail
          refine (rootKey_any KO6.out).mono ?_
          generalize hro : rootK ks = ro at *
          obtain ⟨h1, h2⟩ := ro
          rintro e w7 ⟨rfl, b7⟩
          have b8 := b7.alloc b7.size (kb h1 h2)
          obtain ⟨g0, g1⟩ : (w7.alloc (kb h1 h2)).cell? ⟨w7.heap.size, 0, none⟩ = some (.int .i64 h1) ∧ (w7.alloc (kb h1 h2)).cell? ⟨w7.heap.size, 1, none⟩ = some (.int .i64 h2) := by simp
          have HRo := hidC hro
          have hs7 := b7.size
          have K8 := hidC (keysSince K6.out b8)
          have d0 := cell_since d0 b8
          have q1 := cell_since q1 b8
          have q2 := cell_since q2 b8
          have HP8 := hidC (blkSince HP6.out b8)
          have B8 := hidC (more B6.out b8)
          clear b7 b8 hro K6 HP6 B6 KO6
          go_wp2_with fail
          generalize w7.alloc (kb h1 h2) = w8 at *
          refine (rootKey_any K8.out).mono ?_
          generalize hrn : rootK (newK out) = rn at *
          obtain ⟨n1, n2⟩ := rn
          rintro e w9 ⟨rfl, b9⟩
          have b10 := b9.alloc b9.size (kb n1 n2)
          obtain ⟨i0, i1⟩ : (w9.alloc (kb n1 n2)).cell? ⟨w9.heap.size, 0, none⟩ = some (.int .i64 n1) ∧ (w9.alloc (kb n1 n2)).cell? ⟨w9.heap.size, 1, none⟩ = some (.int .i64 n2) := by simp
          have HRn := hidC hrn
          have K10 := hidC (keysSince K8.out b10)
          have g0 := cell_since g0 b10
          have g1 := cell_since g1 b10
          have d0 := cell_since d0 b10
          have HP10 := hidC (blkSince HP8.out b10)
          have B10 := hidC (more B8.out b10)
          have hs10 := b10.size
          clear b9 b10 hrn K8 HP8 B8 q1 q2
          have hall : (n1 = h1 ∧ n2 = h2) ∨ (n1 = h1 ∧ (n2 == h2) = false) ∨ (n1 == h1) = false := by
            by_cases e1 : n1 = h1
            · by_cases e2 : n2 = h2
              · exact .inl ⟨e1, e2⟩
              · exact .inr (.inl ⟨e1, by simpa using e2⟩)
            · exact .inr (.inr (by simpa using e1))
          have HA : Hid ((n1 = h1 ∧ n2 = h2 → ApIs id me ks ep ws id me ks 5) ∧ (¬ (n1 = h1 ∧ n2 = h2) → ApIs id me ks ep ws id ep (newK out) 0)) := by
            refine ⟨fun h => ApIs.lost HMB.out HOK.out (by have := HO.out; omega) (by have := HG.out; omega) HLr.out ?_, fun h => ApIs.done HMB.out HOK.out (by have := HO.out; omega) (by have := HG.out; omega) HLr.out ?_⟩
            · rw [HRn.out, HRo.out, h.1, h.2]
            · rw [HRn.out, HRo.out]
              intro e
              simp only [Prod.mk.injEq] at e
              exact h e
          rcases hall with ⟨e1, e2⟩ | hne
          · have HA' := hidC (HA.out.1 ⟨e1, e2⟩)
            subst e1 e2
            clear HA
            go_wp2
            go_ret
            exact ⟨_, _, _, HA'.out, rfl, .inl ⟨by decide, rfl, rfl, B10.out⟩⟩
          · have HA' := hidC (HA.out.2 (fun h => by rcases hne with h' | h' <;> simp_all))
            clear HA
            generalize hL : newK out = L at *
            clear hL
            have hlt := K10.out.lt
            have HK3 := hidC (K10.out.mono hs4)
            have HLt := hidC (show ∀ j, (Value.slice a6 L.length c6).ownBlock = some j → w4.heap.size ≤ j from fun j e => (hlt j e).1)
            have hp10 := HP10.out
            obtain ⟨⟨q0, q1, q2⟩, f0, f1, f2⟩ := box3 hp10
            clear hp10 hlt K10
            rcases hne with ⟨e1, e2⟩ | e1
            all_goals
              first | subst e1 | skip
              go_wp2_with fail
              generalize w9.alloc _ = w11 at *
              go_wp2
              go_region
              all_goals
                have HF := hidC (show ((w11.setCell ⟨p, 2, none⟩ (.slice a6 L.length c6)).setCell ⟨p, 1, none⟩ (.int .i64 ep)).drew.heap[p]? = some (mb id ep (.slice a6 L.length c6)) from box3_set1 (box3_set2 HP10.out _) _)
                have HKF := hidC (show Keys w.heap.size (.slice a6 L.length c6) L ((w11.setCell ⟨p, 2, none⟩ (.slice a6 L.length c6)).setCell ⟨p, 1, none⟩ (.int .i64 ep)).drew from ((HK3.out.kept (grown_set w11 p 2 _) (fun k e e' => by cases e; have := HLt.out _ e'; omega)).kept (grown_set _ p 1 _) (fun k e e' => by cases e; have := HLt.out _ e'; omega)).kept (grown_d _ none) (fun k e => by cases e))
                have HGF := hidC (show w.grownBy ((w11.setCell ⟨p, 2, none⟩ (.slice a6 L.length c6)).setCell ⟨p, 1, none⟩ (.int .i64 ep)).drew (some p) from (((grown_any B10.out (some p)).trans (grown_set w11 p 2 _)).trans (grown_set _ p 1 _)).trans (grown_d _ _))
                generalize ((w11.setCell ⟨p, 2, none⟩ (.slice a6 L.length c6)).setCell ⟨p, 1, none⟩ (.int .i64 ep)).drew = WF at HF HKF HGF ⊢
                go_wp2
                go_ret
                exact ⟨_, _, _, HA'.out, rfl, .inr ⟨rfl, a6, c6, HF.out, HKF.out, HGF.out⟩⟩
end Go.Proofs.Ytkkjpkldfllfiaa
