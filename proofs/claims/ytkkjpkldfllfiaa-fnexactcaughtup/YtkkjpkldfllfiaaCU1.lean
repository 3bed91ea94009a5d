
/- catchUp of the program: a server's member takes the server's epoch and its keys; else nothing turns. -/
import Derived.Test.YtkkjpkldfllfiaaKF4
import Derived.Test.YtkkjpkldfllfiaaBel
namespace Go.Proofs.Ytkkjpkldfllfiaa
open Go.RowKit

/-- The code of a member that catches up. -/
def cuC (ep : Int) (vs : List Int) (ss : List (Int × Int)) (id : Int) : Int := if serverB ep vs ss = true then (if (seatOf ss id).isSome = true then 0 else 5) else 2
set_option maxRecDepth 100000 in
set_option maxHeartbeats 2000000 in
theorem catchUp_any {B C p : Nat} {x y v : Value} {vs : List Int} {ss : List (Int × Int)} {w : World} (id me ep : Int) (hp : w.heap[p]? = some (mb id me v)) (hx : Ints B x vs w) (hy : Seats C y ss w) :
    Calls Try.prog 79 #[.pointer (some ⟨p, 0, none⟩), svv ep x y] w fun e w' => e = .returned (.int .i64 (cuC ep vs ss id)) ∧ ((cuC ep vs ss id ≠ 0 ∧ Below w.heap.size w w') ∨ (cuC ep vs ss id = 0 ∧ ∃ a c, w'.heap[p]? = some (mb id ep (.slice a (kfL ep vs ss id).length c)) ∧ Keys w.heap.size (.slice a (kfL ep vs ss id).length c) (kfL ep vs ss id) w' ∧ w.grownBy w' (some p))) := by
  have hpl : p < w.heap.size := (Array.getElem?_eq_some_iff.1 hp).1
  have hB1 := one_below w (svb ep x y)
  obtain ⟨c0, c1, c2⟩ := scell3 w ep x y
  have hp1 := (hB1.block p hpl).trans hp
  have X1 := hidC (hx.since hB1)
  have Y1 := hidC (hy.since hB1)
  clear hx hy
  go_enter Try.func79, Try.ntmps79
  go_wp2_with fail
  generalize w.alloc (svb ep x y) = w1 at *
  refine (serverOk_any ep X1.out Y1.out).mono ?_
  rintro e w2 ⟨rfl, b2⟩
  have B2 := hidC (more hB1 b2)
  have hp2 := (b2.block p (by have := hB1.size; omega)).trans hp1
  have d0 := cell_since c0 b2
  have d1 := cell_since c1 b2
  have d2 := cell_since c2 b2
  have X2 := hidC ((X1.out.since b2).since (Below.refl _ _).drew)
  have Y2 := hidC ((Y1.out.since b2).since (Below.refl _ _).drew)
  clear c0 c1 c2 X1 Y1 hB1 b2 hp hp1
  cases hok : serverB ep vs ss with
  | false =>
    have HC := hidC (show cuC ep vs ss id = 2 by simp [cuC, hok])
    go_wp2
    go_ret
    exact ⟨by simp [HC.out], .inl ⟨by rw [HC.out]; decide, B2.out⟩⟩
  | true =>
    obtain ⟨⟨q0, q1, q2⟩, f0, f1, f2⟩ := box3 hp2
    have HP2 := hidC hp2
    clear hp2
    go_wp2
    go_region_held3 (fun W => W.cell? ⟨p, 0, none⟩ = some (.int .i64 id) ∧ W.cell? ⟨w.heap.size, 0, none⟩ = some (.int .i64 ep) ∧ W.cell? ⟨w.heap.size, 1, none⟩ = some x ∧ W.cell? ⟨w.heap.size, 2, none⟩ = some y ∧ Below w2.heap.size w2 W)
      (first | exact ⟨q0, d0, d1, d2, (Below.refl _ _).drew⟩ | exact later4M ‹_› b3 | assumption)
      ((go_at_call 108; refine (keysFor_any ep id X2.out Y2.out).mono ?_; rintro e w3 ⟨a3, c3, rfl, k3, b3⟩))
    all_goals
      rename_i hHeld
      obtain ⟨r0, r1, r2, r3, hbW⟩ := hHeld
      have b3' : Below w2.heap.size w2 w3 := hbW
      have hp3 := (b3'.block p (by have := B2.out.size; omega)).trans HP2.out
      have B3 := hidC (more B2.out b3')
      have hs3 := B3.out.size
      clear q0 q1 q2 f0 f1 f2 d0 d1 d2 X2 Y2 HP2 hbW
      obtain ⟨⟨q0, q1, q2⟩, f0, f1, f2⟩ := box3 hp3
      cases hse : (seatOf ss id).isSome with
      | false =>
        have HC := hidC (show cuC ep vs ss id = 5 by simp [cuC, hok, hse])
        have hkf : kfB ep vs ss id = false := by simp [kfB, hse]
        rw [hkf]
        go_wp2
        go_ret
        exact ⟨by simp [HC.out], .inl ⟨by rw [HC.out]; decide, B3.out⟩⟩
      | true =>
        have HC := hidC (show cuC ep vs ss id = 0 by simp [cuC, hok, hse])
        have hkf : kfB ep vs ss id = true := by simp [kfB, hok, hse]
        rw [hkf]
        have hlt := k3.lt
        have hwl : w.heap.size ≤ w2.heap.size := B2.out.size
        generalize hL : kfL ep vs ss id = L at *
        have HK3 := hidC (k3.mono (show w.heap.size ≤ w2.drew.heap.size from hwl))
        have HP3 := hidC hp3
        have HLt := hidC (show ∀ j, (Value.slice a3 L.length c3).ownBlock = some j → w2.heap.size ≤ j from fun j e => (hlt j e).1)
        clear k3 hp3 hlt b3 b3'
        go_wp2
        go_region
        all_goals
          have HF := hidC (show ((w3.setCell ⟨p, 2, none⟩ (.slice a3 L.length c3)).setCell ⟨p, 1, none⟩ (.int .i64 ep)).drew.heap[p]? = some (mb id ep (.slice a3 L.length c3)) from box3_set1 (box3_set2 HP3.out _) _)
          have HKF := hidC (show Keys w.heap.size (.slice a3 L.length c3) L ((w3.setCell ⟨p, 2, none⟩ (.slice a3 L.length c3)).setCell ⟨p, 1, none⟩ (.int .i64 ep)).drew from ((HK3.out.kept (grown_set w3 p 2 _) (fun k e e' => by cases e; have := HLt.out _ e'; omega)).kept (grown_set _ p 1 _) (fun k e e' => by cases e; have := HLt.out _ e'; omega)).kept (grown_d _ none) (fun k e => by cases e))
          have HGF := hidC (show w.grownBy ((w3.setCell ⟨p, 2, none⟩ (.slice a3 L.length c3)).setCell ⟨p, 1, none⟩ (.int .i64 ep)).drew (some p) from (((grown_any B3.out (some p)).trans (grown_set w3 p 2 _)).trans (grown_set _ p 1 _)).trans (grown_d _ _))
          generalize ((w3.setCell ⟨p, 2, none⟩ (.slice a3 L.length c3)).setCell ⟨p, 1, none⟩ (.int .i64 ep)).drew = WF at HF HKF HGF ⊢
          clear q0 q1 q2 f0 f1 f2 r0 r1 r2 r3
          go_wp2
          go_ret
          refine ⟨by simp [HC.out], .inr ⟨HC.out, a3, c3, ?_⟩⟩
          rw [hL]
          exact ⟨HF.out, HKF.out, HGF.out⟩
end Go.Proofs.Ytkkjpkldfllfiaa
