
/- The walk of the exact law of CanLearn: it answers true at every known keys, wraps and key, and nothing that lay there turns. -/
import Derived.Test.YtkkjpkldfllfiaaToKeys
import Derived.Test.YtkkjpkldfllfiaaCanL
import Derived.Test.YtkkjpkldfllfiaaEqKeys
import Derived.Test.YtkkjpkldfllfiaaEqWraps
namespace Go.Proofs.Ytkkjpkldfllfiaa
open Go.RowKit

theorem Keys.since {B : Nat} {v : Value} {ks : List K2} {W W' : World} (h : Keys B v ks W) (hb : Below W.heap.size W W') : Keys B v ks W' := h.below hb (fun k e => (h.lt k e).2)
theorem Wraps.since {B : Nat} {v : Value} {ks : List W4} {W W' : World} (h : Wraps B v ks W) (hb : Below W.heap.size W W') : Wraps B v ks W' := h.below hb (fun k e => (h.lt k e).2)
theorem more {w W W' : World} (h : Below w.heap.size w W) (hb : Below W.heap.size W W') : Below w.heap.size w W' := h.trans (hb.mono h.size)
theorem eqL_self (xs : List K2) : eqL xs xs = true := decide_eq_true rfl
theorem eqLW_self (xs : List W4) : eqLW xs xs = true := decide_eq_true rfl
set_option maxRecDepth 100000 in
set_option maxHeartbeats 4000000 in
theorem exCanLearn_any (vk : Value) (ks : List K2) (vw : Value) (ws : List W4) (x y : Int) (w : World) (hk : InKeys vk ks w) (hw : InWraps vw ws w) :
    Calls Try.prog 6 #[vk, vw, kv x y] w fun e w' => e = .returned (.bool true) ∧ Below w.heap.size w w' := by
  obtain ⟨a, c, hv, hm⟩ := hk.len
  obtain ⟨a', c', hv', hm'⟩ := hw.len
  subst hv hv'
  have hB0 := one_below w (lkb x y)
  obtain ⟨c0, c1⟩ : (w.alloc (lkb x y)).cell? ⟨w.heap.size, 0, none⟩ = some (.int .i64 x) ∧ (w.alloc (lkb x y)).cell? ⟨w.heap.size, 1, none⟩ = some (.int .i64 y) := by simp
  have hk0 := hk.below hB0 (Nat.le_refl _)
  have hw0 := hw.below hB0 (Nat.le_refl _)
  by_cases hn : ks.length ≤ 1048576
  · have hif : (if (1048576 : Int) - (ks.length : Int) < 0 then (-1 : Int) else 1048576 - (ks.length : Int)) = 1048576 - (ks.length : Int) := if_neg (by omega)
    have hge : ¬ (1048576 : Int) - (ks.length : Int) < 0 := by omega
    by_cases hn2 : (ks.length : Int) + ws.length ≤ 1048576
    · have hif2 : (if (1048576 : Int) - (ks.length : Int) - (ws.length : Int) < 0 then (-1 : Int) else 1048576 - (ks.length : Int) - (ws.length : Int)) = 1048576 - (ks.length : Int) - (ws.length : Int) := if_neg (by omega)
      have hge2 : ¬ (1048576 : Int) - (ks.length : Int) - (ws.length : Int) < 0 := by omega
      have hkl : ks.length ≤ 1048576 := hn
      have hwl : ws.length ≤ 1048576 := by omega
      go_enter Try.func6, Try.ntmps6
      go_wp2_with fail
      generalize w.alloc (lkb x y) = w0 at hB0 c0 c1 hk0 hw0 ⊢
      refine (szKeyS_any _ _ _ _ _ (by omega) (by omega) hm).mono ?_
      rintro e w' ⟨rfl, hww⟩
      subst w'
      rw [hif]
      go_wp2_with fail
      refine (szWrapS_any _ _ _ _ _ (by omega) (by omega) hm').mono ?_
      rintro e w' ⟨rfl, hww⟩
      subst w'
      rw [hif2]
      clear hif hif2
      have hk0d : InKeys (.slice a ks.length c) ks w0.drew := hk0.below (Below.refl w0.heap.size _).drew (Nat.le_refl _)
      have hw0d : InWraps (.slice a' ws.length c') ws w0.drew := hw0.below (Below.refl w0.heap.size _).drew (Nat.le_refl _)
      go_wp2
      go_region_held3 (fun W => W.cell? ⟨w.heap.size, 0, none⟩ = some (.int .i64 x) ∧ W.cell? ⟨w.heap.size, 1, none⟩ = some (.int .i64 y) ∧ Below w0.heap.size w0 W)
        (first | exact ⟨c0, c1, (Below.refl _ _).drew⟩ | assumption | exact later2 ‹_› b4 | exact later2 ‹_› b3 | exact later2 ‹_› b2 | exact later2 ‹_› b1)
        (first | (go_at_call 25; refine (toKeyS_any _ ks _ hk0d hkl).mono ?_; rintro e w1 ⟨v1, rfl, _, k1, b1⟩) | (go_at_call 26; refine (toWrapS_any _ ws _ (hw0d.below b1 (Nat.le_refl _)) hwl).mono ?_; rintro e w2 ⟨v2, rfl, _, k2, b2⟩) | (go_at_call 32; refine (toKey_below _ _ _).mono ?_; rintro e w3 ⟨rfl, b3⟩) | (go_at_call 21; refine (specCanLearn_any x y ((k1.since b2).since b3) (k2.since b3)).mono ?_; rintro e w4 ⟨out, L1, rfl, b4⟩))
      rename_i hHeld
      have LH : Hid (LrnOut ks ws out) := L1
      have B4 : Hid (Below w0.heap.size w0 w4) := hHeld.2.2
      clear hHeld b1 b2 b3 b4 k1 k2 L1 hk0d hw0d
      go_wp2_with fail
      refine (toKeyS_any _ ks _ (hk0.below B4.out (Nat.le_refl _)) hkl).mono ?_
      rintro e w5 ⟨x0, rfl, _, k5, b5⟩
      have B5 : Hid (Below w0.heap.size w0 w5) := more B4.out b5
      go_wp2_with fail
      refine (toWrapS_any _ ws _ (hw0.below B5.out (Nat.le_refl _)) hwl).mono ?_
      rintro e w6 ⟨x1, rfl, _, k6, b6⟩
      have B6 : Hid (Below w0.heap.size w0 w6) := more B5.out b6
      have X6 : Hid (Keys w4.heap.size x0 ks w6) := k5.since b6
      have d0 := cell_since c0 B6.out
      have d1 := cell_since c1 B6.out
      clear b5 b6 k5 B4 B5
      go_wp2_with fail
      refine (toKey_below _ _ _).mono ?_
      rintro e w7 ⟨rfl, b7⟩
      go_wp2_with fail
      refine (canLearn_any x y (X6.out.since b7) (k6.since b7)).mono ?_
      rintro e w8 ⟨out', L8, rfl, b8⟩
      have eo := LrnOut.one L8 LH.out
      subst eo
      have B8 : Hid (Below w0.heap.size w0 w8) := more (more B6.out b7) b8
      have X8 : Hid (Keys w4.heap.size x0 ks w8) := (X6.out.since b7).since b8
      have Y8 : Hid (Wraps w5.heap.size x1 ws w8) := (k6.since b7).since b8
      clear b7 b8 k6 X6 B6 d0 d1 LH L8
      generalize decide ((x, y) ∈ out') = ans
      go_wp2_with fail
      refine (toKeyS_any _ ks _ (hk0.below B8.out (Nat.le_refl _)) hkl).mono ?_
      rintro e w9 ⟨v9, rfl, _, k9, b9⟩
      go_wp2_with fail
      refine (eqKeyS_any (X8.out.since b9) k9).mono ?_
      rintro e w10 ⟨rfl, b10⟩
      rw [eqL_self]
      have B10 : Hid (Below w0.heap.size w0 w10) := more (more B8.out b9) b10
      have Y10 : Hid (Wraps w5.heap.size x1 ws w10) := (Y8.out.since b9).since b10
      clear b9 b10 k9 X8 Y8 B8
      go_wp2_with fail
      refine (toWrapS_any _ ws _ (hw0.below B10.out (Nat.le_refl _)) hwl).mono ?_
      rintro e w11 ⟨v11, rfl, _, k11, b11⟩
      go_wp2_with fail
      refine (eqWrapS_any (Y10.out.since b11) k11).mono ?_
      rintro e w12 ⟨rfl, b12⟩
      rw [eqLW_self]
      have B12 : Hid (Below w.heap.size w w12) := more hB0 (more (more B10.out b11) b12)
      go_wp2
      go_ret
      exact ⟨rfl, B12.out⟩
    · have hif2 : (if (1048576 : Int) - (ks.length : Int) - (ws.length : Int) < 0 then (-1 : Int) else 1048576 - (ks.length : Int) - (ws.length : Int)) = -1 := if_pos (by omega)
      go_enter Try.func6, Try.ntmps6
      go_wp2_with fail
      refine (szKeyS_any _ _ _ _ _ (by omega) (by omega) hm).mono ?_
      rintro e w' ⟨rfl, hww⟩
      subst w'
      rw [hif]
      go_wp2_with fail
      refine (szWrapS_any _ _ _ _ _ (by omega) (by omega) hm').mono ?_
      rintro e w' ⟨rfl, hww⟩
      subst w'
      rw [hif2]
      go_wp2
      go_ret
      exact ⟨rfl, hB0⟩
  · have hif : (if (1048576 : Int) - (ks.length : Int) < 0 then (-1 : Int) else 1048576 - (ks.length : Int)) = -1 := if_pos (by omega)
    go_enter Try.func6, Try.ntmps6
    go_wp2_with fail
    refine (szKeyS_any _ _ _ _ _ (by omega) (by omega) hm).mono ?_
    rintro e w' ⟨rfl, hww⟩
    subst w'
    rw [hif]
    go_wp2
    go_ret
    exact ⟨rfl, hB0⟩
end Go.Proofs.Ytkkjpkldfllfiaa
