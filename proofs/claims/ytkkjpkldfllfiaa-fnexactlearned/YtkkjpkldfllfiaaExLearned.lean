
/- The walk of the exact law of Learned: it answers true at every known keys and wraps, and nothing that lay there turns. -/
import Derived.Test.YtkkjpkldfllfiaaMarkK
import Derived.Test.YtkkjpkldfllfiaaLBoth
import Derived.Test.YtkkjpkldfllfiaaToKeys
import Derived.Test.YtkkjpkldfllfiaaMarkW
import Derived.Test.YtkkjpkldfllfiaaEqKeys
import Derived.Test.YtkkjpkldfllfiaaEqWraps
namespace Go.Proofs.Ytkkjpkldfllfiaa
open Go.RowKit

theorem Keys.since {B : Nat} {v : Value} {ks : List K2} {W W' : World} (h : Keys B v ks W) (hb : Below W.heap.size W W') : Keys B v ks W' := h.below hb (fun k e => (h.lt k e).2)
theorem Wraps.since {B : Nat} {v : Value} {ks : List W4} {W W' : World} (h : Wraps B v ks W) (hb : Below W.heap.size W W') : Wraps B v ks W' := h.below hb (fun k e => (h.lt k e).2)
theorem more {w W W' : World} (h : Below w.heap.size w W) (hb : Below W.heap.size W W') : Below w.heap.size w W' := h.trans (hb.mono h.size)
/-- No block of u's is v's. -/
def Apart (u v : Value) : Prop := ∀ k, u.ownBlock = some k → v.ownBlock ≠ some k
theorem apart_of {u v : Value} (n : Nat) (hu : ∀ k, u.ownBlock = some k → k < n) (hv : ∀ k, v.ownBlock = some k → n ≤ k) : Apart v u := fun k e e2 => by have := hu k e2; have := hv k e; omega
theorem eqL_self (xs : List K2) : eqL xs xs = true := decide_eq_true rfl
theorem eqLW_self (xs : List W4) : eqLW xs xs = true := decide_eq_true rfl
set_option maxRecDepth 100000 in
set_option maxHeartbeats 4000000 in
theorem exLearned_any (vk : Value) (ks : List K2) (vw : Value) (ws : List W4) (w : World) (hk : InKeys vk ks w) (hw : InWraps vw ws w) :
    Calls Try.prog 5 #[vk, vw] w fun e w' => e = .returned (.bool true) ∧ Below w.heap.size w w' := by
  obtain ⟨a, c, hv, hm⟩ := hk.len
  obtain ⟨a', c', hv', hm'⟩ := hw.len
  subst hv hv'
  by_cases hn : ks.length ≤ 1048576
  · have hif : (if (1048576 : Int) - (ks.length : Int) < 0 then (-1 : Int) else 1048576 - (ks.length : Int)) = 1048576 - (ks.length : Int) := if_neg (by omega)
    have hge : ¬ (1048576 : Int) - (ks.length : Int) < 0 := by omega
    by_cases hn2 : (ks.length : Int) + ws.length ≤ 1048576
    · have hif2 : (if (1048576 : Int) - (ks.length : Int) - (ws.length : Int) < 0 then (-1 : Int) else 1048576 - (ks.length : Int) - (ws.length : Int)) = 1048576 - (ks.length : Int) - (ws.length : Int) := if_neg (by omega)
      have hge2 : ¬ (1048576 : Int) - (ks.length : Int) - (ws.length : Int) < 0 := by omega
      go_enter Try.func5, Try.ntmps5
      go_wp2_with fail
      refine (szKeyS_any _ _ _ _ _ (by omega) (by omega) hm).mono ?_
      rintro e w' ⟨rfl, hww⟩
      subst w'
      rw [hif]
      go_wp2_with fail
      refine (szWrapS_any _ _ _ _ _ (by omega) (by omega) hm').mono ?_
      rintro e w' ⟨rfl, hww⟩
      subst w'
      rw [hif2]
      have hkl : ks.length ≤ 1048576 := hn
      have hwl : ws.length ≤ 1048576 := by omega
      clear hif hif2
      go_wp2_with fail
      refine (toKeyS_any _ ks _ hk hkl).mono ?_
      rintro e w1 ⟨v1, rfl, _, k1, b1⟩
      have B1 : Hid (Below w.heap.size w w1) := b1
      go_wp2_with fail
      refine (toWrapS_any _ ws _ (hw.below B1.out (Nat.le_refl _)) hwl).mono ?_
      rintro e w2 ⟨v2, rfl, _, k2, b2⟩
      have B2 : Hid (Below w.heap.size w w2) := more B1.out b2
      have K1 : Hid (Keys w.heap.size v1 ks w2) := k1.since b2
      go_wp2_with fail
      refine (specLearned_any K1.out k2).mono ?_
      rintro e w3 ⟨vs, out, rfl, hfew, ks3, l3, b3⟩
      have B3 : Hid (Below w.heap.size w w3) := more B2.out b3
      have S3 : Hid (Keys w2.heap.size vs out w3) := ks3
      have L3 : Hid (LrnOut ks ws out) := l3
      clear b1 b2 b3 k1 k2 ks3 l3 K1 B1
      go_wp2_with fail
      refine (toKeyS_any _ ks _ (hk.below B3.out (Nat.le_refl _)) hkl).mono ?_
      rintro e w4 ⟨x0, rfl, _, k4, b4⟩
      have B4 : Hid (Below w.heap.size w w4) := more B3.out b4
      have S4 : Hid (Keys w2.heap.size vs out w4) := S3.out.since b4
      go_wp2_with fail
      refine (toWrapS_any _ ws _ (hw.below B4.out (Nat.le_refl _)) hwl).mono ?_
      rintro e w5 ⟨x1, rfl, _, k5, b5⟩
      have B5 : Hid (Below w.heap.size w w5) := more B4.out b5
      have S5 : Hid (Keys w2.heap.size vs out w5) := S4.out.since b5
      have X5 : Hid (Keys w3.heap.size x0 ks w5) := k4.since b5
      go_wp2_with fail
      refine (learned_any X5.out k5).mono ?_
      rintro e w6 ⟨g0, out', rfl, k6, l6, b6⟩
      have eo := LrnOut.one l6 L3.out
      subst eo
      have B6 : Hid (Below w.heap.size w w6) := more B5.out b6
      have S6 : Hid (Keys w2.heap.size vs out' w6) := S5.out.since b6
      have X6 : Hid (Keys w3.heap.size x0 ks w6) := X5.out.since b6
      have Y6 : Hid (Wraps w4.heap.size x1 ws w6) := k5.since b6
      have G6 : Hid (Keys w5.heap.size g0 out' w6) := k6
      have A1 : Hid (Apart x0 vs) := apart_of w3.heap.size (fun k e => (S3.out.lt k e).2) (fun k e => (k4.lt k e).1)
      have A2 : Hid (Apart x1 x0) := apart_of w4.heap.size (fun k e => (k4.lt k e).2) (fun k e => (k5.lt k e).1)
      have A3 : Hid (Apart x1 vs) := apart_of w4.heap.size (fun k e => (S4.out.lt k e).2) (fun k e => (k5.lt k e).1)
      have A4 : Hid (Apart g0 x0) := apart_of w5.heap.size (fun k e => (X5.out.lt k e).2) (fun k e => (k6.lt k e).1)
      have A5 : Hid (Apart g0 x1) := apart_of w5.heap.size (fun k e => (k5.lt k e).2) (fun k e => (k6.lt k e).1)
      have A6 : Hid (Apart g0 vs) := apart_of w5.heap.size (fun k e => (S5.out.lt k e).2) (fun k e => (k6.lt k e).1)
      have hs2 := B2.out.size
      have hs3 := B3.out.size
      have hs4 := B4.out.size
      have hs5 := B5.out.size
      have L6 : Hid (LrnOut ks ws out') := l6
      clear b4 b5 b6 k4 k5 k6 l6 L3 S3 S4 S5 X5 B2 B3 B4 B5
      go_wp2_with fail
      refine (eqKeyS_any G6.out S6.out).mono ?_
      rintro e w7 ⟨rfl, b7⟩
      rw [eqL_self]
      have B7 : Hid (Below w.heap.size w w7) := more B6.out b7
      have S7 : Hid (Keys w2.heap.size vs out' w7) := S6.out.since b7
      have X7 : Hid (Keys w3.heap.size x0 ks w7) := X6.out.since b7
      have Y7 : Hid (Wraps w4.heap.size x1 ws w7) := Y6.out.since b7
      have G7 : Hid (Keys w5.heap.size g0 out' w7) := G6.out.since b7
      clear b7 B6 S6 X6 Y6 G6
      go_wp2_with fail
      refine (toKeyS_any _ ks _ (hk.below B7.out (Nat.le_refl _)) hkl).mono ?_
      rintro e w8 ⟨v8, rfl, _, k8, b8⟩
      go_wp2_with fail
      refine (eqKeyS_any (X7.out.since b8) k8).mono ?_
      rintro e w9 ⟨rfl, b9⟩
      rw [eqL_self]
      have B9 : Hid (Below w.heap.size w w9) := more (more B7.out b8) b9
      have S9 : Hid (Keys w2.heap.size vs out' w9) := (S7.out.since b8).since b9
      have X9 : Hid (Keys w3.heap.size x0 ks w9) := (X7.out.since b8).since b9
      have Y9 : Hid (Wraps w4.heap.size x1 ws w9) := (Y7.out.since b8).since b9
      have G9 : Hid (Keys w5.heap.size g0 out' w9) := (G7.out.since b8).since b9
      clear b8 b9 k8 B7 S7 X7 Y7 G7
      go_wp2_with fail
      refine (toWrapS_any _ ws _ (hw.below B9.out (Nat.le_refl _)) hwl).mono ?_
      rintro e w10 ⟨v10, rfl, _, k10, b10⟩
      go_wp2_with fail
      refine (eqWrapS_any (Y9.out.since b10) k10).mono ?_
      rintro e w11 ⟨rfl, b11⟩
      rw [eqLW_self]
      have B11 : Hid (Below w.heap.size w w11) := more (more B9.out b10) b11
      have S11 : Hid (Keys w2.heap.size vs out' w11) := (S9.out.since b10).since b11
      have X11 : Hid (Keys w3.heap.size x0 ks w11) := (X9.out.since b10).since b11
      have Y11 : Hid (Wraps w4.heap.size x1 ws w11) := (Y9.out.since b10).since b11
      have G11 : Hid (Keys w5.heap.size g0 out' w11) := (G9.out.since b10).since b11
      clear b10 b11 k10 B9 S9 X9 Y9 G9
      go_wp2_with fail
      refine (markKeyS_any 1 X11.out (by omega) (by omega)).mono ?_
      rintro e w12 ⟨rfl, _, g12⟩
      have B12 : Hid (Below w.heap.size w w12) := B11.out.grown g12 B11.out.size (fun j e => by have := (X11.out.lt j e).1; omega)
      have S12 : Hid (Keys w2.heap.size vs out' w12) := S11.out.kept g12 (fun j e => A1.out j e)
      have Y12 : Hid (Wraps w4.heap.size x1 ws w12) := World.ownsRow.kept Y11.out g12 (by cases e : x0.ownBlock with | none => cases x1.ownBlock <;> simp | some j => exact .inr fun e2 => A2.out j e2 e)
      have G12 : Hid (Keys w5.heap.size g0 out' w12) := G11.out.kept g12 (fun j e e2 => A4.out j e2 e)
      clear g12 B11 S11 X11 Y11 G11
      go_wp2_with fail
      refine (markWrapS_any _ Y12.out (by omega) (by omega)).mono ?_
      rintro e w13 ⟨rfl, g13⟩
      have B13 : Hid (Below w.heap.size w w13) := B12.out.grown g13 B12.out.size (fun j e => by have := (Y12.out.lt j e).1; omega)
      have S13 : Hid (Keys w2.heap.size vs out' w13) := S12.out.kept g13 (fun j e => A3.out j e)
      have G13 : Hid (Keys w5.heap.size g0 out' w13) := G12.out.kept g13 (fun j e e2 => A5.out j e2 e)
      clear g13 B12 S12 Y12 G12
      go_wp2_with fail
      refine (eqKeyS_any G13.out S13.out).mono ?_
      rintro e w14 ⟨rfl, b14⟩
      rw [eqL_self]
      have B14 : Hid (Below w.heap.size w w14) := more B13.out b14
      have S14 : Hid (Keys w2.heap.size vs out' w14) := S13.out.since b14
      have G14 : Hid (Keys w5.heap.size g0 out' w14) := G13.out.since b14
      clear b14 B13 S13 G13
      go_wp2_with fail
      refine (markKeyS_any 1 G14.out (by omega) (by omega)).mono ?_
      rintro e w15 ⟨rfl, m15, g15⟩
      have B15 : Hid (Below w.heap.size w w15) := B14.out.grown g15 B14.out.size (fun j e => by have := (G14.out.lt j e).1; omega)
      have S15 : Hid (Keys w2.heap.size vs out' w15) := S14.out.kept g15 (fun j e => A6.out j e)
      have M15 : Hid (Keys w5.heap.size g0 (kmarks 1 out'.length) w15) := m15
      clear m15 g15 B14 S14 G14
      go_wp2_with fail
      refine (heldKeyS_any 1 out'.length M15.out (by omega) (by omega)).mono ?_
      rintro e w' ⟨rfl, hww⟩
      subst w'
      go_wp2_with fail
      refine (toKeyS_any _ ks _ (hk.below B15.out (Nat.le_refl _)) hkl).mono ?_
      rintro e w16 ⟨v16, rfl, _, k16, b16⟩
      go_wp2_with fail
      refine (toWrapS_any _ ws _ (hw.below (more B15.out b16) (Nat.le_refl _)) hwl).mono ?_
      rintro e w17 ⟨v17, rfl, _, k17, b17⟩
      go_wp2_with fail
      refine (learned_any (k16.since b17) k17).mono ?_
      rintro e w18 ⟨h0, out2, rfl, k18, l18, b18⟩
      have eo2 := LrnOut.one l18 L6.out
      subst eo2
      have B18 : Hid (Below w.heap.size w w18) := more (more (more B15.out b16) b17) b18
      have S18 : Hid (Keys w2.heap.size vs out2 w18) := ((S15.out.since b16).since b17).since b18
      have M18 : Hid (Keys w5.heap.size g0 (kmarks 1 out2.length) w18) := ((M15.out.since b16).since b17).since b18
      have H18 : Hid (Keys w17.heap.size h0 out2 w18) := k18
      clear b16 b17 b18 k16 k17 k18 l18 B15 S15 M15
      go_wp2_with fail
      refine (eqKeyS_any H18.out S18.out).mono ?_
      rintro e w19 ⟨rfl, b19⟩
      rw [eqL_self]
      have B19 : Hid (Below w.heap.size w w19) := more B18.out b19
      have M19 : Hid (Keys w5.heap.size g0 (kmarks 1 out2.length) w19) := M18.out.since b19
      clear b19 B18 S18 M18 H18
      go_wp2_with fail
      refine (heldKeyS_any 1 out2.length M19.out (by omega) (by omega)).mono ?_
      rintro e w' ⟨rfl, hww⟩
      subst w'
      go_wp2
      go_ret
      exact ⟨rfl, B19.out⟩
    · have hif2 : (if (1048576 : Int) - (ks.length : Int) - (ws.length : Int) < 0 then (-1 : Int) else 1048576 - (ks.length : Int) - (ws.length : Int)) = -1 := if_pos (by omega)
      go_enter Try.func5, Try.ntmps5
      go_wp2_with fail
      refine (szKeyS_any _ _ _ _ _ (by omega) (by omega) hm).mono ?_
      rintro e w' ⟨rfl, hww⟩
      subst w'
      rw [hif]
      go_wp2_with fail
      refine (szWrapS_any _ _ _ _ _ (by omega) (by omega) hm').mono ?_
      rintro e w' ⟨rfl, hww⟩
      subst w'
      rw [hif2]
      go_wp2
      go_ret
      exact ⟨rfl, Below.refl _ _⟩
  · have hif : (if (1048576 : Int) - (ks.length : Int) < 0 then (-1 : Int) else 1048576 - (ks.length : Int)) = -1 := if_pos (by omega)
    go_enter Try.func5, Try.ntmps5
    go_wp2_with fail
    refine (szKeyS_any _ _ _ _ _ (by omega) (by omega) hm).mono ?_
    rintro e w' ⟨rfl, hww⟩
    subst w'
    rw [hif]
    go_wp2
    go_ret
    exact ⟨rfl, Below.refl _ _⟩
end Go.Proofs.Ytkkjpkldfllfiaa
