
/- The walk of the exact law of KeysFor: it answers true at every server and member, and nothing that lay there turns. -/
import Derived.Test.YtplinjepeahahaaKF4
import Derived.Test.YtplinjepeahahaaMarkKb
import Derived.Test.YtplinjepeahahaaSrv6m
import Derived.Test.YtplinjepeahahaaExSrvB
namespace Go.Proofs.Ytplinjepeahahaa
open Go.RowKit

theorem eqL_self (xs : List (Int × Int)) : eqL xs xs = true := decide_eq_true rfl

set_option maxRecDepth 100000 in
set_option maxHeartbeats 4000000 in
theorem exKeysFor_any (ep : Int) (x : Value) (vs : List Int) (y : Value) (ss : List (Int × Int)) (m : Int) (w : World) (hx : InInts x vs w) (hy : InSeats y ss w) :
    Calls Try.prog 6 #[svv ep x y, .int .i64 m] w fun e w' => e = .returned (.bool true) ∧ Below w.heap.size w w' := by
  obtain ⟨a, c, hv, hm⟩ := hx.len
  obtain ⟨a', c', hv', hm'⟩ := hy.len
  subst hv hv'
  have hB0 := one_below w (lsvb ep (.slice a vs.length c) (.slice a' ss.length c'))
  obtain ⟨c0, c1, c2⟩ := lscell3 w ep (.slice a vs.length c) (.slice a' ss.length c')
  have hx0 := hx.below hB0 (Nat.le_refl _)
  have hy0 := hy.below hB0 (Nat.le_refl _)
  have hml := kfL_len ep vs ss m
  clear hx hy
  by_cases hn : vs.length + ss.length ≤ 1048576
  · have hif := szV_ok hn
    have hge : ¬ (1048576 : Int) - (vs.length : Int) - (ss.length : Int) < 0 := by omega
    have hn1 : vs.length ≤ 1048576 := by omega
    have hn2 : ss.length ≤ 1048576 := by omega
    go_enter Try.func6, Try.ntmps6
    go_wp2_with fail
    generalize w.alloc (lsvb ep (.slice a vs.length c) (.slice a' ss.length c')) = w0 at hB0 c0 c1 c2 hx0 hy0 ⊢
    refine (szServer_any _ _ _ _ _ _ _ _ _ (by omega) (by omega) hm hm').mono ?_
    rintro e w1 ⟨rfl, hw1⟩
    rw [hif]
    have b1 : Below w0.heap.size w0 w1 := by rw [hw1]; exact one_below _ _
    have B1 := hidOf' b1
    have d0 := cell_since c0 b1
    have d1 := cell_since c1 b1
    have d2 := cell_since c2 b1
    clear hw1 b1 hif
    go_wp2_with fail
    refine (toServer_any _ _ _ vs ss _ (hx0.below B1.out (Nat.le_refl _)) (hy0.below B1.out (Nat.le_refl _)) hn1 hn2).mono ?_
    rintro e w2 ⟨x2, y2, rfl, k2, b2⟩
    go_wp2_with fail
    refine (specKeysFor_any ep m k2.1 k2.2.1).mono ?_
    rintro e w3 ⟨aS, cS, rfl, s3, b3⟩
    generalize hML : kfL ep vs ss m = ml at *
    generalize hFB : kfB ep vs ss m = fb at *
    generalize hvS : Value.slice aS ml.length cS = vS at *
    have S3 := hidOf' s3
    have B3 := hidOf' (more (more B1.out b2) b3)
    clear d0 d1 d2 b2 b3 k2 B1 s3
    have d0 := cell_since c0 B3.out
    have d1 := cell_since c1 B3.out
    have d2 := cell_since c2 B3.out
    go_wp2_with fail
    refine (toServer_any _ _ _ vs ss _ (hx0.below B3.out (Nat.le_refl _)) (hy0.below B3.out (Nat.le_refl _)) hn1 hn2).mono ?_
    rintro e w4 ⟨x4, y4, rfl, k4, b4⟩
    have hB5 := one_below w4 (svb ep x4 y4)
    obtain ⟨i0, i1, i2⟩ := scell3 w4 ep x4 y4
    have B5 := hidOf' (more (more B3.out b4) hB5)
    have K5 := hidOf' (k4.since hB5)
    have S5 := hidOf' (keys_since (keys_since S3.out b4) hB5)
    obtain ⟨a4, c4, hv4, _, _⟩ := k4.1.row
    obtain ⟨a5, c5, hv5, _, _⟩ := k4.2.1.row
    have AX : Hid (∀ j, x4.ownBlock = some j → w3.heap.size ≤ j ∧ j < w4.heap.size) := fun j e => k4.1.lt j e
    have AY : Hid (∀ j, y4.ownBlock = some j → w3.heap.size ≤ j ∧ j < w4.heap.size) := fun j e => k4.2.1.lt j e
    have AS : Hid (∀ j, vS.ownBlock = some j → j < w3.heap.size) := fun j e => (S3.out.lt j e).2
    have hs3 := B3.out.size
    have hs34 := b4.size
    have hs4 : w4.heap.size < (w4.alloc (svb ep x4 y4)).heap.size := by simp
    clear d0 d1 d2 b4 k4 hB5 B3 S3
    subst hv4 hv5
    go_wp2_with fail
    generalize w4.alloc (svb ep (.slice a4 vs.length c4) (.slice a5 ss.length c5)) = w5 at *
    refine (keysFor_any ep m K5.out.1 K5.out.2.1).mono ?_
    rw [hML, hFB]
    rintro e w6 ⟨aG, cG, rfl, g6, b6⟩
    generalize hvG : Value.slice aG ml.length cG = vG at *
    have G6 := hidOf' g6
    have AG : Hid (∀ j, vG.ownBlock = some j → w5.heap.size ≤ j) := fun j e => (g6.lt j e).1
    have B6 := hidOf' (more B5.out b6)
    have K6 := hidOf' (K5.out.since b6)
    have S6 := hidOf' (keys_since S5.out b6)
    have j0 := cell_since i0 b6
    have j1 := cell_since i1 b6
    have j2 := cell_since i2 b6
    clear g6 b6 K5 S5 B5 i0 i1 i2
    go_wp2_with fail
    refine (eqKeyS_any G6.out S6.out).mono ?_
    rintro e w' ⟨rfl, b7⟩
    rw [eqL_self]
    have B7 := hidOf' (more B6.out b7)
    have G7 := hidOf' (keys_since G6.out b7)
    have S7 := hidOf' (keys_since S6.out b7)
    have K7 := hidOf' (K6.out.since b7)
    have l0 := cell_since j0 b7
    have l1 := cell_since j1 b7
    have l2 := cell_since j2 b7
    clear b7 B6 G6 S6 K6 j0 j1 j2
    have d0 := cell_since c0 B7.out
    have d1 := cell_since c1 B7.out
    have d2 := cell_since c2 B7.out
    have B7d : Hid (Below w0.heap.size w0 w'.drew) := B7.out.drew
    have K7d := hidOf' (K7.out.since (Below.refl _ _).drew)
    go_wp2
    go_region_held3 (fun W => W.cell? ⟨w.heap.size, 0, none⟩ = some (.int .i64 ep) ∧ W.cell? ⟨w.heap.size, 1, none⟩ = some (.slice a vs.length c) ∧ W.cell? ⟨w.heap.size, 2, none⟩ = some (.slice a' ss.length c') ∧ W.cell? ⟨w4.heap.size, 0, none⟩ = some (.int .i64 ep) ∧ W.cell? ⟨w4.heap.size, 1, none⟩ = some (.slice a4 vs.length c4) ∧ W.cell? ⟨w4.heap.size, 2, none⟩ = some (.slice a5 ss.length c5) ∧ Below w'.heap.size w' W)
      (first | exact ⟨d0, d1, d2, l0, l1, l2, (Below.refl _ _).drew⟩ | assumption | exact later6 ‹_› b9 | exact later6 ‹_› b8)
      (first | (go_at_call 11; refine (toServer_any _ _ _ vs ss _ (hx0.below B7d.out (Nat.le_refl _)) (hy0.below B7d.out (Nat.le_refl _)) hn1 hn2).mono ?_; rintro e w8 ⟨x8, y8, rfl, k8, b8⟩) | (go_at_call 13; refine (eqServer_any _ _ (K7d.out.since b8).1 (K7d.out.since b8).2.1 k8.1 k8.2.1).mono ?_; rintro e w9 ⟨rfl, b9⟩; rw [sameS_self]))
    rename_i hHeld
    have hb := hHeld.2.2.2.2.2.2
    have m0 := hHeld.2.2.2.1
    have m1 := hHeld.2.2.2.2.1
    have m2 := hHeld.2.2.2.2.2.1
    have B9 := hidOf' (more B7.out hb)
    have G9 := hidOf' (keys_since G7.out hb)
    have S9 := hidOf' (keys_since S7.out hb)
    have K9 := hidOf' (K7.out.since hb)
    clear hHeld hb b8 b9 k8 d0 d1 d2 l0 l1 l2 B7 B7d K7 K7d G7 S7
    go_wp2_with fail
    refine (markServer_any ep 1 K9.out (by omega) (by omega)).mono ?_
    rintro e w10 ⟨rfl, _, w9b, g1, g2⟩
    have B9b : Below w0.heap.size w0 w9b := B9.out.grown g1 B9.out.size (fun j e => by have := (AX.out j e).1; omega)
    have B10 := hidOf' (B9b.grown g2 B9b.size (fun j e => by have := (AY.out j e).1; omega))
    have G10 := hidOf' ((G9.out.kept g1 (fun j e e' => by have := (AX.out j e).2; have := AG.out j e'; omega)).kept g2 (fun j e e' => by have := (AY.out j e).2; have := AG.out j e'; omega))
    have S10 := hidOf' ((S9.out.kept g1 (fun j e e' => by have := (AX.out j e).1; have := AS.out j e'; omega)).kept g2 (fun j e e' => by have := (AY.out j e).1; have := AS.out j e'; omega))
    clear B9b B9 G9 S9 K9 g1 g2 m0 m1 m2
    have hge3 : ¬ (1 : Int) + (vs.length : Int) + 2 * (ss.length : Int) < 0 := by omega
    go_wp2_with fail
    refine (eqKeyS_any G10.out S10.out).mono ?_
    rintro e w11 ⟨rfl, b11⟩
    rw [eqL_self]
    have B11 := hidOf' (more B10.out b11)
    have G11 := hidOf' (keys_since G10.out b11)
    have S11 := hidOf' (keys_since S10.out b11)
    clear b11 B10 G10 S10
    go_wp2_with fail
    refine (markKeyS_any 1 G11.out (by omega) (by omega)).mono ?_
    rintro e w12 ⟨rfl, m12, g12⟩
    have B12 := hidOf' (B11.out.grown g12 B11.out.size (fun j e => by have := AG.out j e; have := hs4; omega))
    have S12 := hidOf' (S11.out.kept g12 (fun j e e' => by have := AG.out j e; have := AS.out j e'; omega))
    have M12 := hidOf' m12
    clear m12 g12 B11 G11 S11
    have hge4 : ¬ (1 : Int) + 2 * (ml.length : Int) < 0 := by omega
    go_wp2_with fail
    refine (heldKeyS_any 1 ml.length M12.out (by omega) (by omega)).mono ?_
    rintro e w'' ⟨rfl, hww⟩
    subst w''
    have d0 := cell_since c0 B12.out
    have d1 := cell_since c1 B12.out
    have d2 := cell_since c2 B12.out
    go_wp2_with fail
    refine (toServer_any _ _ _ vs ss _ (hx0.below B12.out (Nat.le_refl _)) (hy0.below B12.out (Nat.le_refl _)) hn1 hn2).mono ?_
    rintro e w13 ⟨x13, y13, rfl, k13, b13⟩
    go_wp2_with fail
    refine (keysFor_any ep m k13.1 k13.2.1).mono ?_
    rw [hML, hFB]
    rintro e w14 ⟨aH, cH, rfl, h14, b14⟩
    generalize hvH : Value.slice aH ml.length cH = vH at *
    have H14 := hidOf' h14
    have B14 := hidOf' (more (more B12.out b13) b14)
    have S14 := hidOf' (keys_since (keys_since S12.out b13) b14)
    have M14 := hidOf' (keys_since (keys_since M12.out b13) b14)
    clear h14 b13 b14 k13 d0 d1 d2 B12 S12 M12
    go_wp2_with fail
    refine (eqKeyS_any H14.out S14.out).mono ?_
    rintro e w15 ⟨rfl, b15⟩
    rw [eqL_self]
    have B15 := hidOf' (more hB0 (more B14.out b15))
    have M15 := hidOf' (keys_since M14.out b15)
    clear b15 B14 S14 M14 H14
    go_wp2_with fail
    refine (heldKeyS_any 1 ml.length M15.out (by omega) (by omega)).mono ?_
    rintro e w'' ⟨rfl, hww⟩
    subst w''
    go_wp2
    go_ret
    exact ⟨rfl, B15.out⟩
  · have hif := szV_no hn
    go_enter Try.func6, Try.ntmps6
    go_wp2_with fail
    generalize w.alloc (lsvb ep (.slice a vs.length c) (.slice a' ss.length c')) = w0 at hB0 c0 c1 c2 hx0 hy0 ⊢
    refine (szServer_any _ _ _ _ _ _ _ _ _ (by omega) (by omega) hm hm').mono ?_
    rintro e w1 ⟨rfl, hw1⟩
    rw [hif]
    have b1 : Below w0.heap.size w0 w1 := by rw [hw1]; exact one_below _ _
    clear hw1
    go_wp2
    go_ret
    exact ⟨rfl, more hB0 b1⟩
end Go.Proofs.Ytplinjepeahahaa
