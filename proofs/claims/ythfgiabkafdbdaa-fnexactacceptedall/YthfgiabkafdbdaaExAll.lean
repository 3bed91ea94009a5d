
/- The walk of the exact law of AcceptedAll: it answers true at every window and numbers, and nothing that lay there turns. -/
import Derived.Test.YthfgiabkafdbdaaWAll2
import Derived.Test.YthfgiabkafdbdaaOwnBL
import Derived.Test.YthfgiabkafdbdaaExWin
namespace Go.Proofs.Ythfgiabkafdbdaa.Wn
open Go.RowKit

theorem eqB_self (xs : List Bool) : eqB xs xs = true := decide_eq_true rfl
theorem eqI_self (xs : List Int) : eqI xs xs = true := decide_eq_true rfl
theorem drewBel {W : World} (q : Nat) : Below W.heap.size W (W.drewN q) := below_drewN (Below.refl _ _) q

set_option maxRecDepth 100000 in
set_option maxHeartbeats 8000000 in
theorem exAll_any (id : Int) (v : Value) (ks : List Int) (u : Value) (l : List Int) (w : World) (h : InInts v ks w) (hu : InInts u l w) :
    Calls Try.prog 7 #[wv id v, u] w fun e w' => e = .returned (.bool true) ∧ Below w.heap.size w w' := by
  obtain ⟨a, c, hv, hm⟩ := h.len
  subst hv
  obtain ⟨al, cl, hul, hml⟩ := hu.len
  subst hul
  have hB0 := one_below w (lwb id (.slice a ks.length c))
  obtain ⟨c0, c1⟩ := lcellW w id (.slice a ks.length c)
  have h0 := h.below hB0 (Nat.le_refl _)
  have l0 := hu.below hB0 (Nat.le_refl _)
  have hLX := endX_len id ks l
  have hLB := endB_len id ks l
  clear h hu
  by_cases hln : (1048576 : Int) < (l.length : Int)
  · go_enter Try.func7, Try.ntmps7
    go_wp2
    go_ret
    exact ⟨rfl, hB0⟩
  have hln' : l.length ≤ 1048576 := by omega
  by_cases hn : ks.length ≤ 1048576
  case neg =>
    have hif : (if (1048576 : Int) - (ks.length : Int) < 0 then (-1 : Int) else 1048576 - (ks.length : Int)) = -1 := if_pos (by omega)
    go_enter Try.func7, Try.ntmps7
    go_wp2_with fail
    generalize w.alloc (lwb id (.slice a ks.length c)) = w0 at hB0 c0 c1 h0 l0 ⊢
    refine (szWindow_any _ _ _ _ _ _ (by omega) (by omega) hm).mono ?_
    rintro e w1 ⟨rfl, hw1⟩
    rw [hif]
    have b1 : Below w0.heap.size w0 w1 := by rw [hw1]; exact one_below _ _
    clear hw1
    go_wp2
    go_ret
    exact ⟨rfl, more hB0 b1⟩
  have hif : (if (1048576 : Int) - (ks.length : Int) < 0 then (-1 : Int) else 1048576 - (ks.length : Int)) = 1048576 - (ks.length : Int) := if_neg (by omega)
  have hge : ¬ (1048576 : Int) - (ks.length : Int) < 0 := by omega
  go_enter Try.func7, Try.ntmps7
  go_wp2_with fail
  generalize w.alloc (lwb id (.slice a ks.length c)) = w0 at hB0 c0 c1 h0 l0 ⊢
  refine (szWindow_any _ _ _ _ _ _ (by omega) (by omega) hm).mono ?_
  rintro e w1 ⟨rfl, hw1⟩
  rw [hif]
  have b1 : Below w0.heap.size w0 w1 := by rw [hw1]; exact one_below _ _
  have B1 := hidOf b1
  have d0 := cell_since c0 b1
  have d1 := cell_since c1 b1
  clear hw1 b1 hif
  go_wp2_with fail
  refine (toWindow_any _ _ ks _ (h0.below B1.out (Nat.le_refl _)) hn).mono ?_
  rintro e w2 ⟨v2, rfl, k2, b2⟩
  have B2 := hidOf (more B1.out b2)
  clear b2 d0 d1 B1
  go_wp2_with fail
  refine (toInt64S_any _ l _ (l0.below B2.out (Nat.le_refl _)) hln').mono ?_
  rintro e w2b ⟨u2, rfl, _, j2, b2⟩
  have K2 := k2.since b2
  have B2b := hidOf (more B2.out b2)
  clear k2 b2 B2
  go_wp2_with fail
  refine (specAcceptedAll_any id K2 j2).mono ?_
  rintro e w3 ⟨aS, cS, aF, cF, rfl, s3, f3, b3⟩
  generalize hL : endX id ks l = L at *
  generalize hT : endT id ks l = T at *
  generalize hF : endB id ks l = F at *
  have S3 := hidOf s3
  have F3 := hidOf f3
  have B3 := hidOf (more B2b.out b3)
  clear b3 K2 j2 s3 f3 B2b
  have hB4 := one_below w3 (wb T (.slice aS L.length cS))
  obtain ⟨p0, p1⟩ := cellW w3 T (.slice aS L.length cS)
  have B4 := hidOf (more B3.out hB4)
  have S4 := hidOf (S3.out.since hB4)
  have F4 := hidOf (F3.out.since hB4)
  have AS : Hid (∀ j, (Value.slice aS L.length cS).ownBlock = some j → w2b.heap.size ≤ j ∧ j < w3.heap.size) := fun j e => S3.out.lt j e
  have AF : Hid (∀ j, (Value.slice aF F.length cF).ownBlock = some j → w2b.heap.size ≤ j ∧ j < w3.heap.size) := fun j e => F3.out.lt j e
  have d0 := cell_since c0 B4.out
  have d1 := cell_since c1 B4.out
  have hs4 : (w3.alloc (wb T (.slice aS L.length cS))).heap.size = w3.heap.size + 1 := by simp
  have hs03 := B4.out.size
  clear S3 F3 B3 hB4
  go_wp2_with fail
  generalize w3.alloc (wb T (.slice aS L.length cS)) = w3' at *
  refine (toWindow_any _ _ ks _ (h0.below B4.out (Nat.le_refl _)) hn).mono ?_
  rintro e w4 ⟨v4, rfl, k4, b4⟩
  obtain ⟨a4, c4, hv4, _, _⟩ := k4.row
  subst hv4
  have hB5 := one_below w4 (wb id (.slice a4 ks.length c4))
  obtain ⟨x0, x1⟩ := cellW w4 id (.slice a4 ks.length c4)
  have B5 := hidOf (more (more B4.out b4) hB5)
  have K5 := hidOf (k4.since hB5)
  have S5 := hidOf ((S4.out.since b4).since hB5)
  have F5 := hidOf ((F4.out.since b4).since hB5)
  have AX : Hid (∀ j, (Value.slice a4 ks.length c4).ownBlock = some j → w3'.heap.size ≤ j ∧ j < w4.heap.size) := fun j e => k4.lt j e
  have q0 := cell_since (cell_since p0 b4) hB5
  have q1 := cell_since (cell_since p1 b4) hB5
  have hs34 := b4.size
  have hs5 : (w4.alloc (wb id (.slice a4 ks.length c4))).heap.size = w4.heap.size + 1 := by simp
  clear d0 d1 b4 k4 hB5 B4 S4 F4 p0 p1
  go_wp2_with fail
  generalize w4.alloc (wb id (.slice a4 ks.length c4)) = w5 at *
  refine (toInt64S_any _ l _ (l0.below B5.out (Nat.le_refl _)) hln').mono ?_
  rintro e w5b ⟨u5, rfl, _, j5, b5⟩
  obtain ⟨a5, c5, hu5, _, _⟩ := j5.row
  subst hu5
  have B5b := hidOf (more B5.out b5)
  have K5b := hidOf (K5.out.since b5)
  have S5b := hidOf (S5.out.since b5)
  have F5b := hidOf (F5.out.since b5)
  have U5b := hidOf j5
  have AU : Hid (∀ j, (Value.slice a5 l.length c5).ownBlock = some j → w5.heap.size ≤ j ∧ j < w5b.heap.size) := fun j e => j5.lt j e
  have q0 := cell_since q0 b5
  have q1 := cell_since q1 b5
  have x0 := cell_since x0 b5
  have x1 := cell_since x1 b5
  have hs5b := b5.size
  clear b5 j5 B5 K5 S5 F5
  go_wp2_with fail
  refine (acceptedAll_any id K5b.out U5b.out).mono ?_
  rw [hL, hT, hF]
  rintro e w6 ⟨aG, cG, aH, cH, rfl, g6, f6, dj, b6⟩
  have hB7 := one_below w6 (wb T (.slice aG L.length cG))
  obtain ⟨y0, y1⟩ := cellW w6 T (.slice aG L.length cG)
  have AG : Hid (∀ j, (Value.slice aG L.length cG).ownBlock = some j → w5b.heap.size ≤ j ∧ j < w6.heap.size) := fun j e => g6.lt j e
  have AH : Hid (∀ j, (Value.slice aH F.length cH).ownBlock = some j → w5b.heap.size ≤ j ∧ j < w6.heap.size) := fun j e => f6.lt j e
  have HDj := hidOf dj
  have B7 := hidOf (more (more B5b.out b6) hB7)
  have K7 := hidOf ((K5b.out.since b6).since hB7)
  have U7 := hidOf ((U5b.out.since b6).since hB7)
  have S7 := hidOf ((S5b.out.since b6).since hB7)
  have F7 := hidOf ((F5b.out.since b6).since hB7)
  have G7 := hidOf (g6.since hB7)
  have H7 := hidOf (f6.since hB7)
  have r0 := cell_since (cell_since q0 b6) hB7
  have r1 := cell_since (cell_since q1 b6) hB7
  have z0 := cell_since (cell_since x0 b6) hB7
  have z1 := cell_since (cell_since x1 b6) hB7
  have hs56 := b6.size
  have hs7 : (w6.alloc (wb T (.slice aG L.length cG))).heap.size = w6.heap.size + 1 := by simp
  clear g6 f6 dj b6 hB7 K5b U5b S5b F5b B5b q0 q1 x0 x1
  go_wp2_with fail
  generalize w6.alloc (wb T (.slice aG L.length cG)) = w7 at *
  refine (eqWindow_any _ _ G7.out S7.out).mono ?_
  rintro e w8 ⟨rfl, b8⟩
  rw [sameW_self]
  have B8 := hidOf (more B7.out b8)
  have K8 := hidOf (K7.out.since b8)
  have U8 := hidOf (U7.out.since b8)
  have S8 := hidOf (S7.out.since b8)
  have F8 := hidOf (F7.out.since b8)
  have G8 := hidOf (G7.out.since b8)
  have H8 := hidOf (H7.out.since b8)
  have r0 := cell_since r0 b8
  have r1 := cell_since r1 b8
  have z0 := cell_since z0 b8
  have z1 := cell_since z1 b8
  have y0 := cell_since y0 b8
  have y1 := cell_since y1 b8
  clear b8 B7 K7 U7 S7 F7 G7 H7
  go_wp2_with fail
  refine (eqBoolS_any H8.out F8.out).mono ?_
  rintro e w9 ⟨rfl, q9, hww⟩
  rw [eqB_self]
  have b9 : Below w8.heap.size w8 w9 := by rw [hww]; exact drewBel q9
  clear hww
  have B9 := hidOf (more B8.out b9)
  have K9 := hidOf (K8.out.since b9)
  have U9 := hidOf (U8.out.since b9)
  have S9 := hidOf (S8.out.since b9)
  have F9 := hidOf (F8.out.since b9)
  have G9 := hidOf (G8.out.since b9)
  have H9 := hidOf (H8.out.since b9)
  have r0 := cell_since r0 b9
  have r1 := cell_since r1 b9
  have z0 := cell_since z0 b9
  have z1 := cell_since z1 b9
  have y0 := cell_since y0 b9
  have y1 := cell_since y1 b9
  clear b9 B8 K8 U8 S8 F8 G8 H8
  have d0 := cell_since c0 B9.out
  have d1 := cell_since c1 B9.out
  have B9d : Hid (Below w0.heap.size w0 w9.drew) := B9.out.drew
  have K9d := hidOf (K9.out.since (Below.refl _ _).drew)
  go_wp2
  go_region_held3 (fun W => W.cell? ⟨w.heap.size, 0, none⟩ = some (.int .i64 id) ∧ W.cell? ⟨w.heap.size, 1, none⟩ = some (.slice a ks.length c) ∧ W.cell? ⟨w4.heap.size, 0, none⟩ = some (.int .i64 id) ∧ W.cell? ⟨w4.heap.size, 1, none⟩ = some (.slice a4 ks.length c4) ∧ Below w9.heap.size w9 W)
    (first | exact ⟨d0, d1, z0, z1, (Below.refl _ _).drew⟩ | assumption | exact later4 ‹_› b11 | exact later4 ‹_› b10)
    (first | (go_at_call 21; refine (toWindow_any _ _ ks _ (h0.below B9d.out (Nat.le_refl _)) hn).mono ?_; rintro e w10 ⟨v10, rfl, k10, b10⟩) | (go_at_call 22; refine (eqWindow_any _ _ (K9d.out.since b10) k10).mono ?_; rintro e w11 ⟨rfl, b11⟩; rw [sameW_self]))
  rename_i hHeld
  have bz := hHeld.2.2.2.2
  clear hHeld b10 b11 k10 d0 d1 B9d K9d
  have B11 := hidOf (more B9.out bz)
  have K11 := hidOf (K9.out.since bz)
  have U11 := hidOf (U9.out.since bz)
  have S11 := hidOf (S9.out.since bz)
  have F11 := hidOf (F9.out.since bz)
  have G11 := hidOf (G9.out.since bz)
  have H11 := hidOf (H9.out.since bz)
  have r0 := cell_since r0 bz
  have r1 := cell_since r1 bz
  have z0 := cell_since z0 bz
  have z1 := cell_since z1 bz
  have y0 := cell_since y0 bz
  have y1 := cell_since y1 bz
  clear bz B9 K9 U9 S9 F9 G9 H9
  go_wp2_with fail
  refine (toInt64S_any _ l _ (l0.below B11.out (Nat.le_refl _)) hln').mono ?_
  rintro e w12 ⟨u12, rfl, _, j12, b12⟩
  have V12 := hidOf j12
  clear j12
  have B12 := hidOf (more B11.out b12)
  have K12 := hidOf (K11.out.since b12)
  have U12 := hidOf (U11.out.since b12)
  have S12 := hidOf (S11.out.since b12)
  have F12 := hidOf (F11.out.since b12)
  have G12 := hidOf (G11.out.since b12)
  have H12 := hidOf (H11.out.since b12)
  have r0 := cell_since r0 b12
  have r1 := cell_since r1 b12
  have z0 := cell_since z0 b12
  have z1 := cell_since z1 b12
  have y0 := cell_since y0 b12
  have y1 := cell_since y1 b12
  clear b12 B11 K11 U11 S11 F11 G11 H11
  go_wp2_with fail
  refine (eqInt64S_any U12.out V12.out).mono ?_
  rintro e w13 ⟨rfl, q13, hww⟩
  rw [eqI_self]
  have b13 : Below w12.heap.size w12 w13 := by rw [hww]; exact drewBel q13
  clear hww V12
  have B13 := hidOf (more B12.out b13)
  have K13 := hidOf (K12.out.since b13)
  have U13 := hidOf (U12.out.since b13)
  have S13 := hidOf (S12.out.since b13)
  have F13 := hidOf (F12.out.since b13)
  have G13 := hidOf (G12.out.since b13)
  have H13 := hidOf (H12.out.since b13)
  have r0 := cell_since r0 b13
  have r1 := cell_since r1 b13
  have z0 := cell_since z0 b13
  have z1 := cell_since z1 b13
  have y0 := cell_since y0 b13
  have y1 := cell_since y1 b13
  clear b13 B12 K12 U12 S12 F12 G12 H12
  have hge3 : ¬ (1 : Int) + (ks.length : Int) + (l.length : Int) < 0 := by omega
  go_wp2_with fail
  refine (markWindow_any id 1 K13.out (by omega) (by omega)).mono ?_
  rintro e w14 ⟨rfl, _, g14⟩
  have B14 := hidOf (B13.out.grown g14 B13.out.size (fun j e => by have := (AX.out j e).1; omega))
  have U14 := hidOf (U13.out.kept g14 (fun j e e' => by have := (AX.out j e).2; have := (AU.out j e').1; omega))
  have S14 := hidOf (S13.out.kept g14 (fun j e e' => by have := (AX.out j e).1; have := (AS.out j e').2; omega))
  have F14 := hidOf (F13.out.kept g14 (fun j e e' => by have := (AX.out j e).1; have := (AF.out j e').2; omega))
  have G14 := hidOf (G13.out.kept g14 (fun j e e' => by have := (AX.out j e).2; have := (AG.out j e').1; omega))
  have H14 := hidOf (H13.out.kept g14 (fun j e e' => by have := (AX.out j e).2; have := (AH.out j e').1; omega))
  have r0 := g14.cell r0 (fun e => by have := AX.out _ e.symm; dsimp only at this; omega)
  have r1 := g14.cell r1 (fun e => by have := AX.out _ e.symm; dsimp only at this; omega)
  have y0 := g14.cell y0 (fun e => by have := AX.out _ e.symm; dsimp only at this; omega)
  have y1 := g14.cell y1 (fun e => by have := AX.out _ e.symm; dsimp only at this; omega)
  clear g14 B13 K13 U13 S13 F13 G13 H13 z0 z1
  go_wp2_with fail
  refine (markInt64S_any _ U14.out (by omega) (by omega)).mono ?_
  rintro e w15 ⟨rfl, _, g15⟩
  have B15 := hidOf (B14.out.grown g15 B14.out.size (fun j e => by have := (AU.out j e).1; omega))
  have S15 := hidOf (S14.out.kept g15 (fun j e e' => by have := (AU.out j e).1; have := (AS.out j e').2; omega))
  have F15 := hidOf (F14.out.kept g15 (fun j e e' => by have := (AU.out j e).1; have := (AF.out j e').2; omega))
  have G15 := hidOf (G14.out.kept g15 (fun j e e' => by have := (AU.out j e).2; have := (AG.out j e').1; omega))
  have H15 := hidOf (H14.out.kept g15 (fun j e e' => by have := (AU.out j e).2; have := (AH.out j e').1; omega))
  have r0 := g15.cell r0 (fun e => by have := AU.out _ e.symm; dsimp only at this; omega)
  have r1 := g15.cell r1 (fun e => by have := AU.out _ e.symm; dsimp only at this; omega)
  have y0 := g15.cell y0 (fun e => by have := AU.out _ e.symm; dsimp only at this; omega)
  have y1 := g15.cell y1 (fun e => by have := AU.out _ e.symm; dsimp only at this; omega)
  clear g15 B14 U14 S14 F14 G14 H14
  go_wp2_with fail
  refine (eqWindow_any _ _ G15.out S15.out).mono ?_
  rintro e w16 ⟨rfl, b16⟩
  rw [sameW_self]
  have B16 := hidOf (more B15.out b16)
  have S16 := hidOf (S15.out.since b16)
  have F16 := hidOf (F15.out.since b16)
  have G16 := hidOf (G15.out.since b16)
  have H16 := hidOf (H15.out.since b16)
  have r0 := cell_since r0 b16
  have r1 := cell_since r1 b16
  have y0 := cell_since y0 b16
  have y1 := cell_since y1 b16
  clear b16 B15 S15 F15 G15 H15
  go_wp2_with fail
  refine (eqBoolS_any H16.out F16.out).mono ?_
  rintro e w17 ⟨rfl, q17, hww⟩
  rw [eqB_self]
  have b17 : Below w16.heap.size w16 w17 := by rw [hww]; exact drewBel q17
  clear hww
  have B17 := hidOf (more B16.out b17)
  have S17 := hidOf (S16.out.since b17)
  have F17 := hidOf (F16.out.since b17)
  have G17 := hidOf (G16.out.since b17)
  have H17 := hidOf (H16.out.since b17)
  have r0 := cell_since r0 b17
  have r1 := cell_since r1 b17
  have y0 := cell_since y0 b17
  have y1 := cell_since y1 b17
  clear b17 B16 S16 F16 G16 H16
  have hge4 : ¬ (1 : Int) + (L.length : Int) < 0 := by omega
  have hge5 : ¬ (1 : Int) + (L.length : Int) + (F.length : Int) < 0 := by omega
  go_wp2_with fail
  refine (markWindow_any T 1 G17.out (by omega) (by omega)).mono ?_
  rintro e w18 ⟨rfl, m18, g18⟩
  have B18 := hidOf (B17.out.grown g18 B17.out.size (fun j e => by have := (AG.out j e).1; omega))
  have S18 := hidOf (S17.out.kept g18 (fun j e e' => by have := (AG.out j e).1; have := (AS.out j e').2; omega))
  have F18 := hidOf (F17.out.kept g18 (fun j e e' => by have := (AG.out j e).1; have := (AF.out j e').2; omega))
  have H18 := hidOf (H17.out.kept g18 (fun j e e' => HDj.out j e e'))
  have M18 := hidOf m18
  have r0 := g18.cell r0 (fun e => by have := AG.out _ e.symm; dsimp only at this; omega)
  have r1 := g18.cell r1 (fun e => by have := AG.out _ e.symm; dsimp only at this; omega)
  have y0 := g18.cell y0 (fun e => by have := AG.out _ e.symm; dsimp only at this; omega)
  have y1 := g18.cell y1 (fun e => by have := AG.out _ e.symm; dsimp only at this; omega)
  clear g18 m18 B17 S17 F17 G17 H17
  go_wp2_with fail
  refine (markBoolS_any _ H18.out (by omega) (by omega)).mono ?_
  rintro e w19 ⟨rfl, n19, g19⟩
  have B19 := hidOf (B18.out.grown g19 B18.out.size (fun j e => by have := (AH.out j e).1; omega))
  have S19 := hidOf (S18.out.kept g19 (fun j e e' => by have := (AH.out j e).1; have := (AS.out j e').2; omega))
  have F19 := hidOf (F18.out.kept g19 (fun j e e' => by have := (AH.out j e).1; have := (AF.out j e').2; omega))
  have M19 := hidOf (M18.out.kept g19 (fun j e e' => HDj.out j e' e))
  have N19 := hidOf n19
  have r0 := g19.cell r0 (fun e => by have := AH.out _ e.symm; dsimp only at this; omega)
  have r1 := g19.cell r1 (fun e => by have := AH.out _ e.symm; dsimp only at this; omega)
  have y0 := g19.cell y0 (fun e => by have := AH.out _ e.symm; dsimp only at this; omega)
  have y1 := g19.cell y1 (fun e => by have := AH.out _ e.symm; dsimp only at this; omega)
  clear g19 n19 B18 S18 F18 M18 H18
  go_wp2_with fail
  refine (heldWindow_any T 1 L.length M19.out (by omega) (by omega)).mono ?_
  rintro e w20 ⟨rfl, b20⟩
  have B20 := hidOf (more B19.out b20)
  have S20 := hidOf (S19.out.since b20)
  have F20 := hidOf (F19.out.since b20)
  have M20 := hidOf (M19.out.since b20)
  have N20 := hidOf (N19.out.since b20)
  have r0 := cell_since r0 b20
  have r1 := cell_since r1 b20
  have y0 := cell_since y0 b20
  have y1 := cell_since y1 b20
  clear b20 B19 S19 F19 M19 N19
  go_wp2_with fail
  refine (heldBoolS_any _ F.length N20.out (by omega) (by omega)).mono ?_
  rintro e w21 ⟨rfl, hww⟩
  subst hww
  have d0 := cell_since c0 B20.out
  have d1 := cell_since c1 B20.out
  go_wp2_with fail
  refine (toWindow_any _ _ ks _ (h0.below B20.out (Nat.le_refl _)) hn).mono ?_
  rintro e w22 ⟨v22, rfl, k22, b22⟩
  have K22 := k22
  clear k22 d0 d1
  have B22 := hidOf (more B20.out b22)
  have S22 := hidOf (S20.out.since b22)
  have F22 := hidOf (F20.out.since b22)
  have M22 := hidOf (M20.out.since b22)
  have N22 := hidOf (N20.out.since b22)
  have r0 := cell_since r0 b22
  have r1 := cell_since r1 b22
  have y0 := cell_since y0 b22
  have y1 := cell_since y1 b22
  clear b22 B20 S20 F20 M20 N20
  go_wp2_with fail
  refine (toInt64S_any _ l _ (l0.below B22.out (Nat.le_refl _)) hln').mono ?_
  rintro e w23 ⟨u23, rfl, _, j23, b23⟩
  have K23 := K22.since b23
  have J23 := j23
  clear K22 j23
  have B23 := hidOf (more B22.out b23)
  have S23 := hidOf (S22.out.since b23)
  have F23 := hidOf (F22.out.since b23)
  have M23 := hidOf (M22.out.since b23)
  have N23 := hidOf (N22.out.since b23)
  have r0 := cell_since r0 b23
  have r1 := cell_since r1 b23
  have y0 := cell_since y0 b23
  have y1 := cell_since y1 b23
  clear b23 B22 S22 F22 M22 N22
  go_wp2_with fail
  refine (acceptedAll_any id K23 J23).mono ?_
  rw [hL, hT, hF]
  rintro e w24 ⟨aI, cI, aJ, cJ, rfl, g24, f24, _, b24⟩
  have hB25 := one_below w24 (wb T (.slice aI L.length cI))
  obtain ⟨u0, u1⟩ := cellW w24 T (.slice aI L.length cI)
  have P24 := g24.since hB25
  have Q24 := f24.since hB25
  clear g24 f24 K23 J23
  have B24 := hidOf (more B23.out b24)
  have S24 := hidOf (S23.out.since b24)
  have F24 := hidOf (F23.out.since b24)
  have M24 := hidOf (M23.out.since b24)
  have N24 := hidOf (N23.out.since b24)
  have r0 := cell_since r0 b24
  have r1 := cell_since r1 b24
  have y0 := cell_since y0 b24
  have y1 := cell_since y1 b24
  clear b24 B23 S23 F23 M23 N23
  have B25 := hidOf (more B24.out hB25)
  have S25 := hidOf (S24.out.since hB25)
  have F25 := hidOf (F24.out.since hB25)
  have M25 := hidOf (M24.out.since hB25)
  have N25 := hidOf (N24.out.since hB25)
  have r0 := cell_since r0 hB25
  have r1 := cell_since r1 hB25
  have y0 := cell_since y0 hB25
  have y1 := cell_since y1 hB25
  clear hB25 B24 S24 F24 M24 N24
  go_wp2_with fail
  generalize w24.alloc (wb T (.slice aI L.length cI)) = w25 at *
  refine (eqWindow_any _ _ P24 S25.out).mono ?_
  rintro e w26 ⟨rfl, b26⟩
  rw [sameW_self]
  have Q26 := Q24.since b26
  clear P24 Q24 u0 u1
  have B26 := hidOf (more B25.out b26)
  have S26 := hidOf (S25.out.since b26)
  have F26 := hidOf (F25.out.since b26)
  have M26 := hidOf (M25.out.since b26)
  have N26 := hidOf (N25.out.since b26)
  have r0 := cell_since r0 b26
  have r1 := cell_since r1 b26
  have y0 := cell_since y0 b26
  have y1 := cell_since y1 b26
  clear b26 B25 S25 F25 M25 N25
  go_wp2_with fail
  refine (eqBoolS_any Q26 F26.out).mono ?_
  rintro e w27 ⟨rfl, q27, hww⟩
  rw [eqB_self]
  have b27 : Below w26.heap.size w26 w27 := by rw [hww]; exact drewBel q27
  clear hww Q26
  have B27 := hidOf (more B26.out b27)
  have S27 := hidOf (S26.out.since b27)
  have F27 := hidOf (F26.out.since b27)
  have M27 := hidOf (M26.out.since b27)
  have N27 := hidOf (N26.out.since b27)
  have r0 := cell_since r0 b27
  have r1 := cell_since r1 b27
  have y0 := cell_since y0 b27
  have y1 := cell_since y1 b27
  clear b27 B26 S26 F26 M26 N26
  go_wp2_with fail
  refine (heldWindow_any T 1 L.length M27.out (by omega) (by omega)).mono ?_
  rintro e w28 ⟨rfl, b28⟩
  have B28 := hidOf (more B27.out b28)
  have S28 := hidOf (S27.out.since b28)
  have F28 := hidOf (F27.out.since b28)
  have M28 := hidOf (M27.out.since b28)
  have N28 := hidOf (N27.out.since b28)
  have r0 := cell_since r0 b28
  have r1 := cell_since r1 b28
  have y0 := cell_since y0 b28
  have y1 := cell_since y1 b28
  clear b28 B27 S27 F27 M27 N27
  go_wp2_with fail
  refine (heldBoolS_any _ F.length N28.out (by omega) (by omega)).mono ?_
  rintro e w29 ⟨rfl, hww⟩
  subst hww
  have BF := hidOf (more hB0 B28.out)
  clear B28 S28 F28 M28 N28 r0 r1 y0 y1
  go_wp2
  go_ret
  exact ⟨rfl, BF.out⟩
end Go.Proofs.Ythfgiabkafdbdaa.Wn
