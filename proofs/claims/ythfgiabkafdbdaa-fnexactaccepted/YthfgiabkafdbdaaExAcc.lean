
/- The walk of the exact law of Accepted: it answers true at every window and number, and nothing that lay there turns. -/
import Derived.Test.YthfgiabkafdbdaaWin10
import Derived.Test.YthfgiabkafdbdaaExWin
namespace Go.Proofs.Ythfgiabkafdbdaa.Wn
open Go.RowKit

theorem ansX_len (top : Int) (xs : List Int) (n : Int) : (ansX top xs n).length ≤ 32 := by
  unfold ansX
  by_cases h : windowB top xs = true
  · rw [if_pos h]
    exact ((windowB_ok h).acc (n := n)).len
  · rw [if_neg h]; simp

set_option maxRecDepth 100000 in
set_option maxHeartbeats 4000000 in
theorem exAccepted_any (id : Int) (v : Value) (ks : List Int) (n : Int) (w : World) (h : InInts v ks w) :
    Calls Try.prog 6 #[wv id v, .int .i64 n] w fun e w' => e = .returned (.bool true) ∧ Below w.heap.size w w' := by
  obtain ⟨a, c, hv, hm⟩ := h.len
  subst hv
  have hB0 := one_below w (lwb id (.slice a ks.length c))
  obtain ⟨c0, c1⟩ := lcellW w id (.slice a ks.length c)
  have h0 := h.below hB0 (Nat.le_refl _)
  have hLL := ansX_len id ks n
  clear h
  by_cases hn : ks.length ≤ 1048576
  · have hif : (if (1048576 : Int) - (ks.length : Int) < 0 then (-1 : Int) else 1048576 - (ks.length : Int)) = 1048576 - (ks.length : Int) := if_neg (by omega)
    have hge : ¬ (1048576 : Int) - (ks.length : Int) < 0 := by omega
    go_enter Try.func6, Try.ntmps6
    go_wp2_with fail
    generalize w.alloc (lwb id (.slice a ks.length c)) = w0 at hB0 c0 c1 h0 ⊢
    refine (szWindow_any _ _ _ _ _ _ (by omega) (by omega) hm).mono ?_
    rintro e w1 ⟨rfl, hw1⟩
    rw [hif]
    have b1 : Below w0.heap.size w0 w1 := by rw [hw1]; exact one_below _ _
    have B1 := hidOf b1
    have d0 := cell_since c0 b1
    have d1 := cell_since c1 b1
    clear hw1 b1 hif
    go_wp2_with fail
    refine (toWindow_any _ _ ks _ (h0.below B1.out (Nat.le_refl _)) hn).mono ?_
    rintro e w2 ⟨v2, rfl, k2, b2⟩
    go_wp2_with fail
    refine (specAccepted_any id n k2).mono ?_
    rintro e w3 ⟨vS, rfl, s3, b3⟩
    generalize hL : ansX id ks n = L at *
    generalize hT : ansT id ks n = T at *
    generalize hF : ansB id ks n = f at *
    obtain ⟨aS, cS, hvS, _, _⟩ := s3.row
    have S3 := hidOf s3
    have B3 := hidOf (more (more B1.out b2) b3)
    clear d0 d1 b2 b3 k2 B1 s3
    subst hvS
    have hB4 := one_below w3 (wb T (.slice aS L.length cS))
    obtain ⟨p0, p1⟩ := cellW w3 T (.slice aS L.length cS)
    have B4 := hidOf (more B3.out hB4)
    have S4 := hidOf (S3.out.since hB4)
    have AS : Hid (∀ j, (Value.slice aS L.length cS).ownBlock = some j → w2.heap.size ≤ j ∧ j < w3.heap.size) := fun j e => S3.out.lt j e
    have d0 := cell_since c0 B4.out
    have d1 := cell_since c1 B4.out
    have hs4 : (w3.alloc (wb T (.slice aS L.length cS))).heap.size = w3.heap.size + 1 := by simp
    have hs03 := B4.out.size
    clear S3 B3 hB4
    go_wp2_with fail
    generalize w3.alloc (wb T (.slice aS L.length cS)) = w3' at *
    refine (toWindow_any _ _ ks _ (h0.below B4.out (Nat.le_refl _)) hn).mono ?_
    rintro e w4 ⟨v4, rfl, k4, b4⟩
    obtain ⟨a4, c4, hv4, _, _⟩ := k4.row
    subst hv4
    have hB5 := one_below w4 (wb id (.slice a4 ks.length c4))
    obtain ⟨x0, x1⟩ := cellW w4 id (.slice a4 ks.length c4)
    have B5 := hidOf (more (more B4.out b4) hB5)
    have K5 := hidOf (k4.since hB5)
    have S5 := hidOf ((S4.out.since b4).since hB5)
    have AX : Hid (∀ j, (Value.slice a4 ks.length c4).ownBlock = some j → w3'.heap.size ≤ j ∧ j < w4.heap.size) := fun j e => k4.lt j e
    have q0 := cell_since (cell_since p0 b4) hB5
    have q1 := cell_since (cell_since p1 b4) hB5
    have hs34 := b4.size
    have hs5 : (w4.alloc (wb id (.slice a4 ks.length c4))).heap.size = w4.heap.size + 1 := by simp
    clear d0 d1 b4 k4 hB5 B4 S4 p0 p1
    go_wp2_with fail
    generalize w4.alloc (wb id (.slice a4 ks.length c4)) = w5 at *
    refine (accepted_any id n K5.out).mono ?_
    rw [hL, hT, hF]
    rintro e w6 ⟨vG, rfl, g6, b6⟩
    obtain ⟨aG, cG, hvG, _, _⟩ := g6.row
    subst hvG
    have hB7 := one_below w6 (wb T (.slice aG L.length cG))
    obtain ⟨y0, y1⟩ := cellW w6 T (.slice aG L.length cG)
    have AG : Hid (∀ j, (Value.slice aG L.length cG).ownBlock = some j → w5.heap.size ≤ j ∧ j < w6.heap.size) := fun j e => g6.lt j e
    have B7 := hidOf (more (more B5.out b6) hB7)
    have K7 := hidOf ((K5.out.since b6).since hB7)
    have S7 := hidOf ((S5.out.since b6).since hB7)
    have G7 := hidOf (g6.since hB7)
    have r0 := cell_since (cell_since q0 b6) hB7
    have r1 := cell_since (cell_since q1 b6) hB7
    have z0 := cell_since (cell_since x0 b6) hB7
    have z1 := cell_since (cell_since x1 b6) hB7
    have hs56 := b6.size
    have hs7 : (w6.alloc (wb T (.slice aG L.length cG))).heap.size = w6.heap.size + 1 := by simp
    clear g6 b6 hB7 K5 S5 B5 q0 q1 x0 x1
    go_wp2_with fail
    generalize w6.alloc (wb T (.slice aG L.length cG)) = w7 at *
    refine (eqWindow_any _ _ G7.out S7.out).mono ?_
    rintro e w8 ⟨rfl, b8⟩
    rw [sameW_self]
    have B8 := hidOf (more B7.out b8)
    have K8 := hidOf (K7.out.since b8)
    have S8 := hidOf (S7.out.since b8)
    have G8 := hidOf (G7.out.since b8)
    have r0 := cell_since r0 b8
    have r1 := cell_since r1 b8
    have z0 := cell_since z0 b8
    have z1 := cell_since z1 b8
    have y0 := cell_since y0 b8
    have y1 := cell_since y1 b8
    have d0 := cell_since c0 B8.out
    have d1 := cell_since c1 B8.out
    have hs8 := b8.size
    clear b8 B7 K7 S7 G7
    have B8d : Hid (Below w0.heap.size w0 w8.drew) := B8.out.drew
    have K8d := hidOf (K8.out.since (Below.refl _ _).drew)
    go_wp2
    go_region_held3 (fun W => W.cell? ⟨w.heap.size, 0, none⟩ = some (.int .i64 id) ∧ W.cell? ⟨w.heap.size, 1, none⟩ = some (.slice a ks.length c) ∧ W.cell? ⟨w4.heap.size, 0, none⟩ = some (.int .i64 id) ∧ W.cell? ⟨w4.heap.size, 1, none⟩ = some (.slice a4 ks.length c4) ∧ Below w8.heap.size w8 W)
      (first | exact ⟨d0, d1, z0, z1, (Below.refl _ _).drew⟩ | assumption | exact later4 ‹_› b10 | exact later4 ‹_› b9)
      (first | (go_at_call 21; refine (toWindow_any _ _ ks _ (h0.below B8d.out (Nat.le_refl _)) hn).mono ?_; rintro e w9 ⟨v9, rfl, k9, b9⟩) | (go_at_call 22; refine (eqWindow_any _ _ (K8d.out.since b9) k9).mono ?_; rintro e w10 ⟨rfl, b10⟩; rw [sameW_self]))
    rename_i hHeld
    have hb := hHeld.2.2.2.2
    have z0 := hHeld.2.2.1
    have z1 := hHeld.2.2.2.1
    have B10 := hidOf (more B8.out hb)
    have K10 := hidOf (K8.out.since hb)
    have S10 := hidOf (S8.out.since hb)
    have G10 := hidOf (G8.out.since hb)
    have r0 := cell_since r0 hb
    have r1 := cell_since r1 hb
    have y0 := cell_since y0 hb
    have y1 := cell_since y1 hb
    clear hHeld hb b9 b10 k9 d0 d1 B8 B8d K8 K8d S8 G8
    have hge3 : ¬ (1 : Int) + (ks.length : Int) < 0 := by omega
    go_wp2_with fail
    refine (markWindow_any id 1 K10.out (by omega) (by omega)).mono ?_
    rintro e w11 ⟨rfl, _, g11⟩
    have B11 := hidOf (B10.out.grown g11 B10.out.size (fun j e => by have := (AX.out j e).1; omega))
    have S11 := hidOf (S10.out.kept g11 (fun j e e' => by have := (AX.out j e).1; have := (AS.out j e').2; omega))
    have G11 := hidOf (G10.out.kept g11 (fun j e e' => by have := (AX.out j e).2; have := (AG.out j e').1; omega))
    have r0 := g11.cell r0 (fun e => by have := AX.out _ e.symm; dsimp only at this; omega)
    have r1 := g11.cell r1 (fun e => by have := AX.out _ e.symm; dsimp only at this; omega)
    have y0 := g11.cell y0 (fun e => by have := AX.out _ e.symm; dsimp only at this; omega)
    have y1 := g11.cell y1 (fun e => by have := AX.out _ e.symm; dsimp only at this; omega)
    clear g11 B10 K10 S10 G10 z0 z1
    go_wp2_with fail
    refine (eqWindow_any _ _ G11.out S11.out).mono ?_
    rintro e w12 ⟨rfl, b12⟩
    rw [sameW_self]
    have B12 := hidOf (more B11.out b12)
    have S12 := hidOf (S11.out.since b12)
    have G12 := hidOf (G11.out.since b12)
    have r0 := cell_since r0 b12
    have r1 := cell_since r1 b12
    have y0 := cell_since y0 b12
    have y1 := cell_since y1 b12
    clear b12 B11 S11 G11
    have hge4 : ¬ (1 : Int) + (L.length : Int) < 0 := by omega
    go_wp2_with fail
    refine (markWindow_any T 1 G12.out (by omega) (by omega)).mono ?_
    rintro e w13 ⟨rfl, m13, g13⟩
    have B13 := hidOf (B12.out.grown g13 B12.out.size (fun j e => by have := (AG.out j e).1; omega))
    have S13 := hidOf (S12.out.kept g13 (fun j e e' => by have := (AG.out j e).1; have := (AS.out j e').2; omega))
    have M13 := hidOf m13
    have r0 := g13.cell r0 (fun e => by have := AG.out _ e.symm; dsimp only at this; omega)
    have r1 := g13.cell r1 (fun e => by have := AG.out _ e.symm; dsimp only at this; omega)
    have y0 := g13.cell y0 (fun e => by have := AG.out _ e.symm; dsimp only at this; omega)
    have y1 := g13.cell y1 (fun e => by have := AG.out _ e.symm; dsimp only at this; omega)
    clear g13 m13 B12 S12 G12
    go_wp2_with fail
    refine (heldWindow_any T 1 L.length M13.out (by omega) (by omega)).mono ?_
    rintro e w14 ⟨rfl, b14⟩
    have B14 := hidOf (more B13.out b14)
    have S14 := hidOf (S13.out.since b14)
    have M14 := hidOf (M13.out.since b14)
    have r0 := cell_since r0 b14
    have r1 := cell_since r1 b14
    have y0 := cell_since y0 b14
    have y1 := cell_since y1 b14
    clear b14 B13 S13 M13
    have d0 := cell_since c0 B14.out
    have d1 := cell_since c1 B14.out
    go_wp2_with fail
    refine (toWindow_any _ _ ks _ (h0.below B14.out (Nat.le_refl _)) hn).mono ?_
    rintro e w15 ⟨v15, rfl, k15, b15⟩
    go_wp2_with fail
    refine (accepted_any id n k15).mono ?_
    rw [hL, hT, hF]
    rintro e w16 ⟨vH, rfl, g16, b16⟩
    obtain ⟨aH, cH, hvH, _, _⟩ := g16.row
    subst hvH
    have hB17 := one_below w16 (wb T (.slice aH L.length cH))
    obtain ⟨u0, u1⟩ := cellW w16 T (.slice aH L.length cH)
    have B17 := hidOf (more (more (more B14.out b15) b16) hB17)
    have S17 := hidOf (((S14.out.since b15).since b16).since hB17)
    have M17 := hidOf (((M14.out.since b15).since b16).since hB17)
    have H17 := hidOf (g16.since hB17)
    have r0 := cell_since (cell_since (cell_since r0 b15) b16) hB17
    have r1 := cell_since (cell_since (cell_since r1 b15) b16) hB17
    have y0 := cell_since (cell_since (cell_since y0 b15) b16) hB17
    have y1 := cell_since (cell_since (cell_since y1 b15) b16) hB17
    clear b15 b16 hB17 k15 g16 d0 d1 B14 S14 M14
    go_wp2_with fail
    generalize w16.alloc (wb T (.slice aH L.length cH)) = w17 at *
    refine (eqWindow_any _ _ H17.out S17.out).mono ?_
    rintro e w18 ⟨rfl, b18⟩
    rw [sameW_self]
    have B18 := hidOf (more B17.out b18)
    have M18 := hidOf (M17.out.since b18)
    have y0 := cell_since y0 b18
    have y1 := cell_since y1 b18
    clear b18 B17 S17 M17 H17 r0 r1 u0 u1
    go_wp2_with fail
    refine (heldWindow_any T 1 L.length M18.out (by omega) (by omega)).mono ?_
    rintro e w19 ⟨rfl, b19⟩
    have B19 := hidOf (more hB0 (more B18.out b19))
    clear b19 B18 M18
    go_wp2
    go_ret
    exact ⟨rfl, B19.out⟩
  · have hif : (if (1048576 : Int) - (ks.length : Int) < 0 then (-1 : Int) else 1048576 - (ks.length : Int)) = -1 := if_pos (by omega)
    go_enter Try.func6, Try.ntmps6
    go_wp2_with fail
    generalize w.alloc (lwb id (.slice a ks.length c)) = w0 at hB0 c0 c1 h0 ⊢
    refine (szWindow_any _ _ _ _ _ _ (by omega) (by omega) hm).mono ?_
    rintro e w1 ⟨rfl, hw1⟩
    rw [hif]
    have b1 : Below w0.heap.size w0 w1 := by rw [hw1]; exact one_below _ _
    clear hw1
    go_wp2
    go_ret
    exact ⟨rfl, more hB0 b1⟩
end Go.Proofs.Ythfgiabkafdbdaa.Wn
