
/- The walk of the exact law of Applied: it answers true at every member and rekey, and nothing that lay there turns. -/
import Derived.Test.YtkkjpkldfllfiaaAp5
import Derived.Test.YtkkjpkldfllfiaaRk
import Derived.Test.YtkkjpkldfllfiaaBel
import Derived.Test.YtkkjpkldfllfiaaMem4a
import Derived.Test.YtkkjpkldfllfiaaMarkM
import Derived.Deep.CutRange
namespace Go.Proofs.Ytkkjpkldfllfiaa
open Go.RowKit

abbrev rW (B : Nat) (v : Value) (ks : List W4) : RowF := ⟨B, 35, 4, v, ks.length, wcells ks⟩
theorem Kit.w0 {w0 W : World} {cs : List (Addr × Value)} {rs : List RowF} {B : Nat} {v : Value} {ks : List W4} (K : Kit w0 cs (rW B v ks :: rs) W) : Wraps B v ks W := K.row _ (.head _)
theorem Kit.w1 {w0 W : World} {cs : List (Addr × Value)} {rs : List RowF} {x0 : RowF} {B : Nat} {v : Value} {ks : List W4} (K : Kit w0 cs (x0 :: rW B v ks :: rs) W) : Wraps B v ks W := K.row _ (.tail _ (.head _))
theorem five {w W : World} {p1 p2 p3 p4 p5 : Addr} {v1 v2 v3 v4 v5 : Value} (h : W.cell? p1 = some v1 ∧ W.cell? p2 = some v2 ∧ W.cell? p3 = some v3 ∧ W.cell? p4 = some v4 ∧ W.cell? p5 = some v5 ∧ Below w.heap.size w W) : Below w.heap.size w W := h.2.2.2.2.2
theorem later5 {w W W' : World} {p1 p2 p3 p4 p5 : Addr} {v1 v2 v3 v4 v5 : Value} (h : W.cell? p1 = some v1 ∧ W.cell? p2 = some v2 ∧ W.cell? p3 = some v3 ∧ W.cell? p4 = some v4 ∧ W.cell? p5 = some v5 ∧ Below w.heap.size w W) (hb : Below W.heap.size W W') :
    W'.cell? p1 = some v1 ∧ W'.cell? p2 = some v2 ∧ W'.cell? p3 = some v3 ∧ W'.cell? p4 = some v4 ∧ W'.cell? p5 = some v5 ∧ Below w.heap.size w W' := ⟨cell_since h.1 hb, cell_since h.2.1 hb, cell_since h.2.2.1 hb, cell_since h.2.2.2.1 hb, cell_since h.2.2.2.2.1 hb, more h.2.2.2.2.2 hb⟩
theorem four {w W : World} {p1 p2 p3 p4 : Addr} {v1 v2 v3 v4 : Value} (h : W.cell? p1 = some v1 ∧ W.cell? p2 = some v2 ∧ W.cell? p3 = some v3 ∧ W.cell? p4 = some v4 ∧ Below w.heap.size w W) : Below w.heap.size w W := h.2.2.2.2
theorem ApIs.len {id me : Int} {ks : List K2} {ep : Int} {ws : List W4} {i e : Int} {l : List K2} {r : Int} (h : ApIs id me ks ep ws i e l r) : l.length ≤ ks.length + 600 := by
  obtain ⟨out, ho, hr⟩ := h
  unfold apRes at hr
  split at hr
  · split at hr
    · split at hr
      · cases hr; omega
      · split at hr
        · cases hr; omega
        · split at hr
          · cases hr; omega
          · cases hr
            have h1 := (ho ⟨‹_›, ‹_›, ‹_›, ‹_›⟩).few
            have h2 := newTo_le out out.length
            unfold newK
            omega
    · cases hr; omega
  · cases hr; simp
theorem lmcell3 (w : World) (x y : Int) (v : Value) : (w.alloc (lmb x y v)).cell? ⟨w.heap.size, 0, none⟩ = some (.int .i64 x) ∧ (w.alloc (lmb x y v)).cell? ⟨w.heap.size, 1, none⟩ = some (.int .i64 y) ∧ (w.alloc (lmb x y v)).cell? ⟨w.heap.size, 2, none⟩ = some v := by simp
theorem lrcell2 (w : World) (ep : Int) (x : Value) : (w.alloc (lrb ep x)).cell? ⟨w.heap.size, 0, none⟩ = some (.int .i64 ep) ∧ (w.alloc (lrb ep x)).cell? ⟨w.heap.size, 1, none⟩ = some x := by simp

set_option maxRecDepth 100000 in
set_option maxHeartbeats 16000000 in
theorem exApplied_any (id me : Int) (v : Value) (ks : List (Int × Int)) (ep : Int) (x : Value) (ws : List W4) (w : World) (hv : InKeys v ks w) (hx : InWraps x ws w) :
    Calls Try.prog 7 #[mv id me v, rv ep x] w fun e w' => e = .returned (.bool true) ∧ Below w.heap.size w w' := by
  obtain ⟨ak, ck, hvk, hmk⟩ := hv.len
  obtain ⟨a, c, hvx, hm⟩ := hx.len
  subst hvk hvx
  have hB0 := two_below w (lmb id me (.slice ak ks.length ck)) (lrb ep (.slice a ws.length c))
  obtain ⟨e0, e1, e2⟩ := lmcell3 w id me (.slice ak ks.length ck)
  have e0 := cell_since e0 (one_below _ (lrb ep (.slice a ws.length c)))
  have e1 := cell_since e1 (one_below _ (lrb ep (.slice a ws.length c)))
  have e2 := cell_since e2 (one_below _ (lrb ep (.slice a ws.length c)))
  obtain ⟨c0, c1⟩ := lrcell2 (w.alloc (lmb id me (.slice ak ks.length ck))) ep (.slice a ws.length c)
  simp only [World.size_alloc] at c0 c1
  have hv0 := hv.below hB0 (Nat.le_refl _)
  have hx0 := hx.below hB0 (Nat.le_refl _)
  clear hv hx
  by_cases hk : (1048576 : Int) - (ks.length : Int) < 0
  · have hif : (if (1048576 : Int) - (ks.length : Int) < 0 then (-1 : Int) else 1048576 - (ks.length : Int)) = -1 := if_pos hk
    go_enter Try.func7, Try.ntmps7
    go_wp2_with fail
    generalize (w.alloc (lmb id me (.slice ak ks.length ck))).alloc (lrb ep (.slice a ws.length c)) = w0 at *
    refine (szMember_any _ _ _ _ _ _ _ (by omega) (by omega) hmk).mono ?_
    rintro e w1 ⟨rfl, hw1⟩
    rw [hif]
    have b1 : Below w0.heap.size w0 w1 := by rw [hw1]; exact one_below _ _
    clear hw1
    go_wp2
    go_ret
    exact ⟨rfl, more hB0 b1⟩
  have hif : (if (1048576 : Int) - (ks.length : Int) < 0 then (-1 : Int) else 1048576 - (ks.length : Int)) = 1048576 - (ks.length : Int) := if_neg hk
  have hnk : ks.length ≤ 1048576 := by omega
  go_enter Try.func7, Try.ntmps7
  go_wp2_with fail
  generalize (w.alloc (lmb id me (.slice ak ks.length ck))).alloc (lrb ep (.slice a ws.length c)) = w0 at *
  refine (szMember_any _ _ _ _ _ _ _ (by omega) (by omega) hmk).mono ?_
  rintro e w1 ⟨rfl, hw1⟩
  rw [hif]
  have b1 : Below w0.heap.size w0 w1 := by rw [hw1]; exact one_below _ _
  have B1 := hidC b1
  have d0 := cell_since c0 b1
  have d1 := cell_since c1 b1
  clear hw1 b1 hif
  go_wp2_with fail
  refine (szRekey_any _ _ _ _ _ _ (by omega) (by omega) hm).mono ?_
  rintro e w2 ⟨rfl, hw2⟩
  have b2 : Below w1.heap.size w1 w2 := by rw [hw2]; exact one_below _ _
  have B2 := hidC (more B1.out b2)
  clear hw2 b2 B1 d0 d1
  by_cases hn : ks.length + ws.length ≤ 1048576
  case neg =>
    have hsz : (if (1048576 : Int) - (ks.length : Int) - (ws.length : Int) < 0 then (-1 : Int) else 1048576 - (ks.length : Int) - (ws.length : Int)) = -1 := if_pos (by omega)
    rw [hsz]
    go_wp2
    go_ret
    exact ⟨rfl, more hB0 B2.out⟩
  have hsz : (if (1048576 : Int) - (ks.length : Int) - (ws.length : Int) < 0 then (-1 : Int) else 1048576 - (ks.length : Int) - (ws.length : Int)) = 1048576 - (ks.length : Int) - (ws.length : Int) := if_neg (by omega)
  have hge : ¬ (1048576 : Int) - (ks.length : Int) - (ws.length : Int) < 0 := by omega
  have hn1 : ws.length ≤ 1048576 := by omega
  rw [hsz]
  clear hsz
  have HS : Hid (∀ W, Below w2.heap.size w2 W → (W.cell? ⟨w.heap.size, 0, none⟩ = some (.int .i64 id) ∧ W.cell? ⟨w.heap.size, 1, none⟩ = some (.int .i64 me) ∧ W.cell? ⟨w.heap.size, 2, none⟩ = some (.slice ak ks.length ck) ∧ W.cell? ⟨w.heap.size + 1, 0, none⟩ = some (.int .i64 ep) ∧ W.cell? ⟨w.heap.size + 1, 1, none⟩ = some (.slice a ws.length c) ∧ Below w2.heap.size w2 W)) := fun W h => ⟨cell_since e0 (more B2.out h), cell_since e1 (more B2.out h), cell_since e2 (more B2.out h), cell_since c0 (more B2.out h), cell_since c1 (more B2.out h), h⟩
  have oD : Hid ((w2.alloc (mb 0 0 (.slice none 0 0))).drew.heap[w2.heap.size]? = some (mb 0 0 (.slice none 0 0))) := heap_alloc_new _ _
  go_upto_region 8 with fail
  go_cut [6, 7] from 17 (fun s6 s7 wx => ∃ (p : Nat) (I E : Int) (L : List K2) (R : Int) (aS : Option Addr) (cS : Nat), s6 = .pointer (some ⟨p, 0, none⟩) ∧ s7 = .int .i64 R ∧ Hid (ApIs id me ks ep ws I E L R) ∧ wx.heap[p]? = some (mb I E (.slice aS L.length cS)) ∧ Keys w2.heap.size (.slice aS L.length cS) L wx ∧ w2.heap.size ≤ p ∧ (Value.slice aS L.length cS).ownBlock ≠ some p ∧ Below w2.heap.size w2 wx)
  case first =>
    go_region_held3 (fun W => W.cell? ⟨w.heap.size, 0, none⟩ = some (.int .i64 id) ∧ W.cell? ⟨w.heap.size, 1, none⟩ = some (.int .i64 me) ∧ W.cell? ⟨w.heap.size, 2, none⟩ = some (.slice ak ks.length ck) ∧ W.cell? ⟨w.heap.size + 1, 0, none⟩ = some (.int .i64 ep) ∧ W.cell? ⟨w.heap.size + 1, 1, none⟩ = some (.slice a ws.length c) ∧ Below w2.heap.size w2 W)
      (first | exact HS.out _ (Below.refl _ _).drew | exact later5 ‹_› bM | exact later5 ‹_› bS | exact later5 ‹_› bC | exact later5 ‹_› (one_below _ _) | exact HS.out _ (more bel (one_below _ _)) | exact HS.out _ ((((five ‹_›).setCell (by simp <;> omega) _).setCell (by simp <;> omega) _).setCell (by simp <;> omega) _))
      (first
        | (go_at_call 36; refine (toMember_any id me _ ks _ (hv0.below (more B2.out (five ‹_›)) (Nat.le_refl _)) hnk).mono ?_; rintro e w3 ⟨v3, rfl, kM, bM⟩; have bel := more (five ‹_›) bM; have zM := bel.size; (first | (have oA := blkSince oD.out bM) | (have oA := blkSince (heap_alloc_new _ _) bM) | skip))
        | (go_at_call 37; refine (toRekey_any ep _ ws _ (hx0.below (more B2.out (five ‹_›)) (Nat.le_refl _)) hn1).mono ?_; rintro e w4 ⟨x4, rfl, sS, bS⟩; have bel := more (five ‹_›) bS; have zS := bel.size; (first | (have kM := keysSince kM bS) | (have kM := keysSince (keysSince kM (one_below _ _)) bS)); (first | (have oA := blkSince oA bS) | (have oA := blkSince (heap_alloc_new _ _) bS) | skip))
        | (go_at_call 35; (first | refine (specApplied_any id me ep kM sS).mono ?_ | refine (specApplied_any id me ep (keysSince kM (one_below _ _)) (wrapsSince sS (one_below _ _))).mono ?_); rintro e w5 ⟨I, E, L, R, aS, cS, hA, rfl, kC, bC⟩; have HA' := hidC hA; clear hA; have bel := more (five ‹_›) bC; have zC := bel.size; (first | (have oX := blkBoth oA bC; have oA := oX.1; have oL := oX.2; obtain ⟨⟨o0, o1, o2⟩, f0, f1, f2⟩ := Go.Proofs.Ytkkjpkldfllfiaa.box3 oA) | (have oX := blkBoth (heap_alloc_new _ _) bC; have oA := oX.1; have oL := oX.2; obtain ⟨⟨o0, o1, o2⟩, f0, f1, f2⟩ := Go.Proofs.Ytkkjpkldfllfiaa.box3 oA) | skip)))
    all_goals
      rename_i hHeld
      have hbW := five hHeld
      clear hHeld
      go_wp2_with fail
      go_meet
      first
        | exact ⟨_, I, E, L, R, aS, cS, rfl, rfl, HA', heap_alloc_new _ _, keysSince (kC.mono (by first | omega | (simp only [World.size_alloc]; omega))) (one_below _ _), by omega, (fun e => by have := (kC.lt _ e).2; omega), hbW⟩
        | exact ⟨_, I, E, L, R, aS, cS, rfl, rfl, HA', box3_set2 (box3_set1 (box3_set0 oA _) _) _, keysSet3 kC oL (by first | omega | (simp only [World.size_alloc]; omega)) _ _ _, by omega, (fun e => by have := (kC.lt _ e).1; omega), hbW⟩
  case rest =>
    obtain ⟨pW, I, E, L, R, aW, cW, rfl, rfl, HA, hbx, hks, hpl, hpn, hbw⟩ := hcut
    have HLn := hidC (Nat.le_trans HA.out.len (show ks.length + 600 ≤ 2097152 by omega))
    have K := hidC ((Kit.start (cs := []) B2.out (fun _ h => (by cases h))).left3 (r := rK _ (.slice aW L.length cW) L) hbw hbx hpl hks (Nat.le_refl _) hpn)
    clear hbx hks hpl hpn hbw HS oD B2
    have d0 := cell_since e0 K.out.bel
    have d1 := cell_since e1 K.out.bel
    have d2 := cell_since e2 K.out.bel
    go_wp2_with fail
    refine (toMember_any id me _ ks _ (hv0.below K.out.bel (Nat.le_refl _)) hnk).mono ?_
    rintro e w3 ⟨v3, rfl, k3, b3⟩
    obtain ⟨a3, c3, hv3, _, _⟩ := k3.row
    subst hv3
    have K := hidC ((K.out.add b3 (r := rK _ (.slice a3 ks.length c3) ks) k3 (Nat.le_refl _)).box3 (.int .i64 id) (.int .i64 me) (.slice a3 ks.length c3) 60)
    clear d0 d1 d2 b3 k3
    have d0 := cell_since c0 K.out.bel
    have d1 := cell_since c1 K.out.bel
    go_wp2_with fail
    generalize w3.alloc (mb id me (.slice a3 ks.length c3)) = w4 at *
    refine (toRekey_any ep _ ws _ (hx0.below K.out.bel (Nat.le_refl _)) hn1).mono ?_
    rintro e w5 ⟨x5, rfl, s5, b5⟩
    obtain ⟨a5, c5, hv5⟩ := wrapsRow s5
    subst hv5
    have K := hidC ((K.out.add b5 (r := rW _ (.slice a5 ws.length c5) ws) s5 (Nat.le_refl _)).box2 (.int .i64 ep) (.slice a5 ws.length c5) 65)
    clear d0 d1 b5 s5
    have q0 := K.out.c0
    have q1 := K.out.c1
    have y0 := K.out.c2
    have y1 := K.out.c3
    have y2 := K.out.c4
    go_wp2_with fail
    generalize w5.alloc (rb ep (.slice a5 ws.length c5)) = w6 at *
    refine (applied_any id me ep K.out.k1 K.out.w0).mono ?_
    rintro e w7 ⟨I2, E2, L2, R2, aG, cG, hA2, rfl, g7, b7⟩
    obtain ⟨t1, t2, t3, t4⟩ := HA.out.one hA2
    subst t1 t2 t3 t4
    have K := hidC ((K.out.add b7 (r := rK _ (.slice aG L.length cG) L) g7 (Nat.le_refl _)).box3 (.int .i64 I) (.int .i64 E) (.slice aG L.length cG) 60)
    clear g7 b7 q0 q1 y0 y1 y2 hA2
    have q0 := K.out.c0
    have q1 := K.out.c1
    have q2 := K.out.c2
    have y0 := K.out.c8
    have y1 := K.out.c9
    have y2 := K.out.c10
    go_wp2_with fail
    generalize w7.alloc (mb I E (.slice aG L.length cG)) = w8 at *
    refine (eqMember_any I E I E K.out.k0 K.out.k3).mono ?_
    rintro e w9 ⟨rfl, b9⟩
    rw [sameM_self]
    have K := hidC (K.out.since b9)
    clear b9 q0 q1 q2 y0 y1 y2
    have d0 := cell_since e0 K.out.bel
    have d1 := cell_since e1 K.out.bel
    have d2 := cell_since e2 K.out.bel
    have q0 := K.out.c5
    have q1 := K.out.c6
    have q2 := K.out.c7
    go_wp2
    go_region_held3 (fun W => W.cell? ⟨w.heap.size, 0, none⟩ = some (.int .i64 id) ∧ W.cell? ⟨w.heap.size, 1, none⟩ = some (.int .i64 me) ∧ W.cell? ⟨w.heap.size, 2, none⟩ = some (.slice ak ks.length ck) ∧ W.cell? ⟨w3.heap.size, 0, none⟩ = some (.int .i64 id) ∧ W.cell? ⟨w3.heap.size, 1, none⟩ = some (.int .i64 me) ∧ W.cell? ⟨w3.heap.size, 2, none⟩ = some (.slice a3 ks.length c3) ∧ Below w9.heap.size w9 W)
      (first | exact ⟨d0, d1, d2, q0, q1, q2, (Below.refl _ _).drew⟩ | assumption | exact later6 ‹_› b11 | exact later6 ‹_› b10)
      (first | (go_at_call 36; refine (toMember_any id me _ ks _ (hv0.below K.out.drew.bel (Nat.le_refl _)) hnk).mono ?_; rintro e w10 ⟨v10, rfl, k10, b10⟩) | (go_at_call 39; refine (eqMember_any id me id me (keysSince K.out.drew.k2 b10) k10).mono ?_; rintro e w11 ⟨rfl, b11⟩; rw [sameM_self]))
    rename_i hHeld
    have K := hidC (K.out.since (six hHeld))
    clear hHeld b10 b11 k10 d0 d1 d2 q0 q1 q2
    have d0 := cell_since c0 K.out.bel
    have d1 := cell_since c1 K.out.bel
    have q0 := K.out.c3
    have q1 := K.out.c4
    go_wp2
    go_region_held3 (fun W => W.cell? ⟨w.heap.size + 1, 0, none⟩ = some (.int .i64 ep) ∧ W.cell? ⟨w.heap.size + 1, 1, none⟩ = some (.slice a ws.length c) ∧ W.cell? ⟨w5.heap.size, 0, none⟩ = some (.int .i64 ep) ∧ W.cell? ⟨w5.heap.size, 1, none⟩ = some (.slice a5 ws.length c5) ∧ Below w11.heap.size w11 W)
      (first | exact ⟨d0, d1, q0, q1, (Below.refl _ _).drew⟩ | assumption | exact later4M ‹_› b13 | exact later4M ‹_› b12)
      (first | (go_at_call 37; refine (toRekey_any ep _ ws _ (hx0.below K.out.drew.bel (Nat.le_refl _)) hn1).mono ?_; rintro e w12 ⟨x12, rfl, s12, b12⟩) | (go_at_call 40; refine (eqRekey_any ep ep (wrapsSince K.out.drew.w1 b12) s12).mono ?_; rintro e w13 ⟨rfl, b13⟩; rw [sameR_self]))
    rename_i hHeld
    have K := hidC (K.out.since (four hHeld))
    clear hHeld b12 b13 s12 d0 d1 q0 q1
    have q0 := K.out.c5
    have q1 := K.out.c6
    have q2 := K.out.c7
    have hge3 : ¬ ((1 : Int) + 2 * (ks.length : Int) + 4 * (ws.length : Int)) < 0 := by omega
    have hge4 : ¬ ((1 : Int) + 2 * (L.length : Int)) < 0 := by omega
    go_wp2_with fail
    refine (markMember_any id me 1 K.out.k2 rfl (by omega) (by omega)).mono ?_
    rintro e w14 ⟨rfl, _, g14⟩
    have K := hidC (K.out.lose2 g14)
    clear g14 q0 q1 q2
    have q0 := K.out.c3
    have q1 := K.out.c4
    go_wp2_with fail
    refine (markRekey_any ep (1 + 2 * (ks.length : Int)) K.out.w1 (by omega) (by omega)).mono ?_
    rintro e w15 ⟨rfl, g15⟩
    have K := hidC (K.out.lose1 g15)
    clear g15 q0 q1
    have q0 := K.out.c0
    have q1 := K.out.c1
    have q2 := K.out.c2
    have y0 := K.out.c8
    have y1 := K.out.c9
    have y2 := K.out.c10
    go_wp2_with fail
    refine (eqMember_any I E I E K.out.k0 K.out.k1).mono ?_
    rintro e w16 ⟨rfl, b16⟩
    rw [sameM_self]
    have K := hidC (K.out.since b16)
    clear b16 q0 q1 q2 y0 y1 y2
    have q0 := K.out.c0
    have q1 := K.out.c1
    have q2 := K.out.c2
    go_wp2_with fail
    refine (markMember_any I E 1 K.out.k0 rfl (by omega) (by have := HLn.out; omega)).mono ?_
    rintro e w17 ⟨rfl, m17, g17⟩
    have K := hidC (K.out.mark0 (r' := rK _ (.slice aG L.length cG) (kmarks 1 L.length)) g17 m17 rfl rfl)
    clear g17 m17 q0 q1 q2
    have q0 := K.out.c0
    have q1 := K.out.c1
    have q2 := K.out.c2
    go_wp2_with fail
    refine (heldMember_any I E 1 K.out.k0 (by omega) (by have := HLn.out; omega)).mono ?_
    rintro e w18 ⟨rfl, b18⟩
    have K := hidC (K.out.since b18)
    clear b18 q0 q1 q2
    have HS : Hid (∀ W, Below w18.heap.size w18 W → (W.cell? ⟨w.heap.size, 0, none⟩ = some (.int .i64 id) ∧ W.cell? ⟨w.heap.size, 1, none⟩ = some (.int .i64 me) ∧ W.cell? ⟨w.heap.size, 2, none⟩ = some (.slice ak ks.length ck) ∧ W.cell? ⟨w.heap.size + 1, 0, none⟩ = some (.int .i64 ep) ∧ W.cell? ⟨w.heap.size + 1, 1, none⟩ = some (.slice a ws.length c) ∧ Below w18.heap.size w18 W)) := fun W h => ⟨cell_since e0 (more K.out.bel h), cell_since e1 (more K.out.bel h), cell_since e2 (more K.out.bel h), cell_since c0 (more K.out.bel h), cell_since c1 (more K.out.bel h), h⟩
    have oD : Hid ((w18.alloc (mb 0 0 (.slice none 0 0))).drew.heap[w18.heap.size]? = some (mb 0 0 (.slice none 0 0))) := heap_alloc_new _ _
    go_upto_region 31 with fail
    go_cut [15, 16] from 17 (fun s6 s7 wx => ∃ (p : Nat) (I E : Int) (L : List K2) (R : Int) (aS : Option Addr) (cS : Nat), s6 = .pointer (some ⟨p, 0, none⟩) ∧ s7 = .int .i64 R ∧ Hid (ApIs id me ks ep ws I E L R) ∧ wx.heap[p]? = some (mb I E (.slice aS L.length cS)) ∧ Keys w18.heap.size (.slice aS L.length cS) L wx ∧ w18.heap.size ≤ p ∧ (Value.slice aS L.length cS).ownBlock ≠ some p ∧ Below w18.heap.size w18 wx)
    case first =>
      go_region_held3 (fun W => W.cell? ⟨w.heap.size, 0, none⟩ = some (.int .i64 id) ∧ W.cell? ⟨w.heap.size, 1, none⟩ = some (.int .i64 me) ∧ W.cell? ⟨w.heap.size, 2, none⟩ = some (.slice ak ks.length ck) ∧ W.cell? ⟨w.heap.size + 1, 0, none⟩ = some (.int .i64 ep) ∧ W.cell? ⟨w.heap.size + 1, 1, none⟩ = some (.slice a ws.length c) ∧ Below w18.heap.size w18 W)
        (first | exact HS.out _ (Below.refl _ _).drew | exact later5 ‹_› bM | exact later5 ‹_› bS | exact later5 ‹_› bC | exact later5 ‹_› (one_below _ _) | exact HS.out _ (more bel (one_below _ _)) | exact HS.out _ ((((five ‹_›).setCell (by simp <;> omega) _).setCell (by simp <;> omega) _).setCell (by simp <;> omega) _))
        (first
          | (go_at_call 36; refine (toMember_any id me _ ks _ (hv0.below (more K.out.bel (five ‹_›)) (Nat.le_refl _)) hnk).mono ?_; rintro e w3 ⟨v3, rfl, kM, bM⟩; have bel := more (five ‹_›) bM; have zM := bel.size; (first | (have oA := blkSince oD.out bM) | (have oA := blkSince (heap_alloc_new _ _) bM) | skip))
          | (go_at_call 37; refine (toRekey_any ep _ ws _ (hx0.below (more K.out.bel (five ‹_›)) (Nat.le_refl _)) hn1).mono ?_; rintro e w4 ⟨x4, rfl, sS, bS⟩; have bel := more (five ‹_›) bS; have zS := bel.size; (first | (have kM := keysSince kM bS) | (have kM := keysSince (keysSince kM (one_below _ _)) bS)); (first | (have oA := blkSince oA bS) | (have oA := blkSince (heap_alloc_new _ _) bS) | skip))
          | (go_at_call 38; (first | refine (applied_any id me ep kM sS).mono ?_ | refine (applied_any id me ep (keysSince kM (one_below _ _)) (wrapsSince sS (one_below _ _))).mono ?_); rintro e w5 ⟨I, E, L, R, aS, cS, hA, rfl, kC, bC⟩; have HA' := hidC hA; clear hA; have bel := more (five ‹_›) bC; have zC := bel.size; (first | (have oX := blkBoth oA bC; have oA := oX.1; have oL := oX.2; obtain ⟨⟨o0, o1, o2⟩, f0, f1, f2⟩ := Go.Proofs.Ytkkjpkldfllfiaa.box3 oA) | (have oX := blkBoth (heap_alloc_new _ _) bC; have oA := oX.1; have oL := oX.2; obtain ⟨⟨o0, o1, o2⟩, f0, f1, f2⟩ := Go.Proofs.Ytkkjpkldfllfiaa.box3 oA) | skip)))
      all_goals
        rename_i hHeld
        have hbW := five hHeld
        clear hHeld
        go_wp2_with fail
        go_meet
        first
          | exact ⟨_, I, E, L, R, aS, cS, rfl, rfl, HA', heap_alloc_new _ _, keysSince (kC.mono (by first | omega | (simp only [World.size_alloc]; omega))) (one_below _ _), by omega, (fun e => by have := (kC.lt _ e).2; omega), hbW⟩
          | exact ⟨_, I, E, L, R, aS, cS, rfl, rfl, HA', box3_set2 (box3_set1 (box3_set0 oA _) _) _, keysSet3 kC oL (by first | omega | (simp only [World.size_alloc]; omega)) _ _ _, by omega, (fun e => by have := (kC.lt _ e).1; omega), hbW⟩
    case rest =>
      obtain ⟨pH, I2, E2, L2, R2, aH, cH, rfl, rfl, HA2, hbx, hks, hpl, hpn, hbw⟩ := hcut
      obtain ⟨q1, q2, q3, q4⟩ := HA.out.one HA2.out
      subst q1 q2 q3 q4
      have K := hidC (K.out.left3 (r := rK _ (.slice aH L.length cH) L) hbw hbx hpl hks (Nat.le_refl _) hpn)
      clear hbx hks hpl hpn hbw HS oD HA2
      have q0 := K.out.c0
      have q1 := K.out.c1
      have q2 := K.out.c2
      have y0 := K.out.c11
      have y1 := K.out.c12
      have y2 := K.out.c13
      go_wp2_with fail
      refine (eqMember_any I E I E K.out.k0 K.out.k2).mono ?_
      rintro e w20 ⟨rfl, b20⟩
      rw [sameM_self]
      have K := hidC (K.out.since b20)
      clear b20 q0 q1 q2 y0 y1 y2
      have q0 := K.out.c3
      have q1 := K.out.c4
      have q2 := K.out.c5
      go_wp2_with fail
      refine (heldMember_any I E 1 K.out.k1 (by omega) (by have := HLn.out; omega)).mono ?_
      rintro e w21 ⟨rfl, b21⟩
      have K := hidC (K.out.since b21)
      clear b21 q0 q1 q2
      have BF := hidC (more hB0 K.out.bel)
      clear K
      go_wp2
      go_ret
      exact ⟨rfl, BF.out⟩
end Go.Proofs.Ytkkjpkldfllfiaa
