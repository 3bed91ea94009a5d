
/- Rekeys as texts: RekeyText of the model. -/
import Derived.Test.YtmlmlmcmhpahpaaDoorTk1
import Derived.Test.YtmlmlmcmhpahpaaDoorRk
import Derived.Test.YtmlmlmcmhpahpaaDoorTr3
namespace Go.Proofs.YtmlmlmcmhpahpaaDoor
open Go.RowKit Go.Shelf
namespace Tx

/-- Cells that hold these values, and nothing has turned since w. -/
def CsL (w : World) (cs : List (Addr × Value)) (W : World) : Prop := (∀ x ∈ cs, W.cell? x.1 = some x.2) ∧ Below w.heap.size w W
theorem CsL.later {w W W' : World} {cs : List (Addr × Value)} (h : CsL w cs W) (hb : Below W.heap.size W W') : CsL w cs W' := ⟨fun x hx => cell_since (h.1 x hx) hb, h.2.trans (hb.mono h.2.size)⟩

/-- A wrap's text, a rekey's text. -/
def wrapT (x : W4) : List UInt8 := keyT x.1.toNat x.2.1.toNat ++ 62 :: keyT x.2.2.1.toNat x.2.2.2.toNat
abbrev sEpoch : List UInt8 := [101, 112, 111, 99, 104, 32]
def rekW (ws : List W4) : List UInt8 := ws.flatMap fun x => 32 :: wrapT x
def rekT (ep : Int) (ws : List W4) : List UInt8 := (sEpoch ++ Lib.decDigits ep.toNat) ++ rekW ws
def rekText (ep : Int) (ws : List W4) : List UInt8 := if rkB ep ws = true then rekT ep ws else []

theorem keyT_len {n v : Nat} (hn : n ≤ 1000000000) (hv : v ≤ 1000000000) : (keyT n v).length ≤ 21 := by
  have h1 := dec_len 9 n (by omega)
  have h2 := dec_len 9 v (by omega)
  simp [keyT]
  omega
theorem okK_nat {a b : Int} (h : okK a b = true) : 1 ≤ a ∧ a ≤ 15 ∧ 1 ≤ b ∧ b ≤ 1000000000 := by
  unfold okK at h
  simp at h
  omega
theorem okW_nat {x : W4} (h : okW x = true) : (1 ≤ x.1 ∧ x.1 ≤ 15 ∧ 1 ≤ x.2.1 ∧ x.2.1 ≤ 1000000000) ∧ (1 ≤ x.2.2.1 ∧ x.2.2.1 ≤ 15 ∧ 1 ≤ x.2.2.2 ∧ x.2.2.2 ≤ 1000000000) := by
  unfold okW at h
  simp only [Bool.and_eq_true] at h
  exact ⟨okK_nat h.1, okK_nat h.2⟩
theorem wrapT_len {x : W4} (h : okW x = true) : (wrapT x).length ≤ 43 := by
  have := okW_nat h
  have h1 := keyT_len (n := x.1.toNat) (v := x.2.1.toNat) (by omega) (by omega)
  have h2 := keyT_len (n := x.2.2.1.toNat) (v := x.2.2.2.toNat) (by omega) (by omega)
  simp [wrapT]
  omega
theorem rekW_len : ∀ (ws : List W4), (∀ x ∈ ws, okW x = true) → (rekW ws).length ≤ 44 * ws.length
  | [], _ => by simp [rekW]
  | x :: ws, h => by
    have h1 := rekW_len ws (fun y hy => h y (List.mem_cons_of_mem _ hy))
    have h2 := wrapT_len (h x (by simp))
    have e : (rekW (x :: ws)).length = 1 + (wrapT x).length + (rekW ws).length := by simp [rekW]; omega
    rw [e]
    simp
    omega
theorem rekW_snoc (ws : List W4) (x : W4) : rekW (ws ++ [x]) = rekW ws ++ 32 :: wrapT x := by simp [rekW]
theorem rkB_nat {ep : Int} {ws : List W4} (h : rkB ep ws = true) : 1 ≤ ep ∧ ep ≤ 1000000000 ∧ ws.length ≤ 400 ∧ ∀ x ∈ ws, okW x = true := by
  unfold rkB wrapsB at h
  simp at h
  exact ⟨h.1.1, h.1.2, h.2.1, fun x hx => h.2.2 _ _ _ _ hx⟩
theorem nat_of {a : Int} (h : 1 ≤ a) : a = ((a.toNat : Nat) : Int) := by omega

set_option maxRecDepth 100000 in
set_option maxHeartbeats 2000000 in
theorem specRekeyText_any {B : Nat} {x : Value} {ws : List W4} {w : World} (ep : Int) (h : Wraps B x ws w) :
    Calls Tryd.prog 14 #[rv ep x] w fun e w' => e = .returned (st (rekText ep ws)) ∧ Below w.heap.size w w' := by
  obtain ⟨ax, cx, hx⟩ := wrapsRow h
  obtain ⟨N, HLEN⟩ : ∃ N, Hid (ws.length = N) := ⟨_, rfl⟩
  rw [HLEN.out] at hx
  subst hx
  cases hR : rkB ep ws with
  | false =>
    have HT := hidT (show rekText ep ws = [] by simp [rekText, hR])
    have HW := hidT (wrapsSince h (oneB w (rb ep (.slice ax N cx))))
    clear h
    go_enter Tryd.func14, Tryd.ntmps14
    go_wp2_with fail
    refine (l4RekeyOk_any ep HW.out).mono ?_
    rintro e w1 ⟨rfl, hb⟩
    rw [hR]
    have HB := hidT ((oneB _ _).trans (hb.mono (by simp)))
    clear hb
    go_wp2
    go_ret
    exact ⟨by rw [HT.out]; rfl, HB.out⟩
  | true =>
    have HT := hidT (show rekText ep ws = (sEpoch ++ Lib.decDigits ep.toNat) ++ rekW ws by simp [rekText, hR, rekT])
    obtain ⟨he1, he2, hlen, hok⟩ := rkB_nat hR
    have HOK := hidT hok
    clear hok
    obtain ⟨n, rfl⟩ : ∃ n : Nat, ep = (n : Int) := ⟨ep.toNat, by omega⟩
    have hl0 := dec_len 9 n (by omega)
    have ha := fun w => run_string_add_lists (P := Tryd.prog) w sEpoch (Lib.decDigits n) (by simp) (by omega)
    rw [HLEN.out] at hlen
    have HW := hidT (wrapsSince h (oneB w (rb n (.slice ax N cx))))
    have P1 := hidT (heap_new w (rb n (.slice ax N cx)))
    clear h
    go_enter Tryd.func14, Tryd.ntmps14
    go_wp2_with fail
    refine (l4RekeyOk_any (n : Int) HW.out).mono ?_
    rintro e w1 ⟨rfl, hb⟩
    rw [hR]
    have B1 := hidT ((oneB _ _).trans (hb.mono (by simp)))
    have P1 := hidT ((hb.block _ (cell_lt (blk2 P1.out).1)).trans P1.out)
    have HW := hidT (wrapsSince HW.out hb)
    clear hb
    obtain ⟨c0, c1, f0, f1⟩ := blk2 P1.out
    go_wp2_with (go_at_call 23; refine (l1Dec_any n (by omega) _).mono ?_; rintro e w2 ⟨rfl, hb2⟩)
    have B2 := hidT (B1.out.trans (hb2.mono B1.out.size))
    have P2 := hidT ((hb2.block _ (cell_lt (blk2 P1.out).1)).trans P1.out)
    have HW2 := hidT (wrapsSince HW.out hb2)
    clear hb2 c0 c1 f0 f1 HW P1 B1
    go_loopw [3, 4] (fun sv iv wr => ∃ k : Nat, k ≤ N ∧ iv = .int .i64 (k : Int) ∧ sv = st ((sEpoch ++ Lib.decDigits n) ++ rekW (ws.take k)) ∧ Below w2.heap.size w2 wr) (fun _ iv _ => N - (intOf iv).toNat)
    case atStart => exact ⟨0, Nat.zero_le _, rfl, by simp [rekW], Below.refl _ _⟩
    case round =>
      obtain ⟨k, hk, rfl, rfl, hB⟩ := hrel
      have BR := hidT (B2.out.trans (hB.mono B2.out.size))
      have PR := hidT ((hB.block _ (cell_lt (blk2 P2.out).1)).trans P2.out)
      have WR := hidT (wrapsSince HW2.out hB)
      have HBR := hidT hB
      clear hB
      obtain ⟨c0, c1, f0, f1⟩ := blk2 PR.out
      by_cases hlt : k < N
      · have hi : (k : Int) < (N : Int) := by omega
        have hlt' : k < ws.length := by rw [HLEN.out]; exact hlt
        obtain ⟨g, cap, hxe, _, hg, _, _, hseg, _⟩ : ∃ g cap, Value.slice ax N cx = .slice (some ⟨g, 0, none⟩) ws.length cap ∧ B ≤ g ∧ g < wr.heap.size ∧ ws.length ≤ cap ∧ cap ≤ maxLen ∧ WSeg g 0 ws wr ∧ ∀ o, wr.frozen? ⟨g, o, none⟩ = false := by
          rcases WR.out.form with ⟨e1, e2⟩ | h
          · rw [e2] at hlt'; simp at hlt'
          · exact h
        injection hxe with e1 e2 e3
        subst e1
        clear e2 e3
        obtain ⟨q0, q1, q2, q3⟩ := hseg k hlt'
        clear hseg
        have HO := okW_nat (HOK.out _ (List.getElem_mem hlt'))
        have HTK := hidT (show ws.take (k + 1) = ws.take k ++ [ws[k]] by rw [List.take_add_one, List.getElem?_eq_getElem hlt']; rfl)
        have HRL := hidT (rekW_len (ws.take k) (fun y hy => HOK.out y (List.mem_of_mem_take hy)))
        have hwl : (rekW (ws.take k)).length ≤ 17600 := by
          have := HRL.out
          rw [List.length_take] at this
          omega
        generalize hwk : ws[k] = wk at q0 q1 q2 q3 HO HTK
        obtain ⟨a, b, c, d⟩ := wk
        simp only [Nat.zero_add] at q0 q1 q2 q3
        simp only at HO
        obtain ⟨a, rfl⟩ : ∃ n : Nat, a = (n : Int) := ⟨a.toNat, by omega⟩
        obtain ⟨b, rfl⟩ : ∃ n : Nat, b = (n : Int) := ⟨b.toNat, by omega⟩
        obtain ⟨c, rfl⟩ : ∃ n : Nat, c = (n : Int) := ⟨c.toNat, by omega⟩
        obtain ⟨d, rfl⟩ : ∃ n : Nat, d = (n : Int) := ⟨d.toNat, by omega⟩
        have HWT := hidT (show wrapT ((a : Int), (b : Int), (c : Int), (d : Int)) = keyT a b ++ 62 :: keyT c d by simp [wrapT])
        have ka := keyT_len (n := a) (v := b) (by omega) (by omega)
        have kc := keyT_len (n := c) (v := d) (by omega) (by omega)
        have HR0 := hidT (show rekW (ws.take (k + 1)) = rekW (ws.take k) ++ 32 :: (keyT a b ++ 62 :: keyT c d) by rw [HTK.out, rekW_snoc, HWT.out])
        generalize hS : (sEpoch ++ Lib.decDigits n) ++ rekW (ws.take k) = S
        have hSl : S.length ≤ 20000 := by rw [← hS]; simp; omega
        have HS := hidT hS
        clear hS hwl
        have a1 := fun w => run_string_add_lists (P := Tryd.prog) w S [32] (by omega) (by simp)
        have a2 := fun w => run_string_add_lists (P := Tryd.prog) w (S ++ [32]) (keyT a b) (by simp; omega) (by omega)
        have a3 := fun w => run_string_add_lists (P := Tryd.prog) w (S ++ 32 :: keyT a b) [62] (by simp; omega) (by simp)
        have a4 := fun w => run_string_add_lists (P := Tryd.prog) w (S ++ 32 :: (keyT a b ++ [62])) (keyT c d) (by simp; omega) (by omega)
        have hS0 : CsL wr [(⟨w.heap.size, 1, none⟩, .slice (some ⟨g, 0, none⟩) N cx), (⟨g, k * 4, none⟩, .int .i64 a), (⟨g, k * 4 + 1, none⟩, .int .i64 b), (⟨g, k * 4 + 2, none⟩, .int .i64 c), (⟨g, k * 4 + 3, none⟩, .int .i64 d)] wr.drew := ⟨by simp [c1, q0, q1, q2, q3], (Below.refl _ _).drew⟩
        obtain ⟨cs, hcs⟩ : ∃ cs, cs = [((⟨w.heap.size, 1, none⟩ : Addr), Value.slice (some ⟨g, 0, none⟩) N cx), (⟨g, k * 4, none⟩, .int .i64 a), (⟨g, k * 4 + 1, none⟩, .int .i64 b), (⟨g, k * 4 + 2, none⟩, .int .i64 c), (⟨g, k * 4 + 3, none⟩, .int .i64 d)] := ⟨_, rfl⟩
        rw [← hcs] at hS0
        have hSN := SW.some hS0
        have s1 := fun s : SW (CsL wr cs) => s.is.1 (⟨w.heap.size, 1, none⟩, .slice (some ⟨g, 0, none⟩) N cx) (by simp [hcs])
        have s2 := fun s : SW (CsL wr cs) => s.is.1 (⟨g, k * 4, none⟩, .int .i64 a) (by simp [hcs])
        have s3 := fun s : SW (CsL wr cs) => s.is.1 (⟨g, k * 4 + 1, none⟩, .int .i64 b) (by simp [hcs])
        have s4 := fun s : SW (CsL wr cs) => s.is.1 (⟨g, k * 4 + 2, none⟩, .int .i64 c) (by simp [hcs])
        have s5 := fun s : SW (CsL wr cs) => s.is.1 (⟨g, k * 4 + 3, none⟩, .int .i64 d) (by simp [hcs])
        simp only at s1 s2 s3 s4 s5
        have HCS := hidT hcs
        clear hcs q0 q1 q2 q3
        go_wp2
        refine wp_region_S (CsL wr cs) (by kernel_rfl) (by kernel_rfl) hS0 ?_
        repeat (go_big_quiet_step ((rename_i s0; go_at_call 32; refine (l8Key_any _ _ (by omega) (by omega) _).mono ?_; rintro e w' ⟨rfl, hb⟩; exact ⟨rfl, SW.of (s0.is.later hb)⟩)))
        refine wpQuiet_nil ?_
        rintro _ ⟨s, rfl⟩
        have hBf := s.is.2
        generalize s.w = W at hBf ⊢
        clear hS0 hSN s1 s2 s3 s4 s5 s
        go_wp2
        go_roundw
        case rel =>
          refine ⟨k + 1, by omega, by go_num, ?_, HBR.out.trans (hBf.mono HBR.out.size)⟩
          rw [HR0.out, ← List.append_assoc, HS.out]
        case measure => simp [intOf]; omega
      · have hi : ¬ (k : Int) < (N : Int) := by omega
        have HKT := hidT (show ws.take k = ws by exact List.take_of_length_le (by rw [HLEN.out]; omega))
        go_wp2
        go_ret
        refine ⟨?_, BR.out⟩
        rw [HT.out]
        exact congrArg (fun z => Ending.returned (st ((sEpoch ++ Lib.decDigits n) ++ rekW z))) HKT.out
end Tx
end Go.Proofs.YtmlmlmcmhpahpaaDoor
