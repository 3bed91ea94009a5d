/- Rekeys as texts: RekeyText of the model. -/
import Derived.Test.YtapmgbnhobpahaaGreatDoorPart0
import Derived.Test.YtapmgbnhobpahaaGreatDoorPart1
import Derived.Defers
import Derived.Recover
import Derived.Deep.RegionWith
import Derived.Deep.RegionHeld3
import Derived.Deep.AppendLies
import Derived.Shelf.Strings.OnBuilder
namespace Go.Proofs.YtapmgbnhobpahaaGreatDoor
open Go.RowKit Go.Shelf
namespace Tx

/-- Cells that hold these values, and nothing has turned since w. -/
def CsL (w : World) (cs : List (Addr × Value)) (W : World) : Prop := (∀ x ∈ cs, W.cell? x.1 = some x.2) ∧ Below w.heap.size w W
theorem CsL.later {w W W' : World} {cs : List (Addr × Value)} (h : CsL w cs W) (hb : Below W.heap.size W W') : CsL w cs W' := ⟨fun x hx => cell_since (h.1 x hx) hb, h.2.trans (hb.mono h.2.size)⟩

/-- A wrap's text, a rekey's text. -/
def wrapT (x : W4) : List UInt8 := keyT x.1.toNat x.2.1.toNat ++ 62 :: keyT x.2.2.1.toNat x.2.2.2.toNat
abbrev sEpoch : List UInt8 := [101, 112, 111, 99, 104, 32]
def rekW (ws : List W4) : List UInt8 := ws.flatMap fun x => 32 :: wrapT x
def rekT (ep : Int) (ws : List W4) : List UInt8 := (sEpoch ++ Lib.decDigits ep.toNat) ++ rekW ws
def rekText (ep : Int) (ws : List W4) : List UInt8 := if rkB ep ws = true then rekT ep ws else []

theorem keyT_len {n v : Nat} (hn : n ≤ 1000000000) (hv : v ≤ 1000000000) : (keyT n v).length ≤ 21 := by
  have h1 := dec_len 9 n (by omega)
  have h2 := dec_len 9 v (by omega)
  simp [keyT]
  omega
theorem okK_nat {a b : Int} (h : okK a b = true) : 1 ≤ a ∧ a ≤ 15 ∧ 1 ≤ b ∧ b ≤ 1000000000 := by
  unfold okK at h
  simp at h
  omega
theorem okW_nat {x : W4} (h : okW x = true) : (1 ≤ x.1 ∧ x.1 ≤ 15 ∧ 1 ≤ x.2.1 ∧ x.2.1 ≤ 1000000000) ∧ (1 ≤ x.2.2.1 ∧ x.2.2.1 ≤ 15 ∧ 1 ≤ x.2.2.2 ∧ x.2.2.2 ≤ 1000000000) := by
  unfold okW at h
  simp only [Bool.and_eq_true] at h
  exact ⟨okK_nat h.1, okK_nat h.2⟩
theorem wrapT_len {x : W4} (h : okW x = true) : (wrapT x).length ≤ 43 := by
  have := okW_nat h
  have h1 := keyT_len (n := x.1.toNat) (v := x.2.1.toNat) (by omega) (by omega)
  have h2 := keyT_len (n := x.2.2.1.toNat) (v := x.2.2.2.toNat) (by omega) (by omega)
  simp [wrapT]
  omega
theorem rekW_len : ∀ (ws : List W4), (∀ x ∈ ws, okW x = true) → (rekW ws).length ≤ 44 * ws.length
  | [], _ => by simp [rekW]
  | x :: ws, h => by
    have h1 := rekW_len ws (fun y hy => h y (List.mem_cons_of_mem _ hy))
    have h2 := wrapT_len (h x (by simp))
    have e : (rekW (x :: ws)).length = 1 + (wrapT x).length + (rekW ws).length := by simp [rekW]; omega
    rw [e]
    simp
    omega
theorem rekW_snoc (ws : List W4) (x : W4) : rekW (ws ++ [x]) = rekW ws ++ 32 :: wrapT x := by simp [rekW]
theorem rkB_nat {ep : Int} {ws : List W4} (h : rkB ep ws = true) : 1 ≤ ep ∧ ep ≤ 1000000000 ∧ ws.length ≤ 400 ∧ ∀ x ∈ ws, okW x = true := by
  unfold rkB wrapsB at h
  simp at h
  exact ⟨h.1.1, h.1.2, h.2.1, fun x hx => h.2.2 _ _ _ _ hx⟩
theorem nat_of {a : Int} (h : 1 ≤ a) : a = ((a.toNat : Nat) : Int) := by omega

set_option maxRecDepth 100000 in
set_option maxHeartbeats 2000000 in
theorem specRekeyText_any {B : Nat} {x : Value} {ws : List W4} {w : World} (ep : Int) (h : Wraps B x ws w) :
    Calls Tryz.prog 12 #[rv ep x] w fun e w' => e = .returned (st (rekText ep ws)) ∧ Below w.heap.size w w' := by
  obtain ⟨ax, cx, hx⟩ := wrapsRow h
  obtain ⟨N, HLEN⟩ : ∃ N, Hid (ws.length = N) := ⟨_, rfl⟩
  rw [HLEN.out] at hx
  subst hx
  cases hR : rkB ep ws with
  | false =>
    have HT := hidT (show rekText ep ws = [] by simp [rekText, hR])
    have HW := hidT (wrapsSince h (oneB w (rb ep (.slice ax N cx))))
    clear h
    go_enter Tryz.func12, Tryz.ntmps12
    go_wp2_with fail
    refine (l4RekeyOk_any ep HW.out).mono ?_
    rintro e w1 ⟨rfl, hb⟩
    rw [hR]
    have HB := hidT ((oneB _ _).trans (hb.mono (by simp)))
    clear hb
    go_wp2
    go_ret
    exact ⟨by rw [HT.out]; rfl, HB.out⟩
  | true =>
    have HT := hidT (show rekText ep ws = (sEpoch ++ Lib.decDigits ep.toNat) ++ rekW ws by simp [rekText, hR, rekT])
    obtain ⟨he1, he2, hlen, hok⟩ := rkB_nat hR
    have HOK := hidT hok
    clear hok
    obtain ⟨n, rfl⟩ : ∃ n : Nat, ep = (n : Int) := ⟨ep.toNat, by omega⟩
    have hl0 := dec_len 9 n (by omega)
    have ha := fun w => run_string_add_lists (P := Tryz.prog) w sEpoch (Lib.decDigits n) (by simp) (by omega)
    rw [HLEN.out] at hlen
    have HW := hidT (wrapsSince h (oneB w (rb n (.slice ax N cx))))
    have P1 := hidT (heap_new w (rb n (.slice ax N cx)))
    clear h
    go_enter Tryz.func12, Tryz.ntmps12
    go_wp2_with fail
    refine (l4RekeyOk_any (n : Int) HW.out).mono ?_
    rintro e w1 ⟨rfl, hb⟩
    rw [hR]
    have B1 := hidT ((oneB _ _).trans (hb.mono (by simp)))
    have P1 := hidT ((hb.block _ (cell_lt (blk2 P1.out).1)).trans P1.out)
    have HW := hidT (wrapsSince HW.out hb)
    clear hb
    obtain ⟨c0, c1, f0, f1⟩ := blk2 P1.out
    go_wp2_with (go_at_call 33; refine (l1Dec_any n (by omega) _).mono ?_; rintro e w2 ⟨rfl, hb2⟩)
    have B2 := hidT (B1.out.trans (hb2.mono B1.out.size))
    have P2 := hidT ((hb2.block _ (cell_lt (blk2 P1.out).1)).trans P1.out)
    have HW2 := hidT (wrapsSince HW.out hb2)
    clear hb2 c0 c1 f0 f1 HW P1 B1
    go_loopw [3, 4] (fun sv iv wr => ∃ k : Nat, k ≤ N ∧ iv = .int .i64 (k : Int) ∧ sv = st ((sEpoch ++ Lib.decDigits n) ++ rekW (ws.take k)) ∧ Below w2.heap.size w2 wr) (fun _ iv _ => N - (intOf iv).toNat)
    case atStart => exact ⟨0, Nat.zero_le _, rfl, by simp [rekW], Below.refl _ _⟩
    case round =>
      obtain ⟨k, hk, rfl, rfl, hB⟩ := hrel
      have BR := hidT (B2.out.trans (hB.mono B2.out.size))
      have PR := hidT ((hB.block _ (cell_lt (blk2 P2.out).1)).trans P2.out)
      have WR := hidT (wrapsSince HW2.out hB)
      have HBR := hidT hB
      clear hB
      obtain ⟨c0, c1, f0, f1⟩ := blk2 PR.out
      by_cases hlt : k < N
      · have hi : (k : Int) < (N : Int) := by omega
        have hlt' : k < ws.length := by rw [HLEN.out]; exact hlt
        obtain ⟨g, cap, hxe, _, hg, _, _, hseg, _⟩ : ∃ g cap, Value.slice ax N cx = .slice (some ⟨g, 0, none⟩) ws.length cap ∧ B ≤ g ∧ g < wr.heap.size ∧ ws.length ≤ cap ∧ cap ≤ maxLen ∧ WSeg g 0 ws wr ∧ ∀ o, wr.frozen? ⟨g, o, none⟩ = false := by
          rcases WR.out.form with ⟨e1, e2⟩ | h
          · rw [e2] at hlt'; simp at hlt'
          · exact h
        injection hxe with e1 e2 e3
        subst e1
        clear e2 e3
        obtain ⟨q0, q1, q2, q3⟩ := hseg k hlt'
        clear hseg
        have HO := okW_nat (HOK.out _ (List.getElem_mem hlt'))
        have HTK := hidT (show ws.take (k + 1) = ws.take k ++ [ws[k]] by rw [List.take_add_one, List.getElem?_eq_getElem hlt']; rfl)
        have HRL := hidT (rekW_len (ws.take k) (fun y hy => HOK.out y (List.mem_of_mem_take hy)))
        have hwl : (rekW (ws.take k)).length ≤ 17600 := by
          have := HRL.out
          rw [List.length_take] at this
          omega
        generalize hwk : ws[k] = wk at q0 q1 q2 q3 HO HTK
        obtain ⟨a, b, c, d⟩ := wk
        simp only [Nat.zero_add] at q0 q1 q2 q3
        simp only at HO
        obtain ⟨a, rfl⟩ : ∃ n : Nat, a = (n : Int) := ⟨a.toNat, by omega⟩
        obtain ⟨b, rfl⟩ : ∃ n : Nat, b = (n : Int) := ⟨b.toNat, by omega⟩
        obtain ⟨c, rfl⟩ : ∃ n : Nat, c = (n : Int) := ⟨c.toNat, by omega⟩
        obtain ⟨d, rfl⟩ : ∃ n : Nat, d = (n : Int) := ⟨d.toNat, by omega⟩
        have HWT := hidT (show wrapT ((a : Int), (b : Int), (c : Int), (d : Int)) = keyT a b ++ 62 :: keyT c d by simp [wrapT])
        have ka := keyT_len (n := a) (v := b) (by omega) (by omega)
        have kc := keyT_len (n := c) (v := d) (by omega) (by omega)
        have HR0 := hidT (show rekW (ws.take (k + 1)) = rekW (ws.take k) ++ 32 :: (keyT a b ++ 62 :: keyT c d) by rw [HTK.out, rekW_snoc, HWT.out])
        generalize hS : (sEpoch ++ Lib.decDigits n) ++ rekW (ws.take k) = S
        have hSl : S.length ≤ 20000 := by rw [← hS]; simp; omega
        have HS := hidT hS
        clear hS hwl
        have a1 := fun w => run_string_add_lists (P := Tryz.prog) w S [32] (by omega) (by simp)
        have a2 := fun w => run_string_add_lists (P := Tryz.prog) w (S ++ [32]) (keyT a b) (by simp; omega) (by omega)
        have a3 := fun w => run_string_add_lists (P := Tryz.prog) w (S ++ 32 :: keyT a b) [62] (by simp; omega) (by simp)
        have a4 := fun w => run_string_add_lists (P := Tryz.prog) w (S ++ 32 :: (keyT a b ++ [62])) (keyT c d) (by simp; omega) (by omega)
        have hS0 : CsL wr [(⟨w.heap.size, 1, none⟩, .slice (some ⟨g, 0, none⟩) N cx), (⟨g, k * 4, none⟩, .int .i64 a), (⟨g, k * 4 + 1, none⟩, .int .i64 b), (⟨g, k * 4 + 2, none⟩, .int .i64 c), (⟨g, k * 4 + 3, none⟩, .int .i64 d)] wr.drew := ⟨by simp [c1, q0, q1, q2, q3], (Below.refl _ _).drew⟩
        obtain ⟨cs, hcs⟩ : ∃ cs, cs = [((⟨w.heap.size, 1, none⟩ : Addr), Value.slice (some ⟨g, 0, none⟩) N cx), (⟨g, k * 4, none⟩, .int .i64 a), (⟨g, k * 4 + 1, none⟩, .int .i64 b), (⟨g, k * 4 + 2, none⟩, .int .i64 c), (⟨g, k * 4 + 3, none⟩, .int .i64 d)] := ⟨_, rfl⟩
        rw [← hcs] at hS0
        have hSN := SW.some hS0
        have s1 := fun s : SW (CsL wr cs) => s.is.1 (⟨w.heap.size, 1, none⟩, .slice (some ⟨g, 0, none⟩) N cx) (by simp [hcs])
        have s2 := fun s : SW (CsL wr cs) => s.is.1 (⟨g, k * 4, none⟩, .int .i64 a) (by simp [hcs])
        have s3 := fun s : SW (CsL wr cs) => s.is.1 (⟨g, k * 4 + 1, none⟩, .int .i64 b) (by simp [hcs])
        have s4 := fun s : SW (CsL wr cs) => s.is.1 (⟨g, k * 4 + 2, none⟩, .int .i64 c) (by simp [hcs])
        have s5 := fun s : SW (CsL wr cs) => s.is.1 (⟨g, k * 4 + 3, none⟩, .int .i64 d) (by simp [hcs])
        simp only at s1 s2 s3 s4 s5
        have HCS := hidT hcs
        clear hcs q0 q1 q2 q3
        go_wp2
        refine wp_region_S (CsL wr cs) (by kernel_rfl) (by kernel_rfl) hS0 ?_
        repeat (go_big_quiet_step ((rename_i s0; go_at_call 35; refine (l8Key_any _ _ (by omega) (by omega) _).mono ?_; rintro e w' ⟨rfl, hb⟩; exact ⟨rfl, SW.of (s0.is.later hb)⟩)))
        refine wpQuiet_nil ?_
        rintro _ ⟨s, rfl⟩
        have hBf := s.is.2
        generalize s.w = W at hBf ⊢
        clear hS0 hSN s1 s2 s3 s4 s5 s
        go_wp2
        go_roundw
        case rel =>
          refine ⟨k + 1, by omega, by go_num, ?_, HBR.out.trans (hBf.mono HBR.out.size)⟩
          rw [HR0.out, ← List.append_assoc, HS.out]
        case measure => simp [intOf]; omega
      · have hi : ¬ (k : Int) < (N : Int) := by omega
        have HKT := hidT (show ws.take k = ws by exact List.take_of_length_le (by rw [HLEN.out]; omega))
        go_wp2
        go_ret
        refine ⟨?_, BR.out⟩
        rw [HT.out]
        exact congrArg (fun z => Ending.returned (st ((sEpoch ++ Lib.decDigits n) ++ rekW z))) HKT.out
end Tx
end Go.Proofs.YtapmgbnhobpahaaGreatDoor
/- sameRekey of two that are the same. -/
namespace Go.Proofs.YtapmgbnhobpahaaGreatDoor
open Go.RowKit Go.Shelf
namespace Tx

set_option maxRecDepth 100000 in
set_option maxHeartbeats 2000000 in
theorem sameRekey_same {B C : Nat} {u v : Value} {ws : List W4} {w : World} (ep : Int) (hx : Wraps B u ws w) (hy : Wraps C v ws w) :
    Calls Tryz.prog 13 #[rv ep u, rv ep v] w fun e w' => e = .returned (.bool true) ∧ Below w.heap.size w w' := by
  have hB2 := two_below w (rb ep u) (rb ep v)
  obtain ⟨c0, c1⟩ := rcell2 w ep u
  have d0 := cell_since c0 (one_below _ (rb ep v))
  have d1 := cell_since c1 (one_below _ (rb ep v))
  obtain ⟨p0, p1⟩ := rcell2 (w.alloc (rb ep u)) ep v
  have HX := hidT (wrapsSince hx hB2)
  have HY := hidT (wrapsSince hy hB2)
  obtain ⟨ax, cx, hxe⟩ := wrapsRow hx
  obtain ⟨ay, cy, hye⟩ := wrapsRow hy
  obtain ⟨N, HLEN⟩ : ∃ N, Hid (ws.length = N) := ⟨_, rfl⟩
  rw [HLEN.out] at hxe hye
  subst hxe hye
  have HB2 := hidT hB2
  clear c0 c1 hx hy hB2
  simp only [World.size_alloc] at p0 p1
  go_enter Tryz.func13, Tryz.ntmps13
  go_wp2
  generalize (w.alloc (.cells #[.int .i64 ep, .slice ax N cx] 32)).alloc (.cells #[.int .i64 ep, .slice ay N cy] 32) = w2 at d0 d1 p0 p1 HX HY HB2 ⊢
  have hNm : N ≤ maxLen := by
    rcases HX.out.form with ⟨_, h⟩ | ⟨g, cap, _, _, _, h1, h2, _⟩
    · rw [← HLEN.out, h]; simp
    · rw [← HLEN.out]; omega
  unfold maxLen at hNm
  go_loopw [5] (fun iv wr => ∃ (k q : Nat), k ≤ N ∧ iv = .int .i64 (k : Int) ∧ wr = w2.drewN q) (fun iv _ => N - (intOf iv).toNat)
  case atStart => exact ⟨0, 0, Nat.zero_le _, rfl, rfl⟩
  case round =>
    obtain ⟨k, q, hk, rfl, rfl⟩ := hrel
    by_cases hlt : k < N
    · have hi : (k : Int) < (N : Int) := by omega
      have hlt' : k < ws.length := by rw [HLEN.out]; exact hlt
      obtain ⟨g, hg⟩ : ∃ g, ax = some ⟨g, 0, none⟩ ∧ WSeg g 0 ws w2 := by
        rcases HX.out.form with ⟨_, h⟩ | ⟨g, cap, e, _, _, _, _, hseg, _⟩
        · rw [h] at hlt'; simp at hlt'
        · injection e with e1 e2 e3
          exact ⟨g, e1, hseg⟩
      obtain ⟨g', hg'⟩ : ∃ g, ay = some ⟨g, 0, none⟩ ∧ WSeg g 0 ws w2 := by
        rcases HY.out.form with ⟨_, h⟩ | ⟨g, cap, e, _, _, _, _, hseg, _⟩
        · rw [h] at hlt'; simp at hlt'
        · injection e with e1 e2 e3
          exact ⟨g, e1, hseg⟩
      obtain ⟨rfl, hs⟩ := hg
      obtain ⟨rfl, hs'⟩ := hg'
      obtain ⟨q0, q1, q2, q3⟩ := hs k hlt'
      obtain ⟨r0, r1, r2, r3⟩ := hs' k hlt'
      clear hs hs'
      generalize ws[k].1 = z0 at q0 r0
      generalize ws[k].2.1 = z1 at q1 r1
      generalize ws[k].2.2.1 = z2 at q2 r2
      generalize ws[k].2.2.2 = z3 at q3 r3
      simp only [Nat.zero_add] at q0 q1 q2 q3 r0 r1 r2 r3
      go_wp2
      go_quiet (fail)
      go_wp2
      go_roundw
      case rel => exact ⟨k + 1, _, by omega, by go_num, rfl⟩
      case measure => simp [intOf]; omega
    · have hi : ¬ (k : Int) < (N : Int) := by omega
      go_wp2
      go_ret
      exact ⟨rfl, below_drewN HB2.out q⟩
end Tx
end Go.Proofs.YtapmgbnhobpahaaGreatDoor
/- What is read whole: readWhole of the program at ops. A part that gives up answers false and the zero op. -/
namespace Go.Proofs.YtapmgbnhobpahaaGreatDoor
open Go.RowKit Go.Shelf
namespace Tx

abbrev bb (z : Bool) : Obj := .cells #[.bool z] 4
theorem catchOp_panicking (p q : Nat) (x y : Int) (z : Bool) (u : TypeId) (pv : Value) (older : List PanicEntry) (w : World) (hp : w.heap[p]? = some (opb x y)) (hq : w.heap[q]? = some (bb z)) (hpq : p ≠ q) :
    CallsD Tryz.prog 44 #[.pointer (some ⟨p, 0, none⟩), .pointer (some ⟨q, 0, none⟩)] (.panicking ({ v := .iface u pv, recovered := false } :: older)) w fun e u' w' =>
      e = .returned (.tuple #[]) ∧ u' = .panicking ({ v := .iface u pv, recovered := true } :: older) ∧ w' = (((w.setCell ⟨p, 0, none⟩ (.int .i64 0)).setCell ⟨p, 1, none⟩ (.int .i64 0)).setCell ⟨q, 0, none⟩ (.bool false)).alloc (opb 0 0) := by
  refine callsD_of_wpS Tryz.func44 rfl fun c₀ cs hu => ?_
  apply wpS_seq
  apply wpS_region
  simp [wpOpsS, go_sem, recoverD, hu, Tryz.ntmps44, Exit.thenS]
  refine wpS_cond (t := true) (by simp [Act.eval, Array.replicate]) ?_
  simp only [if_true]
  obtain ⟨c0, c1, f0, f1⟩ := blk2 hp
  have d0 : w.cell? ⟨q, 0, none⟩ = some (.bool z) := by simp [World.cell?, hq]
  have z0 : w.frozen? ⟨q, 0, none⟩ = false := by simp [World.frozen?, hq]
  have lp : p < w.heap.size := cell_lt c0
  have lq : q < w.heap.size := cell_lt d0
  refine wpS_of_wp ?_
  change Code.wp Tryz.prog _ _ { tmps := #[.pointer (some ⟨p, 0, none⟩), .pointer (some ⟨q, 0, none⟩), undef, .iface u pv, .bool true, undef], defers := [] } w
  go_wp2
  simp [bodyPostS, results, Tryz.results44]

theorem catchOp_idle (p q : Addr) (w : World) :
    CallsD Tryz.prog 44 #[.pointer (some p), .pointer (some q)] .returning w fun e u' w' => e = .returned (.tuple #[]) ∧ u' = .returning ∧ w' = w := by
  refine callsD_of_wpS Tryz.func44 rfl fun c₀ cs hu => ?_
  apply wpS_seq
  apply wpS_region
  simp [wpOpsS, go_sem, recoverD, hu, Tryz.ntmps44, Exit.thenS]
  refine wpS_cond (t := false) (by simp [Act.eval, Array.replicate]) ?_
  simp only [Bool.false_eq_true, if_false]
  refine wpS_of_wp (wp_skip ?_)
  cases c₀
  simp_all [bodyPostS, results, Tryz.results44]

/-- What the deferred closure lays where the body gave up. -/
theorem caught {w1 : World} {p q : Nat} {x y : Int} {z : Bool} (hp : w1.heap[p]? = some (opb x y)) (hq : w1.heap[q]? = some (bb z)) (hpq : p ≠ q) :
    ∃ w2 : World, w2 = (((w1.setCell ⟨p, 0, none⟩ (.int .i64 0)).setCell ⟨p, 1, none⟩ (.int .i64 0)).setCell ⟨q, 0, none⟩ (.bool false)).alloc (opb 0 0) ∧
      w2.cell? ⟨p, 0, none⟩ = some (.int .i64 0) ∧ w2.cell? ⟨p, 1, none⟩ = some (.int .i64 0) ∧ w2.cell? ⟨q, 0, none⟩ = some (.bool false) ∧ (∀ i, i < w1.heap.size → i ≠ p → i ≠ q → w2.heap[i]? = w1.heap[i]?) ∧ w2.os = w1.os ∧ w2.tape = w1.tape ∧ w2.output = w1.output ∧ w1.heap.size ≤ w2.heap.size := by
  refine ⟨_, rfl, ?_⟩
  obtain ⟨s1, s2⟩ := set2 (.int .i64 0) (.int .i64 0) hp
  have hq1 := (s2.block q (by
    rcases Nat.lt_or_ge q w1.heap.size with h | h
    · exact h
    · simp [Array.getElem?_eq_none h] at hq) (by simpa using fun e => hpq e.symm)).trans hq
  have hz := s2.size
  have lp : p < w1.heap.size := cell_lt (blk2 hp).1
  have so := s2.os
  have st := s2.tape
  have su := s2.output
  have sb := s2.block
  generalize ((w1.setCell ⟨p, 0, none⟩ (.int .i64 0)).setCell ⟨p, 1, none⟩ (.int .i64 0)) = wa at s1 hq1 hz so st su sb ⊢
  have g := setBy (b := q) wa (.bool false)
  have e1 : (wa.setCell ⟨q, 0, none⟩ (.bool false)).heap[q]? = some (bb false) := by
    simp only [World.setCell, Array.getElem?_modify, hq1]
    simp
  have e2 := (g.block p (cell_lt (blk2 s1).1) (by simpa using fun e => hpq e)).trans s1
  have go := g.os
  have gt := g.tape
  have gu := g.output
  have gz := g.size
  have gb := g.block
  generalize wa.setCell ⟨q, 0, none⟩ (.bool false) = wb at e1 e2 go gt gu gz gb ⊢
  have f1 := (heap_old wb (opb 0 0) (cell_lt (blk2 e2).1)).trans e2
  have lq : q < wb.heap.size := (Array.getElem?_eq_some_iff.1 e1).1
  have f2 := (heap_old wb (opb 0 0) lq).trans e1
  obtain ⟨c0, c1, _, _⟩ := blk2 f1
  refine ⟨c0, c1, by simp [World.cell?, f2], fun i hi h1 h2 => ?_, ?_, ?_, ?_, ?_⟩
  · rw [heap_old wb (opb 0 0) (by omega), gb i (by omega) (by simpa using fun e => h2 e), sb i hi (by simpa using fun e => h1 e)]
  · exact (show (wb.alloc (opb 0 0)).os = wb.os from rfl).trans (go.trans so)
  · exact (show (wb.alloc (opb 0 0)).tape = wb.tape from rfl).trans (gt.trans st)
  · exact (show (wb.alloc (opb 0 0)).output = wb.output from rfl).trans (gu.trans su)
  · rw [World.size_alloc]; omega
/-- What is read, if nothing stands behind it. -/
def wholeOp (l : List UInt8) : Int × Int × Bool := match pOp l with
  | some (x, []) => (x.1, x.2, true)
  | _ => (0, 0, false)
theorem wholeOp_some {l : List UInt8} {x : Int × Int} (h : pOp l = some (x, [])) : wholeOp l = (x.1, x.2, true) := by simp [wholeOp, h]
theorem wholeOp_more {l : List UInt8} {x : Int × Int} {y : UInt8} {r : List UInt8} (h : pOp l = some (x, y :: r)) : wholeOp l = (0, 0, false) := by simp [wholeOp, h]
theorem wholeOp_none {l : List UInt8} (h : pOp l = none) : wholeOp l = (0, 0, false) := by simp [wholeOp, h]
abbrev opFn (b : Nat) : Value := .func (.func 25) #[rp b] #[]

set_option maxRecDepth 100000 in
set_option maxHeartbeats 1000000 in
theorem wholeOp_any (b : Nat) (ev : Value) (l : List UInt8) (w : World) (h : Rdr b l w) (hN : NoText b ev w) (hF : FormX b w) (hl : l.length ≤ 1048576) :
    Calls Tryz.prog 24 #[rp b, opFn b] w fun e w' => e = .returned (.tuple #[kv (wholeOp l).1 (wholeOp l).2.1, .bool (wholeOp l).2.2]) ∧ w.grownBy w' (some b) := by
  have hmf : ∀ (fn : Fn) (first cap : Array Value) (w : World), (Instr.makeFunc fn first cap).run Tryz.prog w = .ok (.func fn first cap) w := fun _ _ _ _ => rfl
  have HR := hidT h
  have HN := hidT hN
  have HF := hidT hF
  have hbl := h.lt
  have G0 := hidT (((World.grownBy.refl w (some b)).trans (World.grownBy_alloc w (opb 0 0) (some b))).trans (World.grownBy_alloc _ (bb false) (some b)))
  have R0 : Hid (Rdr b l ((w.alloc (opb 0 0)).alloc (bb false))) := (h.since (oneB _ _)).since (oneB _ _)
  have P0 := hidT (show ((w.alloc (opb 0 0)).alloc (bb false)).heap[w.heap.size]? = some (opb 0 0) from (heap_old _ _ (by simp)).trans (heap_new _ _))
  have Q0 := hidT (show ((w.alloc (opb 0 0)).alloc (bb false)).heap[w.heap.size + 1]? = some (bb false) by have := heap_new (w.alloc (opb 0 0)) (bb false); rwa [World.size_alloc] at this)
  clear h hN hF
  go_enter_defers Tryz.func24, Tryz.ntmps24
  go_wp2_with fail
  refine (op_any b ev l _ R0.out (HN.out.grown G0.out) (HF.out.grown G0.out) hl).mono ?_
  rintro e w1 (⟨v, l', hv, rfl, R1, g1⟩ | ⟨hv, rfl, g1⟩)
  · obtain ⟨k, m, hpo, rfl⟩ : ∃ k m, pOp l = some ((k, m), l') ∧ v = kv k m := by
      cases hn : pOp l with
      | none => simp [hn] at hv
      | some x =>
        simp [hn] at hv
        obtain ⟨e1, e2⟩ := hv
        exact ⟨x.1.1, x.1.2, by rw [← e2], e1.symm⟩
    have P1 := hidT ((g1.block _ (cell_lt (blk2 P0.out).1) (by simp; omega)).trans P0.out)
    have Q1 := hidT ((g1.block _ ((Array.getElem?_eq_some_iff.1 Q0.out).1) (by simp; omega)).trans Q0.out)
    have G1 := hidT (G0.out.trans g1)
    have R1 := hidT R1
    clear g1 hv
    obtain ⟨c0, c1, f0, f1⟩ := blk2 P1.out
    have HT := hidT (set2 (.int .i64 k) (.int .i64 m) P1.out)
    have G2 := hidT (G1.out.andThen HT.out.2 (fun j e => .inl (by cases e; first | omega | exact Nat.le_refl _)))
    have R2 : Hid (Rdr b l' _) := (HT.out.2.block b R1.out.lt (by simp; omega)).trans R1.out
    have Q2 := hidT ((HT.out.2.block _ ((Array.getElem?_eq_some_iff.1 Q1.out).1) (by simp)).trans Q1.out)
    have P2 := hidT HT.out.1
    have hr := R1.out.cell
    have hb0 : ¬ b = w.heap.size := by omega
    have hb1 : ¬ w.heap.size = b := by omega
    clear HT
    have HPO := hidT hpo
    clear hpo
    have q0 : w1.cell? ⟨w.heap.size + 1, 0, none⟩ = some (.bool false) := by simp [World.cell?, Q1.out]
    have q1 : w1.frozen? ⟨w.heap.size + 1, 0, none⟩ = false := by simp [World.frozen?, Q1.out]
    cases l' with
    | nil =>
      go_wp2
      generalize ((w1.setCell ⟨w.heap.size, 0, none⟩ (.int .i64 k)).setCell ⟨w.heap.size, 1, none⟩ (.int .i64 m)) = w2 at G2 R2 P2 Q2 ⊢
      clear c0 c1 f0 f1 hr q0 q1 R1 P1 Q1 G1
      have HT := hidT (set2 (.int .i64 k) (.int .i64 m) P2.out)
      have G3 := hidT (G2.out.andThen HT.out.2 (fun j e => .inl (by cases e; first | omega | exact Nat.le_refl _)))
      have Q3 := hidT ((HT.out.2.block _ ((Array.getElem?_eq_some_iff.1 Q2.out).1) (by simp)).trans Q2.out)
      have P3 := hidT HT.out.1
      clear HT P2 Q2 R2 G2
      generalize ((w2.setCell ⟨w.heap.size, 0, none⟩ (.int .i64 k)).setCell ⟨w.heap.size, 1, none⟩ (.int .i64 m)) = w3 at G3 P3 Q3 ⊢
      have g4 := setBy (b := w.heap.size + 1) w3 (.bool true)
      have G4 := hidT (G3.out.andThen g4 (fun j e => .inl (by cases e; first | omega | exact Nat.le_refl _)))
      have P4 := hidT ((g4.block _ (cell_lt (blk2 P3.out).1) (by simp)).trans P3.out)
      have Q4 : Hid ((w3.setCell ⟨w.heap.size + 1, 0, none⟩ (.bool true)).heap[w.heap.size + 1]? = some (bb true)) := by
        show (w3.setCell ⟨w.heap.size + 1, 0, none⟩ (.bool true)).heap[w.heap.size + 1]? = some (bb true)
        simp only [World.setCell, Array.getElem?_modify, Q3.out]
        simp
      clear g4
      generalize w3.setCell ⟨w.heap.size + 1, 0, none⟩ (.bool true) = w4 at G4 P4 Q4 ⊢
      refine leaves_cons (f := 44) (args := #[.pointer (some ⟨w.heap.size, 0, none⟩), .pointer (some ⟨w.heap.size + 1, 0, none⟩)]) (by simp) (by simp [go_sem]) ?_
      refine (catchOp_idle _ _ _).mono ?_
      rintro e u' w'' ⟨rfl, rfl, hw⟩
      subst hw
      obtain ⟨k0, k1, _, _⟩ := blk2 P4.out
      have k2 : w''.cell? ⟨w.heap.size + 1, 0, none⟩ = some (.bool true) := by simp [World.cell?, Q4.out]
      have HW := hidT (wholeOp_some HPO.out)
      simp [Leaves, settle, results, Tryz.results24, go_sem, k0, k1, k2]
      exact ⟨by rw [HW.out]; simp, G4.out⟩
    | cons y r =>
      go_wp2_with (go_at_call 45; refine (giveUp_any b ev _ (HN.out.grown G2.out)).mono ?_; rintro e w' ⟨rfl, rfl⟩)
      generalize ((w1.setCell ⟨w.heap.size, 0, none⟩ (.int .i64 k)).setCell ⟨w.heap.size, 1, none⟩ (.int .i64 m)) = w2 at G2 R2 P2 Q2 ⊢
      obtain ⟨wE, hE, k0, k1, k2, kb, ko, kt, ku, kz⟩ := caught P2.out Q2.out (by omega)
      obtain ⟨te, ve, rfl⟩ := HN.out.err
      refine leaves_cons (f := 44) (args := #[.pointer (some ⟨w.heap.size, 0, none⟩), .pointer (some ⟨w.heap.size + 1, 0, none⟩)]) (by simp) (by simp [go_sem]) ?_
      refine (catchOp_panicking w.heap.size (w.heap.size + 1) _ _ _ te ve [] _ P2.out Q2.out (by omega)).mono ?_
      rintro e u' w'' ⟨rfl, rfl, hw⟩
      rw [← hE] at hw
      subst hw
      have HQ := hidT (show w.grownBy w'' (some b) from ⟨ko.trans G2.out.os, kt.trans G2.out.tape, ku.trans G2.out.output, Nat.le_trans G2.out.size kz, fun i hi hne => (kb i (Nat.lt_of_lt_of_le hi G2.out.size) (by omega) (by omega)).trans (G2.out.block i hi hne)⟩)
      have HW := hidT (wholeOp_more HPO.out)
      clear hE kb ko kt ku kz
      simp [Leaves, settle, results, Tryz.results24, go_sem, k0, k1, k2]
      exact ⟨by rw [HW.out]; simp, HQ.out⟩
  · have hp0 : pOp l = none := by simpa using hv
    have P1 := hidT ((g1.block _ (cell_lt (blk2 P0.out).1) (by simp; omega)).trans P0.out)
    have Q1 := hidT ((g1.block _ ((Array.getElem?_eq_some_iff.1 Q0.out).1) (by simp; omega)).trans Q0.out)
    have G1 := hidT (G0.out.trans g1)
    clear g1 hv
    go_wp2
    obtain ⟨wE, hE, k0, k1, k2, kb, ko, kt, ku, kz⟩ := caught P1.out Q1.out (by omega)
    obtain ⟨te, ve, rfl⟩ := HN.out.err
    refine leaves_cons (f := 44) (args := #[.pointer (some ⟨w.heap.size, 0, none⟩), .pointer (some ⟨w.heap.size + 1, 0, none⟩)]) (by simp) (by simp [go_sem]) ?_
    refine (catchOp_panicking w.heap.size (w.heap.size + 1) _ _ _ te ve [] _ P1.out Q1.out (by omega)).mono ?_
    rintro e u' w'' ⟨rfl, rfl, hw⟩
    rw [← hE] at hw
    subst hw
    have HQ := hidT (show w.grownBy w'' (some b) from ⟨ko.trans G1.out.os, kt.trans G1.out.tape, ku.trans G1.out.output, Nat.le_trans G1.out.size kz, fun i hi hne => (kb i (Nat.lt_of_lt_of_le hi G1.out.size) (by omega) (by omega)).trans (G1.out.block i hi hne)⟩)
    have HW := hidT (wholeOp_none hp0)
    clear hE kb ko kt ku kz
    simp [Leaves, settle, results, Tryz.results24, go_sem, k0, k1, k2]
    exact ⟨by rw [HW.out]; simp, HQ.out⟩
end Tx
end Go.Proofs.YtapmgbnhobpahaaGreatDoor
/- Keys and wraps off the program's reader. -/
namespace Go.Proofs.YtapmgbnhobpahaaGreatDoor
open Go.RowKit Go.Shelf
namespace Tx

def pKey (l : List UInt8) : Option ((Int × Int) × List UInt8) := (pNum l).bind fun x => (pNeed [46] x.2).bind fun r => (pNum r).map fun y => ((x.1, y.1), y.2)
theorem pNum_len {l r : List UInt8} {m : Int} (h : pNum l = some (m, r)) : r.length ≤ l.length := by
  unfold pNum at h
  by_cases hk : numOk (l.takeWhile isD) = true
  · rw [if_pos hk] at h
    injection h with h
    injection h with h1 h2
    rw [← h2]
    exact (List.dropWhile_sublist _).length_le
  · rw [if_neg hk] at h; cases h
theorem pNeed_len {q l r : List UInt8} (h : pNeed q l = some r) : r.length ≤ l.length := by
  unfold pNeed at h
  by_cases hk : Lib.hasPrefix l q = true
  · rw [if_pos hk] at h
    injection h with h
    rw [← h]; simp
  · rw [if_neg hk] at h; cases h
theorem pKey_len {l r : List UInt8} {k : Int × Int} (h : pKey l = some (k, r)) : r.length ≤ l.length := by
  unfold pKey at h
  cases h1 : pNum l with
  | none => simp [h1] at h
  | some x =>
    cases h2 : pNeed [46] x.2 with
    | none => simp [h1, h2] at h
    | some r2 =>
      cases h3 : pNum r2 with
      | none => simp [h1, h2, h3] at h
      | some y =>
        simp [h1, h2, h3] at h
        have a := pNum_len (m := x.1) (r := x.2) h1
        have b := pNeed_len h2
        have c := pNum_len (m := y.1) (r := y.2) h3
        rw [← h.2]; omega

set_option maxRecDepth 100000 in
theorem rdKey_any (b : Nat) (ev : Value) (l : List UInt8) (w : World) (h : Rdr b l w) (hN : NoText b ev w) (hl : l.length ≤ 1048576) :
    Calls Tryz.prog 71 #[rp b] w fun e w' => Ends b ev w ((pKey l).map fun x => (kv x.1.1 x.1.2, x.2)) e w' := by
  have HN := hidT hN
  have hbl := h.lt
  have G0 := hidT (World.grownBy_alloc w (kb 0 0) (some b))
  have R0 : Hid (Rdr b l (w.alloc (kb 0 0))) := h.since (oneB _ _)
  have P0 := hidT (heap_new w (kb 0 0))
  clear h hN
  go_enter Tryz.func71, Tryz.ntmps71
  go_wp2_with fail
  refine (number_any b ev l _ R0.out (HN.out.grown G0.out) hl).mono ?_
  rintro e w1 (⟨v, l1, hv, rfl, R1, g1⟩ | ⟨hv, rfl, g1⟩)
  · obtain ⟨m, hm, rfl⟩ : ∃ m, Hid (pNum l = some (m, l1)) ∧ v = .int .i64 m := by
      cases hn : pNum l with
      | none => simp [hn] at hv
      | some x =>
        simp [hn] at hv
        obtain ⟨e1, e2⟩ := hv
        exact ⟨x.1, hidT (by rw [← e2]), e1.symm⟩
    have hl1 := Nat.le_trans (pNum_len hm.out) hl
    have P1 := hidT ((g1.block _ (cell_lt (blk2 P0.out).1) (by simp; omega)).trans P0.out)
    have G1 := hidT (G0.out.trans g1)
    have R1 := hidT R1
    clear g1 hv
    go_wp2_with fail
    refine (need_any b ev l1 [46] w1 R1.out (HN.out.grown G1.out)).mono ?_
    rintro e w2 (⟨v, l2, hv, rfl, R2, g2⟩ | ⟨hv, rfl, g2⟩)
    · obtain ⟨hm2, rfl⟩ : Hid (pNeed [46] l1 = some l2) ∧ v = .tuple #[] := by
        cases hn : pNeed [46] l1 with
        | none => simp [hn] at hv
        | some x =>
          simp [hn] at hv
          obtain ⟨e1, e2⟩ := hv
          exact ⟨hidT (by rw [← e2]), e1.symm⟩
      have hl2 := Nat.le_trans (pNeed_len hm2.out) hl1
      have P2 := hidT ((g2.block _ (cell_lt (blk2 P1.out).1) (by simp; omega)).trans P1.out)
      have G2 := hidT (G1.out.trans g2)
      have R2 := hidT R2
      clear g2 hv
      go_wp2_with fail
      refine (number_any b ev l2 w2 R2.out (HN.out.grown G2.out) hl2).mono ?_
      rintro e w3 (⟨v, l3, hv, rfl, R3, g3⟩ | ⟨hv, rfl, g3⟩)
      · obtain ⟨m3, hm3, rfl⟩ : ∃ m, Hid (pNum l2 = some (m, l3)) ∧ v = .int .i64 m := by
          cases hn : pNum l2 with
          | none => simp [hn] at hv
          | some x =>
            simp [hn] at hv
            obtain ⟨e1, e2⟩ := hv
            exact ⟨x.1, hidT (by rw [← e2]), e1.symm⟩
        have P3 := hidT ((g3.block _ (cell_lt (blk2 P2.out).1) (by simp; omega)).trans P2.out)
        have G3 := hidT (G2.out.trans g3)
        have R3 := hidT R3
        clear g3 hv
        obtain ⟨d0, d1, z0, z1⟩ := blk2 P3.out
        have HT := hidT (set2 (.int .i64 m) (.int .i64 m3) P3.out)
        have G5 := hidT (G3.out.andThen HT.out.2 (fun j e => .inl (by cases e; first | omega | exact Nat.le_refl _)))
        have R5 : Hid (Rdr b l3 _) := (HT.out.2.block b R3.out.lt (by simp; omega)).trans R3.out
        have P5 := hidT HT.out.1
        clear HT
        go_wp2
        generalize ((w3.setCell ⟨w.heap.size, 0, none⟩ (.int .i64 m)).setCell ⟨w.heap.size, 1, none⟩ (.int .i64 m3)) = w5 at G5 R5 P5 ⊢
        obtain ⟨e0, e1, _, _⟩ := blk2 P5.out
        refine bodyPost_ret (v := kv m m3) (by simp [results, Tryz.results71, go_sem, e0, e1]) rfl (.inl ⟨_, l3, ?_, rfl, R5.out, G5.out⟩)
        simp [pKey, hm.out, hm2.out, hm3.out]
      · exact ⟨rfl, .inr ⟨by
          have : pNum l2 = none := by simpa using hv
          simp [pKey, hm.out, hm2.out, this], rfl, G2.out.trans g3⟩⟩
    · exact ⟨rfl, .inr ⟨by
        have : pNeed [46] l1 = none := by simpa using hv
        simp [pKey, hm.out, this], rfl, G1.out.trans g2⟩⟩
  · exact ⟨rfl, .inr ⟨by
      have : pNum l = none := by simpa using hv
      simp [pKey, this], rfl, G0.out.trans g1⟩⟩

theorem rdKey_yes {b : Nat} {ev : Value} {l l' : List UInt8} {w : World} {k m : Int} (h : Rdr b l w) (hN : NoText b ev w) (hl : l.length ≤ 1048576) (hk : pKey l = some ((k, m), l')) :
    Calls Tryz.prog 71 #[rp b] w fun e w' => e = .returned (kv k m) ∧ Rdr b l' w' ∧ w.grownBy w' (some b) := by
  refine (rdKey_any b ev l w h hN hl).mono ?_
  rintro e w' (⟨v, l2, hv, rfl, R, g⟩ | ⟨hv, _⟩)
  · rw [hk] at hv
    simp at hv
    obtain ⟨rfl, rfl⟩ := hv
    exact ⟨rfl, R, g⟩
  · rw [hk] at hv; cases hv
theorem blk4 {w : World} {b : Nat} {x y u v : Value} {t : TypeId} (h : w.heap[b]? = some (.cells #[x, y, u, v] t)) : w.cell? ⟨b, 0, none⟩ = some x ∧ w.cell? ⟨b, 1, none⟩ = some y ∧ w.cell? ⟨b, 2, none⟩ = some u ∧ w.cell? ⟨b, 3, none⟩ = some v ∧
    w.frozen? ⟨b, 0, none⟩ = false ∧ w.frozen? ⟨b, 1, none⟩ = false ∧ w.frozen? ⟨b, 2, none⟩ = false ∧ w.frozen? ⟨b, 3, none⟩ = false := by
  simp [World.cell?, World.frozen?, h]
theorem set4 {w : World} {q : Nat} {x y u v : Value} {t : TypeId} (x' y' u' v' : Value) (h : w.heap[q]? = some (.cells #[x, y, u, v] t)) :
    ((((w.setCell ⟨q, 0, none⟩ x').setCell ⟨q, 1, none⟩ y').setCell ⟨q, 2, none⟩ u').setCell ⟨q, 3, none⟩ v').heap[q]? = some (.cells #[x', y', u', v'] t) ∧ w.grownBy ((((w.setCell ⟨q, 0, none⟩ x').setCell ⟨q, 1, none⟩ y').setCell ⟨q, 2, none⟩ u').setCell ⟨q, 3, none⟩ v') (some q) := by
  have e1 : (w.setCell ⟨q, 0, none⟩ x').heap[q]? = some (.cells #[x', y, u, v] t) := by
    simp only [World.setCell, Array.getElem?_modify, h]
    simp
  have e2 : ((w.setCell ⟨q, 0, none⟩ x').setCell ⟨q, 1, none⟩ y').heap[q]? = some (.cells #[x', y', u, v] t) := by
    generalize w.setCell ⟨q, 0, none⟩ x' = w1 at e1
    simp only [World.setCell, Array.getElem?_modify, e1]
    simp
  have e3 : (((w.setCell ⟨q, 0, none⟩ x').setCell ⟨q, 1, none⟩ y').setCell ⟨q, 2, none⟩ u').heap[q]? = some (.cells #[x', y', u', v] t) := by
    generalize (w.setCell ⟨q, 0, none⟩ x').setCell ⟨q, 1, none⟩ y' = w1 at e2
    simp only [World.setCell, Array.getElem?_modify, e2]
    simp
  refine ⟨?_, ⟨rfl, rfl, rfl, ?_, fun i hi hne => ?_⟩⟩
  · generalize ((w.setCell ⟨q, 0, none⟩ x').setCell ⟨q, 1, none⟩ y').setCell ⟨q, 2, none⟩ u' = w1 at e3
    simp only [World.setCell, Array.getElem?_modify, e3]
    simp
  · simp [World.setCell]
  · have hq : ¬ q = i := fun e => hne (by rw [e])
    simp [World.setCell, Array.getElem?_modify, hq]
def pWrap (l : List UInt8) : Option (W4 × List UInt8) := (pKey l).bind fun x => (pNeed [62] x.2).bind fun r => (pKey r).map fun y => ((x.1.1, x.1.2, y.1.1, y.1.2), y.2)
set_option maxRecDepth 100000 in
theorem rdWrap_any (b : Nat) (ev : Value) (l : List UInt8) (w : World) (h : Rdr b l w) (hN : NoText b ev w) (hl : l.length ≤ 1048576) :
    Calls Tryz.prog 56 #[rp b] w fun e w' => Ends b ev w ((pWrap l).map fun x => (wv x.1.1 x.1.2.1 x.1.2.2.1 x.1.2.2.2, x.2)) e w' := by
  have HN := hidT hN
  have hbl := h.lt
  have G0 := hidT (World.grownBy_alloc w (wb 0 0 0 0) (some b))
  have R0 : Hid (Rdr b l (w.alloc (wb 0 0 0 0))) := h.since (oneB _ _)
  have P0 := hidT (heap_new w (wb 0 0 0 0))
  clear h hN
  go_enter Tryz.func56, Tryz.ntmps56
  go_wp2_with fail
  refine (rdKey_any b ev l _ R0.out (HN.out.grown G0.out) hl).mono ?_
  rintro e w1 (⟨v, l1, hv, rfl, R1, g1⟩ | ⟨hv, rfl, g1⟩)
  · obtain ⟨k, m, hm, rfl⟩ : ∃ k m, Hid (pKey l = some ((k, m), l1)) ∧ v = kv k m := by
      cases hn : pKey l with
      | none => simp [hn] at hv
      | some x =>
        simp [hn] at hv
        obtain ⟨e1, e2⟩ := hv
        exact ⟨x.1.1, x.1.2, hidT (by rw [← e2]), e1.symm⟩
    have hl1 := Nat.le_trans (pKey_len hm.out) hl
    have P1 := hidT ((g1.block _ ((Array.getElem?_eq_some_iff.1 P0.out).1) (by simp; omega)).trans P0.out)
    have G1 := hidT ((G0.out.trans g1).trans (World.grownBy_alloc w1 (kb k m) (some b)))
    have R1' : Hid (Rdr b l1 (w1.alloc (kb k m))) := R1.since (oneB _ _)
    have lp : w.heap.size < w1.heap.size := (Array.getElem?_eq_some_iff.1 P1.out).1
    have P2 := hidT ((heap_old w1 (kb k m) lp).trans P1.out)
    have Q2 := hidT (heap_new w1 (kb k m))
    have hb1 : b < w1.heap.size := R1.lt
    clear g1 hv R1 P1
    go_wp2_with fail
    generalize w1.alloc (kb k m) = w2 at G1 R1' P2 Q2 ⊢
    refine (need_any b ev l1 [62] w2 R1'.out (HN.out.grown G1.out)).mono ?_
    rintro e w3 (⟨v, l2, hv, rfl, R3, g3⟩ | ⟨hv, rfl, g3⟩)
    · obtain ⟨hm2, rfl⟩ : Hid (pNeed [62] l1 = some l2) ∧ v = .tuple #[] := by
        cases hn : pNeed [62] l1 with
        | none => simp [hn] at hv
        | some x =>
          simp [hn] at hv
          obtain ⟨e1, e2⟩ := hv
          exact ⟨hidT (by rw [← e2]), e1.symm⟩
      have hl2 := Nat.le_trans (pNeed_len hm2.out) hl1
      have P3 := hidT ((g3.block _ ((Array.getElem?_eq_some_iff.1 P2.out).1) (by simp; omega)).trans P2.out)
      have Q3 := hidT ((g3.block _ ((Array.getElem?_eq_some_iff.1 Q2.out).1) (by simp; omega)).trans Q2.out)
      have G3 := hidT (G1.out.trans g3)
      have R3 := hidT R3
      clear g3 hv P2 Q2 R1' G1
      obtain ⟨c0, c1, f0, f1⟩ := blk2 Q3.out
      have R3d : Hid (Rdr b l2 w3.drew) := R3.out
      have N3d : Hid (NoText b ev w3.drew) := (HN.out.grown G3.out).since (Below.refl _ _).drew
      cases hk : pKey l2 with
      | none =>
        have HPN := hidT (show pWrap l = none by simp [pWrap, hm.out, hm2.out, hk])
        have HKN := hidT hk
        clear hk
        go_wp2
        refine wp_region_any (by kernel_rfl) ?_
        try (change wpAny _ _ _ _ _ _ _ (World.drew _))
        refine wpAny_take (i := 1) (v := rp b) rfl (by kernel_rfl) (by kernel_rfl) (by kernel_rfl) (fun _ _ _ h => h) (Or.inl ⟨by rfl, fun w => by go_simp⟩) ?_
        refine wpAny_ready (rs := [0, 2]) (by kernel_rfl) (by simp) ?_
        refine AllReady.cons rfl (fun K hK => ?_) (AllReady.cons rfl (fun K hK => ?_) AllReady.nil)
        · go_simp
          refine hK _ _ ?_
          clear hK K
          refine wpAny_ready (rs := [2]) (by kernel_rfl) (by simp) ?_
          refine AllReady.cons rfl (fun K hK => ?_) AllReady.nil
          go_simp
          refine (rdKey_any b ev l2 _ R3d.out N3d.out hl2).mono ?_
          rintro e w4 (⟨v, l3, hv, _⟩ | ⟨_, rfl, g4⟩)
          · rw [HKN.out] at hv
            cases hv
          · exact ⟨rfl, .inr ⟨by rw [HPN.out]; rfl, rfl, (grown_ext G3.out (Below.refl _ _).drew).trans g4⟩⟩
        · go_simp
          refine (rdKey_any b ev l2 _ R3d.out N3d.out hl2).mono ?_
          rintro e w4 (⟨v, l3, hv, _⟩ | ⟨_, rfl, g4⟩)
          · rw [HKN.out] at hv
            cases hv
          · exact ⟨rfl, .inr ⟨by rw [HPN.out]; rfl, rfl, (grown_ext G3.out (Below.refl _ _).drew).trans g4⟩⟩
      | some y =>
        obtain ⟨⟨k2, m2⟩, l3⟩ := y
        have HPS := hidT (show pWrap l = some ((k, m, k2, m2), l3) by simp [pWrap, hm.out, hm2.out, hk])
        have HK := hidT hk
        clear hk
        have hne1 : some w.heap.size ≠ some b := by simp; omega
        have hne2 : some w1.heap.size ≠ some b := by simp; omega
        obtain ⟨a0, a1, a2, a3, b0, b1, b2, b3⟩ := blk4 P3.out
        go_wp2
        go_region_with (go_at_call 71; refine (rdKey_yes (l := l2) R3d.out N3d.out hl2 HK.out).mono ?_; rintro e w4 ⟨rfl, R4, g4⟩; have c0 := g4.cell (show w3.drew.cell? ⟨w1.heap.size, 0, none⟩ = _ from c0) hne2; have c1 := g4.cell (show w3.drew.cell? ⟨w1.heap.size, 1, none⟩ = _ from c1) hne2; have P4 := hidT ((g4.block _ ((Array.getElem?_eq_some_iff.1 P3.out).1) hne1).trans P3.out); obtain ⟨a0, a1, a2, a3, b0, b1, b2, b3⟩ := blk4 P4.out)
        all_goals
          have HT := hidT (set4 (.int .i64 k) (.int .i64 m) (.int .i64 k2) (.int .i64 m2) P4.out)
          have G5 := hidT (((grown_ext G3.out (Below.refl _ _).drew).trans g4).andThen HT.out.2 (fun j e => .inl (by cases e; first | omega | exact Nat.le_refl _)))
          have R5 : Hid (Rdr b l3 _) := (HT.out.2.block b R4.lt (by simp; omega)).trans R4
          have P5 := hidT HT.out.1
          clear HT g4 R4 P4
          go_wp2
          generalize ((((w4.setCell ⟨w.heap.size, 0, none⟩ (.int .i64 k)).setCell ⟨w.heap.size, 1, none⟩ (.int .i64 m)).setCell ⟨w.heap.size, 2, none⟩ (.int .i64 k2)).setCell ⟨w.heap.size, 3, none⟩ (.int .i64 m2)) = w5 at G5 R5 P5 ⊢
          obtain ⟨e0, e1, e2, e3, _⟩ := blk4 P5.out
          refine bodyPost_ret (v := wv k m k2 m2) (by simp [results, Tryz.results56, go_sem, e0, e1, e2, e3]) rfl (.inl ⟨_, l3, ?_, rfl, R5.out, G5.out⟩)
          rw [HPS.out]
          rfl
    · exact ⟨rfl, .inr ⟨by
        have : pNeed [62] l1 = none := by simpa using hv
        simp [pWrap, hm.out, this], rfl, G1.out.trans g3⟩⟩
  · exact ⟨rfl, .inr ⟨by
      have : pKey l = none := by simpa using hv
      simp [pWrap, this], rfl, G0.out.trans g1⟩⟩
end Tx
end Go.Proofs.YtapmgbnhobpahaaGreatDoor
/- Rekeys as texts: RekeyText of the program. -/
namespace Go.Proofs.YtapmgbnhobpahaaGreatDoor
open Go.RowKit Go.Shelf
namespace Tx
def Tryz.join_ren : Go.Shelf.Ren := ⟨fun | 156 => 29 | 165 => 52 | 166 => 53 | 169 => 54 | 240 => 69 | 241 => 70 | 276 => 86 | 277 => 87 | n => n, fun | 31 => 52 | 9 => 9 | 3 => 3 | 4 => 4 | 0 => 0 | 20 => 20 | 72 => 91 | 76 => 93 | 70 => 89 | 37 => 22 | 75 => 74 | 127 => 117 | 164 => 133 | 5 => 5 | 80 => 95 | n => n, fun | n => n⟩
theorem Tryz.join : Go.Proofs.Lays.n156 Tryz.prog Tryz.join_ren := {
  mixed := by kernel_rfl
  f156 := Tryz.func29.trans (congrArg some (by kernel_rfl))
  f165 := Tryz.func52.trans (congrArg some (by kernel_rfl))
  f166 := Tryz.func53.trans (congrArg some (by kernel_rfl))
  f169 := Tryz.func54.trans (congrArg some (by kernel_rfl))
  f240 := Tryz.func69.trans (congrArg some (by kernel_rfl))
  f241 := Tryz.func70.trans (congrArg some (by kernel_rfl))
  f276 := Tryz.func86.trans (congrArg some (by kernel_rfl))
  f277 := Tryz.func87.trans (congrArg some (by kernel_rfl))
  t0 := Tryz.underlying0
  a0 := Tryz.isAgg0
  z0 := Tryz.sizeOf0
  v0 := Tryz.zeroValue0
  t3 := Tryz.underlying3
  a3 := Tryz.isAgg3
  z3 := Tryz.sizeOf3
  v3 := Tryz.zeroValue3
  t4 := Tryz.underlying4
  a4 := Tryz.isAgg4
  z4 := Tryz.sizeOf4
  v4 := Tryz.zeroValue4
  t9 := Tryz.underlying9
  a9 := Tryz.isAgg9
  z9 := Tryz.sizeOf9
  v9 := Tryz.zeroValue9
  t20 := Tryz.underlying20
  a20 := Tryz.isAgg20
  z20 := Tryz.sizeOf20
  v20 := Tryz.zeroValue20
  t31 := Tryz.underlying52
  a31 := Tryz.isAgg52
  z31 := Tryz.sizeOf52
  v31 := Tryz.zeroValue52
  t37 := Tryz.underlying22
  a37 := Tryz.isAgg22
  z37 := Tryz.sizeOf22
  v37 := Tryz.zeroValue22
  t70 := Tryz.underlying89
  a70 := Tryz.isAgg89
  z70 := Tryz.sizeOf89
  v70 := Tryz.zeroValue89
  t72 := Tryz.underlying91
  a72 := Tryz.isAgg91
  z72 := Tryz.sizeOf91
  v72 := Tryz.zeroValue91
  t75 := Tryz.underlying74
  a75 := Tryz.isAgg74
  z75 := Tryz.sizeOf74
  v75 := Tryz.zeroValue74
  t76 := Tryz.underlying93
  a76 := Tryz.isAgg93
  z76 := Tryz.sizeOf93
  v76 := Tryz.zeroValue93
  t127 := Tryz.underlying117
  a127 := Tryz.isAgg117
  z127 := Tryz.sizeOf117
  v127 := Tryz.zeroValue117
  t164 := Tryz.underlying133
  a164 := Tryz.isAgg133
  z164 := Tryz.sizeOf133
  v164 := Tryz.zeroValue133 }
theorem Tryz.joinX : Builder.Extra Tryz.prog Tryz.join_ren := {
  sizeBuilder := by kernel_rfl
  liesBuilder := by kernel_rfl
  t5 := Tryz.underlying5
  a5 := Tryz.isAgg5
  z5 := Tryz.sizeOf5
  v5 := Tryz.zeroValue5
  infoByte := by kernel_rfl
  cellsByte := by kernel_rfl
  sizeByte := by kernel_rfl
  neB5 := by decide }
theorem infoStr : (Tryz.prog.info? 9).map (fun i => (i.zero, i.size, i.bytes)) = some (some (.string ⟨#[]⟩), 1, 16) := by kernel_rfl

/-- The slice v holds the texts xs, in a block at or beyond B. -/
def Strs (B : Nat) (v : Value) (xs : List (List UInt8)) (W : World) : Prop := W.ownsRow B 9 1 v xs.length (xs.map st)
theorem Strs.since {B : Nat} {v : Value} {xs : List (List UInt8)} {W W' : World} (h : Strs B v xs W) (hb : Below W.heap.size W W') : Strs B v xs W' :=
  RowF.since (r := ⟨B, 9, 1, v, xs.length, xs.map st⟩) h hb
theorem Strs.lt {B : Nat} {v : Value} {xs : List (List UInt8)} {W : World} (h : Strs B v xs W) : ∀ k, v.ownBlock = some k → B ≤ k ∧ k < W.heap.size := World.ownsRow.lt h
theorem strs_own {W : World} {B n : Nat} {v : Value} {xs : List (List UInt8)} (h : Strs B v xs W) (hn : xs.length = n) (o : Obj) : (W.alloc o).ownsRow B 9 1 v n (xs.map st) := by
  subst hn
  exact World.ownsRow.alloc h o
theorem strs_of {W : World} {B g N c : Nat} {ys : List Value} {xs : List (List UInt8)} (h : W.ownsRow B 9 1 (.slice (some ⟨g, 0, none⟩) N c) N ys) (e : ys = xs.map st) (hn : xs.length = N) : Strs B (.slice (some ⟨g, 0, none⟩) N c) xs W := by
  subst e hn
  exact h
theorem join_any {B g n c : Nat} {xs : List (List UInt8)} (sep : List UInt8) {w : World} (h : Strs B (.slice (some ⟨g, 0, none⟩) n c) xs w) (hn : xs.length = n) (hl : (Lib.join xs sep).length ≤ 140737488355328) (hN : n ≤ 140737488355328) :
    Calls Tryz.prog 29 #[.slice (some ⟨g, 0, none⟩) n c, st sep] w fun e w' => e = .returned (st (Lib.join xs sep)) ∧ Below w.heap.size w w' := by
  subst hn
  have hm : (xs.map (fun l => (⟨l.toArray⟩ : ByteArray))).map (·.data.toList) = xs := by simp [Function.comp_def]
  have hlen : (xs.map (fun l => (⟨l.toArray⟩ : ByteArray))).length = xs.length := by simp
  have hcell : ∀ (j : Nat) (hj : j < xs.length), w.cell? ⟨g, j, none⟩ = some (st xs[j]) := fun j hj => by
    rw [World.ownsRow.cellAt h j (by omega)]
    simp [hj]
  have hgc : g < w.heap.size ∧ xs.length ≤ c := by
    rcases h.2 with ⟨e, _⟩ | ⟨g', cap, cur, e, _, hg, h1, _⟩
    · cases e
    · injection e with e1 e2 e3
      injection e1 with e1
      injection e1 with e1
      subst e1 e3
      exact ⟨(Array.getElem?_eq_some_iff.1 hg).1, h1⟩
  have := Any.strings_Join Tryz.join Tryz.joinX g 0 c (xs.map fun l => (⟨l.toArray⟩ : ByteArray)) ⟨sep.toArray⟩ w (fun j x hx => by
    rw [List.getElem?_map] at hx
    cases hj : xs[j]? with
    | none => simp [hj] at hx
    | some l =>
      simp [hj] at hx
      obtain ⟨hlt, e⟩ := List.getElem?_eq_some_iff.1 hj
      rw [Nat.zero_add, hcell j hlt, e, ← hx]) hgc.1 (by rw [hlen]; exact hN) (by rw [hlen]; exact hgc.2) (by rw [hm]; simpa using hl)
  rw [hm, hlen] at this
  exact (show Calls Tryz.prog (Tryz.join_ren.f 156) #[.slice (some ⟨g, 0, none⟩) xs.length c, st sep] w fun e w' => e = .returned (st (Lib.join xs sep)) ∧ Below w.heap.size w w' by simpa using this)
theorem join_rek (ep : Nat) (ws : List W4) : Lib.join ([101, 112, 111, 99, 104] :: Lib.decDigits ep :: ws.map wrapT) [32] = (sEpoch ++ Lib.decDigits ep) ++ rekW ws := by
  rw [Lib.join_cons]
  simp [Lib.joinTail, rekW, List.flatMap, Function.comp_def]
theorem step_append_s {P : Program} (w : World) {ops : Array Oper} {o : Oper} {a : Act} {K : Act → World → Prop} {Q : Exit → Act → World → Prop} {E : Prop} (hw : Region.wanted o (yielded ops a.tmps) = true) (s x : Operand) (t : TypeId)
    (ho : o.op = .call { callee := .builtin .append, args := #[s, x], argTypes := #[t, t] })
    (base : Nat) (e : TypeId) (i : TypeInfo) (z : Value) (size bytes : Nat) (ht : P.underlying t = some (.slice e)) (hi : P.info? e = some i) (hz : i.zero = some z)
    (hsize : i.size = size) (hby : i.bytes = bytes) (hzs : z.cells.size = size) (hsz : 0 < size)
    (v : Value) (n : Nat) (xs : List Value) (hs : a.eval s = v) (hown : w.ownsRow base e size v n xs)
    (ad : Addr) (m c : Nat) (news : List Value) (hx : a.eval x = .slice (some ad) m c) (hl : news.length = m * size) (hnews : ∀ j u, news[j]? = some u → w.cell? (ad.add j) = some u) (h1 : ∀ u ∈ news, u.oneCell' = true)
    (hm : 0 < m) (h63 : n + m ≤ maxLen) (hbytes : (n + m) * bytes ≤ 140737488355328) (hbase : base ≤ w.heap.size) (H : Nat) (hH : w.heap.size = H)
    (h : ∀ g cap w', w'.ownsRow base e size (.slice (some ⟨g, 0, none⟩) (n + m) cap) (n + m) (xs ++ news) → w.grownBy w' v.ownBlock → (v.ownBlock = some g ∨ g = H) → g < w'.heap.size → K (a.put o.dst (.slice (some ⟨g, 0, none⟩) (n + m) cap)) w') :
    if Region.wanted o (yielded ops a.tmps) = true then Oper.wp P o a w K Q else E := by
  rw [if_pos hw]
  exact wp_append_lies w s x t ho base e i z size bytes ht hi hz hsize hby hzs hsz v n xs hs hown ad m c news hx hl hnews h1 hm h63 hbytes hbase H hH h
theorem info_parts' {P : Program} {t : TypeId} {z : Value} {s b : Nat} (h : (P.info? t).map (fun i => (i.zero, i.size, i.bytes)) = some (some z, s, b)) : ∃ i, P.info? t = some i ∧ i.zero = some z ∧ i.size = s ∧ i.bytes = b := by
  cases hi : P.info? t with
  | none => simp [hi] at h
  | some i =>
    simp [hi] at h
    exact ⟨i, rfl, h.1, h.2.1, h.2.2⟩

/-- What the round's region keeps. -/
def RRest (w2 : World) (p : Nat) (W : World) : Prop := Below w2.heap.size w2 W ∧ p < W.heap.size
theorem RRest.later {w2 W W' : World} {p : Nat} (h : RRest w2 p W) (hb : Below W.heap.size W W') : RRest w2 p W' := ⟨h.1.trans (hb.mono h.1.size), Nat.lt_of_lt_of_le h.2 hb.size⟩
theorem rheld_later {w2 W W' : World} {p : Nat} {p1 p2 p3 p4 : Addr} {v1 v2 v3 v4 : Value} (h : W.cell? p1 = some v1 ∧ W.cell? p2 = some v2 ∧ W.cell? p3 = some v3 ∧ W.cell? p4 = some v4 ∧ RRest w2 p W) (hb : Below W.heap.size W W') :
    W'.cell? p1 = some v1 ∧ W'.cell? p2 = some v2 ∧ W'.cell? p3 = some v3 ∧ W'.cell? p4 = some v4 ∧ RRest w2 p W' := ⟨cell_since h.1 hb, cell_since h.2.1 hb, cell_since h.2.2.1 hb, cell_since h.2.2.2.1 hb, h.2.2.2.2.later hb⟩
theorem rheld_grown {w2 W W' : World} {p : Nat} {v1 v2 v3 v4 : Value} {row : Option Nat} (h : W.cell? ⟨p, 0, none⟩ = some v1 ∧ W.cell? ⟨p, 1, none⟩ = some v2 ∧ W.cell? ⟨p, 2, none⟩ = some v3 ∧ W.cell? ⟨p, 3, none⟩ = some v4 ∧ RRest w2 p W) (hg : W.grownBy W' row)
    (hr : ∀ k, row = some k → w2.heap.size ≤ k ∧ k < p) :
    W'.cell? ⟨p, 0, none⟩ = some v1 ∧ W'.cell? ⟨p, 1, none⟩ = some v2 ∧ W'.cell? ⟨p, 2, none⟩ = some v3 ∧ W'.cell? ⟨p, 3, none⟩ = some v4 ∧ RRest w2 p W' := by
  have hn : some p ≠ row := fun e => by have := (hr p e.symm).2; omega
  exact ⟨hg.cell h.1 hn, hg.cell h.2.1 hn, hg.cell h.2.2.1 hn, hg.cell h.2.2.2.1 hn, h.2.2.2.2.1.grown hg h.2.2.2.2.1.size (fun k e => (hr k e).1), Nat.lt_of_lt_of_le h.2.2.2.2.2 hg.size⟩
theorem cell_one (w : World) (x : Value) (t : TypeId) : ∀ j u, [x][j]? = some u → (w.alloc (.cells #[x] t)).cell? ((⟨w.heap.size, 0, none⟩ : Addr).add j) = some u := fun j u hj => by
  match j, hj with
  | 0, hj => simp at hj; subst hj; simp [Addr.add]
  | j + 1, hj => simp at hj

set_option maxRecDepth 100000 in
set_option maxHeartbeats 4000000 in
theorem rekeyText_any {B : Nat} {x : Value} {ws : List W4} {w : World} (ep : Int) (h : Wraps B x ws w) (hP : HasPow w) :
    Calls Tryz.prog 9 #[rv ep x] w fun e w' => e = .returned (st (rekText ep ws)) ∧ Below w.heap.size w w' := by
  obtain ⟨i0, hii, hz0, hz1, hz2⟩ := info_parts' infoStr
  obtain ⟨ax, cx, hx⟩ := wrapsRow h
  obtain ⟨N, HLEN⟩ : ∃ N, Hid (ws.length = N) := ⟨_, rfl⟩
  rw [HLEN.out] at hx
  subst hx
  have HP := hidT hP
  clear hP
  cases hR : rkB ep ws with
  | false =>
    have HT := hidT (show rekText ep ws = [] by simp [rekText, hR])
    have HW := hidT (wrapsSince h (oneB w (rb ep (.slice ax N cx))))
    clear h
    go_enter Tryz.func9, Tryz.ntmps9
    go_wp2_with fail
    refine (rekeyOk_any ep HW.out).mono ?_
    rintro e w1 ⟨rfl, hb⟩
    rw [hR]
    have HB := hidT ((oneB _ _).trans (hb.mono (by simp)))
    clear hb
    go_wp2
    go_ret
    exact ⟨by rw [HT.out]; rfl, HB.out⟩
  | true =>
    have HT := hidT (show rekText ep ws = (sEpoch ++ Lib.decDigits ep.toNat) ++ rekW ws by simp [rekText, hR, rekT])
    obtain ⟨he1, he2, hlen, hok⟩ := rkB_nat hR
    have HOK := hidT hok
    clear hok
    obtain ⟨n, rfl⟩ : ∃ n : Nat, ep = (n : Int) := ⟨ep.toNat, by omega⟩
    have hl0 := dec_len 9 n (by omega)
    rw [HLEN.out] at hlen
    have HW := hidT (wrapsSince h (oneB w (rb n (.slice ax N cx))))
    have P1 := hidT (heap_new w (rb n (.slice ax N cx)))
    clear h
    go_enter Tryz.func9, Tryz.ntmps9
    go_wp2_with fail
    refine (rekeyOk_any (n : Int) HW.out).mono ?_
    rintro e w1 ⟨rfl, hb⟩
    rw [hR]
    have B1 := hidT ((oneB _ _).trans (hb.mono (by simp)))
    have P1 := hidT ((hb.block _ (cell_lt (blk2 P1.out).1)).trans P1.out)
    have HW := hidT (wrapsSince HW.out hb)
    clear hb
    obtain ⟨c0, c1, f0, f1⟩ := blk2 P1.out
    go_wp2_with fail
    refine (decimal_any n (by omega) _ (HP.out.since B1.out)).mono ?_
    rintro e w2 ⟨rfl, hb2⟩
    have B2 := hidT (B1.out.trans (hb2.mono B1.out.size))
    have P2 := hidT ((hb2.block _ (cell_lt (blk2 P1.out).1)).trans P1.out)
    have HW2 := hidT (wrapsSince HW.out hb2)
    clear hb2 c0 c1 f0 f1 HW P1 B1
    have P3 := hidT ((heap_old w2 (.cells #[st [101, 112, 111, 99, 104], st (Lib.decDigits n)] 9) (cell_lt (blk2 P2.out).1)).trans P2.out)
    have B3 := hidT (B2.out.alloc B2.out.size (.cells #[st [101, 112, 111, 99, 104], st (Lib.decDigits n)] 9))
    have HW3 := hidT (wrapsSince HW2.out (oneB w2 (.cells #[st [101, 112, 111, 99, 104], st (Lib.decDigits n)] 9)))
    have HS3 : Hid (Strs w2.heap.size (.slice (some ⟨w2.heap.size, 0, none⟩) 2 2) [[101, 112, 111, 99, 104], Lib.decDigits n] (w2.alloc (.cells #[st [101, 112, 111, 99, 104], st (Lib.decDigits n)] 9))) :=
      World.ownsRow_lit w2 #[st [101, 112, 111, 99, 104], st (Lib.decDigits n)] 2 (Nat.le_refl _) (by unfold maxLen; omega) (by simp)
    obtain ⟨c0, c1, f0, f1⟩ := blk2 P3.out
    have B23 := hidT (oneB w2 (.cells #[st [101, 112, 111, 99, 104], st (Lib.decDigits n)] 9))
    have HZ := hidT (show w.heap.size < w2.heap.size from cell_lt (blk2 P2.out).1)
    clear P2
    go_wp2
    generalize (w2.alloc (.cells #[st [101, 112, 111, 99, 104], st (Lib.decDigits n)] 9)) = w3 at B3 P3 HW3 HS3 B23 c0 c1 f0 f1 ⊢
    have HZ3 := hidT (show w2.heap.size < w3.heap.size from (HS3.out.lt _ rfl).2)
    go_loopw [3, 16] (fun sv iv wr => ∃ (k g c : Nat), k ≤ N ∧ iv = .int .i64 (k : Int) ∧ sv = .slice (some ⟨g, 0, none⟩) (k + 2) c ∧ Hid (Strs w2.heap.size (.slice (some ⟨g, 0, none⟩) (k + 2) c) ([101, 112, 111, 99, 104] :: Lib.decDigits n :: (ws.take k).map wrapT) wr) ∧ Below w2.heap.size w2 wr) (fun _ iv _ => N - (intOf iv).toNat)
    case atStart => exact ⟨0, _, _, Nat.zero_le _, rfl, rfl, HS3, B23.out⟩
    case round =>
      obtain ⟨k, g0, cc, hk, rfl, rfl, HS, hB⟩ := hrel
      have BR := hidT (B2.out.trans (hB.mono B2.out.size))
      by_cases hlt : k < N
      · have hi : (k : Int) < (N : Int) := by omega
        have hlt' : k < ws.length := by rw [HLEN.out]; exact hlt
        have WR := hidT (wrapsSince HW2.out hB)
        obtain ⟨g, cap, hxe, _, hg, _, _, hseg, _⟩ : ∃ g cap, Value.slice ax N cx = .slice (some ⟨g, 0, none⟩) ws.length cap ∧ B ≤ g ∧ g < wr.heap.size ∧ ws.length ≤ cap ∧ cap ≤ maxLen ∧ WSeg g 0 ws wr ∧ ∀ o, wr.frozen? ⟨g, o, none⟩ = false := by
          rcases WR.out.form with ⟨e1, e2⟩ | h
          · rw [e2] at hlt'; simp at hlt'
          · exact h
        injection hxe with e1 e2 e3
        subst e1
        clear e2 e3
        obtain ⟨q0, q1, q2, q3⟩ := hseg k hlt'
        clear hseg
        have HO := okW_nat (HOK.out _ (List.getElem_mem hlt'))
        have HTK := hidT (show ws.take (k + 1) = ws.take k ++ [ws[k]] by rw [List.take_add_one, List.getElem?_eq_getElem hlt']; rfl)
        generalize hwk : ws[k] = wk at q0 q1 q2 q3 HO HTK
        obtain ⟨a, b, c, d⟩ := wk
        simp only [Nat.zero_add] at q0 q1 q2 q3
        simp only at HO
        obtain ⟨a, rfl⟩ : ∃ n : Nat, a = (n : Int) := ⟨a.toNat, by omega⟩
        obtain ⟨b, rfl⟩ : ∃ n : Nat, b = (n : Int) := ⟨b.toNat, by omega⟩
        obtain ⟨c, rfl⟩ : ∃ n : Nat, c = (n : Int) := ⟨c.toNat, by omega⟩
        obtain ⟨d, rfl⟩ : ∃ n : Nat, d = (n : Int) := ⟨d.toNat, by omega⟩
        have HWT := hidT (show wrapT ((a : Int), (b : Int), (c : Int), (d : Int)) = keyT a b ++ 62 :: keyT c d by simp [wrapT])
        have ka := keyT_len (n := a) (v := b) (by omega) (by omega)
        have kc := keyT_len (n := c) (v := d) (by omega) (by omega)
        have HL := hidT (show ((ws.take (k + 1)).map wrapT) = (ws.take k).map wrapT ++ [keyT a b ++ 62 :: keyT c d] by rw [HTK.out, List.map_append, List.map_cons, HWT.out]; rfl)
        clear hwk
        have a1 := fun w => run_string_add_lists (P := Tryz.prog) w (keyT a b) [62] (by omega) (by simp)
        have a2 := fun w => run_string_add_lists (P := Tryz.prog) w (keyT a b ++ [62]) (keyT c d) (by simp; omega) (by omega)
        have hB4 := hidT (hB.alloc hB.size (.cells #[.int .i64 a, .int .i64 b, .int .i64 c, .int .i64 d] 56))
        have HS4 := hidT (HS.out.since (oneB wr (.cells #[.int .i64 a, .int .i64 b, .int .i64 c, .int .i64 d] 56)))
        have hlenk : ([101, 112, 111, 99, 104] :: Lib.decDigits n :: (ws.take k).map wrapT).length = k + 2 := by simp [HLEN.out]; omega
        have hzr : w2.heap.size ≤ wr.heap.size := hB.size
        have hneB : ∀ jj, (Value.slice (some ⟨g0, 0, none⟩) (k + 2) cc).ownBlock = some jj → w2.heap.size ≤ jj ∧ jj < wr.heap.size := fun jj e => HS.out.lt jj e
        have HPa := hidT (show HasPow (wr.alloc (.cells #[.int .i64 a, .int .i64 b, .int .i64 c, .int .i64 d] 56)) from (HP.out.since B2.out).since (hB.alloc hB.size _))
        have hRest : RRest w2 wr.heap.size (wr.alloc (.cells #[.int .i64 a, .int .i64 b, .int .i64 c, .int .i64 d] 56)).drew := ⟨hB4.out.drew, by simp⟩
        have hP0 : (wr.alloc (.cells #[.int .i64 a, .int .i64 b, .int .i64 c, .int .i64 d] 56)).drew.cell? ⟨wr.heap.size, 0, none⟩ = some (.int .i64 a) ∧ (wr.alloc (.cells #[.int .i64 a, .int .i64 b, .int .i64 c, .int .i64 d] 56)).drew.cell? ⟨wr.heap.size, 1, none⟩ = some (.int .i64 b) ∧ (wr.alloc (.cells #[.int .i64 a, .int .i64 b, .int .i64 c, .int .i64 d] 56)).drew.cell? ⟨wr.heap.size, 2, none⟩ = some (.int .i64 c) ∧ (wr.alloc (.cells #[.int .i64 a, .int .i64 b, .int .i64 c, .int .i64 d] 56)).drew.cell? ⟨wr.heap.size, 3, none⟩ = some (.int .i64 d) ∧ RRest w2 wr.heap.size (wr.alloc (.cells #[.int .i64 a, .int .i64 b, .int .i64 c, .int .i64 d] 56)).drew := ⟨by simp, by simp, by simp, by simp, hRest⟩
        have HP0 := hidT hP0
        have tokA : True := trivial
        have hba : a ≤ 1000000000 := by omega
        have hbb : b ≤ 1000000000 := by omega
        have hbc : c ≤ 1000000000 := by omega
        have hbd : d ≤ 1000000000 := by omega
        clear hP0 hRest hB HS c0 c1 f0 f1
        go_wp2
        clear q0 q1 q2 q3
        generalize hw4 : (wr.alloc (.cells #[.int .i64 a, .int .i64 b, .int .i64 c, .int .i64 d] 56)) = w4 at HP0 HPa HS4 hB4 ⊢
        have HPa := hidT (show HasPow w4.drew from HPa.out.since (Below.refl _ _).drew)
        have HS4 := hidT (show Strs _ _ _ w4.drew from HS4.out.since (Below.refl _ _).drew)
        have hz24 : w2.heap.size ≤ w4.drew.heap.size := hB4.out.size
        have hz4 : Hid (wr.heap.size < w4.heap.size) := by show wr.heap.size < w4.heap.size; rw [← hw4]; simp
        clear hw4
        go_region_held3 (fun W => W.cell? ⟨wr.heap.size, 0, none⟩ = some (.int .i64 a) ∧ W.cell? ⟨wr.heap.size, 1, none⟩ = some (.int .i64 b) ∧ W.cell? ⟨wr.heap.size, 2, none⟩ = some (.int .i64 c) ∧ W.cell? ⟨wr.heap.size, 3, none⟩ = some (.int .i64 d) ∧ RRest w2 wr.heap.size W)
          (first | exact HP0.out | exact rheld_later ‹_› b6 | exact rheld_later ‹_› b5 | exact rheld_later ‹_› (oneB _ _) | exact rheld_grown ‹_› hgB hneB | assumption)
          (first
            | (go_at_call 28; have _t := tokA; clear _t tokA; have hpp := HPa.out; refine (keyText_any a b hba hbb _ hpp).mono ?_; clear hpp; rintro e w5 ⟨rfl, b5⟩; have hs5 := b5.size)
            | (go_at_call 28; have hpp := HPa.out.since b5; refine (keyText_any c d hbc hbd _ hpp).mono ?_; clear hpp; rintro e w6 ⟨rfl, b6⟩; have hs6 := b6.size)
            | (refine step_append_s _ (by rfl) _ _ _ (by rfl) w2.heap.size 9 i0 (.string ⟨#[]⟩) 1 16 Tryz.underlying52 hii hz0 hz1 hz2 rfl (by omega) (.slice (some ⟨g0, 0, none⟩) (k + 2) cc) (k + 2) _ (by rfl) (by exact strs_own ((HS4.out.since b5).since b6) hlenk _) ⟨w6.heap.size, 0, none⟩ 1 _ [st (keyT a b ++ 62 :: keyT c d)] (by rfl) (by rfl) (by exact cell_one _ _ _) (by simp [Value.oneCell']) (by omega) (by unfold maxLen; omega) (by omega) (by exact Nat.le_trans hz24 (Nat.le_trans hs5 (Nat.le_trans hs6 (by simp)))) _ rfl ?_; intro gB cB wB hownB hgB hatB hltB))
        all_goals
          rename_i hHeld
          have HRf := hidT hHeld.2.2.2.2.1
          have HKn : Hid (Strs w2.heap.size (.slice (some ⟨gB, 0, none⟩) (k + 2 + 1) cB) ([101, 112, 111, 99, 104] :: Lib.decDigits n :: (ws.take (k + 1)).map wrapT) wB) := strs_of hownB (by rw [HL.out]; simp) (by rw [HL.out]; simp at hlenk ⊢; omega)
          clear hHeld hownB hgB b5 b6 HP0
          go_wp2
          go_roundw
          case rel => exact ⟨k + 1, gB, cB, by omega, by go_num, by go_num, HKn, HRf.out⟩
          case measure => simp [intOf] <;> omega
      · have hi : ¬ (k : Int) < (N : Int) := by omega
        have HKT := hidT (show ws.take k = ws by exact List.take_of_length_le (by rw [HLEN.out]; omega))
        have hS := HS.out
        rw [HKT.out] at hS
        have HJ := hidT (join_rek n ws)
        have HJL := hidT (show (Lib.join ([101, 112, 111, 99, 104] :: Lib.decDigits n :: ws.map wrapT) [32]).length ≤ 140737488355328 by
          rw [HJ.out]
          have := rekW_len ws HOK.out
          rw [HLEN.out] at this
          simp
          omega)
        go_wp2_with fail
        refine (join_any [32] hS (by simp [HLEN.out]; omega) HJL.out (by omega)).mono ?_
        rintro e w5 ⟨rfl, hb5⟩
        have B5 := hidT (BR.out.trans (hb5.mono BR.out.size))
        clear hb5
        go_wp2
        go_ret
        refine ⟨?_, B5.out⟩
        rw [HT.out, HJ.out]
        rfl
end Tx
end Go.Proofs.YtapmgbnhobpahaaGreatDoor
