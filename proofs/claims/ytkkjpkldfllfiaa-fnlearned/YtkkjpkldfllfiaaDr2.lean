
/- What the drawn laws of knowledge draw: r.wraps, DrawLearned, DrawCanLearn. -/
import Derived.Test.YtkkjpkldfllfiaaDr
import Derived.Test.YtkkjpkldfllfiaaKo
namespace Go.Proofs.Ytkkjpkldfllfiaa
open Go.RowKit

theorem box4 {R : Nat} {W : World} {a b c d : Value} {t : TypeId} (h : W.heap[R]? = some (.cells #[a, b, c, d] t)) :
    (W.cell? ⟨R, 0, none⟩ = some a ∧ W.cell? ⟨R, 1, none⟩ = some b ∧ W.cell? ⟨R, 2, none⟩ = some c ∧ W.cell? ⟨R, 3, none⟩ = some d) ∧ W.frozen? ⟨R, 0, none⟩ = false ∧ W.frozen? ⟨R, 1, none⟩ = false ∧ W.frozen? ⟨R, 2, none⟩ = false ∧ W.frozen? ⟨R, 3, none⟩ = false := by
  simp [World.cell?, World.frozen?, h]

set_option maxRecDepth 100000 in
set_option maxHeartbeats 2000000 in
theorem wraps_any (B R : Nat) (most : Nat) (W : World) (h : Rd B R W) (hm : most ≤ 100) :
    Calls Try.prog 52 #[.pointer (some ⟨R, 0, none⟩), .int .i64 (most : Int)] W fun e W' => ∃ v ws, e = .returned v ∧ Wraps W.heap.size v ws W' ∧ ws.length ≤ most ∧ Rd B R W' ∧ W.grownBy W' (some R) := by
  obtain ⟨i0, hi, hz0, hz1, hz2⟩ := info_parts infoWr
  have hlt := h.lt
  have hle0 := h.le
  have K0 := hidOf (emptyWs W W.heap.size (Nat.le_refl _))
  have h1 := h.alloc (.cells #[] 35)
  have g1 : W.grownBy (W.alloc (.cells #[] 35)) (some R) := World.grownBy_alloc _ _ _
  go_enter Try.func52, Try.ntmps52
  go_wp2_with fail
  generalize W.alloc (.cells #[] 35) = W1 at *
  refine (below_any B R _ _ h1 (by omega) (by omega)).mono ?_
  rintro e w2 ⟨n, hn0, hn1, rfl, hR2, hg2⟩
  have K2' : Hid (Wraps W.heap.size (.slice (some ⟨W.heap.size, 0, none⟩) 0 0) [] w2) := K0.out.kept hg2 (fun k e e' => by cases e; simp [Value.ownBlock] at e'; omega)
  obtain ⟨m, rfl⟩ : ∃ m : Nat, n = (m : Int) := ⟨n.toNat, by omega⟩
  have hG2 := g1.trans hg2
  clear K0 h1 g1 hg2
  go_wp2
  go_loopw [5, 6] (fun vo i wr => ∃ (j : Nat) (ws : List W4), i = .int .i64 (j : Int) ∧ ws.length + j ≤ most ∧ Hid (Wraps W.heap.size vo ws wr) ∧ Rd B R wr ∧ W.grownBy wr (some R)) (fun _ i _ => (intOf i).toNat)
  case atStart => exact ⟨m, [], rfl, by simp; omega, K2'.out, hR2, hG2⟩
  case round =>
    obtain ⟨j, ws, rfl, hle, HK, hR, hG⟩ := hrel
    by_cases hj : j = 0
    · subst hj
      go_wp2
      go_ret
      exact ⟨_, ws, rfl, HK.out, by omega, hR, hG⟩
    · have hj' : 0 < j := by omega
      go_wp2_with fail
      refine (key_any B R _ hR).mono ?_
      rintro e w3 ⟨p, q, _, _, _, rfl, hR3, hg3⟩
      have hub : Hid (∀ k, u5.ownBlock = some k → W.heap.size ≤ k ∧ k < w3.heap.size) := fun k e => ⟨(HK.out.lt k e).1, Nat.lt_of_lt_of_le (HK.out.lt k e).2 hg3.size⟩
      have HK3 := hidOf (HK.out.kept hg3 (fun k e e' => by cases e; have := (HK.out.lt _ e').1; omega))
      have hG3 := hG.trans hg3
      have hs3 := hG3.size
      have HK4 := hidOf (HK3.out.kept (World.grownBy_alloc w3 (wb p q 0 0) none) (fun k e => by cases e))
      have hR4 := hR3.alloc (wb p q 0 0)
      have hG4 : W.grownBy (w3.alloc (wb p q 0 0)) (some R) := hG3.trans (World.grownBy_alloc _ _ _)
      have bX := blk_new w3 (wb p q 0 0)
      have hs4 : (w3.alloc (wb p q 0 0)).heap.size = w3.heap.size + 1 := by simp
      clear HK HK3 hR hR3 hG hG3 hg3
      go_wp2_with fail
      generalize w3.alloc (wb p q 0 0) = w4 at *
      refine (key_any B R _ hR4).mono ?_
      rintro e w5 ⟨r, s, _, _, _, rfl, hR5, hg5⟩
      have HK5 := hidOf (HK4.out.kept hg5 (fun k e e' => by cases e; have := (HK4.out.lt _ e').1; omega))
      have hG5 := hG4.trans hg5
      have bX5 := blk hg5 bX (by omega)
      have hs5 := hg5.size
      obtain ⟨⟨x0, x1, x2, x3⟩, f0, f1, f2, f3⟩ := box4 bX5
      have gS : w5.grownBy ((w5.setCell ⟨w3.heap.size, 2, none⟩ (.int .i64 r)).setCell ⟨w3.heap.size, 3, none⟩ (.int .i64 s)) (some w3.heap.size) := (grown_setCell _ _ _ _).trans (grown_setCell _ _ _ _)
      have HK6 := hidOf (HK5.out.kept gS (fun k e e' => by cases e; have := (hub.out _ e').2; omega))
      have hR6 := hR5.kept gS (fun k e => by cases e; omega)
      have hG6 : W.grownBy ((w5.setCell ⟨w3.heap.size, 2, none⟩ (.int .i64 r)).setCell ⟨w3.heap.size, 3, none⟩ (.int .i64 s)) (some R) := hG5.andThen gS (fun k e => by cases e; exact .inl (by omega))
      have HC := hidOf (cell_four_new ((w5.setCell ⟨w3.heap.size, 2, none⟩ (.int .i64 r)).setCell ⟨w3.heap.size, 3, none⟩ (.int .i64 s)) (.int .i64 p) (.int .i64 q) (.int .i64 r) (.int .i64 s) 35)
      have hs6 : ((w5.setCell ⟨w3.heap.size, 2, none⟩ (.int .i64 r)).setCell ⟨w3.heap.size, 3, none⟩ (.int .i64 s)).heap.size = w5.heap.size := by simp [World.setCell]
      rw [hs6] at HC
      clear HK4 HK5 hR4 hR5 hG4 hG5 hg5 gS bX bX5
      go_wp2_with (at_builtin; refine wpList_append_own _ rfl _ _ 25 rfl W.heap.size 35 i0 (.agg #[.int .i64 0, .int .i64 0, .int .i64 0, .int .i64 0]) 4 32 Try.underlying25 hi hz0 hz1 hz2 rfl (by decide) _ _ _ rfl (World.ownsRow.alloc HK6.out _) ⟨w5.heap.size, 0, none⟩ 1 1 [.int .i64 p, .int .i64 q, .int .i64 r, .int .i64 s] rfl rfl HC.out (by simp [Value.oneCell']) (by unfold maxLen; omega) (by omega) (by simp [hs6]; omega) ?_; intro v' w7 hown' hgrow _)
      go_roundw
      case rel =>
        refine ⟨j - 1, ws ++ [(p, q, r, s)], by go_num, by simp; omega, ?_, ?_, ?_⟩
        · show Wraps _ _ _ _
          unfold Wraps
          rw [List.length_append, wcells_append]
          exact hown'
        · exact (hR6.alloc _).kept hgrow (fun k e => by have := (hub.out _ e).1; omega)
        · exact (hG6.trans (World.grownBy_alloc _ _ _)).andThen hgrow (fun k e => .inl (hub.out _ e).1)
      case measure => simp [intOf]; omega

/-- Keys and wraps that were drawn: in memory of the call's own. -/
def Drawn (B : Nat) (vk : Value) (ks : List K2) (vw : Value) (ws : List W4) (W : World) : Prop := Keys B vk ks W ∧ Wraps B vw ws W ∧ ks.length ≤ 4 ∧ ws.length ≤ 9
theorem Drawn.since {B : Nat} {vk : Value} {ks : List K2} {vw : Value} {ws : List W4} {W W' : World} (h : Drawn B vk ks vw ws W) (hb : Below W.heap.size W W') : Drawn B vk ks vw ws W' :=
  ⟨h.1.below hb (fun k e => (h.1.lt k e).2), h.2.1.below hb (fun k e => (h.2.1.lt k e).2), h.2.2.1, h.2.2.2⟩

set_option maxHeartbeats 1000000 in
theorem drawLearned_any (a : Option Addr) (len cap : Nat) (W : World) (h : Bytes W.heap.size a len W) :
    Calls Try.prog 10 #[.slice a len cap] W fun e W' => ∃ vk ks vw ws, e = .returned (.tuple #[vk, vw]) ∧ Drawn W.heap.size vk ks vw ws W' ∧ Below W.heap.size W W' := by
  go_enter Try.func10, Try.ntmps10
  go_wp2_with fail
  refine (l1Open_any _ _ _ _).mono ?_
  rintro e w1 ⟨rfl, hw1⟩
  have hR : Rd W.heap.size W.heap.size w1 := by rw [hw1]; exact h.rd (Nat.le_refl _) cap
  have hG1 : W.grownBy w1 none := by rw [hw1]; exact World.grownBy_alloc _ _ _
  have hlt := hR.lt
  clear hw1
  go_wp2_with fail
  refine (known_any W.heap.size W.heap.size 4 _ hR (by omega)).mono ?_
  rintro e w2 ⟨vk, ks, rfl, k2, l2, hR2, g2⟩
  have hG2 : W.grownBy w2 none := hG1.andThen g2 (fun j e => by cases e; exact .inl (Nat.le_refl _))
  go_wp2_with fail
  refine (wraps_any W.heap.size W.heap.size 9 _ hR2 (by omega)).mono ?_
  rintro e w3 ⟨vw, ws, rfl, k3, l3, hR3, g3⟩
  have hG3 : W.grownBy w3 none := hG2.andThen g3 (fun j e => by cases e; exact .inl (Nat.le_refl _))
  have k2' := k2.kept g3 (fun k e e' => by cases e; have := (k2.lt _ e').1; omega)
  have hs2 := hG2.size
  have hs1 := hG1.size
  have HD : Hid (Drawn W.heap.size vk ks vw ws w3) := ⟨k2'.mono hs1, k3.mono hs2, l2, l3⟩
  go_wp2
  exact bodyPost_ret (v := .tuple #[vk, vw]) (by simp [results, Try.results10, go_sem]) rfl ⟨vk, ks, vw, ws, rfl, HD.out, below_grown hG3⟩

end Go.Proofs.Ytkkjpkldfllfiaa
