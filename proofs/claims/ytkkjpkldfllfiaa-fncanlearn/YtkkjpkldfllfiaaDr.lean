
/- What the drawn laws of knowledge draw: r.known, r.wraps, DrawLearned, DrawCanLearn: keys and wraps in memory of the call's own; no condition on the bytes. -/
import Derived.Test.YtkkjpkldfllfiaaRd
import Derived.Test.YtkkjpkldfllfiaaDk
namespace Go.Proofs.Ytkkjpkldfllfiaa
open Go.RowKit

theorem putL_len (ks : List K2) (x y : Int) : (putL ks x y).length ≤ ks.length + 1 := by
  unfold putL
  split
  · omega
  · have := aheadN_le ks x y
    simp; omega
theorem infoWr : (Try.prog.info? 35).map (fun i => (i.zero, i.size, i.bytes)) = some (some (.agg #[.int .i64 0, .int .i64 0, .int .i64 0, .int .i64 0]), 4, 32) := by kernel_rfl
theorem cell_four_new (w : World) (a b c d : Value) (t : TypeId) : ∀ j u, [a, b, c, d][j]? = some u → (w.alloc (.cells #[a, b, c, d] t)).cell? ((⟨w.heap.size, 0, none⟩ : Addr).add j) = some u := by
  intro j u hu
  rw [Addr.add_mid, Nat.zero_add]
  match j, hu with
  | 0, hu => simp at hu; subst hu; simp
  | 1, hu => simp at hu; subst hu; simp
  | 2, hu => simp at hu; subst hu; simp
  | 3, hu => simp at hu; subst hu; simp
theorem emptyKs (w : World) (B : Nat) (h : B ≤ w.heap.size) : Keys B (.slice (some ⟨w.heap.size, 0, none⟩) 0 0) [] (w.alloc (.cells #[] 33)) := emptyK w B h
theorem emptyWs (w : World) (B : Nat) (h : B ≤ w.heap.size) : Wraps B (.slice (some ⟨w.heap.size, 0, none⟩) 0 0) [] (w.alloc (.cells #[] 35)) := World.ownsRow_lit (base := B) (size := 4) w #[] 0 h (by decide) rfl
theorem Wraps.kept {B : Nat} {v : Value} {ws : List W4} {W W' : World} {row : Option Nat} (h : Wraps B v ws W) (hg : W.grownBy W' row) (hne : ∀ k, row = some k → v.ownBlock ≠ some k) : Wraps B v ws W' := by
  refine World.ownsRow.kept h hg ?_
  cases row with
  | none => cases e : v.ownBlock <;> simp
  | some k => exact .inr (hne k rfl)

set_option maxHeartbeats 1000000 in
theorem known_any (B R : Nat) (most : Nat) (W : World) (h : Rd B R W) (hm : most ≤ 100) :
    Calls Try.prog 51 #[.pointer (some ⟨R, 0, none⟩), .int .i64 (most : Int)] W fun e W' => ∃ v ks, e = .returned v ∧ Keys W.heap.size v ks W' ∧ ks.length ≤ most ∧ Rd B R W' ∧ W.grownBy W' (some R) := by
  have hlt := h.lt
  have K0 := hidOf (emptyKs W W.heap.size (Nat.le_refl _))
  have h1 := h.alloc (.cells #[] 33)
  have g1 : W.grownBy (W.alloc (.cells #[] 33)) (some R) := World.grownBy_alloc _ _ _
  go_enter Try.func51, Try.ntmps51
  go_wp2_with fail
  generalize W.alloc (.cells #[] 33) = W1 at *
  refine (below_any B R _ _ h1 (by omega) (by omega)).mono ?_
  rintro e w2 ⟨n, hn0, hn1, rfl, hR2, hg2⟩
  have K2' : Hid (Keys W.heap.size (.slice (some ⟨W.heap.size, 0, none⟩) 0 0) [] w2) := K0.out.kept hg2 (fun k e e' => by cases e; simp [Value.ownBlock] at e'; omega)
  obtain ⟨m, rfl⟩ : ∃ m : Nat, n = (m : Int) := ⟨n.toNat, by omega⟩
  have hG2 := g1.trans hg2
  clear K0 h1 g1 hg2
  go_wp2
  go_loopw [5, 6] (fun vo i wr => ∃ (j : Nat) (ks : List (Int × Int)), i = .int .i64 (j : Int) ∧ ks.length + j ≤ most ∧ Hid (Keys W.heap.size vo ks wr ∧ vo ≠ .slice none 0 0) ∧ Rd B R wr ∧ W.grownBy wr (some R)) (fun _ i _ => (intOf i).toNat)
  case atStart => exact ⟨m, [], rfl, by simp; omega, ⟨K2'.out, by simp⟩, hR2, hG2⟩
  case round =>
    obtain ⟨j, ks, rfl, hle, HK, hR, hG⟩ := hrel
    by_cases hj : j = 0
    · subst hj
      go_wp2
      go_ret
      exact ⟨_, ks, rfl, HK.out.1, by omega, hR, hG⟩
    · have hj' : 0 < j := by omega
      go_wp2_with fail
      refine (key_any B R _ hR).mono ?_
      rintro e w3 ⟨p, q, _, _, _, rfl, hR3, hg3⟩
      have k3 := HK.out.1.kept hg3 (fun k e e' => by cases e; have := (HK.out.1.lt _ e').1; omega)
      rcases k3.form with ⟨e, _⟩ | ⟨g, cap, e, hgB, hgl, hc, hcm, hseg, _⟩
      · exact absurd e HK.out.2
      subst e
      have hG3 := hG.trans hg3
      clear HK k3 hg3 hG hR
      go_wp2_with fail
      refine (l2Put_row g cap ks p q w3 hc (by omega) hgl hseg).mono ?_
      rintro e w4 ⟨v4, rfl, hne, k4, b4⟩
      have hs3 := hG3.size
      have HK4 : Hid (Keys W.heap.size v4 (putL ks p q) w4 ∧ v4 ≠ .slice none 0 0) := ⟨k4.mono hs3, hne⟩
      have hR4 : Rd B R w4 := hR3.kept (grown_below b4) (fun k e => by cases e)
      have hG4 : W.grownBy w4 (some R) := hG3.andThen (grown_below b4) (fun k e => by cases e)
      have hpl := putL_len ks p q
      clear k4 b4 hne hseg hR3 hG3
      go_wp2
      go_roundw
      case rel => exact ⟨j - 1, putL ks p q, by go_num, by omega, HK4.out, hR4, hG4⟩
      case measure => simp [intOf]; omega
end Go.Proofs.Ytkkjpkldfllfiaa
