
/- The walk of the exact law of KeyAhead. -/
import Derived.Test.YtojgbcianpglpaaKaTo
namespace Go.Proofs.Ytojgbcianpglpaa
open Go.RowKit

set_option maxHeartbeats 400000 in
theorem exKeyAhead_any (a0 a1 b0 b1 : Int) (w : World) :
    Calls Try.prog 8 #[kv a0 a1, kv b0 b1] w fun e w' => e = .returned (.bool true) ∧ Below w.heap.size w w' := by
  go_enter Try.func8, Try.ntmps8
  go_wp2
  have h0 : Two w.heap.size w a0 a1 b0 b1 ((w.alloc (lkb a0 a1)).alloc (lkb b0 b1)) := ⟨by simp, by simp, by simp, by simp, ((Below.refl _ _).alloc (Nat.le_refl _) _).alloc (by simp) _, by simp⟩
  generalize (w.alloc (lkb a0 a1)).alloc (lkb b0 b1) = W0 at h0 ⊢
  go_region_held3 (fun W => W.cell? ⟨w.heap.size, 0, none⟩ = some (.int .i64 a0) ∧ W.cell? ⟨w.heap.size, 1, none⟩ = some (.int .i64 a1) ∧ W.cell? ⟨w.heap.size + 1, 0, none⟩ = some (.int .i64 b0) ∧ W.cell? ⟨w.heap.size + 1, 1, none⟩ = some (.int .i64 b1) ∧ Below w.heap.size w W ∧ w.heap.size + 2 ≤ W.heap.size)
    (first | exact h0.drew | exact Two.later ‹_› hb)
    (first | (go_at_call 25; refine (toKey_below _ _ _).mono ?_; rintro e w' ⟨rfl, hb⟩) | (go_at_call 21; refine (specAhead_below _ _ _ _ _).mono ?_; rintro e w' ⟨rfl, hb⟩))
  go_wp2
  go_region_held3 (fun W => W.cell? ⟨w.heap.size, 0, none⟩ = some (.int .i64 a0) ∧ W.cell? ⟨w.heap.size, 1, none⟩ = some (.int .i64 a1) ∧ W.cell? ⟨w.heap.size + 1, 0, none⟩ = some (.int .i64 b0) ∧ W.cell? ⟨w.heap.size + 1, 1, none⟩ = some (.int .i64 b1) ∧ Below w.heap.size w W ∧ w.heap.size + 2 ≤ W.heap.size)
    (first | exact Two.drew ‹_› | exact Two.later ‹_› hb)
    (first | (go_at_call 25; refine (toKey_below _ _ _).mono ?_; rintro e w' ⟨rfl, hb⟩) | (go_at_call 20; refine (keyAhead_below _ _ _ _ _).mono ?_; rintro e w' ⟨rfl, hb⟩))
  all_goals go_wp2
  all_goals go_ret
  all_goals exact ⟨rfl, (show Two w.heap.size w a0 a1 b0 b1 _ from ‹_›).2.2.2.2.1⟩
end Go.Proofs.Ytojgbcianpglpaa
