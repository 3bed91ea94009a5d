
/- The walk of the exact law of KidsOf: it answers true at every number, and nothing that lay there turns. -/
import Derived.Test.YtojgbcianpglpaaKids
import Derived.Test.YtojgbcianpglpaaOwnLaws
namespace Go.Proofs.Ytojgbcianpglpaa
open Go.RowKit

set_option maxHeartbeats 400000 in
theorem exKidsOf_any (n : Int) (w : World) (_hn : (Lit.int .i64 n).wf = true) :
    Calls Try.prog 6 #[.int .i64 n] w fun e w' => e = .returned (.bool true) ∧ Below w.heap.size w w' := by
  have hl : (kids n).length ≤ 2 := by unfold kids; split <;> simp
  generalize hxs : kids n = xs at hl
  go_enter Try.func6, Try.ntmps6
  go_wp2_with fail
  refine (specKidsOf_any _ _).mono ?_
  rintro e w1 ⟨v1, rfl, hI1, hB1⟩
  go_wp2_with fail
  refine (kidsOf_any _ _).mono ?_
  rintro e w2 ⟨v2, rfl, hI2, hB2⟩
  rw [hxs] at hI1 hI2
  have hI1' : Ints w.heap.size v1 xs w2 := hI1.below hB2 (fun k e => (hI1.lt k e).2)
  have hs1 := hB1.size
  have hs2 := hB2.size
  have heq : eqI xs xs = true := by simp [eqI]
  go_wp2_with fail
  refine (eqInt64S_any hI2 hI1').mono ?_
  rintro e w' ⟨rfl, q, rfl⟩
  rw [heq]
  go_wp2_with fail
  refine (markInt64S_any 1 (hI2.drewN q) (by omega) (by omega)).mono ?_
  rintro e w3 ⟨rfl, hM, hg3⟩
  have hI3 : Ints w.heap.size v1 xs w3 := (hI1'.drewN q).kept hg3 (fun k e e' => by have := (hI2.lt k e).1; have := (hI1.lt k e').2; omega)
  have hs3 := hg3.size
  have hB3 : Below w.heap.size w w3 := (hB1.trans (hB2.mono hs1)).trans ⟨hg3.os, hg3.tape, hg3.output, hg3.size, fun k hk => hg3.block k (by simp at hs3 ⊢; omega) (fun e => by have := (hI2.lt k e.symm).1; omega)⟩
  go_wp2_with fail
  refine (heldInt64S_any 1 xs.length hM (by omega) (by omega)).mono ?_
  rintro e w' ⟨rfl, rfl⟩
  go_wp2_with fail
  refine (kidsOf_any _ _).mono ?_
  rintro e w4 ⟨v4, rfl, hI4, hB4⟩
  rw [hxs] at hI4
  have hI5 : Ints w.heap.size v1 xs w4 := hI3.below hB4 (fun k e => (hI3.lt k e).2)
  have hM5 := hM.below hB4 (fun k e => (hM.lt k e).2)
  have hB5 : Below w.heap.size w w4 := hB3.trans (hB4.mono (by simp at hs3; omega))
  go_wp2_with fail
  refine (eqInt64S_any hI4 hI5).mono ?_
  rintro e w' ⟨rfl, q2, rfl⟩
  rw [heq]
  go_wp2_with fail
  refine (heldInt64S_any 1 xs.length (hM5.drewN q2) (by omega) (by omega)).mono ?_
  rintro e w' ⟨rfl, rfl⟩
  go_wp2
  go_ret
  exact ⟨rfl, below_drewN hB5 _⟩
end Go.Proofs.Ytojgbcianpglpaa
