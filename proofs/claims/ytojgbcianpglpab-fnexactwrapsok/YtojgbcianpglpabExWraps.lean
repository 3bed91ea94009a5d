
/- The walk of the exact law of WrapsOk: it answers true at every list of wraps, and nothing that lay there turns. -/
import Derived.Test.YtojgbcianpglpabEqWraps
namespace Go.Proofs.Ytojgbcianpglpab
open Go.RowKit

set_option maxHeartbeats 400000 in
theorem exWrapsOk_any (v : Value) (ks : List W4) (w : World) (h : InWraps v ks w) :
    Calls Try.prog 4 #[v] w fun e w' => e = .returned (.bool true) ∧ Below w.heap.size w w' := by
  obtain ⟨a, c, hv, hm⟩ := h.len
  subst hv
  by_cases hn : ks.length ≤ 1048576
  · have hif : (if (1048576 : Int) - (ks.length : Int) < 0 then (-1 : Int) else 1048576 - (ks.length : Int)) = 1048576 - (ks.length : Int) := if_neg (by omega)
    have hge : ¬ (1048576 : Int) - (ks.length : Int) < 0 := by omega
    go_enter Try.func4, Try.ntmps4
    go_wp2_with fail
    refine (szWrapS_any _ _ _ _ _ (by omega) (by omega) hm).mono ?_
    rintro e w' ⟨rfl, rfl⟩
    rw [hif]
    go_wp2_with fail
    refine (toWrapS_any _ ks _ h hn).mono ?_
    rintro e w1 ⟨v1, rfl, _, hK1, hB1⟩
    go_wp2_with fail
    refine (specWrapsOk_any hK1).mono ?_
    rintro e w2 ⟨rfl, hB2⟩
    have hBa := hB1.trans (hB2.mono hB1.size)
    go_wp2_with fail
    refine (toWrapS_any _ ks _ (h.below hBa (Nat.le_refl _)) hn).mono ?_
    rintro e w3 ⟨v3, rfl, _, hK3, hB3⟩
    go_wp2_with fail
    refine (wrapsOk_any hK3).mono ?_
    rintro e w4 ⟨rfl, hB4⟩
    have hBb := hBa.trans ((hB3.trans (hB4.mono hB3.size)).mono hBa.size)
    have hK4 := hK3.below hB4 (fun k e => (hK3.lt k e).2)
    go_wp2_with fail
    refine (toWrapS_any _ ks _ (h.below hBb (Nat.le_refl _)) hn).mono ?_
    rintro e w5 ⟨v5, rfl, _, hK5, hB5⟩
    have hK45 := hK4.below hB5 (fun k e => (hK4.lt k e).2)
    go_wp2_with fail
    refine (eqWrapS_any hK45 hK5).mono ?_
    rintro e w6 ⟨rfl, hB6⟩
    have heq : eqLW ks ks = true := decide_eq_true rfl
    rw [heq]
    have hBc := hBb.trans ((hB5.trans (hB6.mono hB5.size)).mono hBb.size)
    go_wp2
    go_ret
    exact ⟨rfl, hBc⟩
  · have hif : (if (1048576 : Int) - (ks.length : Int) < 0 then (-1 : Int) else 1048576 - (ks.length : Int)) = -1 := if_pos (by omega)
    go_enter Try.func4, Try.ntmps4
    go_wp2_with fail
    refine (szWrapS_any _ _ _ _ _ (by omega) (by omega) hm).mono ?_
    rintro e w' ⟨rfl, rfl⟩
    rw [hif]
    go_wp2
    go_ret
    exact ⟨rfl, Below.refl _ _⟩
end Go.Proofs.Ytojgbcianpglpab
