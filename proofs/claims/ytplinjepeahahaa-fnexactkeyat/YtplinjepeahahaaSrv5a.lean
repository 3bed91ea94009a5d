
/- A node's key: l3Key, keyAt, KeyAt of the program and of the model. -/
import Derived.Test.YtplinjepeahahaaSrv4
namespace Go.Proofs.Ytplinjepeahahaa
open Go.RowKit

theorem serverB_len {ep : Int} {vs : List Int} {ss : List (Int × Int)} (h : serverB ep vs ss = true) : vs.length = 15 := by
  simp [serverB, versB] at h
  exact h.2.1.1
def atB (ep : Int) (vs : List Int) (ss : List (Int × Int)) (node : Int) : Bool := serverB ep vs ss && decide (1 ≤ node ∧ node ≤ 15)
def atK (ep : Int) (vs : List Int) (ss : List (Int × Int)) (node : Int) : Int × Int := if (serverB ep vs ss && decide (1 ≤ node ∧ node ≤ 15)) = true then (node, vAt vs (node - 1).toNat) else (0, 0)

set_option maxHeartbeats 1000000 in
theorem l3Key_any {B : Nat} {x y : Value} {vs : List Int} {w : World} (ep : Int) (j : Nat) (hj : j < 15) (hl : vs.length = 15) (hx : Ints B x vs w) :
    Calls Try.prog 48 #[svv ep x y, .int .i64 ((j : Int) + 1)] w fun e w' => e = .returned (kv ((j : Int) + 1) (vAt vs j)) ∧ Below w.heap.size w w' := by
  have hB2 := two_below w (svb ep x y) (kb 0 0)
  obtain ⟨a, c, hv, _, hrow⟩ := (hx.since (one_below w (svb ep x y))).row
  subst hv
  rw [hl]
  rw [hl] at hB2
  obtain ⟨g, rfl, hg, hseg⟩ : ∃ g, a = some ⟨g, 0, none⟩ ∧ g < (w.alloc (svb ep (.slice a vs.length c) y)).heap.size ∧ ISeg g 0 vs (w.alloc (svb ep (.slice a vs.length c) y)) := by
    rcases hrow with e | e
    · rw [e] at hl; simp at hl
    · exact e
  rw [hl] at hg hseg
  obtain ⟨c0, c1, c2⟩ := scell3 w ep (.slice (some ⟨g, 0, none⟩) 15 c) y
  have d1 := cell_since c1 (one_below _ (kb 0 0))
  have a1 := hseg j (by omega)
  rw [Nat.zero_add] at a1
  have e1 := cell_since a1 (one_below _ (kb 0 0))
  rw [vAt_get vs j (by omega)]
  generalize vs[j] = z at a1 e1
  clear hx hrow hseg c0 c2
  go_enter Try.func48, Try.ntmps48
  go_wp2
  exact bodyPost_ret (v := kv ((j : Int) + 1) z) (by simp [results, Try.results48, go_sem]) rfl ⟨rfl, two_below w _ _⟩

set_option maxHeartbeats 1000000 in
theorem keyAt_any {B : Nat} {x y : Value} {vs : List Int} {w : World} (ep : Int) (j : Nat) (hj : j < 15) (hl : vs.length = 15) (hx : Ints B x vs w) :
    Calls Try.prog 50 #[svv ep x y, .int .i64 ((j : Int) + 1)] w fun e w' => e = .returned (kv ((j : Int) + 1) (vAt vs j)) ∧ Below w.heap.size w w' := by
  have hB2 := two_below w (svb ep x y) (kb 0 0)
  obtain ⟨a, c, hv, _, hrow⟩ := (hx.since (one_below w (svb ep x y))).row
  subst hv
  rw [hl]
  rw [hl] at hB2
  obtain ⟨g, rfl, hg, hseg⟩ : ∃ g, a = some ⟨g, 0, none⟩ ∧ g < (w.alloc (svb ep (.slice a vs.length c) y)).heap.size ∧ ISeg g 0 vs (w.alloc (svb ep (.slice a vs.length c) y)) := by
    rcases hrow with e | e
    · rw [e] at hl; simp at hl
    · exact e
  rw [hl] at hg hseg
  obtain ⟨c0, c1, c2⟩ := scell3 w ep (.slice (some ⟨g, 0, none⟩) 15 c) y
  have d1 := cell_since c1 (one_below _ (kb 0 0))
  have a1 := hseg j (by omega)
  rw [Nat.zero_add] at a1
  have e1 := cell_since a1 (one_below _ (kb 0 0))
  rw [vAt_get vs j (by omega)]
  generalize vs[j] = z at a1 e1
  clear hx hrow hseg c0 c2
  go_enter Try.func50, Try.ntmps50
  go_wp2
  exact bodyPost_ret (v := kv ((j : Int) + 1) z) (by simp [results, Try.results50, go_sem]) rfl ⟨rfl, two_below w _ _⟩
end Go.Proofs.Ytplinjepeahahaa
