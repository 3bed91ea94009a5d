
/- What the exact laws' helpers that mark and look at marks do: markSeatS, heldSeatS, markWrapS. -/
import Derived.Test.YtplinjepeahahaaSrv4
namespace Go.Proofs.Ytplinjepeahahaa
open Go.RowKit

def smarks (k : Int) (n : Nat) : List (Int × Int) := (List.range n).map fun (i : Nat) => (k + 2 * (i : Int), k + 2 * (i : Int) + 1)
theorem smarks_length (k : Int) (n : Nat) : (smarks k n).length = n := by simp [smarks]
theorem smarks_get (k : Int) (n i : Nat) (h : i < (smarks k n).length) : (smarks k n)[i] = (k + 2 * (i : Int), k + 2 * (i : Int) + 1) := by simp [smarks]
def partSM (k : Int) (xs : List (Int × Int)) (j : Nat) : List (Int × Int) := smarks k j ++ xs.drop j
theorem partSM_length (k : Int) (xs : List (Int × Int)) (j : Nat) (h : j ≤ xs.length) : (partSM k xs j).length = xs.length := by simp [partSM, smarks_length]; omega
theorem partSM_set (k : Int) (xs : List (Int × Int)) (j : Nat) (h : j < xs.length) : (partSM k xs j).set j (k + 2 * (j : Int), k + 2 * (j : Int) + 1) = partSM k xs (j + 1) := by
  unfold partSM
  rw [List.drop_eq_getElem_cons h]
  have : smarks k (j + 1) = smarks k j ++ [(k + 2 * (j : Int), k + 2 * (j : Int) + 1)] := by simp [smarks, List.range_succ]
  rw [this, List.append_assoc, List.set_append_right _ _ (by simp [smarks_length])]
  simp [smarks_length]
  rw [List.drop_eq_getElem_cons h, List.set_cons_zero]

set_option maxHeartbeats 1000000 in
theorem markSeatS_any {B : Nat} {v : Value} {xs : List (Int × Int)} {w : World} (k : Int) (hx : Seats B v xs w) (hk : 0 ≤ k) (hs : k + 2 * xs.length ≤ 4611686018427387904) :
    Calls Try.prog 46 #[v, .int .i64 k] w fun e w' => e = .returned (.int .i64 (k + 2 * xs.length)) ∧ Seats B v (smarks k xs.length) w' ∧ w.grownBy w' v.ownBlock := by
  rcases hx.form with ⟨rfl, rfl⟩ | ⟨g, cap, rfl, hB, hg, h1, h2, h3, _⟩
  · simp only [List.length_nil]
    go_enter Try.func46, Try.ntmps46
    go_wp2
    refine wp_loop_rounds 1 ?_
    rw [rounds_succ]
    go_wp2
    go_ret
    exact ⟨by simp, hx, World.grownBy.refl _ _⟩
  · clear h3
    unfold maxLen at h2
    generalize hn : xs.length = n at *
    have HX : Hid (Seats B (.slice (some ⟨g, 0, none⟩) n cap) xs w) := hx
    clear hx
    go_enter Try.func46, Try.ntmps46
    go_wp2
    go_loopw [1, 5] (fun kk i wr => ∃ j : Nat, j ≤ n ∧ i = .int .i64 j ∧ kk = .int .i64 (k + 2 * j) ∧ Hid (Seats B (.slice (some ⟨g, 0, none⟩) n cap) (partSM k xs j) wr ∧ w.grownBy wr (some g))) (fun _ i _ => n - (intOf i).toNat)
    case atStart => exact ⟨0, Nat.zero_le _, rfl, by simp, by simpa [partSM, smarks] using HX.out, World.grownBy.refl _ _⟩
    case round =>
      obtain ⟨j, hj, rfl, rfl, HI⟩ := hrel
      by_cases hlt : j < n
      · have hlen : (partSM k xs j).length = n := by rw [partSM_length _ _ _ (by omega), hn]
        obtain ⟨hseg, hfz⟩ : KSeg g 0 (partSM k xs j) wr ∧ ∀ o, wr.frozen? ⟨g, o, none⟩ = false := by
          rcases HI.out.1.form with ⟨e, _⟩ | ⟨g', cap', e, _, _, _, _, e5, e6⟩
          · cases e
          · injection e with e; injection e with e; injection e with e; subst e; exact ⟨e5, e6⟩
        obtain ⟨c1, c2⟩ := hseg j (by omega)
        simp only [Nat.zero_add] at c1 c2
        obtain ⟨hst, hgr⟩ := HI.out.1.stored (by omega) j (by omega) (k + 2 * j) (k + 2 * j + 1)
        rw [partSM_set _ _ _ (by omega)] at hst
        have HS : Hid (Seats B (.slice (some ⟨g, 0, none⟩) n cap) (partSM k xs (j + 1)) ((wr.setCell ⟨g, j * 2, none⟩ (.int .i64 (k + 2 * j))).setCell ⟨g, j * 2 + 1, none⟩ (.int .i64 (k + 2 * j + 1))) ∧ w.grownBy ((wr.setCell ⟨g, j * 2, none⟩ (.int .i64 (k + 2 * j))).setCell ⟨g, j * 2 + 1, none⟩ (.int .i64 (k + 2 * j + 1))) (some g)) := ⟨hst, HI.out.2.trans hgr⟩
        generalize (partSM k xs j)[j].1 = z1 at c1
        generalize (partSM k xs j)[j].2 = z2 at c2
        have f1 := hfz (j * 2)
        have f2 := hfz (j * 2 + 1)
        clear hst hgr HI hseg hfz
        go_wp2
        go_roundw
        case rel => exact ⟨j + 1, by omega, by go_num, by go_num, HS⟩
        case measure => simp [intOf]; omega
      · have : j = n := by omega
        subst this
        go_wp2
        go_ret
        refine ⟨rfl, ?_, HI.out.2⟩
        have e : partSM k xs j = smarks k j := by simp [partSM, ← hn]
        rw [← e]; exact HI.out.1

set_option maxHeartbeats 1000000 in
theorem heldSeatS_any {B : Nat} {v : Value} {w : World} (k : Int) (n : Nat) (hx : Seats B v (smarks k n) w) (hk : 0 ≤ k) (hs : k + 2 * n ≤ 4611686018427387904) :
    Calls Try.prog 47 #[v, .int .i64 k] w fun e w' => e = .returned (.int .i64 (k + 2 * n)) ∧ w' = w := by
  rcases hx.form with ⟨rfl, h0⟩ | ⟨g, cap, rfl, hB, hg, h1, h2, h3, _⟩
  · have : n = 0 := by have := congrArg List.length h0; simpa [smarks_length] using this
    subst this
    go_enter Try.func47, Try.ntmps47
    go_wp2
    refine wp_loop_rounds 1 ?_
    rw [rounds_succ]
    go_wp2
    go_ret
    exact ⟨by simp, rfl⟩
  · rw [smarks_length]
    rw [smarks_length] at h1
    unfold maxLen at h2
    clear hx
    go_enter Try.func47, Try.ntmps47
    go_wp2
    go_loop [1, 5] (fun kk i => ∃ j : Nat, j ≤ n ∧ i = .int .i64 j ∧ kk = .int .i64 (k + 2 * j)) (fun _ i => n - (intOf i).toNat)
    case atStart => exact ⟨0, Nat.zero_le _, rfl, by simp⟩
    case round =>
      obtain ⟨j, hj, rfl, rfl⟩ := hrel
      by_cases hlt : j < n
      · obtain ⟨c1, c2⟩ := h3 j (by rw [smarks_length]; exact hlt)
        rw [smarks_get] at c1 c2
        simp only [Nat.zero_add] at c1 c2
        have H3 : Hid (KSeg g 0 (smarks k n) w) := h3
        clear h3
        go_wp2
        go_round
        case rel => exact ⟨j + 1, by omega, by go_num, by go_num⟩
        case measure => simp [intOf]; omega
      · have : j = n := by omega
        subst this
        go_wp2
        go_ret
        exact ⟨rfl, rfl⟩
end Go.Proofs.Ytplinjepeahahaa
