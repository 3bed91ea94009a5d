
/- Marks in wraps: markWrapS, heldWrapS, markRekey, heldRekey, with the marks themselves. -/
import Derived.Test.YtmlmlmcmhpahpaaDoorRk
namespace Go.Proofs.YtmlmlmcmhpahpaaDoor
open Go.RowKit

abbrev wmark (k : Int) (i : Nat) : W4 := (k + 4 * (i : Int), k + 4 * (i : Int) + 1, k + 4 * (i : Int) + 1 + 1, k + 4 * (i : Int) + 1 + 1 + 1)
def wmarks (k : Int) (n : Nat) : List W4 := (List.range n).map fun (i : Nat) => wmark k i
theorem wmarks_length (k : Int) (n : Nat) : (wmarks k n).length = n := by simp [wmarks]
theorem wmarks_get (k : Int) (n i : Nat) (h : i < (wmarks k n).length) : (wmarks k n)[i] = wmark k i := by simp [wmarks]
def partWM (k : Int) (xs : List W4) (j : Nat) : List W4 := wmarks k j ++ xs.drop j
theorem partWM_length (k : Int) (xs : List W4) (j : Nat) (h : j ≤ xs.length) : (partWM k xs j).length = xs.length := by simp [partWM, wmarks_length]; omega
theorem partWM_set (k : Int) (xs : List W4) (j : Nat) (h : j < xs.length) : (partWM k xs j).set j (wmark k j) = partWM k xs (j + 1) := by
  unfold partWM
  rw [List.drop_eq_getElem_cons h]
  have : wmarks k (j + 1) = wmarks k j ++ [wmark k j] := by simp [wmarks, List.range_succ]
  rw [this, List.append_assoc, List.set_append_right _ _ (by simp [wmarks_length])]
  simp [wmarks_length]
  rw [List.drop_eq_getElem_cons h, List.set_cons_zero]

set_option maxHeartbeats 1000000 in
theorem markWrapS_marks {B : Nat} {v : Value} {xs : List W4} {w : World} (k : Int) (hx : Wraps B v xs w) (hk : 0 ≤ k) (hs : k + 4 * xs.length ≤ 4611686018427387904) :
    Calls Tryd.prog 41 #[v, .int .i64 k] w fun e w' => e = .returned (.int .i64 (k + 4 * xs.length)) ∧ Wraps B v (wmarks k xs.length) w' ∧ w.grownBy w' v.ownBlock := by
  rcases hx.form with ⟨rfl, rfl⟩ | ⟨g, cap, rfl, hB, hg, h1, h2, h3, _⟩
  · simp only [List.length_nil]
    go_enter Tryd.func41, Tryd.ntmps41
    go_wp2
    refine wp_loop_rounds 1 ?_
    rw [rounds_succ]
    go_wp2
    go_ret
    exact ⟨by simp, hx, World.grownBy.refl _ _⟩
  · clear h3
    unfold maxLen at h2
    generalize hn : xs.length = n at *
    have HX : Hid (Wraps B (.slice (some ⟨g, 0, none⟩) n cap) xs w) := hx
    clear hx
    go_enter Tryd.func41, Tryd.ntmps41
    go_wp2
    go_loopw [1, 5] (fun kk i wr => ∃ j : Nat, j ≤ n ∧ i = .int .i64 j ∧ kk = .int .i64 (k + 4 * j) ∧ Hid (Wraps B (.slice (some ⟨g, 0, none⟩) n cap) (partWM k xs j) wr ∧ w.grownBy wr (some g))) (fun _ i _ => n - (intOf i).toNat)
    case atStart => exact ⟨0, Nat.zero_le _, rfl, by simp, by simpa [partWM, wmarks] using HX.out, World.grownBy.refl _ _⟩
    case round =>
      obtain ⟨j, hj, rfl, rfl, HI⟩ := hrel
      by_cases hlt : j < n
      · have hyl : (partWM k xs j).length = n := by rw [partWM_length _ _ _ (by omega), hn]
        obtain ⟨hseg, hfz⟩ : WSeg g 0 (partWM k xs j) wr ∧ ∀ o, wr.frozen? ⟨g, o, none⟩ = false := by
          rcases HI.out.1.form with ⟨e, _⟩ | ⟨g', cap', e, _, _, _, _, e5, e6⟩
          · cases e
          · injection e with e; injection e with e; injection e with e; subst e; exact ⟨e5, e6⟩
        obtain ⟨c1, c2, c3, c4⟩ := hseg j (by omega)
        simp only [Nat.zero_add] at c1 c2 c3 c4
        obtain ⟨hst, hgr⟩ := HI.out.1.stored hyl j (by omega) (k + 4 * j) (k + 4 * j + 1) (k + 4 * j + 1 + 1) (k + 4 * j + 1 + 1 + 1)
        rw [partWM_set _ _ _ (by omega)] at hst
        have HS : Hid (Wraps B (.slice (some ⟨g, 0, none⟩) n cap) (partWM k xs (j + 1)) (putW wr g j (k + 4 * j) (k + 4 * j + 1) (k + 4 * j + 1 + 1) (k + 4 * j + 1 + 1 + 1)) ∧ w.grownBy (putW wr g j (k + 4 * j) (k + 4 * j + 1) (k + 4 * j + 1 + 1) (k + 4 * j + 1 + 1 + 1)) (some g)) := ⟨hst, HI.out.2.trans hgr⟩
        generalize (partWM k xs j)[j].1 = z1 at c1
        generalize (partWM k xs j)[j].2.1 = z2 at c2
        generalize (partWM k xs j)[j].2.2.1 = z3 at c3
        generalize (partWM k xs j)[j].2.2.2 = z4 at c4
        have f1 := hfz (j * 4)
        have f2 := hfz (j * 4 + 1)
        have f3 := hfz (j * 4 + 2)
        have f4 := hfz (j * 4 + 3)
        clear hst hgr HI hseg hfz hyl
        go_wp2
        go_roundw
        case rel => exact ⟨j + 1, by omega, by go_num, by go_num, HS⟩
        case measure => simp [intOf]; omega
      · have : j = n := by omega
        subst this
        go_wp2
        go_ret
        refine ⟨rfl, ?_, HI.out.2⟩
        have e : partWM k xs j = wmarks k j := by simp [partWM, ← hn]
        rw [← e]; exact HI.out.1

set_option maxHeartbeats 1000000 in
theorem heldWrapS_any {B : Nat} {v : Value} {w : World} (k : Int) (n : Nat) (hx : Wraps B v (wmarks k n) w) (hk : 0 ≤ k) (hs : k + 4 * n ≤ 4611686018427387904) :
    Calls Tryd.prog 42 #[v, .int .i64 k] w fun e w' => e = .returned (.int .i64 (k + 4 * n)) ∧ w' = w := by
  rcases hx.form with ⟨rfl, h0⟩ | ⟨g, cap, rfl, hB, hg, h1, h2, h3, _⟩
  · have : n = 0 := by have := congrArg List.length h0; simpa [wmarks_length] using this
    subst this
    go_enter Tryd.func42, Tryd.ntmps42
    go_wp2
    refine wp_loop_rounds 1 ?_
    rw [rounds_succ]
    go_wp2
    go_ret
    exact ⟨by simp, rfl⟩
  · rw [wmarks_length]
    rw [wmarks_length] at h1
    unfold maxLen at h2
    clear hx
    go_enter Tryd.func42, Tryd.ntmps42
    go_wp2
    go_loop [1, 5] (fun kk i => ∃ j : Nat, j ≤ n ∧ i = .int .i64 j ∧ kk = .int .i64 (k + 4 * j)) (fun _ i => n - (intOf i).toNat)
    case atStart => exact ⟨0, Nat.zero_le _, rfl, by simp⟩
    case round =>
      obtain ⟨j, hj, rfl, rfl⟩ := hrel
      by_cases hlt : j < n
      · obtain ⟨c1, c2, c3, c4⟩ := h3 j (by rw [wmarks_length]; exact hlt)
        rw [wmarks_get] at c1 c2 c3 c4
        simp only [Nat.zero_add] at c1 c2 c3 c4
        have H3 : Hid (WSeg g 0 (wmarks k n) w) := h3
        clear h3
        go_wp2
        go_round
        case rel => exact ⟨j + 1, by omega, by go_num, by go_num⟩
        case measure => simp [intOf]; omega
      · have : j = n := by omega
        subst this
        go_wp2
        go_ret
        exact ⟨rfl, rfl⟩

theorem markRekey_marks {B : Nat} {x : Value} {vs : List W4} {w : World} (ep k : Int) (h : Wraps B x vs w) (hk : 0 ≤ k) (hs : k + 4 * vs.length ≤ 4611686018427387904) :
    Calls Tryd.prog 20 #[rv ep x, .int .i64 k] w fun e w' => e = .returned (.int .i64 (k + 4 * vs.length)) ∧ Wraps B x (wmarks k vs.length) w' ∧ w.grownBy w' x.ownBlock := by
  have hB1 := one_below w (rb ep x)
  obtain ⟨c0, c1⟩ := rcell2 w ep x
  have H1 : Hid (Wraps B x vs (w.alloc (rb ep x))) := wrapsSince h hB1
  have hG : w.grownBy (w.alloc (rb ep x)) x.ownBlock := World.grownBy_alloc _ _ _
  clear h
  go_enter Tryd.func20, Tryd.ntmps20
  go_wp2_with fail
  refine (markWrapS_marks k H1.out hk (by omega)).mono ?_
  rintro e w2 ⟨rfl, m2, g2⟩
  have HG : Hid (w.grownBy w2 x.ownBlock) := hG.trans g2
  have HM : Hid (Wraps B x (wmarks k vs.length) w2) := m2
  clear g2 hG H1 c0 c1 m2
  go_wp2
  go_ret
  exact ⟨rfl, HM.out, HG.out⟩

theorem heldRekey_any {B : Nat} {x : Value} {w : World} (ep k : Int) (n : Nat) (h : Wraps B x (wmarks k n) w) (hk : 0 ≤ k) (hs : k + 4 * n ≤ 4611686018427387904) :
    Calls Tryd.prog 21 #[rv ep x, .int .i64 k] w fun e w' => e = .returned (.int .i64 (k + 4 * n)) ∧ Below w.heap.size w w' := by
  have hB1 := one_below w (rb ep x)
  obtain ⟨c0, c1⟩ := rcell2 w ep x
  have H1 : Hid (Wraps B x (wmarks k n) (w.alloc (rb ep x))) := wrapsSince h hB1
  clear h
  have hge : ¬ (k + 4 * (n : Int)) < 0 := by omega
  go_enter Tryd.func21, Tryd.ntmps21
  go_wp2_with fail
  refine (heldWrapS_any k n H1.out hk (by omega)).mono ?_
  rintro e w2 ⟨rfl, hw⟩
  subst hw
  go_wp2
  go_ret
  exact ⟨rfl, hB1⟩
end Go.Proofs.YtmlmlmcmhpahpaaDoor
