
/- markWrapS: it writes into its own row alone. -/
import Derived.Test.YtmlmlmcmhpahpaaDoorLm
import Derived.Test.YtmlmlmcmhpahpaaDoorToWraps
namespace Go.Proofs.YtmlmlmcmhpahpaaDoor
open Go.RowKit

set_option maxHeartbeats 1000000 in
theorem markWrapS_any {B : Nat} {v : Value} {xs : List W4} {w : World} (k : Int) (hx : Wraps B v xs w) (hk : 0 ≤ k) (hs : k + 4 * xs.length ≤ 4611686018427387904) :
    Calls Tryd.prog 41 #[v, .int .i64 k] w fun e w' => e = .returned (.int .i64 (k + 4 * xs.length)) ∧ w.grownBy w' v.ownBlock := by
  rcases hx.form with ⟨rfl, rfl⟩ | ⟨g, cap, rfl, hB, hg, h1, h2, h3, _⟩
  · simp only [List.length_nil]
    go_enter Tryd.func41, Tryd.ntmps41
    go_wp2
    refine wp_loop_rounds 1 ?_
    rw [rounds_succ]
    go_wp2
    go_ret
    exact ⟨by simp, World.grownBy.refl _ _⟩
  · clear h3
    unfold maxLen at h2
    generalize hn : xs.length = n at *
    have HX : Hid (Wraps B (.slice (some ⟨g, 0, none⟩) n cap) xs w) := hx
    clear hx
    go_enter Tryd.func41, Tryd.ntmps41
    go_wp2
    go_loopw [1, 5] (fun kk i wr => ∃ j : Nat, j ≤ n ∧ i = .int .i64 j ∧ kk = .int .i64 (k + 4 * j) ∧ Hid (w.grownBy wr (some g) ∧ ∃ ys : List W4, ys.length = n ∧ Wraps B (.slice (some ⟨g, 0, none⟩) n cap) ys wr)) (fun _ i _ => n - (intOf i).toNat)
    case atStart => exact ⟨0, Nat.zero_le _, rfl, by simp, World.grownBy.refl _ _, xs, hn, HX.out⟩
    case round =>
      obtain ⟨j, hj, rfl, rfl, HI⟩ := hrel
      by_cases hlt : j < n
      · obtain ⟨hgw, ys, hyl, hY⟩ := HI.out
        obtain ⟨hseg, hfz⟩ : WSeg g 0 ys wr ∧ ∀ o, wr.frozen? ⟨g, o, none⟩ = false := by
          rcases hY.form with ⟨e, _⟩ | ⟨g', cap', e, _, _, _, _, e5, e6⟩
          · cases e
          · injection e with e; injection e with e; injection e with e; subst e; exact ⟨e5, e6⟩
        obtain ⟨c1, c2, c3, c4⟩ := hseg j (by omega)
        simp only [Nat.zero_add] at c1 c2 c3 c4
        obtain ⟨hst, hgr⟩ := hY.stored hyl j (by omega) (k + 4 * j) (k + 4 * j + 1) (k + 4 * j + 1 + 1) (k + 4 * j + 1 + 1 + 1)
        have HS : Hid (w.grownBy (putW wr g j (k + 4 * j) (k + 4 * j + 1) (k + 4 * j + 1 + 1) (k + 4 * j + 1 + 1 + 1)) (some g) ∧ ∃ ys : List W4, ys.length = n ∧ Wraps B (.slice (some ⟨g, 0, none⟩) n cap) ys (putW wr g j (k + 4 * j) (k + 4 * j + 1) (k + 4 * j + 1 + 1) (k + 4 * j + 1 + 1 + 1))) := ⟨hgw.trans hgr, _, by simpa using hyl, hst⟩
        generalize ys[j].1 = z1 at c1
        generalize ys[j].2.1 = z2 at c2
        generalize ys[j].2.2.1 = z3 at c3
        generalize ys[j].2.2.2 = z4 at c4
        have f1 := hfz (j * 4)
        have f2 := hfz (j * 4 + 1)
        have f3 := hfz (j * 4 + 2)
        have f4 := hfz (j * 4 + 3)
        clear hst hgr HI hseg hfz hY hgw hyl
        go_wp2
        go_roundw
        case rel => exact ⟨j + 1, by omega, by go_num, by go_num, HS⟩
        case measure => simp [intOf]; omega
      · have : j = n := by omega
        subst this
        go_wp2
        go_ret
        exact ⟨rfl, HI.out.1⟩
end Go.Proofs.YtmlmlmcmhpahpaaDoor
