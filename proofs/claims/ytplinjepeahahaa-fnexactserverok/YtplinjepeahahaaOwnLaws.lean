
/- What the exact laws' helpers on lists of numbers do. -/
import Derived.Test.YtplinjepeahahaaOwn
namespace Go.Proofs.Ytplinjepeahahaa
open Go.RowKit

def eqI (xs ys : List Int) : Bool := decide (xs = ys)
/-- Two rows that agree so far. -/
theorem eq_of_pre {xs ys : List Int} (hl : xs.length = ys.length) (h : ∀ i (hi : i < xs.length), xs[i] = ys[i]'(by omega)) : xs = ys := List.ext_getElem hl fun i h1 _ => h i h1

theorem eqInt64S_len (a b : Option Addr) (m n c d : Nat) (w : World) (h : m ≠ n) :
    Calls Try.prog 28 #[.slice a m c, .slice b n d] w fun e w' => e = .returned (.bool false) ∧ w' = w := by
  have h' : ((m : Int) == (n : Int)) = false := by simp; omega
  go_enter Try.func28, Try.ntmps28
  go_wp2
  go_ret
  exact ⟨rfl, rfl⟩

set_option maxHeartbeats 400000 in
theorem eqInt64S_row (g g' : Nat) (c d : Nat) (xs ys : List Int) (w : World) (hl : ys.length = xs.length) (hm : xs.length ≤ maxLen)
    (h1 : ∀ i (hi : i < xs.length), w.cell? ⟨g, i, none⟩ = some (.int .i64 xs[i])) (h2 : ∀ i (hi : i < ys.length), w.cell? ⟨g', i, none⟩ = some (.int .i64 ys[i])) :
    Calls Try.prog 28 #[.slice (some ⟨g, 0, none⟩) xs.length c, .slice (some ⟨g', 0, none⟩) xs.length d] w fun e w' => e = .returned (.bool (eqI xs ys)) ∧ ∃ n, w' = w.drewN n := by
  unfold maxLen at hm
  generalize hn : xs.length = n at hm ⊢
  go_enter Try.func28, Try.ntmps28
  go_wp2
  go_loopw [5] (fun i wr => ∃ k : Nat, k ≤ n ∧ i = .int .i64 k ∧ (∀ j (hj : j < xs.length), j < k → xs[j] = ys[j]'(by omega)) ∧ ∃ q, wr = w.drewN q) (fun i _ => n - (intOf i).toNat)
  case atStart => exact ⟨0, Nat.zero_le _, rfl, fun _ _ h => absurd h (Nat.not_lt_zero _), 0, rfl⟩
  case round =>
    obtain ⟨k, hk, rfl, hpre, q, rfl⟩ := hrel
    by_cases hlt : k < n
    · have c1 := h1 k (by omega)
      have c2 := h2 k (by omega)
      have HP : Hid (∀ j (hj : j < xs.length), j < k → xs[j] = ys[j]'(by omega)) := hpre
      have hlk : k < xs.length := by omega
      have hlk2 : k < ys.length := by omega
      clear hpre
      go_wp2
      go_quiet (fail)
      go_wp2
      · have hne : (xs[k] != ys[k]) = true := by assumption
        go_ret
        refine ⟨?_, q + nq, by simp⟩
        show Ending.returned (.bool false) = _
        have : eqI xs ys = false := by
          simp only [eqI, decide_eq_false_iff_not]
          intro e
          subst e
          simp at hne
        rw [this]
      · have hne : (xs[k] != ys[k]) = false := by assumption
        go_roundw
        case rel =>
          refine ⟨k + 1, by omega, by go_num, fun j hj hjk => ?_, _, rfl⟩
          by_cases e : j = k
          · subst e; simpa using hne
          · exact HP.out j hj (by omega)
        case measure => simp [intOf]; omega
    · have HP : Hid (∀ j (hj : j < xs.length), j < k → xs[j] = ys[j]'(by omega)) := hpre
      clear hpre
      go_wp2
      go_ret
      refine ⟨?_, q, rfl⟩
      show Ending.returned (.bool true) = _
      have : eqI xs ys = true := by
        simp only [eqI, decide_eq_true_eq]
        exact eq_of_pre hl.symm (fun i hi => HP.out i hi (by omega))
      rw [this]

/-- The laws' own comparison of two rows. -/
theorem eqInt64S_any {B C : Nat} {u v : Value} {xs ys : List Int} {w : World} (hx : Ints B u xs w) (hy : Ints C v ys w) :
    Calls Try.prog 28 #[u, v] w fun e w' => e = .returned (.bool (eqI xs ys)) ∧ ∃ n, w' = w.drewN n := by
  by_cases hl : xs.length = ys.length
  · rcases hx.form with ⟨rfl, rfl⟩ | ⟨g, cap, rfl, _, _, h1, h2, h3⟩
    · rcases hy.form with ⟨rfl, rfl⟩ | ⟨g, cap, rfl, _, _, h1, h2, h3⟩
      · have : eqI [] [] = true := rfl
        rw [this]
        go_enter Try.func28, Try.ntmps28
        go_wp2
        refine wp_loop_rounds 1 ?_
        rw [rounds_succ]
        go_wp2
        go_ret
        exact ⟨rfl, 0, rfl⟩
      · obtain rfl : ys = [] := List.length_eq_zero_iff.1 (by simpa using hl.symm)
        have : eqI [] [] = true := rfl
        rw [this]
        simp only [List.length_nil]
        go_enter Try.func28, Try.ntmps28
        go_wp2
        refine wp_loop_rounds 1 ?_
        rw [rounds_succ]
        go_wp2
        go_ret
        exact ⟨rfl, 0, rfl⟩
    · rcases hy.form with ⟨rfl, rfl⟩ | ⟨g', cap', rfl, _, _, k1, k2, k3⟩
      · obtain rfl : xs = [] := List.length_eq_zero_iff.1 (by simpa using hl)
        have : eqI [] [] = true := rfl
        rw [this]
        simp only [List.length_nil]
        go_enter Try.func28, Try.ntmps28
        go_wp2
        refine wp_loop_rounds 1 ?_
        rw [rounds_succ]
        go_wp2
        go_ret
        exact ⟨rfl, 0, rfl⟩
      · have := eqInt64S_row g g' cap cap' xs ys w hl.symm (by omega) (fun i hi => (h3 i hi).1) (fun i hi => (k3 i hi).1)
        rw [← hl]
        exact this
  · have hf : eqI xs ys = false := by
      simp only [eqI, decide_eq_false_iff_not]
      intro e
      exact hl (by rw [e])
    rw [hf]
    have fu : ∃ a c, u = .slice a xs.length c := by
      rcases hx.form with ⟨rfl, rfl⟩ | ⟨g, cap, rfl, _⟩
      · exact ⟨_, _, rfl⟩
      · exact ⟨_, _, rfl⟩
    have fv : ∃ a c, v = .slice a ys.length c := by
      rcases hy.form with ⟨rfl, rfl⟩ | ⟨g, cap, rfl, _⟩
      · exact ⟨_, _, rfl⟩
      · exact ⟨_, _, rfl⟩
    obtain ⟨a, c, rfl⟩ := fu
    obtain ⟨b, d, rfl⟩ := fv
    exact (eqInt64S_len a b _ _ c d w hl).mono fun _ _ h => ⟨h.1, 0, h.2⟩

/-- The numbers k, k + 1 .. -/
def marks (k : Int) (n : Nat) : List Int := (List.range n).map fun (i : Nat) => k + (i : Int)
theorem marks_length (k : Int) (n : Nat) : (marks k n).length = n := by simp [marks]
theorem marks_get (k : Int) (n i : Nat) (h : i < (marks k n).length) : (marks k n)[i] = k + (i : Int) := by simp [marks]
/-- The row when j marks have been made. -/
def partMarks (k : Int) (xs : List Int) (j : Nat) : List Int := marks k j ++ xs.drop j
theorem partMarks_length (k : Int) (xs : List Int) (j : Nat) (h : j ≤ xs.length) : (partMarks k xs j).length = xs.length := by simp [partMarks, marks_length]; omega
theorem partMarks_set (k : Int) (xs : List Int) (j : Nat) (h : j < xs.length) : (partMarks k xs j).set j (k + (j : Int)) = partMarks k xs (j + 1) := by
  unfold partMarks
  rw [List.drop_eq_getElem_cons h]
  have : marks k (j + 1) = marks k j ++ [k + (j : Int)] := by simp [marks, List.range_succ]
  rw [this, List.append_assoc, List.set_append_right _ _ (by simp [marks_length])]
  simp [marks_length]
  rw [List.drop_eq_getElem_cons h, List.set_cons_zero]

set_option maxHeartbeats 400000 in
theorem markInt64S_any {B : Nat} {v : Value} {xs : List Int} {w : World} (k : Int) (hx : Ints B v xs w) (hk : 0 ≤ k) (hs : k + xs.length ≤ 4611686018427387904) :
    Calls Try.prog 29 #[v, .int .i64 k] w fun e w' => e = .returned (.int .i64 (k + xs.length)) ∧ Ints B v (marks k xs.length) w' ∧ w.grownBy w' v.ownBlock := by
  rcases hx.form with ⟨rfl, rfl⟩ | ⟨g, cap, rfl, hB, hg, h1, h2, h3⟩
  · simp only [List.length_nil]
    go_enter Try.func29, Try.ntmps29
    go_wp2
    refine wp_loop_rounds 1 ?_
    rw [rounds_succ]
    go_wp2
    go_ret
    exact ⟨by simp, hx, World.grownBy.refl _ _⟩
  · clear h3
    generalize hn : xs.length = n at *
    go_enter Try.func29, Try.ntmps29
    go_wp2
    go_loopw [1, 5] (fun kk i wr => ∃ j : Nat, j ≤ n ∧ i = .int .i64 j ∧ kk = .int .i64 (k + j) ∧ Ints B (.slice (some ⟨g, 0, none⟩) n cap) (partMarks k xs j) wr ∧ w.grownBy wr (some g)) (fun _ i _ => n - (intOf i).toNat)
    case atStart => exact ⟨0, Nat.zero_le _, rfl, by simp, by simpa [partMarks, marks] using hx, World.grownBy.refl _ _⟩
    case round =>
      obtain ⟨j, hj, rfl, rfl, hI, hgr⟩ := hrel
      by_cases hlt : j < n
      · have hlen : (partMarks k xs j).length = n := by rw [partMarks_length _ _ _ (by omega), hn]
        have hI' : wr.ownsRow B 2 1 (.slice (some ⟨g, 0, none⟩) n cap) n ((partMarks k xs j).map (Value.int .i64)) := by have := hI; unfold Ints at this; rwa [hlen] at this
        have hst := hI'.stored j (.int .i64 (k + j))
        have hfr := hI'.frozenAt j
        have hce : ∃ u, wr.cell? ⟨g, j, none⟩ = some u := by
          rcases hI.form with ⟨e, _⟩ | ⟨g', cap', e, _, _, _, _, h5⟩
          · cases e
          · cases e
            exact ⟨_, (h5 j (by omega)).1⟩
        obtain ⟨u, hce⟩ := hce
        have hfin : Ints B (.slice (some ⟨g, 0, none⟩) n cap) (partMarks k xs (j + 1)) (wr.setCell ⟨g, j, none⟩ (.int .i64 (k + j))) := by
          have := hst.1
          rw [← List.map_set, partMarks_set _ _ _ (by omega)] at this
          unfold Ints
          rw [partMarks_length _ _ _ (by omega), hn]
          exact this
        have HS : Hid (_ ∧ _) := ⟨hfin, hgr.trans hst.2⟩
        clear hst hI' hI hfin
        go_wp2
        go_roundw
        case rel => exact ⟨j + 1, by omega, by go_num, by go_num, HS.out.1, HS.out.2⟩
        case measure => simp [intOf]; omega
      · have : j = n := by omega
        subst this
        go_wp2
        go_ret
        refine ⟨rfl, ?_, hgr⟩
        have e : partMarks k xs j = marks k j := by simp [partMarks, ← hn]
        rwa [e] at hI

set_option maxHeartbeats 400000 in
theorem heldInt64S_any {B : Nat} {v : Value} {w : World} (k : Int) (n : Nat) (hx : Ints B v (marks k n) w) (hk : 0 ≤ k) (hs : k + n ≤ 4611686018427387904) :
    Calls Try.prog 30 #[v, .int .i64 k] w fun e w' => e = .returned (.int .i64 (k + n)) ∧ w' = w := by
  rcases hx.form with ⟨rfl, h0⟩ | ⟨g, cap, rfl, hB, hg, h1, h2, h3⟩
  · have : n = 0 := by have := congrArg List.length h0; simpa [marks_length] using this
    subst this
    go_enter Try.func30, Try.ntmps30
    go_wp2
    refine wp_loop_rounds 1 ?_
    rw [rounds_succ]
    go_wp2
    go_ret
    exact ⟨by simp, rfl⟩
  · rw [marks_length]
    go_enter Try.func30, Try.ntmps30
    go_wp2
    go_loop [1, 5] (fun kk i => ∃ j : Nat, j ≤ n ∧ i = .int .i64 j ∧ kk = .int .i64 (k + j)) (fun _ i => n - (intOf i).toNat)
    case atStart => exact ⟨0, Nat.zero_le _, rfl, by simp⟩
    case round =>
      obtain ⟨j, hj, rfl, rfl⟩ := hrel
      by_cases hlt : j < n
      · have hc := (h3 j (by rw [marks_length]; exact hlt)).1
        rw [marks_get] at hc
        go_wp2
        go_round
        case rel => exact ⟨j + 1, by omega, by go_num, by go_num⟩
        case measure => simp [intOf]; omega
      · have : j = n := by omega
        subst this
        go_wp2
        go_ret
        exact ⟨rfl, rfl⟩
end Go.Proofs.Ytplinjepeahahaa
