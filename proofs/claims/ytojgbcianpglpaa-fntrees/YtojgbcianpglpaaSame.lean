
/- What the drawn laws' helpers on lists of numbers do: sameInts, hasInt. -/
import Derived.Test.YtojgbcianpglpaaOwn
namespace Go.Proofs.Ytojgbcianpglpaa
open Go.RowKit

def eqI (xs ys : List Int) : Bool := decide (xs = ys)
/-- Two rows that agree so far. -/
theorem eq_of_pre {xs ys : List Int} (hl : xs.length = ys.length) (h : ∀ i (hi : i < xs.length), xs[i] = ys[i]'(by omega)) : xs = ys := List.ext_getElem hl fun i h1 _ => h i h1

theorem sameInts_len (a b : Option Addr) (m n c d : Nat) (w : World) (h : m ≠ n) :
    Calls Try.prog 14 #[.slice a m c, .slice b n d] w fun e w' => e = .returned (.bool false) ∧ w' = w := by
  have h' : ((m : Int) == (n : Int)) = false := by simp; omega
  go_enter Try.func14, Try.ntmps14
  go_wp2
  go_ret
  exact ⟨rfl, rfl⟩

set_option maxHeartbeats 400000 in
theorem sameInts_row (g g' : Nat) (c d : Nat) (xs ys : List Int) (w : World) (hl : ys.length = xs.length) (hm : xs.length ≤ maxLen)
    (h1 : ∀ i (hi : i < xs.length), w.cell? ⟨g, i, none⟩ = some (.int .i64 xs[i])) (h2 : ∀ i (hi : i < ys.length), w.cell? ⟨g', i, none⟩ = some (.int .i64 ys[i])) :
    Calls Try.prog 14 #[.slice (some ⟨g, 0, none⟩) xs.length c, .slice (some ⟨g', 0, none⟩) xs.length d] w fun e w' => e = .returned (.bool (eqI xs ys)) ∧ ∃ n, w' = w.drewN n := by
  unfold maxLen at hm
  generalize hn : xs.length = n at hm ⊢
  go_enter Try.func14, Try.ntmps14
  go_wp2
  go_loopw [5] (fun i wr => ∃ k : Nat, k ≤ n ∧ i = .int .i64 k ∧ (∀ j (hj : j < xs.length), j < k → xs[j] = ys[j]'(by omega)) ∧ ∃ q, wr = w.drewN q) (fun i _ => n - (intOf i).toNat)
  case atStart => exact ⟨0, Nat.zero_le _, rfl, fun _ _ h => absurd h (Nat.not_lt_zero _), 0, rfl⟩
  case round =>
    obtain ⟨k, hk, rfl, hpre, q, rfl⟩ := hrel
    by_cases hlt : k < n
    · have c1 := h1 k (by omega)
      have c2 := h2 k (by omega)
      have HP : Hid (∀ j (hj : j < xs.length), j < k → xs[j] = ys[j]'(by omega)) := hpre
      have hlk : k < xs.length := by omega
      have hlk2 : k < ys.length := by omega
      clear hpre
      go_wp2
      go_quiet (fail)
      go_wp2
      · have hne : (xs[k] != ys[k]) = true := by assumption
        go_ret
        refine ⟨?_, q + nq, by simp⟩
        show Ending.returned (.bool false) = _
        have : eqI xs ys = false := by
          simp only [eqI, decide_eq_false_iff_not]
          intro e
          subst e
          simp at hne
        rw [this]
      · have hne : (xs[k] != ys[k]) = false := by assumption
        go_roundw
        case rel =>
          refine ⟨k + 1, by omega, by go_num, fun j hj hjk => ?_, _, rfl⟩
          by_cases e : j = k
          · subst e; simpa using hne
          · exact HP.out j hj (by omega)
        case measure => simp [intOf]; omega
    · have HP : Hid (∀ j (hj : j < xs.length), j < k → xs[j] = ys[j]'(by omega)) := hpre
      clear hpre
      go_wp2
      go_ret
      refine ⟨?_, q, rfl⟩
      show Ending.returned (.bool true) = _
      have : eqI xs ys = true := by
        simp only [eqI, decide_eq_true_eq]
        exact eq_of_pre hl.symm (fun i hi => HP.out i hi (by omega))
      rw [this]

/-- The laws' own comparison of two rows. -/
theorem sameInts_any {B C : Nat} {u v : Value} {xs ys : List Int} {w : World} (hx : Ints B u xs w) (hy : Ints C v ys w) :
    Calls Try.prog 14 #[u, v] w fun e w' => e = .returned (.bool (eqI xs ys)) ∧ ∃ n, w' = w.drewN n := by
  by_cases hl : xs.length = ys.length
  · rcases hx.form with ⟨rfl, rfl⟩ | ⟨g, cap, rfl, _, _, h1, h2, h3⟩
    · rcases hy.form with ⟨rfl, rfl⟩ | ⟨g, cap, rfl, _, _, h1, h2, h3⟩
      · have : eqI [] [] = true := rfl
        rw [this]
        go_enter Try.func14, Try.ntmps14
        go_wp2
        refine wp_loop_rounds 1 ?_
        rw [rounds_succ]
        go_wp2
        go_ret
        exact ⟨rfl, 0, rfl⟩
      · obtain rfl : ys = [] := List.length_eq_zero_iff.1 (by simpa using hl.symm)
        have : eqI [] [] = true := rfl
        rw [this]
        simp only [List.length_nil]
        go_enter Try.func14, Try.ntmps14
        go_wp2
        refine wp_loop_rounds 1 ?_
        rw [rounds_succ]
        go_wp2
        go_ret
        exact ⟨rfl, 0, rfl⟩
    · rcases hy.form with ⟨rfl, rfl⟩ | ⟨g', cap', rfl, _, _, k1, k2, k3⟩
      · obtain rfl : xs = [] := List.length_eq_zero_iff.1 (by simpa using hl)
        have : eqI [] [] = true := rfl
        rw [this]
        simp only [List.length_nil]
        go_enter Try.func14, Try.ntmps14
        go_wp2
        refine wp_loop_rounds 1 ?_
        rw [rounds_succ]
        go_wp2
        go_ret
        exact ⟨rfl, 0, rfl⟩
      · have := sameInts_row g g' cap cap' xs ys w hl.symm (by omega) (fun i hi => (h3 i hi).1) (fun i hi => (k3 i hi).1)
        rw [← hl]
        exact this
  · have hf : eqI xs ys = false := by
      simp only [eqI, decide_eq_false_iff_not]
      intro e
      exact hl (by rw [e])
    rw [hf]
    have fu : ∃ a c, u = .slice a xs.length c := by
      rcases hx.form with ⟨rfl, rfl⟩ | ⟨g, cap, rfl, _⟩
      · exact ⟨_, _, rfl⟩
      · exact ⟨_, _, rfl⟩
    have fv : ∃ a c, v = .slice a ys.length c := by
      rcases hy.form with ⟨rfl, rfl⟩ | ⟨g, cap, rfl, _⟩
      · exact ⟨_, _, rfl⟩
      · exact ⟨_, _, rfl⟩
    obtain ⟨a, c, rfl⟩ := fu
    obtain ⟨b, d, rfl⟩ := fv
    exact (sameInts_len a b _ _ c d w hl).mono fun _ _ h => ⟨h.1, 0, h.2⟩
end Go.Proofs.Ytojgbcianpglpaa
