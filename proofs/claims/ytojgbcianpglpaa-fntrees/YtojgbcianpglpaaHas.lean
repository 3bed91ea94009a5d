
/- What the drawn law of trees draws, and its helper hasInt. -/
import Derived.Test.YtojgbcianpglpaaSame
import Derived.Test.YtojgbcianpglpaaKeyOrder
namespace Go.Proofs.Ytojgbcianpglpaa
open Go.RowKit

set_option maxHeartbeats 400000 in
theorem drawPathOf_any (a : Option Addr) (len cap : Nat) (W : World) (h : Bytes W.heap.size a len W) :
    Calls Try.prog 10 #[.slice a len cap] W fun e W' => ∃ n : Int, (Lit.int .i64 n).wf = true ∧ e = .returned (.int .i64 n) ∧ Below W.heap.size W W' := by
  go_enter Try.func10, Try.ntmps10
  go_wp2_with fail
  refine (l1Open_any _ _ _ _).mono ?_
  rintro e w1 ⟨rfl, rfl⟩
  have hR := h.rd (Nat.le_refl _) cap
  go_wp2_with fail
  refine (off_any W.heap.size _ _ _ _ hR (by omega) (by omega) (by omega)).mono ?_
  rintro e w2 ⟨x, hx, rfl, hR2, hg2⟩
  go_wp2
  go_ret
  exact ⟨x, hx, rfl, below_grown ((World.grownBy_alloc W _ none).andThen hg2 (fun j e => by cases e; exact .inl (Nat.le_refl _)))⟩

set_option maxHeartbeats 400000 in
theorem hasInt_any {B : Nat} {v : Value} {xs : List Int} {w : World} (x : Int) (hx : Ints B v xs w) :
    Calls Try.prog 18 #[v, .int .i64 x] w fun e w' => e = .returned (.bool (decide (x ∈ xs))) ∧ w' = w := by
  have hm := hx.len_le
  unfold maxLen at hm
  rcases hx.form with ⟨rfl, rfl⟩ | ⟨g, cap, rfl, _, _, _, _, h3⟩
  · go_enter Try.func18, Try.ntmps18
    go_wp2
    refine wp_loop_rounds 1 ?_
    rw [rounds_succ]
    go_wp2
    go_ret
    exact ⟨by simp, rfl⟩
  · have hc0 : ∀ i (hi : i < xs.length), w.cell? ⟨g, i, none⟩ = some (.int .i64 xs[i]) := fun i hi => (h3 i hi).1
    clear h3 hx
    go_enter Try.func18, Try.ntmps18
    go_wp2
    go_loop [5] (fun i => ∃ k : Nat, k ≤ xs.length ∧ i = .int .i64 k ∧ ¬ x ∈ xs.take k) (fun i => xs.length - (intOf i).toNat)
    case atStart => exact ⟨0, Nat.zero_le _, rfl, by simp⟩
    case round =>
      obtain ⟨k, hk, rfl, hno⟩ := hrel
      have HN : Hid (¬ x ∈ xs.take k) := hno
      clear hno
      by_cases hlt : k < xs.length
      · have hc := hc0 k hlt
        go_wp2
        · have he : (xs[k] == x) = true := by assumption
          go_ret
          refine ⟨?_, rfl⟩
          have hin : x ∈ xs := by have : xs[k] = x := by simpa using he
                                  exact this ▸ List.getElem_mem hlt
          show Ending.returned (.bool true) = _
          rw [decide_eq_true hin]
        · have he : (xs[k] == x) = false := by assumption
          go_round
          case rel =>
            refine ⟨k + 1, by omega, by go_num, fun h => ?_⟩
            rw [List.take_succ_eq_append_getElem hlt] at h
            rcases List.mem_append.1 h with h | h
            · exact HN.out h
            · simp at h; subst h; simp at he
          case measure => simp [intOf]; omega
      · go_wp2
        go_ret
        refine ⟨?_, rfl⟩
        have hno : ¬ x ∈ xs := by have := HN.out; rwa [List.take_of_length_le (by omega)] at this
        show Ending.returned (.bool false) = _
        rw [decide_eq_false hno]
end Go.Proofs.Ytojgbcianpglpaa
