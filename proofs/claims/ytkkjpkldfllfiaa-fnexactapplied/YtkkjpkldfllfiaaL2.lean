
/- Contracts of the model's helpers on rising keys: l2Has, l2Put. -/
import Derived.Test.YtkkjpkldfllfiaaKnown2
namespace Go.Proofs.Ytkkjpkldfllfiaa
open Go.RowKit

theorem l2Has_none (a : Option Addr) (c : Nat) (x y : Int) (w : World) :
    Calls Try.prog 62 #[.slice a 0 c, kv x y] w fun e w' => e = .returned (.bool false) ∧ w' = w.alloc (kb x y) := by
  go_enter Try.func62, Try.ntmps62
  go_wp2
  refine wp_loop_rounds 1 ?_
  rw [rounds_succ]
  go_wp2
  go_ret
  exact ⟨rfl, rfl⟩

set_option maxHeartbeats 1000000 in
theorem l2Has_row (g c : Nat) (ks : List (Int × Int)) (x y : Int) (w : World) (hm : ks.length ≤ maxLen) (hg : g < w.heap.size) (h1 : KSeg g 0 ks w) :
    Calls Try.prog 62 #[.slice (some ⟨g, 0, none⟩) ks.length c, kv x y] w fun e w' => e = .returned (.bool (decide ((x, y) ∈ ks))) ∧ Below w.heap.size w w' := by
  unfold maxLen at hm
  generalize hn : ks.length = n at hm ⊢
  have hB1 := one_below w (kb x y)
  have b0 : (w.alloc (kb x y)).cell? ⟨w.heap.size, 0, none⟩ = some (.int .i64 x) := by simp
  have b1 : (w.alloc (kb x y)).cell? ⟨w.heap.size, 1, none⟩ = some (.int .i64 y) := by simp
  go_enter Try.func62, Try.ntmps62
  go_wp2
  generalize w.alloc (kb x y) = w1 at hB1 b0 b1 ⊢
  go_loopw [5] (fun i wr => ∃ k : Nat, k ≤ n ∧ i = .int .i64 k ∧ (¬ (x, y) ∈ ks.take k) ∧ ∃ q, wr = w1.drewN q) (fun i _ => n - (intOf i).toNat)
  case atStart => exact ⟨0, Nat.zero_le _, rfl, by simp, 0, rfl⟩
  case round =>
    obtain ⟨k, hk, rfl, hno, q, rfl⟩ := hrel
    have HN : Hid (¬ (x, y) ∈ ks.take k) := hno
    have H1 : Hid (KSeg g 0 ks w) := h1
    clear hno h1
    by_cases hlt : k < n
    · have hlk : k < ks.length := by omega
      obtain ⟨a1, a2⟩ := H1.out k hlk
      simp only [Nat.zero_add] at a1 a2
      have c1 : w1.cell? ⟨g, k * 2, none⟩ = some (.int .i64 ks[k].1) := (hB1.cell (p := ⟨g, k * 2, none⟩) hg).trans a1
      have c2 : w1.cell? ⟨g, k * 2 + 1, none⟩ = some (.int .i64 ks[k].2) := (hB1.cell (p := ⟨g, k * 2 + 1, none⟩) hg).trans a2
      clear a1 a2
      have HT : Hid (ks.take (k + 1) = ks.take k ++ [ks[k]]) := List.take_succ_eq_append_getElem hlk
      have HI : Hid (ks[k] ∈ ks) := List.getElem_mem hlk
      obtain ⟨u, v, hK⟩ : ∃ u v, ks[k] = (u, v) := ⟨_, _, rfl⟩
      rw [hK] at c1 c2
      have HK : Hid (ks[k] = (u, v)) := hK
      clear hK
      by_cases hu : u = x
      · by_cases hv : v = y
        · subst hu hv
          go_wp2
          go_quiet (fail)
          go_wp2
          go_ret
          refine ⟨?_, below_drewN (below_drewN hB1 _) _⟩
          show Ending.returned (.bool true) = _
          rw [decide_eq_true (HK.out ▸ HI.out)]
        · subst hu
          have hv' : (v == y) = false := by simpa using hv
          go_wp2
          go_quiet (fail)
          go_wp2
          go_roundw
          case rel => exact ⟨k + 1, by omega, by go_num, fun h => by rw [HT.out, HK.out] at h; rcases List.mem_append.1 h with h | h; exact HN.out h; simp at h; exact hv h.symm, q + nq, by simp⟩
          case measure => simp [intOf]; omega
      · have hu' : (u == x) = false := by simpa using hu
        go_wp2
        go_quiet (fail)
        go_wp2
        go_roundw
        case rel => exact ⟨k + 1, by omega, by go_num, fun h => by rw [HT.out, HK.out] at h; rcases List.mem_append.1 h with h | h; exact HN.out h; simp at h; exact hu h.1.symm, q + nq, by simp⟩
        case measure => simp [intOf]; omega
    · go_wp2
      go_ret
      refine ⟨?_, below_drewN hB1 _⟩
      show Ending.returned (.bool false) = _
      have : ¬ (x, y) ∈ ks := by have := HN.out; rwa [List.take_of_length_le (by omega)] at this
      rw [decide_eq_false this]
end Go.Proofs.Ytkkjpkldfllfiaa
