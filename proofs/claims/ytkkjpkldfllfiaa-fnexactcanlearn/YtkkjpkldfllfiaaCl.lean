
/- slices.Index and slices.Contains on keys. -/
import Derived.Test.YtkkjpkldfllfiaaLBoth
namespace Go.Proofs.Ytkkjpkldfllfiaa
open Go.RowKit

set_option maxHeartbeats 1000000 in
theorem indexKey_row (a : Option Addr) (c : Nat) (ks : List K2) (x y : Int) (w : World) (hm : ks.length ≤ maxLen) (h1 : ks = [] ∨ ∃ g, a = some ⟨g, 0, none⟩ ∧ g < w.heap.size ∧ KSeg g 0 ks w) :
    Calls Try.prog 94 #[.slice a ks.length c, kv x y] w fun e w' => (∃ i : Int, e = .returned (.int .i64 i) ∧ decide (0 ≤ i) = decide ((x, y) ∈ ks)) ∧ Below w.heap.size w w' := by
  unfold maxLen at hm
  generalize hn : ks.length = n at hm ⊢
  have hB1 := one_below w (kb x y)
  have b0 : (w.alloc (kb x y)).cell? ⟨w.heap.size, 0, none⟩ = some (.int .i64 x) := by simp
  have b1 : (w.alloc (kb x y)).cell? ⟨w.heap.size, 1, none⟩ = some (.int .i64 y) := by simp
  have H1 : Hid (ks = [] ∨ ∃ g, a = some ⟨g, 0, none⟩ ∧ g < w.heap.size ∧ KSeg g 0 ks w) := h1
  clear h1
  go_enter Try.func94, Try.ntmps94
  go_wp2
  generalize w.alloc (kb x y) = w1 at hB1 b0 b1 ⊢
  go_loopw [8] (fun i wr => ∃ k : Nat, k ≤ n ∧ i = .int .i64 k ∧ (¬ (x, y) ∈ ks.take k) ∧ ∃ q, wr = w1.drewN q) (fun i _ => n - (intOf i).toNat)
  case atStart => exact ⟨0, Nat.zero_le _, rfl, by simp, 0, rfl⟩
  case round =>
    obtain ⟨k, hk, rfl, hno, q, rfl⟩ := hrel
    have HN : Hid (¬ (x, y) ∈ ks.take k) := hno
    clear hno
    by_cases hlt : k < n
    · have hlk : k < ks.length := by omega
      obtain ⟨g, ha, hg, hseg⟩ : ∃ g, a = some ⟨g, 0, none⟩ ∧ g < w.heap.size ∧ KSeg g 0 ks w := by
        rcases H1.out with e | e
        · rw [e] at hlk; simp at hlk
        · exact e
      subst ha
      obtain ⟨a1, a2⟩ := hseg k hlk
      simp only [Nat.zero_add] at a1 a2
      have c1 : w1.cell? ⟨g, k * 2, none⟩ = some (.int .i64 ks[k].1) := (hB1.cell (p := ⟨g, k * 2, none⟩) hg).trans a1
      have c2 : w1.cell? ⟨g, k * 2 + 1, none⟩ = some (.int .i64 ks[k].2) := (hB1.cell (p := ⟨g, k * 2 + 1, none⟩) hg).trans a2
      clear a1 a2 hseg
      have HT : Hid (ks.take (k + 1) = ks.take k ++ [ks[k]]) := List.take_succ_eq_append_getElem hlk
      have HI : Hid (ks[k] ∈ ks) := List.getElem_mem hlk
      obtain ⟨u, v, hK⟩ : ∃ u v, ks[k] = (u, v) := ⟨_, _, rfl⟩
      rw [hK] at c1 c2
      have HK : Hid (ks[k] = (u, v)) := hK
      clear hK
      by_cases hu : x = u
      · by_cases hv : y = v
        · subst hu hv
          go_wp2
          go_quiet (fail)
          go_wp2
          go_ret
          refine ⟨⟨_, rfl, ?_⟩, below_drewN (below_drewN hB1 _) _⟩
          rw [decide_eq_true (show (0 : Int) ≤ (k : Int) by omega), decide_eq_true (show (x, y) ∈ ks from HK.out ▸ HI.out)]
        · subst hu
          have hv' : (y == v) = false := by simpa using hv
          go_wp2
          go_quiet (fail)
          go_wp2
          go_roundw
          case rel => exact ⟨k + 1, by omega, by go_num, fun h => by rw [HT.out, HK.out] at h; rcases List.mem_append.1 h with h | h; exact HN.out h; simp at h; exact hv h, q + nq, by simp⟩
          case measure => simp [intOf]; omega
      · have hu' : (x == u) = false := by simpa using hu
        go_wp2
        go_quiet (fail)
        go_wp2
        go_roundw
        case rel => exact ⟨k + 1, by omega, by go_num, fun h => by rw [HT.out, HK.out] at h; rcases List.mem_append.1 h with h | h; exact HN.out h; simp at h; exact hu h.1, q + nq, by simp⟩
        case measure => simp [intOf]; omega
    · go_wp2
      go_ret
      have : ¬ (x, y) ∈ ks := by have := HN.out; rwa [List.take_of_length_le (by omega)] at this
      exact ⟨⟨_, rfl, by rw [decide_eq_false this]; rfl⟩, below_drewN hB1 _⟩
theorem indexKey_any {v : Value} {ks : List K2} {w : World} (x y : Int) (h : KArg v ks w) (hm : ks.length ≤ maxLen) :
    Calls Try.prog 94 #[v, kv x y] w fun e w' => (∃ i : Int, e = .returned (.int .i64 i) ∧ decide (0 ≤ i) = decide ((x, y) ∈ ks)) ∧ Below w.heap.size w w' := by
  rcases h with ⟨rfl, rfl⟩ | ⟨g, c, rfl, hg, _, hs⟩
  · exact indexKey_row none 0 [] x y w hm (.inl rfl)
  · exact indexKey_row _ c ks x y w hm (.inr ⟨g, rfl, hg, hs⟩)
theorem containsKey_any {v : Value} {ks : List K2} {w : World} (x y : Int) (h : KArg v ks w) (hm : ks.length ≤ maxLen) :
    Calls Try.prog 61 #[v, kv x y] w fun e w' => e = .returned (.bool (decide ((x, y) ∈ ks))) ∧ Below w.heap.size w w' := by
  have HK : Hid (KArg v ks (w.alloc (kb x y))) := h.below (one_below _ _)
  clear h
  go_enter Try.func61, Try.ntmps61
  go_wp2_with fail
  refine (indexKey_any x y HK.out hm).mono ?_
  rintro e w2 ⟨⟨i, rfl, hi⟩, hb⟩
  have HI : Hid (decide (0 ≤ i) = decide ((x, y) ∈ ks)) := hi
  clear hi
  go_wp2
  go_ret
  exact ⟨by rw [← HI.out]; rfl, (one_below w _).trans (hb.mono (by simp))⟩
theorem l2Has_any {v : Value} {ks : List K2} {w : World} (x y : Int) (h : KArg v ks w) (hm : ks.length ≤ maxLen) :
    Calls Try.prog 62 #[v, kv x y] w fun e w' => e = .returned (.bool (decide ((x, y) ∈ ks))) ∧ Below w.heap.size w w' := by
  rcases h with ⟨rfl, rfl⟩ | ⟨g, c, rfl, hg, _, hs⟩
  · exact (l2Has_none none 0 x y w).mono fun e w' ⟨h1, h2⟩ => ⟨by rw [h1]; simp, by rw [h2]; exact one_below _ _⟩
  · exact l2Has_row g c ks x y w hm hg hs
end Go.Proofs.Ytkkjpkldfllfiaa
