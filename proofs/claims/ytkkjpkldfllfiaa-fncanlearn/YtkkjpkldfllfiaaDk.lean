
/- What the drawn laws' helpers on keys do: hasKey, within, sameKeys. -/
import Derived.Test.YtkkjpkldfllfiaaKw
namespace Go.Proofs.Ytkkjpkldfllfiaa
open Go.RowKit

theorem hasKey_none (a : Option Addr) (c : Nat) (x y : Int) (w : World) :
    Calls Try.prog 22 #[.slice a 0 c, kv x y] w fun e w' => e = .returned (.bool false) ∧ w' = w.alloc (kb x y) := by
  go_enter Try.func22, Try.ntmps22
  go_wp2
  refine wp_loop_rounds 1 ?_
  rw [rounds_succ]
  go_wp2
  go_ret
  exact ⟨rfl, rfl⟩

set_option maxHeartbeats 1000000 in
theorem hasKey_row (g c : Nat) (ks : List (Int × Int)) (x y : Int) (w : World) (hm : ks.length ≤ maxLen) (hg : g < w.heap.size) (h1 : KSeg g 0 ks w) :
    Calls Try.prog 22 #[.slice (some ⟨g, 0, none⟩) ks.length c, kv x y] w fun e w' => e = .returned (.bool (decide ((x, y) ∈ ks))) ∧ Below w.heap.size w w' := by
  unfold maxLen at hm
  generalize hn : ks.length = n at hm ⊢
  have hB1 := one_below w (kb x y)
  have b0 : (w.alloc (kb x y)).cell? ⟨w.heap.size, 0, none⟩ = some (.int .i64 x) := by simp
  have b1 : (w.alloc (kb x y)).cell? ⟨w.heap.size, 1, none⟩ = some (.int .i64 y) := by simp
  go_enter Try.func22, Try.ntmps22
  go_wp2
  generalize w.alloc (kb x y) = w1 at hB1 b0 b1 ⊢
  go_loopw [5] (fun i wr => ∃ k : Nat, k ≤ n ∧ i = .int .i64 k ∧ (¬ (x, y) ∈ ks.take k) ∧ ∃ q, wr = w1.drewN q) (fun i _ => n - (intOf i).toNat)
  case atStart => exact ⟨0, Nat.zero_le _, rfl, by simp, 0, rfl⟩
  case round =>
    obtain ⟨k, hk, rfl, hno, q, rfl⟩ := hrel
    have HN : Hid (¬ (x, y) ∈ ks.take k) := hno
    have H1 : Hid (KSeg g 0 ks w) := h1
    clear hno h1
    by_cases hlt : k < n
    · have hlk : k < ks.length := by omega
      obtain ⟨a1, a2⟩ := H1.out k hlk
      simp only [Nat.zero_add] at a1 a2
      have c1 : w1.cell? ⟨g, k * 2, none⟩ = some (.int .i64 ks[k].1) := (hB1.cell (p := ⟨g, k * 2, none⟩) hg).trans a1
      have c2 : w1.cell? ⟨g, k * 2 + 1, none⟩ = some (.int .i64 ks[k].2) := (hB1.cell (p := ⟨g, k * 2 + 1, none⟩) hg).trans a2
      clear a1 a2
      have HT : Hid (ks.take (k + 1) = ks.take k ++ [ks[k]]) := List.take_succ_eq_append_getElem hlk
      have HI : Hid (ks[k] ∈ ks) := List.getElem_mem hlk
      obtain ⟨u, v, hK⟩ : ∃ u v, ks[k] = (u, v) := ⟨_, _, rfl⟩
      rw [hK] at c1 c2
      have HK : Hid (ks[k] = (u, v)) := hK
      clear hK
      by_cases hu : u = x
      · by_cases hv : v = y
        · subst hu hv
          go_wp2
          go_quiet (fail)
          go_wp2
          go_ret
          refine ⟨?_, below_drewN (below_drewN hB1 _) _⟩
          show Ending.returned (.bool true) = _
          rw [decide_eq_true (HK.out ▸ HI.out)]
        · subst hu
          have hv' : (v == y) = false := by simpa using hv
          go_wp2
          go_quiet (fail)
          go_wp2
          go_roundw
          case rel => exact ⟨k + 1, by omega, by go_num, fun h => by rw [HT.out, HK.out] at h; rcases List.mem_append.1 h with h | h; exact HN.out h; simp at h; exact hv h.symm, q + nq, by simp⟩
          case measure => simp [intOf]; omega
      · have hu' : (u == x) = false := by simpa using hu
        go_wp2
        go_quiet (fail)
        go_wp2
        go_roundw
        case rel => exact ⟨k + 1, by omega, by go_num, fun h => by rw [HT.out, HK.out] at h; rcases List.mem_append.1 h with h | h; exact HN.out h; simp at h; exact hu h.1.symm, q + nq, by simp⟩
        case measure => simp [intOf]; omega
    · go_wp2
      go_ret
      refine ⟨?_, below_drewN hB1 _⟩
      show Ending.returned (.bool false) = _
      have : ¬ (x, y) ∈ ks := by have := HN.out; rwa [List.take_of_length_le (by omega)] at this
      rw [decide_eq_false this]
theorem hasKey_any {v : Value} {ks : List K2} {w : World} (x y : Int) (h : KArg v ks w) (hm : ks.length ≤ maxLen) :
    Calls Try.prog 22 #[v, kv x y] w fun e w' => e = .returned (.bool (decide ((x, y) ∈ ks))) ∧ Below w.heap.size w w' := by
  rcases h with ⟨rfl, rfl⟩ | ⟨g, c, rfl, hg, _, hs⟩
  · exact (hasKey_none none 0 x y w).mono fun e w' ⟨h1, h2⟩ => ⟨by rw [h1]; simp, by rw [h2]; exact one_below _ _⟩
  · exact hasKey_row g c ks x y w hm hg hs

theorem KArg.row {v : Value} {ks : List K2} {w : World} (h : KArg v ks w) : ∃ a c, v = .slice a ks.length c ∧ (ks = [] ∨ ∃ g, a = some ⟨g, 0, none⟩ ∧ g < w.heap.size ∧ KSeg g 0 ks w) := by
  rcases h with ⟨rfl, rfl⟩ | ⟨g, c, rfl, hg, _, hs⟩
  · exact ⟨_, _, rfl, .inl rfl⟩
  · exact ⟨_, _, rfl, .inr ⟨g, rfl, hg, hs⟩⟩
def withinB (xs ys : List K2) : Bool := decide (∀ k ∈ xs, k ∈ ys)

set_option maxHeartbeats 1000000 in
theorem within_any {u v : Value} {xs ys : List K2} {w : World} (hx : KArg u xs w) (hy : KArg v ys w) (hm : xs.length ≤ maxLen) (hm2 : ys.length ≤ maxLen) :
    Calls Try.prog 18 #[u, v] w fun e w' => e = .returned (.bool (withinB xs ys)) ∧ Below w.heap.size w w' := by
  obtain ⟨a, c, rfl, hrow⟩ := hx.row
  have HR : Hid (xs = [] ∨ ∃ g, a = some ⟨g, 0, none⟩ ∧ g < w.heap.size ∧ KSeg g 0 xs w) := hrow
  have HY : Hid (KArg v ys w) := hy
  clear hx hrow hy
  unfold maxLen at hm
  generalize hn : xs.length = n at hm ⊢
  go_enter Try.func18, Try.ntmps18
  go_wp2
  go_loopw [5] (fun i wr => ∃ k : Nat, k ≤ n ∧ i = .int .i64 k ∧ Hid (∀ z ∈ xs.take k, z ∈ ys) ∧ Below w.heap.size w wr) (fun i _ => n - (intOf i).toNat)
  case atStart => exact ⟨0, Nat.zero_le _, rfl, (fun z h => by simp at h), Below.refl _ _⟩
  case round =>
    obtain ⟨k, hk, rfl, HP, hB⟩ := hrel
    by_cases hlt : k < n
    · have hlk : k < xs.length := by omega
      obtain ⟨g, ha, hg, hseg⟩ : ∃ g, a = some ⟨g, 0, none⟩ ∧ g < w.heap.size ∧ KSeg g 0 xs w := by
        rcases HR.out with e | e
        · rw [e] at hlk; simp at hlk
        · exact e
      subst ha
      obtain ⟨a1, a2⟩ := hseg k hlk
      simp only [Nat.zero_add] at a1 a2
      have c1 := cell_since a1 hB
      have c2 := cell_since a2 hB
      have HT : Hid (xs.take (k + 1) = xs.take k ++ [xs[k]]) := List.take_succ_eq_append_getElem hlk
      have HI : Hid (xs[k] ∈ xs) := List.getElem_mem hlk
      obtain ⟨p, q, hK⟩ : ∃ p q, xs[k] = (p, q) := ⟨_, _, rfl⟩
      rw [hK] at c1 c2
      have HK : Hid (xs[k] = (p, q)) := hK
      clear hK a1 a2 hseg
      have HYr := hidOf (HY.out.below hB)
      go_wp2_with fail
      refine (hasKey_any p q HYr.out hm2).mono ?_
      rintro e w2 ⟨rfl, b2⟩
      have hB2 : Below w.heap.size w w2 := hB.trans (b2.mono hB.size)
      clear c1 c2 HYr b2 hB
      by_cases hin : (p, q) ∈ ys
      · rw [decide_eq_true hin]
        have HF : Hid (∀ z ∈ xs.take (k + 1), z ∈ ys) := by
          intro z hz
          rw [HT.out, HK.out] at hz
          rcases List.mem_append.1 hz with h | h
          · exact HP.out z h
          · simp at h; exact h ▸ hin
        clear hin
        go_wp2
        go_roundw
        case rel => exact ⟨k + 1, by omega, by go_num, HF.out, hB2⟩
        case measure => simp [intOf]; omega
      · rw [decide_eq_false hin]
        have HF : Hid (withinB xs ys = false) := decide_eq_false fun h => hin (HK.out ▸ h _ HI.out)
        clear hin
        go_wp2
        go_ret
        exact ⟨by show Ending.returned (.bool false) = _; rw [HF.out], hB2⟩
    · have HF : Hid (withinB xs ys = true) := decide_eq_true (by have := HP.out; rwa [List.take_of_length_le (by omega)] at this)
      go_wp2
      go_ret
      exact ⟨by show Ending.returned (.bool true) = _; rw [HF.out], hB⟩

set_option maxHeartbeats 1000000 in
theorem sameKeys_any {u v : Value} {xs ys : List K2} {w : World} (hx : KArg u xs w) (hy : KArg v ys w) (hm : xs.length ≤ maxLen) :
    Calls Try.prog 12 #[u, v] w fun e w' => e = .returned (.bool (decide (xs = ys))) ∧ Below w.heap.size w w' := by
  obtain ⟨a, c, rfl, hrow⟩ := hx.row
  obtain ⟨a', c', rfl, hrow'⟩ := hy.row
  clear hx hy
  unfold maxLen at hm
  by_cases hl : xs.length = ys.length
  case neg =>
    have HF : Hid (decide (xs = ys) = false) := decide_eq_false fun h => hl (by rw [h])
    have hne : ((xs.length : Int) == (ys.length : Int)) = false := by simp; omega
    clear hrow hrow'
    generalize xs.length = n at *
    generalize ys.length = m at *
    go_enter Try.func12, Try.ntmps12
    go_wp2
    go_ret
    exact ⟨by show Ending.returned (.bool false) = _; rw [HF.out], Below.refl _ _⟩
  case pos =>
  have HR : Hid (xs = [] ∨ ∃ g, a = some ⟨g, 0, none⟩ ∧ g < w.heap.size ∧ KSeg g 0 xs w) := hrow
  have HR' : Hid (ys = [] ∨ ∃ g, a' = some ⟨g, 0, none⟩ ∧ g < w.heap.size ∧ KSeg g 0 ys w) := hrow'
  have HL : Hid (xs.length = ys.length) := hl
  clear hrow hrow'
  rw [← hl]
  clear hl
  generalize hn : xs.length = n at hm ⊢
  go_enter Try.func12, Try.ntmps12
  go_wp2
  go_loopw [5] (fun i wr => ∃ k : Nat, k ≤ n ∧ i = .int .i64 k ∧ Hid (xs.take k = ys.take k) ∧ ∃ q, wr = w.drewN q) (fun i _ => n - (intOf i).toNat)
  case atStart => exact ⟨0, Nat.zero_le _, rfl, rfl, 0, rfl⟩
  case round =>
    obtain ⟨k, hk, rfl, HP, q, rfl⟩ := hrel
    by_cases hlt : k < n
    · have hlk : k < xs.length := by omega
      have hlk2 : k < ys.length := by have := HL.out; omega
      obtain ⟨g, ha, hg, hseg⟩ : ∃ g, a = some ⟨g, 0, none⟩ ∧ g < w.heap.size ∧ KSeg g 0 xs w := by
        rcases HR.out with e | e
        · rw [e] at hlk; simp at hlk
        · exact e
      obtain ⟨g', ha', hg', hseg'⟩ : ∃ g, a' = some ⟨g, 0, none⟩ ∧ g < w.heap.size ∧ KSeg g 0 ys w := by
        rcases HR'.out with e | e
        · rw [e] at hlk2; simp at hlk2
        · exact e
      subst ha ha'
      obtain ⟨c1, c2⟩ := hseg k hlk
      obtain ⟨d1, d2⟩ := hseg' k hlk2
      simp only [Nat.zero_add] at c1 c2 d1 d2
      have HT : Hid (xs.take (k + 1) = xs.take k ++ [xs[k]]) := List.take_succ_eq_append_getElem hlk
      have HT' : Hid (ys.take (k + 1) = ys.take k ++ [ys[k]]) := List.take_succ_eq_append_getElem hlk2
      obtain ⟨p, r, hK⟩ : ∃ p r, xs[k] = (p, r) := ⟨_, _, rfl⟩
      obtain ⟨p', r', hK'⟩ : ∃ p r, ys[k] = (p, r) := ⟨_, _, rfl⟩
      have HN : Hid ((p, r) ≠ (p', r') → decide (xs = ys) = false) := fun hne => decide_eq_false fun h => hne (by rw [← hK, ← hK']; simp only [h])
      rw [hK] at c1 c2 HT
      rw [hK'] at d1 d2 HT'
      clear hK hK' hseg hseg'
      by_cases hu : p = p'
      · by_cases hv : r = r'
        · subst hu hv
          have HF : Hid (xs.take (k + 1) = ys.take (k + 1)) := by show xs.take (k + 1) = ys.take (k + 1); rw [HT.out, HT'.out, HP.out]
          go_wp2
          go_quiet (fail)
          go_wp2
          go_roundw
          case rel => exact ⟨k + 1, by omega, by go_num, HF.out, q + nq, by simp⟩
          case measure => simp [intOf]; omega
        · subst hu
          have hv' : (r == r') = false := by simpa using hv
          have HF : Hid (decide (xs = ys) = false) := HN.out (by simp [hv])
          go_wp2
          go_quiet (fail)
          go_wp2
          go_ret
          exact ⟨by show Ending.returned (.bool false) = _; rw [HF.out], below_drewN (below_drewN (Below.refl _ _) _) _⟩
      · have hu' : (p == p') = false := by simpa using hu
        have HF : Hid (decide (xs = ys) = false) := HN.out (by simp [hu])
        go_wp2
        go_quiet (fail)
        go_wp2
        go_ret
        exact ⟨by show Ending.returned (.bool false) = _; rw [HF.out], below_drewN (below_drewN (Below.refl _ _) _) _⟩
    · have HF : Hid (decide (xs = ys) = true) := decide_eq_true (by
        have := HP.out
        have hl := HL.out
        rwa [List.take_of_length_le (by omega), List.take_of_length_le (by omega)] at this)
      go_wp2
      go_ret
      exact ⟨by show Ending.returned (.bool true) = _; rw [HF.out], below_drewN (Below.refl _ _) _⟩
end Go.Proofs.Ytkkjpkldfllfiaa
