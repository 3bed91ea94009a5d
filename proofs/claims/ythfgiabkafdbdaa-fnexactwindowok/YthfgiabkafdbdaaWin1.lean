
/- When a window is right: WindowOk of the program and of the model. -/
import Derived.Test.YthfgiabkafdbdaaIntsR
import Derived.Test.YthfgiabkafdbdaaWinM2
namespace Go.Proofs.Ythfgiabkafdbdaa.Wn
open Go.RowKit

abbrev wv (top : Int) (v : Value) : Value := .agg #[.int .i64 top, v]
abbrev wb (top : Int) (v : Value) : Obj := .cells #[.int .i64 top, v] 26
theorem cellW (w : World) (x : Int) (v : Value) : (w.alloc (wb x v)).cell? ⟨w.heap.size, 0, none⟩ = some (.int .i64 x) ∧ (w.alloc (wb x v)).cell? ⟨w.heap.size, 1, none⟩ = some v := by simp
theorem l1In_any (n lo hi : Int) (w : World) :
    Calls Try.prog 45 #[.int .i64 n, .int .i64 lo, .int .i64 hi] w fun e w' => e = .returned (.bool (decide (lo ≤ n ∧ n ≤ hi))) ∧ w' = w := by
  by_cases h1 : lo ≤ n
  · by_cases h2 : n ≤ hi
    · rw [decide_eq_true ⟨h1, h2⟩]
      go_enter Try.func45, Try.ntmps45
      go_wp2
      go_ret
      exact ⟨by simp, rfl⟩
    · rw [decide_eq_false (fun h => h2 h.2)]
      go_enter Try.func45, Try.ntmps45
      go_wp2
      go_ret
      exact ⟨by simp, rfl⟩
  · rw [decide_eq_false (fun h => h1 h.1)]
    go_enter Try.func45, Try.ntmps45
    go_wp2
    go_ret
    exact ⟨rfl, rfl⟩
theorem not_ok_top {top : Int} {xs : List Int} (h0 : top ≠ 0) (h : ¬ (1 ≤ top ∧ top ≤ 1000000000 ∧ xs.length ≠ 0)) : windowB top xs = false :=
  windowB_false fun hw => by have := hw.back h0; exact h ⟨this.1, this.2.1, this.2.2.1⟩
theorem not_ok_at {top : Int} {xs : List Int} (h0 : top ≠ 0) {k : Nat} (hk : k < xs.length) (h : ¬ (okAt top xs k ∧ wAt xs k ≤ top)) : windowB top xs = false :=
  windowB_false fun hw => h ((hw.back h0).2.2.2.1 k hk)
theorem not_ok_last {top : Int} {xs : List Int} (h0 : top ≠ 0) (h : wAt xs (xs.length - 1) ≠ top) : windowB top xs = false :=
  windowB_false fun hw => h (hw.back h0).2.2.2.2
theorem ok_zero (xs : List Int) : windowB 0 xs = decide (xs.length = 0) := by
  by_cases h : xs.length = 0
  · rw [windowB_true (.inl ⟨rfl, List.length_eq_zero_iff.1 h⟩)]; simp [h]
  · rw [windowB_false, decide_eq_false h]
    rintro (e | e)
    · rw [e.2] at h; simp at h
    · omega

set_option maxHeartbeats 1000000 in
theorem windowOk_any {B : Nat} {v : Value} {xs : List Int} {w : World} (top : Int) (h : Ints B v xs w) :
    Calls Try.prog 16 #[wv top v] w fun e w' => e = .returned (.bool (windowB top xs)) ∧ Below w.heap.size w w' := by
  obtain ⟨c0, c1⟩ := cellW w top v
  have hB1 := one_below w (wb top v)
  have h1 := h.since hB1
  obtain ⟨a, c, hv, hm, hrow⟩ := h1.row
  subst hv
  clear h1 h
  unfold maxLen at hm
  have HR : Hid (IRow a xs (w.alloc (wb top (.slice a xs.length c)))) := hrow
  clear hrow
  by_cases h0 : top = 0
  · subst h0
    have HO : Hid (windowB 0 xs = decide (xs.length = 0)) := ok_zero xs
    by_cases hl : xs.length = 0
    · have hl' : ((xs.length : Int) == 0) = true := by simpa using hl
      go_enter Try.func16, Try.ntmps16
      go_wp2
      go_ret
      exact ⟨by rw [HO.out]; simp [hl], one_below _ _⟩
    · have hl' : ((xs.length : Int) == 0) = false := by simpa using hl
      go_enter Try.func16, Try.ntmps16
      go_wp2
      go_ret
      exact ⟨by rw [HO.out]; simp [hl], hB1⟩
  · have h0' : (top == 0) = false := by simpa using h0
    by_cases ht : 1 ≤ top
    case neg =>
      have HF : Hid (windowB top xs = false) := not_ok_top h0 (fun h => ht h.1)
      go_enter Try.func16, Try.ntmps16
      go_wp2
      go_ret
      exact ⟨by rw [HF.out]; simp, hB1⟩
    by_cases ht2 : top ≤ 1000000000
    case neg =>
      have HF : Hid (windowB top xs = false) := not_ok_top h0 (fun h => ht2 h.2.1)
      go_enter Try.func16, Try.ntmps16
      go_wp2
      go_ret
      exact ⟨by rw [HF.out]; simp, hB1⟩
    by_cases hl : xs.length = 0
    case pos =>
      have HF : Hid (windowB top xs = false) := not_ok_top h0 (fun h => h.2.2 hl)
      rw [hl] at c0 c1
      rw [hl]
      go_enter Try.func16, Try.ntmps16
      go_wp2
      go_ret
      exact ⟨by rw [HF.out]; simp, one_below _ _⟩
    have hl' : ((xs.length : Int) == 0) = false := by simpa using hl
    generalize hn : xs.length = n at *
    go_enter Try.func16, Try.ntmps16
    go_wp2
    generalize w.alloc (wb top (.slice a n c)) = w1 at c0 c1 hB1 HR ⊢
    go_loopw [29] (fun i wr => ∃ k : Nat, i = .int .i64 (k : Int) ∧ k ≤ n ∧ (∀ j, j < k → okAt top xs j) ∧ wr = w1) (fun i _ => n - (intOf i).toNat)
    case atStart => exact ⟨0, rfl, Nat.zero_le _, fun j hj => absurd hj (Nat.not_lt_zero _), rfl⟩
    case round =>
      obtain ⟨k, rfl, hkn, hpre, hwr⟩ := hrel
      subst hwr
      have HP : Hid (∀ j, j < k → okAt top xs j) := hpre
      clear hpre
      obtain ⟨g, ha, hg, hseg⟩ : ∃ g, a = some ⟨g, 0, none⟩ ∧ g < wr.heap.size ∧ ISeg g 0 xs wr := by
        rcases HR.out with e | e
        · rw [e] at hn; simp at hn; omega
        · exact e
      subst ha
      by_cases hlt : k < n
      · have a1 := hseg k (by omega)
        simp only [Nat.zero_add] at a1
        have HX : Hid (wAt xs k = xs[k]) := wAt_get xs k (by omega)
        have HS : Hid (ISeg g 0 xs wr) := hseg
        clear hseg
        generalize hx : xs[k] = x at a1 HX
        by_cases b1 : 1 ≤ x
        case neg =>
          have HF : Hid (windowB top xs = false) := not_ok_at h0 (k := k) (by omega) (fun h => by have := h.1.1; rw [HX.out] at this; omega)
          go_wp2
          go_ret
          exact ⟨by rw [HF.out]; simp, hB1⟩
        by_cases b2 : top - 32 < x
        case neg =>
          have HF : Hid (windowB top xs = false) := not_ok_at h0 (k := k) (by omega) (fun h => by have := h.1.2.1; rw [HX.out] at this; omega)
          go_wp2
          go_ret
          exact ⟨by rw [HF.out]; simp, hB1⟩
        by_cases hk0 : k = 0
        · subst hk0
          have HF : Hid (∀ j, j < 1 → okAt top xs j) := fun j hj => by
            obtain rfl : j = 0 := by omega
            exact ⟨by rw [HX.out]; exact b1, by rw [HX.out]; exact b2, .inl rfl⟩
          go_wp2
          go_roundw
          case rel => exact ⟨1, by go_num, by omega, HF.out, trivial⟩
          case measure => simp [intOf]; omega
        · obtain ⟨m, rfl⟩ : ∃ m, k = m + 1 := ⟨k - 1, by omega⟩
          have a2 := HS.out m (by omega)
          simp only [Nat.zero_add] at a2
          have HY : Hid (wAt xs (m + 1 - 1) = xs[m]) := by show wAt xs (m + 1 - 1) = xs[m]; rw [Nat.add_sub_cancel]; exact wAt_get xs m (by omega)
          generalize hy : xs[m] = y at a2 HY
          by_cases b3 : y < x
          · have HF : Hid (∀ j, j < m + 1 + 1 → okAt top xs j) := fun j hj => by
              by_cases e : j < m + 1
              · exact HP.out j e
              · obtain rfl : j = m + 1 := by omega
                exact ⟨by rw [HX.out]; exact b1, by rw [HX.out]; exact b2, .inr (by rw [HX.out, HY.out]; exact b3)⟩
            go_wp2
            go_roundw
            case rel => exact ⟨m + 1 + 1, by go_num, by omega, HF.out, trivial⟩
            case measure => simp [intOf]; omega
          · have HF : Hid (windowB top xs = false) := not_ok_at h0 (k := m + 1) (by omega) (fun h => by
              rcases h.1.2.2 with e | e
              · omega
              · rw [HX.out, HY.out] at e; exact b3 e)
            go_wp2
            go_ret
            exact ⟨by rw [HF.out]; simp, hB1⟩
      · obtain rfl : k = n := by omega
        obtain ⟨m, rfl⟩ : ∃ m, k = m + 1 := ⟨k - 1, by omega⟩
        have a1 := hseg m (by omega)
        simp only [Nat.zero_add] at a1
        have HX : Hid (wAt xs (xs.length - 1) = xs[m]) := by
          show wAt xs (xs.length - 1) = xs[m]
          have e : xs.length - 1 = m := by omega
          rw [e]; exact wAt_get xs m (by omega)
        clear hseg
        generalize hx : xs[m] = x at a1 HX
        by_cases b1 : x = top
        · have b1' : (x == top) = true := by simpa using b1
          have HF : Hid (windowB top xs = true) := windowB_true (WinOk.of ht ht2 (by omega) (by rw [hn]; exact HP.out) (by rw [HX.out]; exact b1))
          subst b1
          go_wp2
          go_quiet (fail)
          go_wp2
          go_ret
          exact ⟨by rw [HF.out]; simp, below_drewN hB1 _⟩
        · have b1' : (x == top) = false := by simpa using b1
          have HF : Hid (windowB top xs = false) := not_ok_last h0 (by rw [HX.out]; exact b1)
          go_wp2
          go_quiet (fail)
          go_wp2
          go_ret
          exact ⟨by rw [HF.out]; simp, below_drewN hB1 _⟩
end Go.Proofs.Ythfgiabkafdbdaa.Wn
