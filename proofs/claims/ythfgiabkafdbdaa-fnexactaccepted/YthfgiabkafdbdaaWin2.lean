
/- When a window is right: WindowOk of the model. -/
import Derived.Test.YthfgiabkafdbdaaWin1
namespace Go.Proofs.Ythfgiabkafdbdaa.Wn
open Go.RowKit

theorem l1In_at {S : World → Prop} (n lo hi : Int) (s : SW S) :
    Calls Try.prog 45 #[.int .i64 n, .int .i64 lo, .int .i64 hi] s.w fun e w' => e = .returned (.bool (decide (lo ≤ n ∧ n ≤ hi))) ∧ w' = s.w := l1In_any n lo hi s.w

set_option maxHeartbeats 2000000 in
theorem specWindowOk_any {B : Nat} {v : Value} {xs : List Int} {w : World} (top : Int) (h : Ints B v xs w) :
    Calls Try.prog 14 #[wv top v] w fun e w' => e = .returned (.bool (windowB top xs)) ∧ Below w.heap.size w w' := by
  obtain ⟨c0, c1⟩ := cellW w top v
  have hB1 := one_below w (wb top v)
  have h1 := h.since hB1
  obtain ⟨a, c, hv, hm, hrow⟩ := h1.row
  subst hv
  clear h1 h
  unfold maxLen at hm
  have HR : Hid (IRow a xs (w.alloc (wb top (.slice a xs.length c)))) := hrow
  clear hrow
  by_cases ht : 0 ≤ top ∧ top ≤ 1000000000
  case neg =>
    have HF : Hid (windowB top xs = false) := windowB_false fun hw => ht hw.range
    go_enter Try.func14, Try.ntmps14
    go_wp2_with fail
    refine (l1In_any _ _ _ _).mono ?_
    rintro e w' ⟨rfl, rfl⟩
    rw [decide_eq_false ht]
    go_wp2
    go_ret
    exact ⟨by rw [HF.out]; simp, one_below _ _⟩
  by_cases h0 : top = 0
  · subst h0
    have HO : Hid (windowB 0 xs = decide (xs.length = 0)) := ok_zero xs
    by_cases hl : xs.length = 0
    · rw [hl] at c0 c1
      rw [hl]
      go_enter Try.func14, Try.ntmps14
      go_wp2_with fail
      refine (l1In_any _ _ _ _).mono ?_
      rintro e w' ⟨rfl, rfl⟩
      rw [decide_eq_true ht]
      go_wp2
      refine wp_loop_rounds 1 ?_
      rw [rounds_succ]
      go_wp2
      go_quiet (fail)
      go_wp2
      go_ret
      exact ⟨by rw [HO.out]; simp [hl], below_drewN (one_below _ _) _⟩
    · go_enter Try.func14, Try.ntmps14
      go_wp2_with fail
      refine (l1In_any _ _ _ _).mono ?_
      rintro e w' ⟨rfl, rfl⟩
      rw [decide_eq_true ht]
      go_wp2
      go_ret
      exact ⟨by rw [HO.out]; simp [hl], one_below _ _⟩
  have h0' : (top == 0) = false := by simpa using h0
  generalize hn : xs.length = n at *
  go_enter Try.func14, Try.ntmps14
  go_wp2_with fail
  refine (l1In_any _ _ _ _).mono ?_
  rintro e w' ⟨rfl, rfl⟩
  rw [decide_eq_true ht]
  go_wp2
  generalize w.alloc (wb top (.slice a n c)) = w1 at c0 c1 hB1 HR ⊢
  go_loopw [3] (fun i wr => ∃ k : Nat, i = .int .i64 (k : Int) ∧ k ≤ n ∧ Hid (∀ j, j < k → okAt top xs j) ∧ Below w1.heap.size w1 wr) (fun i _ => n - (intOf i).toNat)
  case atStart => exact ⟨0, rfl, Nat.zero_le _, fun j hj => absurd hj (Nat.not_lt_zero _), Below.refl _ _⟩
  case round =>
    obtain ⟨k, rfl, hkn, HP, hB⟩ := hrel
    have d0 := cell_since c0 hB
    have d1 := cell_since c1 hB
    have HB : Hid (Below w.heap.size w wr) := more hB1 hB
    by_cases hlt : k < n
    · obtain ⟨g, ha, hg, hseg⟩ : ∃ g, a = some ⟨g, 0, none⟩ ∧ g < w1.heap.size ∧ ISeg g 0 xs w1 := by
        rcases HR.out with e | e
        · rw [e] at hn; simp at hn; omega
        · exact e
      subst ha
      have a1 := hseg k (by omega)
      simp only [Nat.zero_add] at a1
      have e1 := cell_since a1 hB
      have HX : Hid (wAt xs k = xs[k]) := wAt_get xs k (by omega)
      have HS : Hid (ISeg g 0 xs w1) := hseg
      clear hseg a1
      generalize hx : xs[k] = x at e1 HX
      by_cases b1 : max 1 (top - 32 + 1) ≤ x ∧ x ≤ top
      case neg =>
        have HF : Hid (windowB top xs = false) := not_ok_at h0 (k := k) (by omega) (fun h => by have h1 := h.1.1; have h2 := h.1.2.1; have h3 := h.2; rw [HX.out] at h1 h2 h3; exact b1 (by omega))
        go_wp2
        have hS0 : (Cs4 wr ⟨w.heap.size, 0, none⟩ (.int .i64 top) ⟨w.heap.size, 1, none⟩ (.slice (some ⟨g, 0, none⟩) n c) ⟨g, k, none⟩ (.int .i64 x) ⟨g, k, none⟩ (.int .i64 x)) wr.drew := ⟨d0, d1, e1, e1, (Below.refl _ _).drew⟩
        have hSN := SW.some hS0
        have hS1 := fun s : SW (Cs4 wr ⟨w.heap.size, 0, none⟩ (.int .i64 top) ⟨w.heap.size, 1, none⟩ (.slice (some ⟨g, 0, none⟩) n c) ⟨g, k, none⟩ (.int .i64 x) ⟨g, k, none⟩ (.int .i64 x)) => s.is.1
        have hS2 := fun s : SW (Cs4 wr ⟨w.heap.size, 0, none⟩ (.int .i64 top) ⟨w.heap.size, 1, none⟩ (.slice (some ⟨g, 0, none⟩) n c) ⟨g, k, none⟩ (.int .i64 x) ⟨g, k, none⟩ (.int .i64 x)) => s.is.2.1
        have hS3 := fun s : SW (Cs4 wr ⟨w.heap.size, 0, none⟩ (.int .i64 top) ⟨w.heap.size, 1, none⟩ (.slice (some ⟨g, 0, none⟩) n c) ⟨g, k, none⟩ (.int .i64 x) ⟨g, k, none⟩ (.int .i64 x)) => s.is.2.2.1
        refine wp_region_S (Cs4 wr ⟨w.heap.size, 0, none⟩ (.int .i64 top) ⟨w.heap.size, 1, none⟩ (.slice (some ⟨g, 0, none⟩) n c) ⟨g, k, none⟩ (.int .i64 x) ⟨g, k, none⟩ (.int .i64 x)) (by kernel_rfl) (by kernel_rfl) hS0 ?_
        repeat (go_big_quiet_step ((rename_i s0; go_at_call 45; refine (l1In_at _ _ _ s0).mono ?_; rintro e w' ⟨rfl, rfl⟩; exact ⟨(show Ending.returned (.bool (decide _)) = Ending.returned (.bool false) from by rw [decide_eq_false (by omega)]), ⟨s0, rfl⟩⟩)))
        refine wpQuiet_nil ?_
        rintro _ ⟨s, rfl⟩
        have hQf := s.is.2.2.2.2
        clear hS0 hSN hS1 hS2 hS3
        generalize s.w = wz at *
        go_wp2
        all_goals
          go_ret
          exact ⟨by rw [HF.out]; simp, more HB.out hQf⟩
      by_cases hk0 : k = 0
      · subst hk0
        have HF : Hid (∀ j, j < 1 → okAt top xs j) := fun j hj => by
          obtain rfl : j = 0 := by omega
          exact ⟨by rw [HX.out]; omega, by rw [HX.out]; omega, .inl rfl⟩
        go_wp2
        have hS0 : (Cs4 wr ⟨w.heap.size, 0, none⟩ (.int .i64 top) ⟨w.heap.size, 1, none⟩ (.slice (some ⟨g, 0, none⟩) n c) ⟨g, 0, none⟩ (.int .i64 x) ⟨g, 0, none⟩ (.int .i64 x)) wr.drew := ⟨d0, d1, e1, e1, (Below.refl _ _).drew⟩
        have hSN := SW.some hS0
        have hS1 := fun s : SW (Cs4 wr ⟨w.heap.size, 0, none⟩ (.int .i64 top) ⟨w.heap.size, 1, none⟩ (.slice (some ⟨g, 0, none⟩) n c) ⟨g, 0, none⟩ (.int .i64 x) ⟨g, 0, none⟩ (.int .i64 x)) => s.is.1
        have hS2 := fun s : SW (Cs4 wr ⟨w.heap.size, 0, none⟩ (.int .i64 top) ⟨w.heap.size, 1, none⟩ (.slice (some ⟨g, 0, none⟩) n c) ⟨g, 0, none⟩ (.int .i64 x) ⟨g, 0, none⟩ (.int .i64 x)) => s.is.2.1
        have hS3 := fun s : SW (Cs4 wr ⟨w.heap.size, 0, none⟩ (.int .i64 top) ⟨w.heap.size, 1, none⟩ (.slice (some ⟨g, 0, none⟩) n c) ⟨g, 0, none⟩ (.int .i64 x) ⟨g, 0, none⟩ (.int .i64 x)) => s.is.2.2.1
        refine wp_region_S (Cs4 wr ⟨w.heap.size, 0, none⟩ (.int .i64 top) ⟨w.heap.size, 1, none⟩ (.slice (some ⟨g, 0, none⟩) n c) ⟨g, 0, none⟩ (.int .i64 x) ⟨g, 0, none⟩ (.int .i64 x)) (by kernel_rfl) (by kernel_rfl) hS0 ?_
        repeat (go_big_quiet_step ((rename_i s0; go_at_call 45; refine (l1In_at _ _ _ s0).mono ?_; rintro e w' ⟨rfl, rfl⟩; exact ⟨(show Ending.returned (.bool (decide _)) = Ending.returned (.bool true) from by rw [decide_eq_true (by omega)]), ⟨s0, rfl⟩⟩)))
        refine wpQuiet_nil ?_
        rintro _ ⟨s, rfl⟩
        have hQf := s.is.2.2.2.2
        clear hS0 hSN hS1 hS2 hS3
        generalize s.w = wz at *
        have HQ : Hid (Below w1.heap.size w1 wz) := hB.trans (hQf.mono hB.size)
        clear hQf d0 d1 e1
        go_wp2
        go_roundw
        case rel => exact ⟨1, by go_num, by omega, HF.out, HQ.out⟩
        case measure => simp [intOf]; omega
      · obtain ⟨m, rfl⟩ : ∃ m, k = m + 1 := ⟨k - 1, by omega⟩
        have a2 := HS.out m (by omega)
        simp only [Nat.zero_add] at a2
        have e2 := cell_since a2 hB
        have HY : Hid (wAt xs (m + 1 - 1) = xs[m]) := by show wAt xs (m + 1 - 1) = xs[m]; rw [Nat.add_sub_cancel]; exact wAt_get xs m (by omega)
        clear a2
        generalize hy : xs[m] = y at e2 HY
        by_cases b3 : y < x
        · have HF : Hid (∀ j, j < m + 1 + 1 → okAt top xs j) := fun j hj => by
            by_cases e : j < m + 1
            · exact HP.out j e
            · obtain rfl : j = m + 1 := by omega
              exact ⟨by rw [HX.out]; omega, by rw [HX.out]; omega, .inr (by rw [HX.out, HY.out]; exact b3)⟩
          go_wp2
          have hS0 : (Cs4 wr ⟨w.heap.size, 0, none⟩ (.int .i64 top) ⟨w.heap.size, 1, none⟩ (.slice (some ⟨g, 0, none⟩) n c) ⟨g, m + 1, none⟩ (.int .i64 x) ⟨g, m, none⟩ (.int .i64 y)) wr.drew := ⟨d0, d1, e1, e2, (Below.refl _ _).drew⟩
          have hSN := SW.some hS0
          have hS1 := fun s : SW (Cs4 wr ⟨w.heap.size, 0, none⟩ (.int .i64 top) ⟨w.heap.size, 1, none⟩ (.slice (some ⟨g, 0, none⟩) n c) ⟨g, m + 1, none⟩ (.int .i64 x) ⟨g, m, none⟩ (.int .i64 y)) => s.is.1
          have hS2 := fun s : SW (Cs4 wr ⟨w.heap.size, 0, none⟩ (.int .i64 top) ⟨w.heap.size, 1, none⟩ (.slice (some ⟨g, 0, none⟩) n c) ⟨g, m + 1, none⟩ (.int .i64 x) ⟨g, m, none⟩ (.int .i64 y)) => s.is.2.1
          have hS3 := fun s : SW (Cs4 wr ⟨w.heap.size, 0, none⟩ (.int .i64 top) ⟨w.heap.size, 1, none⟩ (.slice (some ⟨g, 0, none⟩) n c) ⟨g, m + 1, none⟩ (.int .i64 x) ⟨g, m, none⟩ (.int .i64 y)) => s.is.2.2.1
          have hS4 := fun s : SW (Cs4 wr ⟨w.heap.size, 0, none⟩ (.int .i64 top) ⟨w.heap.size, 1, none⟩ (.slice (some ⟨g, 0, none⟩) n c) ⟨g, m + 1, none⟩ (.int .i64 x) ⟨g, m, none⟩ (.int .i64 y)) => s.is.2.2.2.1
          refine wp_region_S (Cs4 wr ⟨w.heap.size, 0, none⟩ (.int .i64 top) ⟨w.heap.size, 1, none⟩ (.slice (some ⟨g, 0, none⟩) n c) ⟨g, m + 1, none⟩ (.int .i64 x) ⟨g, m, none⟩ (.int .i64 y)) (by kernel_rfl) (by kernel_rfl) hS0 ?_
          repeat (go_big_quiet_step ((rename_i s0; go_at_call 45; refine (l1In_at _ _ _ s0).mono ?_; rintro e w' ⟨rfl, rfl⟩; exact ⟨(show Ending.returned (.bool (decide _)) = Ending.returned (.bool true) from by rw [decide_eq_true (by omega)]), ⟨s0, rfl⟩⟩)))
          refine wpQuiet_nil ?_
          rintro _ ⟨s, rfl⟩
          have hQf := s.is.2.2.2.2
          clear hS0 hSN hS1 hS2 hS3 hS4
          generalize s.w = wz at *
          have HQ : Hid (Below w1.heap.size w1 wz) := hB.trans (hQf.mono hB.size)
          clear hQf d0 d1 e1 e2
          go_wp2
          go_roundw
          case rel => exact ⟨m + 1 + 1, by go_num, by omega, HF.out, HQ.out⟩
          case measure => simp [intOf]; omega
        · have HF : Hid (windowB top xs = false) := not_ok_at h0 (k := m + 1) (by omega) (fun h => by
            rcases h.1.2.2 with e | e
            · omega
            · rw [HX.out, HY.out] at e; exact b3 e)
          go_wp2
          have hS0 : (Cs4 wr ⟨w.heap.size, 0, none⟩ (.int .i64 top) ⟨w.heap.size, 1, none⟩ (.slice (some ⟨g, 0, none⟩) n c) ⟨g, m + 1, none⟩ (.int .i64 x) ⟨g, m, none⟩ (.int .i64 y)) wr.drew := ⟨d0, d1, e1, e2, (Below.refl _ _).drew⟩
          have hSN := SW.some hS0
          have hS1 := fun s : SW (Cs4 wr ⟨w.heap.size, 0, none⟩ (.int .i64 top) ⟨w.heap.size, 1, none⟩ (.slice (some ⟨g, 0, none⟩) n c) ⟨g, m + 1, none⟩ (.int .i64 x) ⟨g, m, none⟩ (.int .i64 y)) => s.is.1
          have hS2 := fun s : SW (Cs4 wr ⟨w.heap.size, 0, none⟩ (.int .i64 top) ⟨w.heap.size, 1, none⟩ (.slice (some ⟨g, 0, none⟩) n c) ⟨g, m + 1, none⟩ (.int .i64 x) ⟨g, m, none⟩ (.int .i64 y)) => s.is.2.1
          have hS3 := fun s : SW (Cs4 wr ⟨w.heap.size, 0, none⟩ (.int .i64 top) ⟨w.heap.size, 1, none⟩ (.slice (some ⟨g, 0, none⟩) n c) ⟨g, m + 1, none⟩ (.int .i64 x) ⟨g, m, none⟩ (.int .i64 y)) => s.is.2.2.1
          have hS4 := fun s : SW (Cs4 wr ⟨w.heap.size, 0, none⟩ (.int .i64 top) ⟨w.heap.size, 1, none⟩ (.slice (some ⟨g, 0, none⟩) n c) ⟨g, m + 1, none⟩ (.int .i64 x) ⟨g, m, none⟩ (.int .i64 y)) => s.is.2.2.2.1
          refine wp_region_S (Cs4 wr ⟨w.heap.size, 0, none⟩ (.int .i64 top) ⟨w.heap.size, 1, none⟩ (.slice (some ⟨g, 0, none⟩) n c) ⟨g, m + 1, none⟩ (.int .i64 x) ⟨g, m, none⟩ (.int .i64 y)) (by kernel_rfl) (by kernel_rfl) hS0 ?_
          repeat (go_big_quiet_step ((rename_i s0; go_at_call 45; refine (l1In_at _ _ _ s0).mono ?_; rintro e w' ⟨rfl, rfl⟩; exact ⟨(show Ending.returned (.bool (decide _)) = Ending.returned (.bool true) from by rw [decide_eq_true (by omega)]), ⟨s0, rfl⟩⟩)))
          refine wpQuiet_nil ?_
          rintro _ ⟨s, rfl⟩
          have hQf := s.is.2.2.2.2
          clear hS0 hSN hS1 hS2 hS3 hS4
          generalize s.w = wz at *
          go_wp2
          all_goals
            go_ret
            exact ⟨by rw [HF.out]; simp, more HB.out hQf⟩
    · obtain rfl : k = n := by omega
      by_cases hk0 : k = 0
      · subst hk0
        have HF : Hid (windowB top xs = false) := not_ok_top h0 (fun h => h.2.2 hn)
        go_wp2
        go_quiet (fail)
        go_wp2
        go_ret
        exact ⟨by rw [HF.out]; simp, below_drewN HB.out _⟩
      · obtain ⟨m, rfl⟩ : ∃ m, k = m + 1 := ⟨k - 1, by omega⟩
        obtain ⟨g, ha, hg, hseg⟩ : ∃ g, a = some ⟨g, 0, none⟩ ∧ g < w1.heap.size ∧ ISeg g 0 xs w1 := by
          rcases HR.out with e | e
          · rw [e] at hn; simp at hn
          · exact e
        subst ha
        have a1 := hseg m (by omega)
        simp only [Nat.zero_add] at a1
        have e1 := cell_since a1 hB
        have HX : Hid (wAt xs (xs.length - 1) = xs[m]) := by
          show wAt xs (xs.length - 1) = xs[m]
          have e : xs.length - 1 = m := by omega
          rw [e]; exact wAt_get xs m (by omega)
        clear hseg a1
        generalize hx : xs[m] = x at e1 HX
        by_cases b1 : x = top
        · have b1' : (x == top) = true := by simpa using b1
          have HF : Hid (windowB top xs = true) := windowB_true (WinOk.of (by omega) ht.2 (by omega) (by rw [hn]; exact HP.out) (by rw [HX.out]; exact b1))
          subst b1
          go_wp2
          go_quiet (fail)
          go_wp2
          go_ret
          exact ⟨by rw [HF.out]; simp, below_drewN HB.out _⟩
        · have b1' : (x == top) = false := by simpa using b1
          have HF : Hid (windowB top xs = false) := not_ok_last h0 (by rw [HX.out]; exact b1)
          go_wp2
          go_quiet (fail)
          go_wp2
          go_ret
          exact ⟨by rw [HF.out]; simp, below_drewN HB.out _⟩
end Go.Proofs.Ythfgiabkafdbdaa.Wn
