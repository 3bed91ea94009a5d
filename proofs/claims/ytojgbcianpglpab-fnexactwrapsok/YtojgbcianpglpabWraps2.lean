
/- The contract of WrapsOk of the program. -/
import Derived.Test.YtojgbcianpglpabWraps
namespace Go.Proofs.Ytojgbcianpglpab
open Go.RowKit

set_option maxHeartbeats 1000000 in
theorem wrapsOk_row (g c : Nat) (ws : List W4) (w : World) (hm : ws.length ≤ maxLen) (hg : g < w.heap.size) (h1 : WSeg g 0 ws w) :
    Calls Try.prog 13 #[.slice (some ⟨g, 0, none⟩) ws.length c] w fun e w' => e = .returned (.bool (wrapsB ws)) ∧ Below w.heap.size w w' := by
  unfold maxLen at hm
  generalize hn : ws.length = n at hm ⊢
  by_cases h400 : (400 : Int) < (n : Int)
  · have hkf : wrapsB ws = false := by unfold wrapsB; rw [hn, decide_eq_false (by omega)]; rfl
    rw [hkf]
    go_enter Try.func13, Try.ntmps13
    go_wp2
    go_ret
    exact ⟨rfl, Below.refl _ _⟩
  go_enter Try.func13, Try.ntmps13
  go_wp2
  go_loopw [10] (fun i wr => ∃ k : Nat, k ≤ n ∧ i = .int .i64 k ∧ wrapsTo ws k = true ∧ Below w.heap.size w wr) (fun i _ => n - (intOf i).toNat)
  case atStart => exact ⟨0, Nat.zero_le _, rfl, rfl, Below.refl _ _⟩
  case round =>
    obtain ⟨k, hk, rfl, hpre, hB⟩ := hrel
    have HP : Hid (wrapsTo ws k = true) := hpre
    have H1 : Hid (WSeg g 0 ws w) := h1
    clear hpre h1
    by_cases hlt : k < n
    · have hlk : k < ws.length := by omega
      obtain ⟨a1, a2, a3, a4⟩ := H1.out k hlk
      simp only [Nat.zero_add] at a1 a2 a3 a4
      have c1 : wr.cell? ⟨g, k * 4, none⟩ = some (.int .i64 ws[k].1) := (hB.cell (p := ⟨g, k * 4, none⟩) hg).trans a1
      have c2 : wr.cell? ⟨g, k * 4 + 1, none⟩ = some (.int .i64 ws[k].2.1) := (hB.cell (p := ⟨g, k * 4 + 1, none⟩) hg).trans a2
      have c3 : wr.cell? ⟨g, k * 4 + 2, none⟩ = some (.int .i64 ws[k].2.2.1) := (hB.cell (p := ⟨g, k * 4 + 2, none⟩) hg).trans a3
      have c4 : wr.cell? ⟨g, k * 4 + 3, none⟩ = some (.int .i64 ws[k].2.2.2) := (hB.cell (p := ⟨g, k * 4 + 3, none⟩) hg).trans a4
      have hsz := hB.size
      have HO : Hid (okW ws[k] = (okK ws[k].1 ws[k].2.1 && okK ws[k].2.2.1 ws[k].2.2.2)) := show okW ws[k] = _ from rfl
      have HS : Hid (wrapsTo ws (k + 1) = (wrapsTo ws k && okW ws[k])) := wrapsTo_succ ws k hlk
      have HF : Hid (okW ws[k] = false → wrapsB ws = false) := wrapsB_false hlk
      clear a1 a2 a3 a4
      generalize okW ws[k] = okw at HO HS HF
      generalize ws[k].1 = x1 at c1 HO
      generalize ws[k].2.1 = x2 at c2 HO
      generalize ws[k].2.2.1 = x3 at c3 HO
      generalize ws[k].2.2.2 = x4 at c4 HO
      go_wp2_with fail
      refine (keyOk_below x1 x2 _).mono ?_
      rintro e w1 ⟨rfl, hb1⟩
      cases hok : okK x1 x2 with
      | false =>
        have hBf := (hB.alloc hsz (wb x1 x2 x3 x4)).trans (hb1.mono (by simp; omega))
        go_wp2
        go_ret
        refine ⟨?_, hBf⟩
        show Ending.returned (.bool false) = _
        rw [HF.out (by rw [HO.out, hok]; rfl)]
      | true =>
        have d3 : w1.cell? ⟨wr.heap.size, 2, none⟩ = some (.int .i64 x3) := cell_since (W := wr.alloc (wb x1 x2 x3 x4)) (by simp) hb1
        have d4 : w1.cell? ⟨wr.heap.size, 3, none⟩ = some (.int .i64 x4) := cell_since (W := wr.alloc (wb x1 x2 x3 x4)) (by simp) hb1
        have hBf := (hB.alloc hsz (wb x1 x2 x3 x4)).trans (hb1.mono (by simp; omega))
        clear c1 c2 c3 c4 hB
        go_wp2_with fail
        refine (keyOk_below x3 x4 _).mono ?_
        rintro e w2 ⟨rfl, hb2⟩
        have hBg := hBf.trans (hb2.mono hBf.size)
        clear d3 d4 hBf
        cases hok2 : okK x3 x4 with
        | false =>
          go_wp2
          go_ret
          refine ⟨?_, hBg⟩
          show Ending.returned (.bool false) = _
          rw [HF.out (by rw [HO.out, hok, hok2]; rfl)]
        | true =>
          have HA : Hid (wrapsTo ws (k + 1) = true) := by
            show wrapsTo ws (k + 1) = true
            rw [HS.out, HP.out, HO.out, hok, hok2]; rfl
          go_wp2
          go_roundw
          case rel => exact ⟨k + 1, by omega, by go_num, HA.out, hBg⟩
          case measure => simp [intOf]; omega
    · have hke : k = n := by omega
      have hkb : wrapsB ws = true := by
        have : ws.all okW = true := by have := HP.out; unfold wrapsTo at this; rwa [List.take_of_length_le (by omega)] at this
        unfold wrapsB; rw [hn, this, decide_eq_true (by omega)]; rfl
      have HKB : Hid _ := hkb
      clear hkb
      go_wp2
      go_ret
      refine ⟨?_, hB⟩
      rw [HKB.out]
      rfl

theorem specWrapsOk_any {B : Nat} {v : Value} {ws : List W4} {w : World} (h : Wraps B v ws w) :
    Calls Try.prog 11 #[v] w fun e w' => e = .returned (.bool (wrapsB ws)) ∧ Below w.heap.size w w' := by
  rcases h.form with ⟨rfl, rfl⟩ | ⟨g, cap, rfl, _, g1, h1, h2, h3, _⟩
  · exact (specWrapsOk_none _ _ w).mono fun _ _ h => ⟨h.1, h.2 ▸ Below.refl _ _⟩
  · exact specWrapsOk_row g cap ws w (by omega) g1 h3
theorem wrapsOk_any {B : Nat} {v : Value} {ws : List W4} {w : World} (h : Wraps B v ws w) :
    Calls Try.prog 13 #[v] w fun e w' => e = .returned (.bool (wrapsB ws)) ∧ Below w.heap.size w w' := by
  rcases h.form with ⟨rfl, rfl⟩ | ⟨g, cap, rfl, _, g1, h1, h2, h3, _⟩
  · exact (wrapsOk_none _ _ w).mono fun _ _ h => ⟨h.1, h.2 ▸ Below.refl _ _⟩
  · exact wrapsOk_row g cap ws w (by omega) g1 h3
end Go.Proofs.Ytojgbcianpglpab
