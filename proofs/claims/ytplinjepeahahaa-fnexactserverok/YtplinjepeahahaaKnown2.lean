
/- The contract of KnownOk of the program. -/
import Derived.Test.YtplinjepeahahaaKnown
namespace Go.Proofs.Ytplinjepeahahaa
open Go.RowKit

set_option maxHeartbeats 1000000 in
theorem knownOk_row (g c : Nat) (ks : List (Int × Int)) (w : World) (hm : ks.length ≤ maxLen) (hg : g < w.heap.size) (h1 : KSeg g 0 ks w) :
    Calls Try.prog 60 #[.slice (some ⟨g, 0, none⟩) ks.length c] w fun e w' => e = .returned (.bool (knownB ks)) ∧ Below w.heap.size w w' := by
  unfold maxLen at hm
  generalize hn : ks.length = n at hm ⊢
  by_cases h200 : (200 : Int) < (n : Int)
  · have hkf : knownB ks = false := by unfold knownB; rw [hn, decide_eq_false (by omega)]; rfl
    rw [hkf]
    go_enter Try.func60, Try.ntmps60
    go_wp2
    go_ret
    exact ⟨rfl, Below.refl _ _⟩
  go_enter Try.func60, Try.ntmps60
  go_wp2
  go_loopw [10] (fun i wr => ∃ k : Nat, k ≤ n ∧ i = .int .i64 k ∧ allTo ks k = true ∧ Below w.heap.size w wr) (fun i _ => n - (intOf i).toNat)
  case atStart => exact ⟨0, Nat.zero_le _, rfl, rfl, Below.refl _ _⟩
  case round =>
    obtain ⟨k, hk, rfl, hpre, hB⟩ := hrel
    have HP : Hid (allTo ks k = true) := hpre
    have H1 : Hid (KSeg g 0 ks w) := h1
    clear hpre h1
    by_cases hlt : k < n
    · have hlk : k < ks.length := by omega
      obtain ⟨a1, a2⟩ := H1.out k hlk
      simp only [Nat.zero_add] at a1 a2
      have c1 : wr.cell? ⟨g, k * 2, none⟩ = some (.int .i64 ks[k].1) := (hB.cell (p := ⟨g, k * 2, none⟩) hg).trans a1
      have c2 : wr.cell? ⟨g, k * 2 + 1, none⟩ = some (.int .i64 ks[k].2) := (hB.cell (p := ⟨g, k * 2 + 1, none⟩) hg).trans a2
      have hsz := hB.size
      clear a1 a2
      have HO : Hid (okAt ks k = (okK ks[k].1 ks[k].2 && (decide (k = 0) || aheadB (kAt ks (k - 1)).1 (kAt ks (k - 1)).2 ks[k].1 ks[k].2))) := by
        show okAt ks k = _
        unfold okAt; rw [kAt_get ks k hlk]
      generalize ks[k].1 = x1 at c1 HO
      generalize ks[k].2 = x2 at c2 HO
      have b1 : (wr.alloc (kb x1 x2)).cell? ⟨wr.heap.size, 0, none⟩ = some (.int .i64 x1) := by simp
      have b2 : (wr.alloc (kb x1 x2)).cell? ⟨wr.heap.size, 1, none⟩ = some (.int .i64 x2) := by simp
      have hBa : Below w.heap.size w (wr.alloc (kb x1 x2)) := hB.alloc hsz _
      cases hok : okK x1 x2 with
      | false =>
        go_wp2
        have hS0 : Cs2 w ⟨wr.heap.size, 0, none⟩ (.int .i64 x1) ⟨wr.heap.size, 1, none⟩ (.int .i64 x2) (wr.alloc (kb x1 x2)).drew := ⟨b1, b2, hBa.drew⟩
        have hSN := SW.some hS0
        have hS1 := fun s : SW (Cs2 w ⟨wr.heap.size, 0, none⟩ (.int .i64 x1) ⟨wr.heap.size, 1, none⟩ (.int .i64 x2)) => s.is.1
        have hS2 := fun s : SW (Cs2 w ⟨wr.heap.size, 0, none⟩ (.int .i64 x1) ⟨wr.heap.size, 1, none⟩ (.int .i64 x2)) => s.is.2.1
        refine wp_region_S (Cs2 w ⟨wr.heap.size, 0, none⟩ (.int .i64 x1) ⟨wr.heap.size, 1, none⟩ (.int .i64 x2)) (by kernel_rfl) (by kernel_rfl) hS0 ?_
        repeat (go_big_quiet_step ((rename_i s0; go_at_call 71; refine (keyOk_below x1 x2 _).mono ?_; rintro e w' ⟨rfl, hb⟩; rw [hok]; exact ⟨rfl, SW.of (s0.is.later hb)⟩)))
        refine wpQuiet_nil ?_
        rintro _ ⟨s, rfl⟩
        have hBf := s.is.2.2
        clear hS0 hSN hS1 hS2 c1 c2 b1 b2 hBa
        go_wp2
        go_ret
        refine ⟨?_, hBf⟩
        have hno : okAt ks k = false := by rw [HO.out, hok]; rfl
        have : knownB ks = false := by unfold knownB; rw [allTo_false hno hlk]; simp
        show Ending.returned (.bool false) = _
        rw [this]
      | true =>
        by_cases hk0 : k = 0
        · subst hk0
          simp only [Nat.zero_mul, Nat.zero_add] at c1 c2
          go_wp2
          have hS0 : Cs2 w ⟨wr.heap.size, 0, none⟩ (.int .i64 x1) ⟨wr.heap.size, 1, none⟩ (.int .i64 x2) (wr.alloc (kb x1 x2)).drew := ⟨b1, b2, hBa.drew⟩
          have hSN := SW.some hS0
          have hS1 := fun s : SW (Cs2 w ⟨wr.heap.size, 0, none⟩ (.int .i64 x1) ⟨wr.heap.size, 1, none⟩ (.int .i64 x2)) => s.is.1
          have hS2 := fun s : SW (Cs2 w ⟨wr.heap.size, 0, none⟩ (.int .i64 x1) ⟨wr.heap.size, 1, none⟩ (.int .i64 x2)) => s.is.2.1
          refine wp_region_S (Cs2 w ⟨wr.heap.size, 0, none⟩ (.int .i64 x1) ⟨wr.heap.size, 1, none⟩ (.int .i64 x2)) (by kernel_rfl) (by kernel_rfl) hS0 ?_
          repeat (go_big_quiet_step ((rename_i s0; go_at_call 71; refine (keyOk_below x1 x2 _).mono ?_; rintro e w' ⟨rfl, hb⟩; rw [hok]; exact ⟨rfl, SW.of (s0.is.later hb)⟩)))
          refine wpQuiet_nil ?_
          rintro _ ⟨s, rfl⟩
          have hBf := s.is.2.2
          clear hS0 hSN hS1 hS2 c1 c2 b1 b2 hBa
          have HA : Hid (allTo ks 1 = true) := by
            show allTo ks 1 = true
            rw [allTo_succ, HP.out, HO.out, hok]; rfl
          go_wp2
          go_roundw
          case rel => exact ⟨1, by omega, by go_num, HA.out, hBf⟩
          case measure => simp [intOf]; omega
        · have hkp : k - 1 < ks.length := by omega
          obtain ⟨a1, a2⟩ := H1.out (k - 1) hkp
          simp only [Nat.zero_add] at a1 a2
          have d1 : wr.cell? ⟨g, (k - 1) * 2, none⟩ = some (.int .i64 ks[k - 1].1) := (hB.cell (p := ⟨g, (k - 1) * 2, none⟩) hg).trans a1
          have d2 : wr.cell? ⟨g, (k - 1) * 2 + 1, none⟩ = some (.int .i64 ks[k - 1].2) := (hB.cell (p := ⟨g, (k - 1) * 2 + 1, none⟩) hg).trans a2
          clear a1 a2
          have HO2 : Hid (okAt ks k = (okK x1 x2 && (decide (k = 0) || aheadB ks[k - 1].1 ks[k - 1].2 x1 x2))) := by
            show okAt ks k = _
            rw [HO.out, kAt_get ks (k - 1) hkp]
          generalize ks[k - 1].1 = y1 at d1 HO2
          generalize ks[k - 1].2 = y2 at d2 HO2
          have hkn : 0 < k := by omega
          have f1 := cell_since d1 (one_below wr (kb x1 x2))
          have f2 := cell_since d2 (one_below wr (kb x1 x2))
          go_wp2
          have hS0 : Cs4 w ⟨wr.heap.size, 0, none⟩ (.int .i64 x1) ⟨wr.heap.size, 1, none⟩ (.int .i64 x2) ⟨g, (k - 1) * 2, none⟩ (.int .i64 y1) ⟨g, (k - 1) * 2 + 1, none⟩ (.int .i64 y2) (wr.alloc (kb x1 x2)).drew := ⟨b1, b2, f1, f2, hBa.drew⟩
          have hSN := SW.some hS0
          have hS1 := fun s : SW (Cs4 w ⟨wr.heap.size, 0, none⟩ (.int .i64 x1) ⟨wr.heap.size, 1, none⟩ (.int .i64 x2) ⟨g, (k - 1) * 2, none⟩ (.int .i64 y1) ⟨g, (k - 1) * 2 + 1, none⟩ (.int .i64 y2)) => s.is.1
          have hS2 := fun s : SW (Cs4 w ⟨wr.heap.size, 0, none⟩ (.int .i64 x1) ⟨wr.heap.size, 1, none⟩ (.int .i64 x2) ⟨g, (k - 1) * 2, none⟩ (.int .i64 y1) ⟨g, (k - 1) * 2 + 1, none⟩ (.int .i64 y2)) => s.is.2.1
          have hS3 := fun s : SW (Cs4 w ⟨wr.heap.size, 0, none⟩ (.int .i64 x1) ⟨wr.heap.size, 1, none⟩ (.int .i64 x2) ⟨g, (k - 1) * 2, none⟩ (.int .i64 y1) ⟨g, (k - 1) * 2 + 1, none⟩ (.int .i64 y2)) => s.is.2.2.1
          have hS4 := fun s : SW (Cs4 w ⟨wr.heap.size, 0, none⟩ (.int .i64 x1) ⟨wr.heap.size, 1, none⟩ (.int .i64 x2) ⟨g, (k - 1) * 2, none⟩ (.int .i64 y1) ⟨g, (k - 1) * 2 + 1, none⟩ (.int .i64 y2)) => s.is.2.2.2.1
          refine wp_region_S (Cs4 w ⟨wr.heap.size, 0, none⟩ (.int .i64 x1) ⟨wr.heap.size, 1, none⟩ (.int .i64 x2) ⟨g, (k - 1) * 2, none⟩ (.int .i64 y1) ⟨g, (k - 1) * 2 + 1, none⟩ (.int .i64 y2)) (by kernel_rfl) (by kernel_rfl) hS0 ?_
          repeat (go_big_quiet_step ((rename_i s0; first | (go_at_call 71; refine (keyOk_below x1 x2 _).mono ?_; rintro e w' ⟨rfl, hb⟩; rw [hok]; exact ⟨rfl, SW.of (s0.is.later hb)⟩) | (go_at_call 72; refine (keyAheadK y1 y2 x1 x2 _).mono ?_; rintro e w' ⟨rfl, hb⟩; exact ⟨rfl, SW.of (s0.is.later hb)⟩))))
          refine wpQuiet_nil ?_
          rintro _ ⟨s, rfl⟩
          have hBf := s.is.2.2.2.2
          clear hS0 hSN hS1 hS2 hS3 hS4 c1 c2 d1 d2 b1 b2 f1 f2 hBa
          cases hah : aheadB y1 y2 x1 x2 with
          | true =>
            have HA : Hid (allTo ks (k + 1) = true) := by
              show allTo ks (k + 1) = true
              rw [allTo_succ, HP.out, HO2.out, hok, hah]; simp
            go_wp2
            go_roundw
            case rel => exact ⟨k + 1, by omega, by go_num, HA.out, hBf⟩
            case measure => simp [intOf]; omega
          | false =>
            go_wp2
            go_ret
            refine ⟨?_, hBf⟩
            have hno : okAt ks k = false := by rw [HO2.out, hok, hah]; simp [hk0]
            have : knownB ks = false := by unfold knownB; rw [allTo_false hno hlk]; simp
            show Ending.returned (.bool false) = _
            rw [this]
    · have hke : k = n := by omega
      have hkb : knownB ks = true := by unfold knownB; rw [hn, ← hke, HP.out, decide_eq_true (by omega)]; rfl
      have HKB : Hid _ := hkb
      clear hkb
      go_wp2
      go_ret
      refine ⟨?_, hB⟩
      rw [HKB.out]
      rfl

theorem knownOk_none (a : Option Addr) (c : Nat) (w : World) :
    Calls Try.prog 60 #[.slice a 0 c] w fun e w' => e = .returned (.bool true) ∧ w' = w := by
  go_enter Try.func60, Try.ntmps60
  go_wp2
  refine wp_loop_rounds 1 ?_
  rw [rounds_succ]
  go_wp2
  go_ret
  exact ⟨by simp, rfl⟩

/-- KnownOk of the model, of keys wherever they lie. -/
theorem specKnownOk_any {B : Nat} {v : Value} {ks : List (Int × Int)} {w : World} (h : Keys B v ks w) :
    Calls Try.prog 57 #[v] w fun e w' => e = .returned (.bool (knownB ks)) ∧ Below w.heap.size w w' := by
  rcases h.form with ⟨rfl, rfl⟩ | ⟨g, cap, rfl, _, g1, h1, h2, h3, _⟩
  · exact (specKnownOk_none _ _ w).mono fun _ _ h => ⟨h.1, h.2 ▸ Below.refl _ _⟩
  · exact specKnownOk_row g cap ks w (by omega) g1 h3
theorem knownOk_any {B : Nat} {v : Value} {ks : List (Int × Int)} {w : World} (h : Keys B v ks w) :
    Calls Try.prog 60 #[v] w fun e w' => e = .returned (.bool (knownB ks)) ∧ Below w.heap.size w w' := by
  rcases h.form with ⟨rfl, rfl⟩ | ⟨g, cap, rfl, _, g1, h1, h2, h3, _⟩
  · exact (knownOk_none _ _ w).mono fun _ _ h => ⟨h.1, h.2 ▸ Below.refl _ _⟩
  · exact knownOk_row g cap ks w (by omega) g1 h3
end Go.Proofs.Ytplinjepeahahaa
